/-
  strings.Clone answers what it is given, in new memory of its own; no condition but that the string is no longer than Go allows.
-/
import Derived.Shelf.Pu.Clone
import Derived.Shelf.Lay
import Derived.Test.YtimfdfeleoaehaaTreeR
import Derived.Test.YtimfdfeleoaehaaSpanA
namespace Go.Proofs.Ytimfdfeleoaehaa
open Go.RowKit Go.Shelf
set_option linter.unusedSimpArgs false
set_option linter.unusedVariables false

end Go.Proofs.Ytimfdfeleoaehaa
