/-
  How many expressions there are in one, by the program.
-/
import Derived.Test.YtimfdfeleoaehaaTreeF
namespace Go.Proofs.Ytimfdfeleoaehaa
open Go.RowKit Go.Shelf
set_option linter.unusedSimpArgs false
set_option linter.unusedVariables false
attribute [local go_sem] Oper.semAt_some

end Go.Proofs.Ytimfdfeleoaehaa
