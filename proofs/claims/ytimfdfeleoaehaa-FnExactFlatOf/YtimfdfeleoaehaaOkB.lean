/-
  What the specification answers of one variable.
-/
import Derived.Test.YtimfdfeleoaehaaOkA
namespace Go.Proofs.Ytimfdfeleoaehaa
open Go.RowKit
set_option linter.unusedSimpArgs false
set_option linter.unusedVariables false
attribute [local go_sem] Oper.semAt_some

end Go.Proofs.Ytimfdfeleoaehaa
