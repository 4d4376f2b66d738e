/-
  What the specification answers of one variable.
-/
import Derived.Test.YtomdbaokidphjaaOkA
namespace Go.Proofs.Ytomdbaokidphjaa
open Go.RowKit
set_option linter.unusedSimpArgs false
set_option linter.unusedVariables false
attribute [local go_sem] Oper.semAt_some

end Go.Proofs.Ytomdbaokidphjaa
