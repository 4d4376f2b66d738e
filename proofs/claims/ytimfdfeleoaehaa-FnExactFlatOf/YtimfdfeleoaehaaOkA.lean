/-
  What both sides answer of one variable and of one channel.
-/
import Derived.Test.YtimfdfeleoaehaaProgD
namespace Go.Proofs.Ytimfdfeleoaehaa
open Go.RowKit
set_option linter.unusedSimpArgs false
set_option linter.unusedVariables false
attribute [local go_sem] Oper.semAt_some

def VX.ownB (v : VX) (tasks : Int) : Bool := if v.lock.toList.isEmpty then decide (0 ≤ v.task ∧ v.task < tasks) else (nameB v.lock && (v.task == 0))
theorem decide_and (p q : Prop) [Decidable p] [Decidable q] : decide (p ∧ q) = (decide p && decide q) := by by_cases hp : p <;> by_cases hq : q <;> simp [hp, hq]
def VX.okB (v : VX) (tasks : Int) : Bool := nameB v.name && (decide (0 ≤ v.size ∧ v.size ≤ 6) && ((Go.Proofs.Ytimfdfeleoaehaa.okB v.lo v.hi && hasB v.lo v.hi v.init) && v.ownB tasks))
def CX.okB (v : CX) : Bool := nameB v.name && (decide (1 ≤ v.cap ∧ v.cap ≤ 4) && Go.Proofs.Ytimfdfeleoaehaa.okB v.lo v.hi)
end Go.Proofs.Ytimfdfeleoaehaa
