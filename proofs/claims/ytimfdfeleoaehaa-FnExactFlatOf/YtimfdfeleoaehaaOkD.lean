/-
  What the specification answers of what is declared.
-/
import Derived.Test.YtimfdfeleoaehaaOkC
namespace Go.Proofs.Ytimfdfeleoaehaa
open Go.RowKit
set_option linter.unusedSimpArgs false
set_option linter.unusedVariables false
attribute [local go_sem] Oper.semAt_some

structure PX.Names (p : PX) : Prop where
  v : ∀ (i : Nat) (k : VX), p.vars[i]? = some k → k.name.size ≤ 1048576 ∧ k.lock.size ≤ 1048576
  c : ∀ (i : Nat) (k : CX), p.chans[i]? = some k → k.name.size ≤ 1048576
  n : ∀ (i : Nat) (k : ByteArray), p.locks[i]? = some k → k.size ≤ 1048576
theorem PX.names {p : PX} (h : p.tot ≤ 1048576) : p.Names := by
  unfold PX.tot at h
  refine ⟨fun i k hk => ?_, fun i k hk => ?_, fun i k hk => ?_⟩
  · have h1 := sumOf_get VX.tot hk
    have h2 : k.tot = k.name.size + k.lock.size := rfl
    omega
  · have h1 := sumOf_get CX.tot hk
    have h2 : k.tot = k.name.size := rfl
    omega
  · have := sumOf_get ByteArray.size hk
    omega
end Go.Proofs.Ytimfdfeleoaehaa
