/-
  What the program answers of lists of variables, channels and words: whether all are right.
-/
import Derived.Test.YtimfdfeleoaehaaOkB
namespace Go.Proofs.Ytimfdfeleoaehaa
open Go.RowKit
set_option linter.unusedSimpArgs false
set_option linter.unusedVariables false
attribute [local go_sem] Oper.semAt_some

theorem all_take {α : Type} (f : α → Bool) {ks : List α} {i : Nat} {x : α} (h : ks[i]? = some x) (ha : (ks.take i).all f = true) (hx : f x = true) : (ks.take (i + 1)).all f = true := by
  rw [List.take_add_one, h, List.all_append, ha]
  simp [hx]
theorem all_bad {α : Type} (f : α → Bool) {ks : List α} {i : Nat} {x : α} (h : ks[i]? = some x) (hx : f x = false) : ks.all f = false := by
  rw [List.all_eq_false]
  exact ⟨x, List.mem_of_getElem? h, by simp [hx]⟩
end Go.Proofs.Ytimfdfeleoaehaa
