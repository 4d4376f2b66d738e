/-
  strings.Clone answers what it is given, in new memory of its own; no condition but that the string is no longer than Go allows.
-/
import Derived.Shelf.Pu.Clone
import Derived.Shelf.Lay
import Derived.Test.YtkjgclpeeicbbaaTreeR
import Derived.Test.YtkjgclpeeicbbaaSpanA
namespace Go.Proofs.Ytkjgclpeeicbbaa
open Go.RowKit Go.Shelf
set_option linter.unusedSimpArgs false
set_option linter.unusedVariables false

/- strings.Clone is function 12 -/
shelf_lay LaysPu.n25 Mp 25 at Try as laysClone

theorem cloneL (s : ByteArray) (w : World) (h : s.size ≤ 1048576) :
    Calls Try.prog 13 #[.string s] w fun e w' => e = .returned (.string s) ∧ Below w.heap.size w w' :=
  AnyPu.stringslite_Clone laysClone s w (by omega)
theorem clone (s : ByteArray) (w : World) (h : s.size ≤ 1048576) :
    Calls Try.prog 12 #[.string s] w fun e w' => e = .returned (.string s) ∧ Below w.heap.size w w' := by
  go_enter Try.func12, Try.ntmps12
  go_wp2_with (go_at_call 13; refine (cloneL s _ h).mono ?_; rintro e w1 ⟨rfl, hb⟩)
  go_returns
  exact ⟨rfl, hb⟩
end Go.Proofs.Ytkjgclpeeicbbaa
