/-
  The reader of drawn bytes: what its other readers answer, and that two ranges are drawn whose ends are bounded, in new memory; no condition but that the bytes are a row.
-/
import Derived.Test.YtkjgclpeeicbbaaKitA
namespace Go.Proofs.Ytkjgclpeeicbbaa
open Go.RowKit
set_option linter.unusedSimpArgs false
set_option linter.unusedVariables false

theorem l19Open (sa : Option Addr) (len cap : Nat) (w : World) (hrow : Row w.heap.size w sa len) (hc : len ≤ cap) (hm : cap ≤ maxLen) :
    Calls Try.prog 7 #[.slice sa len cap] w fun e w' => ∃ len' : Nat, e = .returned (.pointer (some ⟨w.heap.size, 0, none⟩)) ∧ Below w.heap.size w w' ∧ Rd w.heap.size w.heap.size sa len' cap 0 w' := by
  unfold maxLen at hm
  have HR : Hid (Row w.heap.size w sa len) := hrow
  clear hrow
  by_cases hl : len ≤ 2000
  · go_enter Try.func7, Try.ntmps7
    go_wp2
    go_returns
    refine ⟨len, rfl, by go_grown, by simp [go_sem], by simp [go_sem], by simp [go_sem], by omega, hl, ?_, Nat.le_refl _⟩
    rcases HR.out with h | ⟨sb, so, rfl, hb, hr⟩
    · exact .inl h
    · refine .inr ⟨sb, so, rfl, hb, fun i hi => ?_⟩
      obtain ⟨v, hv, h0, h1⟩ := hr i hi
      exact ⟨v, (World.cell?_alloc_lt _ _ _ hb).trans hv, h0, h1⟩
  · rcases HR.out with h | ⟨sb, so, rfl, hb, hr⟩
    · omega
    have HH : Hid (∀ i, i < len → ∃ v : Int, w.cell? ⟨sb, so + i, none⟩ = some (.int .u8 v) ∧ 0 ≤ v ∧ v ≤ 255) := hr
    clear hr
    go_enter Try.func7, Try.ntmps7
    go_wp2
    go_returns
    refine ⟨2000, rfl, by go_grown, by simp [go_sem], by simp [go_sem], by simp [go_sem], by omega, by omega, ?_, Nat.le_refl _⟩
    refine .inr ⟨sb, so, rfl, hb, fun i hi => ?_⟩
    obtain ⟨v, hv, h0, h1⟩ := HH.out i (by omega)
    exact ⟨v, (World.cell?_alloc_lt _ _ _ hb).trans hv, h0, h1⟩

theorem nums17 (W : World) (t : TypeId) (v : Int) (hv0 : 0 ≤ v) (hv1 : v < 50) : ∀ i, i < 17 → ∃ x : Int, (W.alloc (.cells #[.int .i64 0, .int .i64 1, .int .i64 (-1), .int .i64 2, .int .i64 3, .int .i64 (-4), .int .i64 7, .int .i64 10, .int .i64 (-10), .int .i64 100, .int .i64 999, .int .i64 1000, .int .i64 (-1000), .int .i64 1000000, .int .i64 (-1000000), .int .i64 999999, .int .i64 (v - 25)] t)).cell? ⟨W.heap.size, i, none⟩ = some (.int .i64 x) ∧ -1000000 ≤ x ∧ x ≤ 1000000 := by
  intro i hi
  have h : i = 0 ∨ i = 1 ∨ i = 2 ∨ i = 3 ∨ i = 4 ∨ i = 5 ∨ i = 6 ∨ i = 7 ∨ i = 8 ∨ i = 9 ∨ i = 10 ∨ i = 11 ∨ i = 12 ∨ i = 13 ∨ i = 14 ∨ i = 15 ∨ i = 16 := by omega
  rcases h with rfl | rfl | rfl | rfl | rfl | rfl | rfl | rfl | rfl | rfl | rfl | rfl | rfl | rfl | rfl | rfl | rfl <;> exact ⟨_, (World.cell?_alloc_new W _ t _).trans rfl, by omega, by omega⟩

end Go.Proofs.Ytkjgclpeeicbbaa
