/-
  The reader of drawn bytes: what its other readers answer, and that two ranges are drawn whose ends are bounded, in new memory; no condition but that the bytes are a row.
-/
import Derived.Test.YtkgmkoejplgjoaaDoorKitA
namespace Go.Proofs.YtkgmkoejplgjoaaDoor
open Go.RowKit
set_option linter.unusedSimpArgs false
set_option linter.unusedVariables false

set_option maxHeartbeats 1000000 in
theorem num (B g : Nat) (sa : Option Addr) (len cap : Nat) (k : Int) (L m : Nat) (lo hi : Int) (w : World) (R : Rd B g sa len cap k w) (hk : k ≤ 1000000) (hm : 1 ≤ m) (hm2 : m ≤ 1000) (hL : ¬ L = g)
    (hcells : ∀ i, i < m → ∃ x : Int, w.cell? ⟨L, i, none⟩ = some (.int .i64 x) ∧ lo ≤ x ∧ x ≤ hi) :
    Calls Tryd.prog 25 #[.pointer (some ⟨g, 0, none⟩), .slice (some ⟨L, 0, none⟩) m m] w fun e w' => ∃ x : Int, e = .returned (.int .i64 x) ∧ lo ≤ x ∧ x ≤ hi ∧ Adv g w w' ∧ Rd B g sa len cap (k + 1) w' := by
  have HC : Hid (∀ i, i < m → ∃ x : Int, w.cell? ⟨L, i, none⟩ = some (.int .i64 x) ∧ lo ≤ x ∧ x ≤ hi) := hcells
  clear hcells
  go_enter Tryd.func25, Tryd.ntmps25
  go_wp2_with fail
  go_at_call 12
  refine (pick B g sa len cap k m w R hk (by omega) (by omega)).mono ?_
  rintro e w1 ⟨v, rfl, hv0, hv1, hA, hR⟩
  obtain ⟨x, hx, hx0, hx1⟩ := HC.out v.toNat (by omega)
  have hx' := hA.cell (p := ⟨L, v.toNat, none⟩) hL hx
  go_wp2
  go_returns
  exact ⟨x, rfl, hx0, hx1, hA, hR⟩

theorem l19Open (sa : Option Addr) (len cap : Nat) (w : World) (hrow : Row w.heap.size w sa len) (hc : len ≤ cap) (hm : cap ≤ maxLen) :
    Calls Tryd.prog 11 #[.slice sa len cap] w fun e w' => ∃ len' : Nat, e = .returned (.pointer (some ⟨w.heap.size, 0, none⟩)) ∧ Below w.heap.size w w' ∧ Rd w.heap.size w.heap.size sa len' cap 0 w' := by
  unfold maxLen at hm
  have HR : Hid (Row w.heap.size w sa len) := hrow
  clear hrow
  by_cases hl : len ≤ 2000
  · go_enter Tryd.func11, Tryd.ntmps11
    go_wp2
    go_returns
    refine ⟨len, rfl, by go_grown, by simp [go_sem], by simp [go_sem], by simp [go_sem], by omega, hl, ?_, Nat.le_refl _⟩
    rcases HR.out with h | ⟨sb, so, rfl, hb, hr⟩
    · exact .inl h
    · refine .inr ⟨sb, so, rfl, hb, fun i hi => ?_⟩
      obtain ⟨v, hv, h0, h1⟩ := hr i hi
      exact ⟨v, (World.cell?_alloc_lt _ _ _ hb).trans hv, h0, h1⟩
  · rcases HR.out with h | ⟨sb, so, rfl, hb, hr⟩
    · omega
    have HH : Hid (∀ i, i < len → ∃ v : Int, w.cell? ⟨sb, so + i, none⟩ = some (.int .u8 v) ∧ 0 ≤ v ∧ v ≤ 255) := hr
    clear hr
    go_enter Tryd.func11, Tryd.ntmps11
    go_wp2
    go_returns
    refine ⟨2000, rfl, by go_grown, by simp [go_sem], by simp [go_sem], by simp [go_sem], by omega, by omega, ?_, Nat.le_refl _⟩
    refine .inr ⟨sb, so, rfl, hb, fun i hi => ?_⟩
    obtain ⟨v, hv, h0, h1⟩ := HH.out i (by omega)
    exact ⟨v, (World.cell?_alloc_lt _ _ _ hb).trans hv, h0, h1⟩

theorem nums17 (W : World) (t : TypeId) (v : Int) (hv0 : 0 ≤ v) (hv1 : v < 50) : ∀ i, i < 17 → ∃ x : Int, (W.alloc (.cells #[.int .i64 0, .int .i64 1, .int .i64 (-1), .int .i64 2, .int .i64 3, .int .i64 (-4), .int .i64 7, .int .i64 10, .int .i64 (-10), .int .i64 100, .int .i64 999, .int .i64 1000, .int .i64 (-1000), .int .i64 1000000, .int .i64 (-1000000), .int .i64 999999, .int .i64 (v - 25)] t)).cell? ⟨W.heap.size, i, none⟩ = some (.int .i64 x) ∧ -1000000 ≤ x ∧ x ≤ 1000000 := by
  intro i hi
  have h : i = 0 ∨ i = 1 ∨ i = 2 ∨ i = 3 ∨ i = 4 ∨ i = 5 ∨ i = 6 ∨ i = 7 ∨ i = 8 ∨ i = 9 ∨ i = 10 ∨ i = 11 ∨ i = 12 ∨ i = 13 ∨ i = 14 ∨ i = 15 ∨ i = 16 := by omega
  rcases h with rfl | rfl | rfl | rfl | rfl | rfl | rfl | rfl | rfl | rfl | rfl | rfl | rfl | rfl | rfl | rfl | rfl <;> exact ⟨_, (World.cell?_alloc_new W _ t _).trans rfl, by omega, by omega⟩

set_option maxHeartbeats 1000000 in
theorem l1Num (B g : Nat) (sa : Option Addr) (len cap : Nat) (k : Int) (w : World) (R : Rd B g sa len cap k w) (hk : k ≤ 100000) :
    Calls Tryd.prog 13 #[.pointer (some ⟨g, 0, none⟩)] w fun e w' => ∃ x : Int, e = .returned (.int .i64 x) ∧ -1000000 ≤ x ∧ x ≤ 1000000 ∧ Adv g w w' ∧ Rd B g sa len cap (k + 1 + 1) w' := by
  go_enter Tryd.func13, Tryd.ntmps13
  go_wp2_with fail
  go_at_call 12
  refine (pick B g sa len cap k 50 w R (by omega) (by omega) (by omega)).mono ?_
  rintro e w1 ⟨v, rfl, hv0, hv1, hA, hR⟩
  have hlt := hR.lt
  go_wp2_with fail
  go_at_call 25
  refine (num B g sa len cap (k + 1) w1.heap.size 17 (-1000000) 1000000 _ (hR.alloc _) (by omega) (by omega) (by omega) (by omega) (nums17 w1 _ v hv0 hv1)).mono ?_
  rintro e w2 ⟨x, rfl, hx0, hx1, hA2, hR2⟩
  go_wp2
  go_returns
  exact ⟨x, rfl, hx0, hx1, (hA.alloc _).trans hA2, hR2⟩
end Go.Proofs.YtkgmkoejplgjoaaDoor
