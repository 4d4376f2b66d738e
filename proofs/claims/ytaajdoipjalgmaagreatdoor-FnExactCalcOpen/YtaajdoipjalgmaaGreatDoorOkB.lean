/-
  What the specification answers of one variable.
-/
import Derived.Test.YtaajdoipjalgmaaGreatDoorOkA
namespace Go.Proofs.YtaajdoipjalgmaaGreatDoor
open Go.RowKit
set_option linter.unusedSimpArgs false
set_option linter.unusedVariables false
attribute [local go_sem] Oper.semAt_some

set_option maxHeartbeats 4000000 in
theorem VX.specOk (v : VX) (hn : v.name.size ≤ 1048576) (hl : v.lock.size ≤ 1048576) (t : Int) (w : World) : Calls Tryz.prog 115 #[v.val, .int .i64 t] w fun e w' => e = .returned (.bool (v.okB t)) ∧ Below w.heap.size w w' := by
  obtain ⟨W1, hW1⟩ : ∃ W1, w.alloc (.cells #[.string v.name, .int .i64 v.size, .int .i64 v.init, .int .i64 v.lo, .int .i64 v.hi, .string v.lock, .int .i64 v.task] 58) = W1 := ⟨_, rfl⟩
  obtain ⟨W2, hW2⟩ : ∃ W2, W1.alloc (.cells #[.int .i64 v.lo, .int .i64 v.hi] 183) = W2 := ⟨_, rfl⟩
  have hs1 : w.heap.size + 1 = W1.heap.size := by rw [← hW1]; simp
  have hs2 : W1.heap.size + 1 = W2.heap.size := by rw [← hW2]; simp
  have hB1 : Below w.heap.size w W1 := by rw [← hW1]; exact (Below.refl _ w).alloc (Nat.le_refl _) _
  have hB2 : Below w.heap.size w W2 := by rw [← hW2]; exact hB1.alloc (by omega) _
  have hC1 : VX.At W1 w.heap.size 0 v := by
    rw [← hW1]
    exact ⟨World.cell?_alloc_new w _ _ 0, World.cell?_alloc_new w _ _ 1, World.cell?_alloc_new w _ _ 2, World.cell?_alloc_new w _ _ 3, World.cell?_alloc_new w _ _ 4, World.cell?_alloc_new w _ _ 5, World.cell?_alloc_new w _ _ 6⟩
  have hC : VX.At W2 w.heap.size 0 v := hC1.below (n := W1.heap.size) (by rw [← hW2]; exact (Below.refl _ _).alloc (Nat.le_refl _) _) (by omega)
  have hD0 : W2.cell? ⟨W1.heap.size, 0, none⟩ = some (.int .i64 v.lo) := by rw [← hW2]; exact World.cell?_alloc_new W1 _ _ 0
  have hD1 : W2.cell? ⟨W1.heap.size, 1, none⟩ = some (.int .i64 v.hi) := by rw [← hW2]; exact World.cell?_alloc_new W1 _ _ 1
  have hX := Below.refl W2.heap.size W2
  obtain ⟨b0, b1, b2, b3, b4, b5, b6⟩ := hC1
  obtain ⟨c0, c1, c2, c3, c4, c5, c6⟩ := hC.below hX (by omega)
  go_enter Tryz.func115, Tryz.ntmps115
  go_wp2_with (first | (go_at_call 116; refine (specName _ _ (by assumption)).mono ?_; rintro e wn ⟨rfl, hb⟩; (replace hX := hX.trans (hb.mono hX.size)); (obtain ⟨c0, c1, c2, c3, c4, c5, c6⟩ := hC.below hX (by omega)); (have d0 := below_cell hX hD0 (by dsimp only; omega)); (have d1 := below_cell hX hD1 (by dsimp only; omega)); (clear hb)) | (go_at_call 153; refine (specHas _ _ _ _).mono ?_; rintro e wn ⟨rfl, hb⟩; (replace hX := hX.trans (hb.mono hX.size)); (obtain ⟨c0, c1, c2, c3, c4, c5, c6⟩ := hC.below hX (by omega)); (have d0 := below_cell hX hD0 (by dsimp only; omega)); (have d1 := below_cell hX hD1 (by dsimp only; omega)); (clear hb)))
  all_goals
    go_returns
    refine ⟨ret_bool ?_, hB2.trans (hX.mono (by omega))⟩
    first | (simp_all [VX.okB, VX.ownB]; done) | (rw [Bool.eq_iff_iff]; simp_all [VX.okB, VX.ownB]; done) | (rw [Bool.eq_iff_iff]; simp_all [VX.okB, VX.ownB]; intro p q; rename_i hh; rcases hh with (h | h) | h | h <;> first | (exfalso; omega) | (simp_all; done)) | (rw [Bool.eq_iff_iff]; simp_all [VX.okB, VX.ownB]; omega)
end Go.Proofs.YtaajdoipjalgmaaGreatDoor
