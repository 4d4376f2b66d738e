/-
  What the program answers of one instruction.
-/
import Derived.Test.YtimfdfeleoaehaaInstC
namespace Go.Proofs.Ytimfdfeleoaehaa
open Go.RowKit
set_option linter.unusedSimpArgs false
set_option linter.unusedVariables false

set_option maxRecDepth 10000 in
set_option maxHeartbeats 4000000 in
theorem IX.implFits (x : IX) (n : Int) (hm : SmallS x.s) (ok : Nat → Prop) (w : World) (hok : ∀ b, ok b → b < w.heap.size) (hL : LiesS ok w x.s) :
    Calls Try.prog 42 #[x.val, .int .i64 n] w fun e w' => e = .returned (.bool (x.fitB n)) ∧ Below w.heap.size w w' := by
  obtain ⟨W1, hW1⟩ : ∃ W1, w.alloc (.cells #[.int .i64 x.op, .int .i64 x.s.kind, .string x.s.name, .int .i64 x.s.e.kind, .int .i64 x.s.e.num, .string x.s.e.name, .slice x.s.e.base x.s.e.kids.length x.s.e.cap, .int .i64 x.s.f.kind, .int .i64 x.s.f.num, .string x.s.f.name, .slice x.s.f.base x.s.f.kids.length x.s.f.cap, .slice x.s.abase x.s.la.length x.s.acap, .slice x.s.bbase x.s.lb.length x.s.bcap, .int .i64 x.dst] 52) = W1 := ⟨_, rfl⟩
  have hs1 : w.heap.size + 1 = W1.heap.size := by rw [← hW1]; simp
  have hB1 : Below w.heap.size w W1 := by rw [← hW1]; exact (Below.refl _ w).alloc (Nat.le_refl _) _
  have hC : Cells14 W1 w.heap.size 0 x := by rw [← hW1]; exact Cells14.new w x _
  have hok1 : ∀ b, ok b → b < W1.heap.size := fun b hb => by have := hok b hb; omega
  have hL1 := hL.under hB1 hok
  have hX := Below.refl W1.heap.size W1
  obtain ⟨c0, c1, c2, c3, c4, c5, c6, c7, c8, c9, c10, c11, c12, c13⟩ := hC.below hX (by omega)
  have HNL : ∀ y : Later W1, Calls Try.prog 58 #[x.s.val] y.at fun e w' => e = .returned (.bool x.s.noL) ∧ Below y.at.heap.size y.at w' := fun y => SX.hasNoLists x.s hm ok y.at (fun b hb => Nat.lt_of_lt_of_le (hok1 b hb) (Later.below y).size) (hL1.under (Later.below y) hok1)
  have HNO : ∀ y : Later W1, Calls Try.prog 59 #[x.s.val] y.at fun e w' => e = .returned (.bool x.s.noneS) ∧ Below y.at.heap.size y.at w' := fun y => SX.implNothing x.s hm ok y.at (fun b hb => Nat.lt_of_lt_of_le (hok1 b hb) (Later.below y).size) (hL1.under (Later.below y) hok1)
  obtain ⟨f, hmt, hen, hcall⟩ := x.s.disp hm
  have HF : ∀ y : Later W1, Calls Try.prog f #[x.s.val] y.at fun e w' => e = .returned (.bool x.s.fitB) ∧ Below y.at.heap.size y.at w' := fun y => hcall ok y.at (fun b hb => Nat.lt_of_lt_of_le (hok1 b hb) (Later.below y).size) (hL1.under (Later.below y) hok1)
  clear hcall hL hL1 hok hok1
  go_enter Try.func42, Try.ntmps42
  go_wp2_with (first | (go_at_call 56; refine (implBranch x.s _).mono ?_; rintro e wn ⟨rfl, hb⟩; (replace hX := bstep hX hb); (obtain ⟨c0, c1, c2, c3, c4, c5, c6, c7, c8, c9, c10, c11, c12, c13⟩ := hC.below hX (by omega)); (clear hb)) | (go_at_call 58; refine (HNL ⟨_, hX⟩).mono ?_; rintro e wn ⟨rfl, hb⟩; (replace hX := bstep hX hb); (obtain ⟨c0, c1, c2, c3, c4, c5, c6, c7, c8, c9, c10, c11, c12, c13⟩ := hC.below hX (by omega)); (clear hb)) | (go_at_call 59; refine (HNO ⟨_, hX⟩).mono ?_; rintro e wn ⟨rfl, hb⟩; (replace hX := bstep hX hb); (obtain ⟨c0, c1, c2, c3, c4, c5, c6, c7, c8, c9, c10, c11, c12, c13⟩ := hC.below hX (by omega)); (clear hb)) | (go_at_call 57; refine (typedS x.s _).mono ?_; rintro e wn ⟨rfl, hb⟩; (have hmt5 := hmt wn); (have hen5 := hen #[x.s.val] wn); (replace hX := bstep hX hb); (obtain ⟨c0, c1, c2, c3, c4, c5, c6, c7, c8, c9, c10, c11, c12, c13⟩ := hC.below hX (by omega)); (clear hb)) | (refine (HF ⟨_, hX⟩).mono ?_; rintro e wn ⟨rfl, hb⟩; (replace hX := bstep hX hb); (obtain ⟨c0, c1, c2, c3, c4, c5, c6, c7, c8, c9, c10, c11, c12, c13⟩ := hC.below hX (by omega)); (clear hb)))
  all_goals
    go_returns
    refine ⟨ret_bool ?_, hB1.trans (hX.mono (by omega))⟩
    clear hmt hen HF HNL HNO
    first | rfl | (simp_all [IX.fitB]; done) | (rw [Bool.eq_iff_iff]; simp_all [IX.fitB]; done) | (rw [Bool.eq_iff_iff]; simp_all [IX.fitB]; omega)
end Go.Proofs.Ytimfdfeleoaehaa
