/-
  What the specification answers of one instruction.
-/
import Derived.Test.YtimfdfeleoaehaaInstC
import Derived.Test.YtimfdfeleoaehaaOkL
namespace Go.Proofs.Ytimfdfeleoaehaa
open Go.RowKit
set_option linter.unusedSimpArgs false
set_option linter.unusedVariables false

theorem raw14 {W : World} {b : Nat} {op k : Int} {n : ByteArray} {e f : XT} {ab : Option Addr} {ac : Nat} {la : List SX} {bb : Option Addr} {bc : Nat} {lb : List SX} {dst : Int} (h : Cells14 W b 0 ⟨op, .mk k n e f ab ac la bb bc lb, dst⟩) :
    W.cell? ⟨b, 0, none⟩ = some (.int .i64 op) ∧ W.cell? ⟨b, 1, none⟩ = some (.int .i64 k) ∧ W.cell? ⟨b, 2, none⟩ = some (.string n) ∧ W.cell? ⟨b, 3, none⟩ = some (.int .i64 e.kind) ∧ W.cell? ⟨b, 4, none⟩ = some (.int .i64 e.num) ∧ W.cell? ⟨b, 5, none⟩ = some (.string e.name) ∧ W.cell? ⟨b, 6, none⟩ = some (.slice e.base e.kids.length e.cap) ∧ W.cell? ⟨b, 7, none⟩ = some (.int .i64 f.kind) ∧ W.cell? ⟨b, 8, none⟩ = some (.int .i64 f.num) ∧ W.cell? ⟨b, 9, none⟩ = some (.string f.name) ∧ W.cell? ⟨b, 10, none⟩ = some (.slice f.base f.kids.length f.cap) ∧ W.cell? ⟨b, 11, none⟩ = some (.slice ab la.length ac) ∧ W.cell? ⟨b, 12, none⟩ = some (.slice bb lb.length bc) ∧ W.cell? ⟨b, 13, none⟩ = some (.int .i64 dst) :=
  ⟨h.c0, h.c1, h.c2, h.c3, h.c4, h.c5, h.c6, h.c7, h.c8, h.c9, h.c10, h.c11, h.c12, h.c13⟩
set_option maxRecDepth 10000 in
set_option maxHeartbeats 4000000 in
theorem IX.specFits (x : IX) (many : Int) (hmany : 1 ≤ many) (hm : SmallS x.s) (ok : Nat → Prop) (w : World) (hok : ∀ b, ok b → b < w.heap.size) (hL : LiesS ok w x.s) :
    Calls Try.prog 39 #[x.val, .int .i64 many] w fun e w' => e = .returned (.bool (x.fitB many)) ∧ Below w.heap.size w w' := by
  have HS : ∀ W : World, Below w.heap.size w W → Calls Try.prog 54 #[x.s.val] W fun e w' => e = .returned (.bool x.s.fitB) ∧ Below W.heap.size W w' := fun W hW => SX.specStmt x.s hm ok W (fun b hb => Nat.lt_of_lt_of_le (hok b hb) hW.size) (hL.under hW hok)
  obtain ⟨-, -, -, ⟨m4, m5⟩, -, -⟩ := hm.parts
  obtain ⟨op, s, dst⟩ := x
  obtain ⟨k, n, e, f, ab, ac, la, bb, bc, lb⟩ := s
  simp only [SX.val, SX.kind, SX.name, SX.e, SX.f, SX.abase, SX.acap, SX.la, SX.bbase, SX.bcap, SX.lb] at m4 m5
  unfold IX.fitB
  simp only [IX.val, SX.noneS, SX.noL, SX.kind, SX.name, SX.e, SX.f, SX.abase, SX.acap, SX.la, SX.bbase, SX.bcap, SX.lb]
  obtain ⟨b0, r0⟩ : ∃ b, (SX.mk k n e f ab ac la bb bc lb).fitB = b := ⟨_, rfl⟩
  obtain ⟨b1, r1⟩ : ∃ b, noneE e = b := ⟨_, rfl⟩
  obtain ⟨b2, r2⟩ : ∃ b, noneE f = b := ⟨_, rfl⟩
  rw [r0, r1, r2]
  have HL : Hid (∀ W : World, Below w.heap.size w W → Calls Try.prog 54 #[.agg #[.int .i64 k, .string n, .int .i64 e.kind, .int .i64 e.num, .string e.name, .slice e.base e.kids.length e.cap, .int .i64 f.kind, .int .i64 f.num, .string f.name, .slice f.base f.kids.length f.cap, .slice ab la.length ac, .slice bb lb.length bc]] W fun e w' => e = .returned (.bool b0) ∧ Below W.heap.size W w') := fun W hW => by
    have h := HS W hW
    rw [r0] at h
    exact h
  clear HS r0 hL hm
  obtain ⟨W1, hW1⟩ : ∃ W1, w.alloc (.cells #[.int .i64 op, .int .i64 k, .string n, .int .i64 e.kind, .int .i64 e.num, .string e.name, .slice e.base e.kids.length e.cap, .int .i64 f.kind, .int .i64 f.num, .string f.name, .slice f.base f.kids.length f.cap, .slice ab la.length ac, .slice bb lb.length bc, .int .i64 dst] 52) = W1 := ⟨_, rfl⟩
  have hs1 : w.heap.size + 1 = W1.heap.size := by rw [← hW1]; simp
  have hB1 : Below w.heap.size w W1 := by rw [← hW1]; exact (Below.refl _ w).alloc (Nat.le_refl _) _
  have hC : Cells14 W1 w.heap.size 0 ⟨op, .mk k n e f ab ac la bb bc lb, dst⟩ := by rw [← hW1]; exact Cells14.new w ⟨op, .mk k n e f ab ac la bb bc lb, dst⟩ _
  have hX := Below.refl W1.heap.size W1
  rcases (show k = 3 ∨ k = 4 ∨ (¬ k = 3 ∧ ¬ k = 4) by omega) with rfl | rfl | ⟨h3, h4⟩
  all_goals
    obtain ⟨c0, c1, c2, c3, c4, c5, c6, c7, c8, c9, c10, c11, c12, c13⟩ := raw14 (hC.below hX (by omega))
    go_enter Try.func39, Try.ntmps39
    go_wp2_with (first | (go_at_call 54; refine (HL.out _ (bstep hB1 hX)).mono ?_; rintro e' wn ⟨rfl, hb⟩; (replace hX := bstep hX hb); (obtain ⟨c0, c1, c2, c3, c4, c5, c6, c7, c8, c9, c10, c11, c12, c13⟩ := raw14 (hC.below hX (by omega))); (clear hb)) | (go_at_call 55; refine (specNone _ _).mono ?_; rintro e' wn ⟨rfl, hb⟩; (replace hX := bstep hX hb); (obtain ⟨c0, c1, c2, c3, c4, c5, c6, c7, c8, c9, c10, c11, c12, c13⟩ := raw14 (hC.below hX (by omega))); (clear hb); (first | rw [r1] | rw [r2])))
    all_goals
      go_returns
      refine ⟨ret_bool ?_, hB1.trans (hX.mono (by omega))⟩
      clear HL
      first | rfl | (simp_all [brB]; done) | (rw [Bool.eq_iff_iff]; simp_all [brB]; done) | (rw [Bool.eq_iff_iff]; simp_all [brB]; omega) | (rw [Bool.eq_iff_iff]; cases la <;> cases lb <;> simp_all [brB] <;> omega) | (rw [Bool.eq_iff_iff]; cases la <;> cases lb <;> simp_all [brB] <;> intros <;> omega)
end Go.Proofs.Ytimfdfeleoaehaa
