/-
  Copies of instructions in new memory are the same in all parts; what is read of an argument that is a list of instructions.
-/
import Derived.Test.YtimfdfeleoaehaaInstA
import Derived.Test.YtimfdfeleoaehaaStmtD
import Derived.Test.YtimfdfeleoaehaaStmtE
namespace Go.Proofs.Ytimfdfeleoaehaa
open Go.RowKit
set_option linter.unusedSimpArgs false
set_option linter.unusedVariables false

set_option maxRecDepth 10000 in
set_option maxHeartbeats 2000000 in
theorem put14 {W : World} {g N : Nat} {t : TypeId} (h0 : RowAt W g N t) (o : Nat) (hi : o + 13 < N) (y : IX) :
    RowAt ((((((((((((((W.setCell ⟨g, o, none⟩ (.int .i64 y.op)).setCell ⟨g, o + 1, none⟩ (.int .i64 y.s.kind)).setCell ⟨g, o + 2, none⟩ (.string y.s.name)).setCell ⟨g, o + 3, none⟩ (.int .i64 y.s.e.kind)).setCell ⟨g, o + 4, none⟩ (.int .i64 y.s.e.num)).setCell ⟨g, o + 5, none⟩ (.string y.s.e.name)).setCell ⟨g, o + 6, none⟩ (.slice y.s.e.base y.s.e.kids.length y.s.e.cap)).setCell ⟨g, o + 7, none⟩ (.int .i64 y.s.f.kind)).setCell ⟨g, o + 8, none⟩ (.int .i64 y.s.f.num)).setCell ⟨g, o + 9, none⟩ (.string y.s.f.name)).setCell ⟨g, o + 10, none⟩ (.slice y.s.f.base y.s.f.kids.length y.s.f.cap)).setCell ⟨g, o + 11, none⟩ (.slice y.s.abase y.s.la.length y.s.acap)).setCell ⟨g, o + 12, none⟩ (.slice y.s.bbase y.s.lb.length y.s.bcap)).setCell ⟨g, o + 13, none⟩ (.int .i64 y.dst)) g N t ∧ Kept (fun k => k = g) W ((((((((((((((W.setCell ⟨g, o, none⟩ (.int .i64 y.op)).setCell ⟨g, o + 1, none⟩ (.int .i64 y.s.kind)).setCell ⟨g, o + 2, none⟩ (.string y.s.name)).setCell ⟨g, o + 3, none⟩ (.int .i64 y.s.e.kind)).setCell ⟨g, o + 4, none⟩ (.int .i64 y.s.e.num)).setCell ⟨g, o + 5, none⟩ (.string y.s.e.name)).setCell ⟨g, o + 6, none⟩ (.slice y.s.e.base y.s.e.kids.length y.s.e.cap)).setCell ⟨g, o + 7, none⟩ (.int .i64 y.s.f.kind)).setCell ⟨g, o + 8, none⟩ (.int .i64 y.s.f.num)).setCell ⟨g, o + 9, none⟩ (.string y.s.f.name)).setCell ⟨g, o + 10, none⟩ (.slice y.s.f.base y.s.f.kids.length y.s.f.cap)).setCell ⟨g, o + 11, none⟩ (.slice y.s.abase y.s.la.length y.s.acap)).setCell ⟨g, o + 12, none⟩ (.slice y.s.bbase y.s.lb.length y.s.bcap)).setCell ⟨g, o + 13, none⟩ (.int .i64 y.dst)) ∧ Cells14 ((((((((((((((W.setCell ⟨g, o, none⟩ (.int .i64 y.op)).setCell ⟨g, o + 1, none⟩ (.int .i64 y.s.kind)).setCell ⟨g, o + 2, none⟩ (.string y.s.name)).setCell ⟨g, o + 3, none⟩ (.int .i64 y.s.e.kind)).setCell ⟨g, o + 4, none⟩ (.int .i64 y.s.e.num)).setCell ⟨g, o + 5, none⟩ (.string y.s.e.name)).setCell ⟨g, o + 6, none⟩ (.slice y.s.e.base y.s.e.kids.length y.s.e.cap)).setCell ⟨g, o + 7, none⟩ (.int .i64 y.s.f.kind)).setCell ⟨g, o + 8, none⟩ (.int .i64 y.s.f.num)).setCell ⟨g, o + 9, none⟩ (.string y.s.f.name)).setCell ⟨g, o + 10, none⟩ (.slice y.s.f.base y.s.f.kids.length y.s.f.cap)).setCell ⟨g, o + 11, none⟩ (.slice y.s.abase y.s.la.length y.s.acap)).setCell ⟨g, o + 12, none⟩ (.slice y.s.bbase y.s.lb.length y.s.bcap)).setCell ⟨g, o + 13, none⟩ (.int .i64 y.dst)) g o y ∧
    ∀ (p : Nat) (x : IX), (p + 14 ≤ o ∨ o + 14 ≤ p) → Cells14 W g p x → Cells14 ((((((((((((((W.setCell ⟨g, o, none⟩ (.int .i64 y.op)).setCell ⟨g, o + 1, none⟩ (.int .i64 y.s.kind)).setCell ⟨g, o + 2, none⟩ (.string y.s.name)).setCell ⟨g, o + 3, none⟩ (.int .i64 y.s.e.kind)).setCell ⟨g, o + 4, none⟩ (.int .i64 y.s.e.num)).setCell ⟨g, o + 5, none⟩ (.string y.s.e.name)).setCell ⟨g, o + 6, none⟩ (.slice y.s.e.base y.s.e.kids.length y.s.e.cap)).setCell ⟨g, o + 7, none⟩ (.int .i64 y.s.f.kind)).setCell ⟨g, o + 8, none⟩ (.int .i64 y.s.f.num)).setCell ⟨g, o + 9, none⟩ (.string y.s.f.name)).setCell ⟨g, o + 10, none⟩ (.slice y.s.f.base y.s.f.kids.length y.s.f.cap)).setCell ⟨g, o + 11, none⟩ (.slice y.s.abase y.s.la.length y.s.acap)).setCell ⟨g, o + 12, none⟩ (.slice y.s.bbase y.s.lb.length y.s.bcap)).setCell ⟨g, o + 13, none⟩ (.int .i64 y.dst)) g p x := by
  have h1 := h0.set (o) (.int .i64 y.op)
  have h2 := h1.set (o + 1) (.int .i64 y.s.kind)
  have h3 := h2.set (o + 2) (.string y.s.name)
  have h4 := h3.set (o + 3) (.int .i64 y.s.e.kind)
  have h5 := h4.set (o + 4) (.int .i64 y.s.e.num)
  have h6 := h5.set (o + 5) (.string y.s.e.name)
  have h7 := h6.set (o + 6) (.slice y.s.e.base y.s.e.kids.length y.s.e.cap)
  have h8 := h7.set (o + 7) (.int .i64 y.s.f.kind)
  have h9 := h8.set (o + 8) (.int .i64 y.s.f.num)
  have h10 := h9.set (o + 9) (.string y.s.f.name)
  have h11 := h10.set (o + 10) (.slice y.s.f.base y.s.f.kids.length y.s.f.cap)
  have h12 := h11.set (o + 11) (.slice y.s.abase y.s.la.length y.s.acap)
  have h13 := h12.set (o + 12) (.slice y.s.bbase y.s.lb.length y.s.bcap)
  have h14 := h13.set (o + 13) (.int .i64 y.dst)
  refine ⟨h14, ?_, ?_, ?_⟩
  · exact (((((((((((((((Kept.refl (fun k => k = g) W).setCell (p := ⟨g, o, none⟩) rfl (.int .i64 y.op)).setCell (p := ⟨g, o + 1, none⟩) rfl (.int .i64 y.s.kind)).setCell (p := ⟨g, o + 2, none⟩) rfl (.string y.s.name)).setCell (p := ⟨g, o + 3, none⟩) rfl (.int .i64 y.s.e.kind)).setCell (p := ⟨g, o + 4, none⟩) rfl (.int .i64 y.s.e.num)).setCell (p := ⟨g, o + 5, none⟩) rfl (.string y.s.e.name)).setCell (p := ⟨g, o + 6, none⟩) rfl (.slice y.s.e.base y.s.e.kids.length y.s.e.cap)).setCell (p := ⟨g, o + 7, none⟩) rfl (.int .i64 y.s.f.kind)).setCell (p := ⟨g, o + 8, none⟩) rfl (.int .i64 y.s.f.num)).setCell (p := ⟨g, o + 9, none⟩) rfl (.string y.s.f.name)).setCell (p := ⟨g, o + 10, none⟩) rfl (.slice y.s.f.base y.s.f.kids.length y.s.f.cap)).setCell (p := ⟨g, o + 11, none⟩) rfl (.slice y.s.abase y.s.la.length y.s.acap)).setCell (p := ⟨g, o + 12, none⟩) rfl (.slice y.s.bbase y.s.lb.length y.s.bcap)).setCell (p := ⟨g, o + 13, none⟩) rfl (.int .i64 y.dst))
  · refine ⟨?_, ?_, ?_, ?_, ?_, ?_, ?_, ?_, ?_, ?_, ?_, ?_, ?_, ?_⟩
    · rw [set_far (by omega), set_far (by omega), set_far (by omega), set_far (by omega), set_far (by omega), set_far (by omega), set_far (by omega), set_far (by omega), set_far (by omega), set_far (by omega), set_far (by omega), set_far (by omega), set_far (by omega)]; exact h0.put (by omega) _
    · rw [set_far (by omega), set_far (by omega), set_far (by omega), set_far (by omega), set_far (by omega), set_far (by omega), set_far (by omega), set_far (by omega), set_far (by omega), set_far (by omega), set_far (by omega), set_far (by omega)]; exact h1.put (by omega) _
    · rw [set_far (by omega), set_far (by omega), set_far (by omega), set_far (by omega), set_far (by omega), set_far (by omega), set_far (by omega), set_far (by omega), set_far (by omega), set_far (by omega), set_far (by omega)]; exact h2.put (by omega) _
    · rw [set_far (by omega), set_far (by omega), set_far (by omega), set_far (by omega), set_far (by omega), set_far (by omega), set_far (by omega), set_far (by omega), set_far (by omega), set_far (by omega)]; exact h3.put (by omega) _
    · rw [set_far (by omega), set_far (by omega), set_far (by omega), set_far (by omega), set_far (by omega), set_far (by omega), set_far (by omega), set_far (by omega), set_far (by omega)]; exact h4.put (by omega) _
    · rw [set_far (by omega), set_far (by omega), set_far (by omega), set_far (by omega), set_far (by omega), set_far (by omega), set_far (by omega), set_far (by omega)]; exact h5.put (by omega) _
    · rw [set_far (by omega), set_far (by omega), set_far (by omega), set_far (by omega), set_far (by omega), set_far (by omega), set_far (by omega)]; exact h6.put (by omega) _
    · rw [set_far (by omega), set_far (by omega), set_far (by omega), set_far (by omega), set_far (by omega), set_far (by omega)]; exact h7.put (by omega) _
    · rw [set_far (by omega), set_far (by omega), set_far (by omega), set_far (by omega), set_far (by omega)]; exact h8.put (by omega) _
    · rw [set_far (by omega), set_far (by omega), set_far (by omega), set_far (by omega)]; exact h9.put (by omega) _
    · rw [set_far (by omega), set_far (by omega), set_far (by omega)]; exact h10.put (by omega) _
    · rw [set_far (by omega), set_far (by omega)]; exact h11.put (by omega) _
    · rw [set_far (by omega)]; exact h12.put (by omega) _
    · exact h13.put (by omega) _
  · intro p x hj hc
    refine ⟨?_, ?_, ?_, ?_, ?_, ?_, ?_, ?_, ?_, ?_, ?_, ?_, ?_, ?_⟩
    · rw [set_far (by omega), set_far (by omega), set_far (by omega), set_far (by omega), set_far (by omega), set_far (by omega), set_far (by omega), set_far (by omega), set_far (by omega), set_far (by omega), set_far (by omega), set_far (by omega), set_far (by omega), set_far (by omega)]; exact hc.c0
    · rw [set_far (by omega), set_far (by omega), set_far (by omega), set_far (by omega), set_far (by omega), set_far (by omega), set_far (by omega), set_far (by omega), set_far (by omega), set_far (by omega), set_far (by omega), set_far (by omega), set_far (by omega), set_far (by omega)]; exact hc.c1
    · rw [set_far (by omega), set_far (by omega), set_far (by omega), set_far (by omega), set_far (by omega), set_far (by omega), set_far (by omega), set_far (by omega), set_far (by omega), set_far (by omega), set_far (by omega), set_far (by omega), set_far (by omega), set_far (by omega)]; exact hc.c2
    · rw [set_far (by omega), set_far (by omega), set_far (by omega), set_far (by omega), set_far (by omega), set_far (by omega), set_far (by omega), set_far (by omega), set_far (by omega), set_far (by omega), set_far (by omega), set_far (by omega), set_far (by omega), set_far (by omega)]; exact hc.c3
    · rw [set_far (by omega), set_far (by omega), set_far (by omega), set_far (by omega), set_far (by omega), set_far (by omega), set_far (by omega), set_far (by omega), set_far (by omega), set_far (by omega), set_far (by omega), set_far (by omega), set_far (by omega), set_far (by omega)]; exact hc.c4
    · rw [set_far (by omega), set_far (by omega), set_far (by omega), set_far (by omega), set_far (by omega), set_far (by omega), set_far (by omega), set_far (by omega), set_far (by omega), set_far (by omega), set_far (by omega), set_far (by omega), set_far (by omega), set_far (by omega)]; exact hc.c5
    · rw [set_far (by omega), set_far (by omega), set_far (by omega), set_far (by omega), set_far (by omega), set_far (by omega), set_far (by omega), set_far (by omega), set_far (by omega), set_far (by omega), set_far (by omega), set_far (by omega), set_far (by omega), set_far (by omega)]; exact hc.c6
    · rw [set_far (by omega), set_far (by omega), set_far (by omega), set_far (by omega), set_far (by omega), set_far (by omega), set_far (by omega), set_far (by omega), set_far (by omega), set_far (by omega), set_far (by omega), set_far (by omega), set_far (by omega), set_far (by omega)]; exact hc.c7
    · rw [set_far (by omega), set_far (by omega), set_far (by omega), set_far (by omega), set_far (by omega), set_far (by omega), set_far (by omega), set_far (by omega), set_far (by omega), set_far (by omega), set_far (by omega), set_far (by omega), set_far (by omega), set_far (by omega)]; exact hc.c8
    · rw [set_far (by omega), set_far (by omega), set_far (by omega), set_far (by omega), set_far (by omega), set_far (by omega), set_far (by omega), set_far (by omega), set_far (by omega), set_far (by omega), set_far (by omega), set_far (by omega), set_far (by omega), set_far (by omega)]; exact hc.c9
    · rw [set_far (by omega), set_far (by omega), set_far (by omega), set_far (by omega), set_far (by omega), set_far (by omega), set_far (by omega), set_far (by omega), set_far (by omega), set_far (by omega), set_far (by omega), set_far (by omega), set_far (by omega), set_far (by omega)]; exact hc.c10
    · rw [set_far (by omega), set_far (by omega), set_far (by omega), set_far (by omega), set_far (by omega), set_far (by omega), set_far (by omega), set_far (by omega), set_far (by omega), set_far (by omega), set_far (by omega), set_far (by omega), set_far (by omega), set_far (by omega)]; exact hc.c11
    · rw [set_far (by omega), set_far (by omega), set_far (by omega), set_far (by omega), set_far (by omega), set_far (by omega), set_far (by omega), set_far (by omega), set_far (by omega), set_far (by omega), set_far (by omega), set_far (by omega), set_far (by omega), set_far (by omega)]; exact hc.c12
    · rw [set_far (by omega), set_far (by omega), set_far (by omega), set_far (by omega), set_far (by omega), set_far (by omega), set_far (by omega), set_far (by omega), set_far (by omega), set_far (by omega), set_far (by omega), set_far (by omega), set_far (by omega), set_far (by omega)]; exact hc.c13
theorem infoI : (Try.prog.info? 52).map (fun i => (i.zero, i.size, i.bytes)) = some (some (.agg #[.int .i64 0, .int .i64 0, .string ByteArray.empty, .int .i64 0, .int .i64 0, .string ByteArray.empty, .slice none 0 0, .int .i64 0, .int .i64 0, .string ByteArray.empty, .slice none 0 0, .slice none 0 0, .slice none 0 0, .int .i64 0]), 14, 200) := by kernel_rfl
set_option maxRecDepth 10000 in
set_option maxHeartbeats 4000000 in
theorem IX.to (x : IX) (hm : SmallS x.s) (ok : Nat → Prop) (w : World) (hok : ∀ b, ok b → b < w.heap.size) (hL : LiesS ok w x.s) :
    Calls Try.prog 41 #[x.val] w fun e w' => ∃ y : IX, e = .returned y.val ∧ IX.Same x y ∧ LiesS (fun b => w.heap.size ≤ b ∧ Pl w' b) w' y.s ∧ Below w.heap.size w w' := by
  go_enter Try.func41, Try.ntmps41
  go_wp2_with fail
  obtain ⟨W1, hW1⟩ : ∃ W1, w.alloc (.cells #[.int .i64 x.op, .int .i64 x.s.kind, .string x.s.name, .int .i64 x.s.e.kind, .int .i64 x.s.e.num, .string x.s.e.name, .slice x.s.e.base x.s.e.kids.length x.s.e.cap, .int .i64 x.s.f.kind, .int .i64 x.s.f.num, .string x.s.f.name, .slice x.s.f.base x.s.f.kids.length x.s.f.cap, .slice x.s.abase x.s.la.length x.s.acap, .slice x.s.bbase x.s.lb.length x.s.bcap, .int .i64 x.dst] 75) = W1 := ⟨_, rfl⟩
  obtain ⟨W2, hW2⟩ : ∃ W2, W1.alloc (.cells #[.int .i64 0, .int .i64 0, .string ⟨#[]⟩, .int .i64 0, .int .i64 0, .string ⟨#[]⟩, .slice none 0 0, .int .i64 0, .int .i64 0, .string ⟨#[]⟩, .slice none 0 0, .slice none 0 0, .slice none 0 0, .int .i64 0] 52) = W2 := ⟨_, rfl⟩
  obtain ⟨W3, hW3⟩ : ∃ W3, W2.alloc (.cells #[.int .i64 x.op, .int .i64 0, .string ⟨#[]⟩, .int .i64 0, .int .i64 0, .string ⟨#[]⟩, .slice none 0 0, .int .i64 0, .int .i64 0, .string ⟨#[]⟩, .slice none 0 0, .slice none 0 0, .slice none 0 0, .int .i64 0] 52) = W3 := ⟨_, rfl⟩
  rw [hW1, hW2, hW3]
  have s1 : W1.heap.size = w.heap.size + 1 := by rw [← hW1]; simp
  have s2 : W2.heap.size = w.heap.size + 2 := by rw [← hW2]; simp [s1]
  have s3 : W3.heap.size = w.heap.size + 3 := by rw [← hW3]; simp [s2]
  have hB : Below w.heap.size w W3 := by
    rw [← hW3, ← hW2, ← hW1]
    exact (((Below.refl _ w).alloc (Nat.le_refl _) _).alloc (by simp) _).alloc (by simp; omega) _
  have hP : Cells14 W3 w.heap.size 0 x := by
    have h := Cells14.new w x 75
    rw [hW1] at h
    have h2 := h.below (n := W1.heap.size) (B := W2) (by rw [← hW2]; exact (Below.refl _ _).alloc (Nat.le_refl _) _) (by omega)
    exact h2.below (n := W1.heap.size) (B := W3) (by rw [← hW3]; exact (Below.refl _ _).alloc (by omega) _) (by omega)
  have hT : RowAt W3 (w.heap.size + 1) 14 52 := by
    have h := RowAt.new W1 #[.int .i64 0, .int .i64 0, .string ⟨#[]⟩, .int .i64 0, .int .i64 0, .string ⟨#[]⟩, .slice none 0 0, .int .i64 0, .int .i64 0, .string ⟨#[]⟩, .slice none 0 0, .slice none 0 0, .slice none 0 0, .int .i64 0] 52
    rw [hW2, s1] at h
    rw [← hW3]
    exact h.of_block (Below.heap_alloc _ _ _ (by omega))
  have hM : RowAt W3 (w.heap.size + 1 + 1) 14 52 := by
    have h := RowAt.new W2 #[.int .i64 x.op, .int .i64 0, .string ⟨#[]⟩, .int .i64 0, .int .i64 0, .string ⟨#[]⟩, .slice none 0 0, .int .i64 0, .int .i64 0, .string ⟨#[]⟩, .slice none 0 0, .slice none 0 0, .slice none 0 0, .int .i64 0] 52
    rw [hW3, s2] at h
    exact h
  have n0 : W3.cell? ⟨w.heap.size + 1 + 1, 0, none⟩ = some (.int .i64 x.op) := by
    have h := World.cell?_alloc_new W2 #[.int .i64 x.op, .int .i64 0, .string ⟨#[]⟩, .int .i64 0, .int .i64 0, .string ⟨#[]⟩, .slice none 0 0, .int .i64 0, .int .i64 0, .string ⟨#[]⟩, .slice none 0 0, .slice none 0 0, .slice none 0 0, .int .i64 0] 52 0
    rw [hW3, s2] at h
    exact h
  have hz : w.heap.size + 3 ≤ W3.heap.size := by omega
  clear hW1 hW2 hW3 s1 s2 s3
  have hLX := hL.under hB hok
  have hokX : ∀ b, ok b → b < W3.heap.size := fun b hb => by have := hok b hb; omega
  refine (toS1 _ x.s (Nat.le_refl _) hm ok W3 hokX hLX).mono ?_
  rintro e y0 ⟨s', rfl, hS0, hL0, hb⟩
  have hzy := hb.size
  have n0' := below_cell hb n0 (by dsimp only; omega)
  have p13 := below_cell hb hP.c13 (by dsimp only; omega)
  have hM' := hM.of_block (hb.block _ (by omega))
  have hT' := hT.of_block (hb.block _ (by omega))

  obtain ⟨o1, z1⟩ := hM'.cell (o := 1) (by omega)
  have fz1 := hM'.frozen 1
  obtain ⟨o2, z2⟩ := hM'.cell (o := 2) (by omega)
  have fz2 := hM'.frozen 2
  obtain ⟨o3, z3⟩ := hM'.cell (o := 3) (by omega)
  have fz3 := hM'.frozen 3
  obtain ⟨o4, z4⟩ := hM'.cell (o := 4) (by omega)
  have fz4 := hM'.frozen 4
  obtain ⟨o5, z5⟩ := hM'.cell (o := 5) (by omega)
  have fz5 := hM'.frozen 5
  obtain ⟨o6, z6⟩ := hM'.cell (o := 6) (by omega)
  have fz6 := hM'.frozen 6
  obtain ⟨o7, z7⟩ := hM'.cell (o := 7) (by omega)
  have fz7 := hM'.frozen 7
  obtain ⟨o8, z8⟩ := hM'.cell (o := 8) (by omega)
  have fz8 := hM'.frozen 8
  obtain ⟨o9, z9⟩ := hM'.cell (o := 9) (by omega)
  have fz9 := hM'.frozen 9
  obtain ⟨o10, z10⟩ := hM'.cell (o := 10) (by omega)
  have fz10 := hM'.frozen 10
  obtain ⟨o11, z11⟩ := hM'.cell (o := 11) (by omega)
  have fz11 := hM'.frozen 11
  obtain ⟨o12, z12⟩ := hM'.cell (o := 12) (by omega)
  have fz12 := hM'.frozen 12
  go_upto_region 4 with fail
  have hK := (((((((((((((Kept.refl (fun k => k = w.heap.size + 1 + 1) y0).setCell (p := ⟨w.heap.size + 1 + 1, 1, none⟩) rfl (.int .i64 s'.kind)).setCell (p := ⟨w.heap.size + 1 + 1, 2, none⟩) rfl (.string s'.name)).setCell (p := ⟨w.heap.size + 1 + 1, 3, none⟩) rfl (.int .i64 s'.e.kind)).setCell (p := ⟨w.heap.size + 1 + 1, 4, none⟩) rfl (.int .i64 s'.e.num)).setCell (p := ⟨w.heap.size + 1 + 1, 5, none⟩) rfl (.string s'.e.name)).setCell (p := ⟨w.heap.size + 1 + 1, 6, none⟩) rfl (.slice s'.e.base s'.e.kids.length s'.e.cap)).setCell (p := ⟨w.heap.size + 1 + 1, 7, none⟩) rfl (.int .i64 s'.f.kind)).setCell (p := ⟨w.heap.size + 1 + 1, 8, none⟩) rfl (.int .i64 s'.f.num)).setCell (p := ⟨w.heap.size + 1 + 1, 9, none⟩) rfl (.string s'.f.name)).setCell (p := ⟨w.heap.size + 1 + 1, 10, none⟩) rfl (.slice s'.f.base s'.f.kids.length s'.f.cap)).setCell (p := ⟨w.heap.size + 1 + 1, 11, none⟩) rfl (.slice s'.abase s'.la.length s'.acap)).setCell (p := ⟨w.heap.size + 1 + 1, 12, none⟩) rfl (.slice s'.bbase s'.lb.length s'.bcap))
  have hR := ((((((((((((hM'.set 1 (.int .i64 s'.kind)).set 2 (.string s'.name)).set 3 (.int .i64 s'.e.kind)).set 4 (.int .i64 s'.e.num)).set 5 (.string s'.e.name)).set 6 (.slice s'.e.base s'.e.kids.length s'.e.cap)).set 7 (.int .i64 s'.f.kind)).set 8 (.int .i64 s'.f.num)).set 9 (.string s'.f.name)).set 10 (.slice s'.f.base s'.f.kids.length s'.f.cap)).set 11 (.slice s'.abase s'.la.length s'.acap)).set 12 (.slice s'.bbase s'.lb.length s'.bcap))
  have m1 : ((((((((((((y0.setCell ⟨w.heap.size + 1 + 1, 1, none⟩ (.int .i64 s'.kind)).setCell ⟨w.heap.size + 1 + 1, 2, none⟩ (.string s'.name)).setCell ⟨w.heap.size + 1 + 1, 3, none⟩ (.int .i64 s'.e.kind)).setCell ⟨w.heap.size + 1 + 1, 4, none⟩ (.int .i64 s'.e.num)).setCell ⟨w.heap.size + 1 + 1, 5, none⟩ (.string s'.e.name)).setCell ⟨w.heap.size + 1 + 1, 6, none⟩ (.slice s'.e.base s'.e.kids.length s'.e.cap)).setCell ⟨w.heap.size + 1 + 1, 7, none⟩ (.int .i64 s'.f.kind)).setCell ⟨w.heap.size + 1 + 1, 8, none⟩ (.int .i64 s'.f.num)).setCell ⟨w.heap.size + 1 + 1, 9, none⟩ (.string s'.f.name)).setCell ⟨w.heap.size + 1 + 1, 10, none⟩ (.slice s'.f.base s'.f.kids.length s'.f.cap)).setCell ⟨w.heap.size + 1 + 1, 11, none⟩ (.slice s'.abase s'.la.length s'.acap)).setCell ⟨w.heap.size + 1 + 1, 12, none⟩ (.slice s'.bbase s'.lb.length s'.bcap)).cell? ⟨w.heap.size + 1 + 1, 1, none⟩ = some (.int .i64 s'.kind) := by rw [set_far (by omega), set_far (by omega), set_far (by omega), set_far (by omega), set_far (by omega), set_far (by omega), set_far (by omega), set_far (by omega), set_far (by omega), set_far (by omega), set_far (by omega)]; exact hM'.put (by omega) _
  have m2 : ((((((((((((y0.setCell ⟨w.heap.size + 1 + 1, 1, none⟩ (.int .i64 s'.kind)).setCell ⟨w.heap.size + 1 + 1, 2, none⟩ (.string s'.name)).setCell ⟨w.heap.size + 1 + 1, 3, none⟩ (.int .i64 s'.e.kind)).setCell ⟨w.heap.size + 1 + 1, 4, none⟩ (.int .i64 s'.e.num)).setCell ⟨w.heap.size + 1 + 1, 5, none⟩ (.string s'.e.name)).setCell ⟨w.heap.size + 1 + 1, 6, none⟩ (.slice s'.e.base s'.e.kids.length s'.e.cap)).setCell ⟨w.heap.size + 1 + 1, 7, none⟩ (.int .i64 s'.f.kind)).setCell ⟨w.heap.size + 1 + 1, 8, none⟩ (.int .i64 s'.f.num)).setCell ⟨w.heap.size + 1 + 1, 9, none⟩ (.string s'.f.name)).setCell ⟨w.heap.size + 1 + 1, 10, none⟩ (.slice s'.f.base s'.f.kids.length s'.f.cap)).setCell ⟨w.heap.size + 1 + 1, 11, none⟩ (.slice s'.abase s'.la.length s'.acap)).setCell ⟨w.heap.size + 1 + 1, 12, none⟩ (.slice s'.bbase s'.lb.length s'.bcap)).cell? ⟨w.heap.size + 1 + 1, 2, none⟩ = some (.string s'.name) := by rw [set_far (by omega), set_far (by omega), set_far (by omega), set_far (by omega), set_far (by omega), set_far (by omega), set_far (by omega), set_far (by omega), set_far (by omega), set_far (by omega)]; exact (hM'.set 1 (.int .i64 s'.kind)).put (by omega) _
  have m3 : ((((((((((((y0.setCell ⟨w.heap.size + 1 + 1, 1, none⟩ (.int .i64 s'.kind)).setCell ⟨w.heap.size + 1 + 1, 2, none⟩ (.string s'.name)).setCell ⟨w.heap.size + 1 + 1, 3, none⟩ (.int .i64 s'.e.kind)).setCell ⟨w.heap.size + 1 + 1, 4, none⟩ (.int .i64 s'.e.num)).setCell ⟨w.heap.size + 1 + 1, 5, none⟩ (.string s'.e.name)).setCell ⟨w.heap.size + 1 + 1, 6, none⟩ (.slice s'.e.base s'.e.kids.length s'.e.cap)).setCell ⟨w.heap.size + 1 + 1, 7, none⟩ (.int .i64 s'.f.kind)).setCell ⟨w.heap.size + 1 + 1, 8, none⟩ (.int .i64 s'.f.num)).setCell ⟨w.heap.size + 1 + 1, 9, none⟩ (.string s'.f.name)).setCell ⟨w.heap.size + 1 + 1, 10, none⟩ (.slice s'.f.base s'.f.kids.length s'.f.cap)).setCell ⟨w.heap.size + 1 + 1, 11, none⟩ (.slice s'.abase s'.la.length s'.acap)).setCell ⟨w.heap.size + 1 + 1, 12, none⟩ (.slice s'.bbase s'.lb.length s'.bcap)).cell? ⟨w.heap.size + 1 + 1, 3, none⟩ = some (.int .i64 s'.e.kind) := by rw [set_far (by omega), set_far (by omega), set_far (by omega), set_far (by omega), set_far (by omega), set_far (by omega), set_far (by omega), set_far (by omega), set_far (by omega)]; exact ((hM'.set 1 (.int .i64 s'.kind)).set 2 (.string s'.name)).put (by omega) _
  have m4 : ((((((((((((y0.setCell ⟨w.heap.size + 1 + 1, 1, none⟩ (.int .i64 s'.kind)).setCell ⟨w.heap.size + 1 + 1, 2, none⟩ (.string s'.name)).setCell ⟨w.heap.size + 1 + 1, 3, none⟩ (.int .i64 s'.e.kind)).setCell ⟨w.heap.size + 1 + 1, 4, none⟩ (.int .i64 s'.e.num)).setCell ⟨w.heap.size + 1 + 1, 5, none⟩ (.string s'.e.name)).setCell ⟨w.heap.size + 1 + 1, 6, none⟩ (.slice s'.e.base s'.e.kids.length s'.e.cap)).setCell ⟨w.heap.size + 1 + 1, 7, none⟩ (.int .i64 s'.f.kind)).setCell ⟨w.heap.size + 1 + 1, 8, none⟩ (.int .i64 s'.f.num)).setCell ⟨w.heap.size + 1 + 1, 9, none⟩ (.string s'.f.name)).setCell ⟨w.heap.size + 1 + 1, 10, none⟩ (.slice s'.f.base s'.f.kids.length s'.f.cap)).setCell ⟨w.heap.size + 1 + 1, 11, none⟩ (.slice s'.abase s'.la.length s'.acap)).setCell ⟨w.heap.size + 1 + 1, 12, none⟩ (.slice s'.bbase s'.lb.length s'.bcap)).cell? ⟨w.heap.size + 1 + 1, 4, none⟩ = some (.int .i64 s'.e.num) := by rw [set_far (by omega), set_far (by omega), set_far (by omega), set_far (by omega), set_far (by omega), set_far (by omega), set_far (by omega), set_far (by omega)]; exact (((hM'.set 1 (.int .i64 s'.kind)).set 2 (.string s'.name)).set 3 (.int .i64 s'.e.kind)).put (by omega) _
  have m5 : ((((((((((((y0.setCell ⟨w.heap.size + 1 + 1, 1, none⟩ (.int .i64 s'.kind)).setCell ⟨w.heap.size + 1 + 1, 2, none⟩ (.string s'.name)).setCell ⟨w.heap.size + 1 + 1, 3, none⟩ (.int .i64 s'.e.kind)).setCell ⟨w.heap.size + 1 + 1, 4, none⟩ (.int .i64 s'.e.num)).setCell ⟨w.heap.size + 1 + 1, 5, none⟩ (.string s'.e.name)).setCell ⟨w.heap.size + 1 + 1, 6, none⟩ (.slice s'.e.base s'.e.kids.length s'.e.cap)).setCell ⟨w.heap.size + 1 + 1, 7, none⟩ (.int .i64 s'.f.kind)).setCell ⟨w.heap.size + 1 + 1, 8, none⟩ (.int .i64 s'.f.num)).setCell ⟨w.heap.size + 1 + 1, 9, none⟩ (.string s'.f.name)).setCell ⟨w.heap.size + 1 + 1, 10, none⟩ (.slice s'.f.base s'.f.kids.length s'.f.cap)).setCell ⟨w.heap.size + 1 + 1, 11, none⟩ (.slice s'.abase s'.la.length s'.acap)).setCell ⟨w.heap.size + 1 + 1, 12, none⟩ (.slice s'.bbase s'.lb.length s'.bcap)).cell? ⟨w.heap.size + 1 + 1, 5, none⟩ = some (.string s'.e.name) := by rw [set_far (by omega), set_far (by omega), set_far (by omega), set_far (by omega), set_far (by omega), set_far (by omega), set_far (by omega)]; exact ((((hM'.set 1 (.int .i64 s'.kind)).set 2 (.string s'.name)).set 3 (.int .i64 s'.e.kind)).set 4 (.int .i64 s'.e.num)).put (by omega) _
  have m6 : ((((((((((((y0.setCell ⟨w.heap.size + 1 + 1, 1, none⟩ (.int .i64 s'.kind)).setCell ⟨w.heap.size + 1 + 1, 2, none⟩ (.string s'.name)).setCell ⟨w.heap.size + 1 + 1, 3, none⟩ (.int .i64 s'.e.kind)).setCell ⟨w.heap.size + 1 + 1, 4, none⟩ (.int .i64 s'.e.num)).setCell ⟨w.heap.size + 1 + 1, 5, none⟩ (.string s'.e.name)).setCell ⟨w.heap.size + 1 + 1, 6, none⟩ (.slice s'.e.base s'.e.kids.length s'.e.cap)).setCell ⟨w.heap.size + 1 + 1, 7, none⟩ (.int .i64 s'.f.kind)).setCell ⟨w.heap.size + 1 + 1, 8, none⟩ (.int .i64 s'.f.num)).setCell ⟨w.heap.size + 1 + 1, 9, none⟩ (.string s'.f.name)).setCell ⟨w.heap.size + 1 + 1, 10, none⟩ (.slice s'.f.base s'.f.kids.length s'.f.cap)).setCell ⟨w.heap.size + 1 + 1, 11, none⟩ (.slice s'.abase s'.la.length s'.acap)).setCell ⟨w.heap.size + 1 + 1, 12, none⟩ (.slice s'.bbase s'.lb.length s'.bcap)).cell? ⟨w.heap.size + 1 + 1, 6, none⟩ = some (.slice s'.e.base s'.e.kids.length s'.e.cap) := by rw [set_far (by omega), set_far (by omega), set_far (by omega), set_far (by omega), set_far (by omega), set_far (by omega)]; exact (((((hM'.set 1 (.int .i64 s'.kind)).set 2 (.string s'.name)).set 3 (.int .i64 s'.e.kind)).set 4 (.int .i64 s'.e.num)).set 5 (.string s'.e.name)).put (by omega) _
  have m7 : ((((((((((((y0.setCell ⟨w.heap.size + 1 + 1, 1, none⟩ (.int .i64 s'.kind)).setCell ⟨w.heap.size + 1 + 1, 2, none⟩ (.string s'.name)).setCell ⟨w.heap.size + 1 + 1, 3, none⟩ (.int .i64 s'.e.kind)).setCell ⟨w.heap.size + 1 + 1, 4, none⟩ (.int .i64 s'.e.num)).setCell ⟨w.heap.size + 1 + 1, 5, none⟩ (.string s'.e.name)).setCell ⟨w.heap.size + 1 + 1, 6, none⟩ (.slice s'.e.base s'.e.kids.length s'.e.cap)).setCell ⟨w.heap.size + 1 + 1, 7, none⟩ (.int .i64 s'.f.kind)).setCell ⟨w.heap.size + 1 + 1, 8, none⟩ (.int .i64 s'.f.num)).setCell ⟨w.heap.size + 1 + 1, 9, none⟩ (.string s'.f.name)).setCell ⟨w.heap.size + 1 + 1, 10, none⟩ (.slice s'.f.base s'.f.kids.length s'.f.cap)).setCell ⟨w.heap.size + 1 + 1, 11, none⟩ (.slice s'.abase s'.la.length s'.acap)).setCell ⟨w.heap.size + 1 + 1, 12, none⟩ (.slice s'.bbase s'.lb.length s'.bcap)).cell? ⟨w.heap.size + 1 + 1, 7, none⟩ = some (.int .i64 s'.f.kind) := by rw [set_far (by omega), set_far (by omega), set_far (by omega), set_far (by omega), set_far (by omega)]; exact ((((((hM'.set 1 (.int .i64 s'.kind)).set 2 (.string s'.name)).set 3 (.int .i64 s'.e.kind)).set 4 (.int .i64 s'.e.num)).set 5 (.string s'.e.name)).set 6 (.slice s'.e.base s'.e.kids.length s'.e.cap)).put (by omega) _
  have m8 : ((((((((((((y0.setCell ⟨w.heap.size + 1 + 1, 1, none⟩ (.int .i64 s'.kind)).setCell ⟨w.heap.size + 1 + 1, 2, none⟩ (.string s'.name)).setCell ⟨w.heap.size + 1 + 1, 3, none⟩ (.int .i64 s'.e.kind)).setCell ⟨w.heap.size + 1 + 1, 4, none⟩ (.int .i64 s'.e.num)).setCell ⟨w.heap.size + 1 + 1, 5, none⟩ (.string s'.e.name)).setCell ⟨w.heap.size + 1 + 1, 6, none⟩ (.slice s'.e.base s'.e.kids.length s'.e.cap)).setCell ⟨w.heap.size + 1 + 1, 7, none⟩ (.int .i64 s'.f.kind)).setCell ⟨w.heap.size + 1 + 1, 8, none⟩ (.int .i64 s'.f.num)).setCell ⟨w.heap.size + 1 + 1, 9, none⟩ (.string s'.f.name)).setCell ⟨w.heap.size + 1 + 1, 10, none⟩ (.slice s'.f.base s'.f.kids.length s'.f.cap)).setCell ⟨w.heap.size + 1 + 1, 11, none⟩ (.slice s'.abase s'.la.length s'.acap)).setCell ⟨w.heap.size + 1 + 1, 12, none⟩ (.slice s'.bbase s'.lb.length s'.bcap)).cell? ⟨w.heap.size + 1 + 1, 8, none⟩ = some (.int .i64 s'.f.num) := by rw [set_far (by omega), set_far (by omega), set_far (by omega), set_far (by omega)]; exact (((((((hM'.set 1 (.int .i64 s'.kind)).set 2 (.string s'.name)).set 3 (.int .i64 s'.e.kind)).set 4 (.int .i64 s'.e.num)).set 5 (.string s'.e.name)).set 6 (.slice s'.e.base s'.e.kids.length s'.e.cap)).set 7 (.int .i64 s'.f.kind)).put (by omega) _
  have m9 : ((((((((((((y0.setCell ⟨w.heap.size + 1 + 1, 1, none⟩ (.int .i64 s'.kind)).setCell ⟨w.heap.size + 1 + 1, 2, none⟩ (.string s'.name)).setCell ⟨w.heap.size + 1 + 1, 3, none⟩ (.int .i64 s'.e.kind)).setCell ⟨w.heap.size + 1 + 1, 4, none⟩ (.int .i64 s'.e.num)).setCell ⟨w.heap.size + 1 + 1, 5, none⟩ (.string s'.e.name)).setCell ⟨w.heap.size + 1 + 1, 6, none⟩ (.slice s'.e.base s'.e.kids.length s'.e.cap)).setCell ⟨w.heap.size + 1 + 1, 7, none⟩ (.int .i64 s'.f.kind)).setCell ⟨w.heap.size + 1 + 1, 8, none⟩ (.int .i64 s'.f.num)).setCell ⟨w.heap.size + 1 + 1, 9, none⟩ (.string s'.f.name)).setCell ⟨w.heap.size + 1 + 1, 10, none⟩ (.slice s'.f.base s'.f.kids.length s'.f.cap)).setCell ⟨w.heap.size + 1 + 1, 11, none⟩ (.slice s'.abase s'.la.length s'.acap)).setCell ⟨w.heap.size + 1 + 1, 12, none⟩ (.slice s'.bbase s'.lb.length s'.bcap)).cell? ⟨w.heap.size + 1 + 1, 9, none⟩ = some (.string s'.f.name) := by rw [set_far (by omega), set_far (by omega), set_far (by omega)]; exact ((((((((hM'.set 1 (.int .i64 s'.kind)).set 2 (.string s'.name)).set 3 (.int .i64 s'.e.kind)).set 4 (.int .i64 s'.e.num)).set 5 (.string s'.e.name)).set 6 (.slice s'.e.base s'.e.kids.length s'.e.cap)).set 7 (.int .i64 s'.f.kind)).set 8 (.int .i64 s'.f.num)).put (by omega) _
  have m10 : ((((((((((((y0.setCell ⟨w.heap.size + 1 + 1, 1, none⟩ (.int .i64 s'.kind)).setCell ⟨w.heap.size + 1 + 1, 2, none⟩ (.string s'.name)).setCell ⟨w.heap.size + 1 + 1, 3, none⟩ (.int .i64 s'.e.kind)).setCell ⟨w.heap.size + 1 + 1, 4, none⟩ (.int .i64 s'.e.num)).setCell ⟨w.heap.size + 1 + 1, 5, none⟩ (.string s'.e.name)).setCell ⟨w.heap.size + 1 + 1, 6, none⟩ (.slice s'.e.base s'.e.kids.length s'.e.cap)).setCell ⟨w.heap.size + 1 + 1, 7, none⟩ (.int .i64 s'.f.kind)).setCell ⟨w.heap.size + 1 + 1, 8, none⟩ (.int .i64 s'.f.num)).setCell ⟨w.heap.size + 1 + 1, 9, none⟩ (.string s'.f.name)).setCell ⟨w.heap.size + 1 + 1, 10, none⟩ (.slice s'.f.base s'.f.kids.length s'.f.cap)).setCell ⟨w.heap.size + 1 + 1, 11, none⟩ (.slice s'.abase s'.la.length s'.acap)).setCell ⟨w.heap.size + 1 + 1, 12, none⟩ (.slice s'.bbase s'.lb.length s'.bcap)).cell? ⟨w.heap.size + 1 + 1, 10, none⟩ = some (.slice s'.f.base s'.f.kids.length s'.f.cap) := by rw [set_far (by omega), set_far (by omega)]; exact (((((((((hM'.set 1 (.int .i64 s'.kind)).set 2 (.string s'.name)).set 3 (.int .i64 s'.e.kind)).set 4 (.int .i64 s'.e.num)).set 5 (.string s'.e.name)).set 6 (.slice s'.e.base s'.e.kids.length s'.e.cap)).set 7 (.int .i64 s'.f.kind)).set 8 (.int .i64 s'.f.num)).set 9 (.string s'.f.name)).put (by omega) _
  have m11 : ((((((((((((y0.setCell ⟨w.heap.size + 1 + 1, 1, none⟩ (.int .i64 s'.kind)).setCell ⟨w.heap.size + 1 + 1, 2, none⟩ (.string s'.name)).setCell ⟨w.heap.size + 1 + 1, 3, none⟩ (.int .i64 s'.e.kind)).setCell ⟨w.heap.size + 1 + 1, 4, none⟩ (.int .i64 s'.e.num)).setCell ⟨w.heap.size + 1 + 1, 5, none⟩ (.string s'.e.name)).setCell ⟨w.heap.size + 1 + 1, 6, none⟩ (.slice s'.e.base s'.e.kids.length s'.e.cap)).setCell ⟨w.heap.size + 1 + 1, 7, none⟩ (.int .i64 s'.f.kind)).setCell ⟨w.heap.size + 1 + 1, 8, none⟩ (.int .i64 s'.f.num)).setCell ⟨w.heap.size + 1 + 1, 9, none⟩ (.string s'.f.name)).setCell ⟨w.heap.size + 1 + 1, 10, none⟩ (.slice s'.f.base s'.f.kids.length s'.f.cap)).setCell ⟨w.heap.size + 1 + 1, 11, none⟩ (.slice s'.abase s'.la.length s'.acap)).setCell ⟨w.heap.size + 1 + 1, 12, none⟩ (.slice s'.bbase s'.lb.length s'.bcap)).cell? ⟨w.heap.size + 1 + 1, 11, none⟩ = some (.slice s'.abase s'.la.length s'.acap) := by rw [set_far (by omega)]; exact ((((((((((hM'.set 1 (.int .i64 s'.kind)).set 2 (.string s'.name)).set 3 (.int .i64 s'.e.kind)).set 4 (.int .i64 s'.e.num)).set 5 (.string s'.e.name)).set 6 (.slice s'.e.base s'.e.kids.length s'.e.cap)).set 7 (.int .i64 s'.f.kind)).set 8 (.int .i64 s'.f.num)).set 9 (.string s'.f.name)).set 10 (.slice s'.f.base s'.f.kids.length s'.f.cap)).put (by omega) _
  have m12 : ((((((((((((y0.setCell ⟨w.heap.size + 1 + 1, 1, none⟩ (.int .i64 s'.kind)).setCell ⟨w.heap.size + 1 + 1, 2, none⟩ (.string s'.name)).setCell ⟨w.heap.size + 1 + 1, 3, none⟩ (.int .i64 s'.e.kind)).setCell ⟨w.heap.size + 1 + 1, 4, none⟩ (.int .i64 s'.e.num)).setCell ⟨w.heap.size + 1 + 1, 5, none⟩ (.string s'.e.name)).setCell ⟨w.heap.size + 1 + 1, 6, none⟩ (.slice s'.e.base s'.e.kids.length s'.e.cap)).setCell ⟨w.heap.size + 1 + 1, 7, none⟩ (.int .i64 s'.f.kind)).setCell ⟨w.heap.size + 1 + 1, 8, none⟩ (.int .i64 s'.f.num)).setCell ⟨w.heap.size + 1 + 1, 9, none⟩ (.string s'.f.name)).setCell ⟨w.heap.size + 1 + 1, 10, none⟩ (.slice s'.f.base s'.f.kids.length s'.f.cap)).setCell ⟨w.heap.size + 1 + 1, 11, none⟩ (.slice s'.abase s'.la.length s'.acap)).setCell ⟨w.heap.size + 1 + 1, 12, none⟩ (.slice s'.bbase s'.lb.length s'.bcap)).cell? ⟨w.heap.size + 1 + 1, 12, none⟩ = some (.slice s'.bbase s'.lb.length s'.bcap) := by exact (((((((((((hM'.set 1 (.int .i64 s'.kind)).set 2 (.string s'.name)).set 3 (.int .i64 s'.e.kind)).set 4 (.int .i64 s'.e.num)).set 5 (.string s'.e.name)).set 6 (.slice s'.e.base s'.e.kids.length s'.e.cap)).set 7 (.int .i64 s'.f.kind)).set 8 (.int .i64 s'.f.num)).set 9 (.string s'.f.name)).set 10 (.slice s'.f.base s'.f.kids.length s'.f.cap)).set 11 (.slice s'.abase s'.la.length s'.acap)).put (by omega) _
  have m0 : ((((((((((((y0.setCell ⟨w.heap.size + 1 + 1, 1, none⟩ (.int .i64 s'.kind)).setCell ⟨w.heap.size + 1 + 1, 2, none⟩ (.string s'.name)).setCell ⟨w.heap.size + 1 + 1, 3, none⟩ (.int .i64 s'.e.kind)).setCell ⟨w.heap.size + 1 + 1, 4, none⟩ (.int .i64 s'.e.num)).setCell ⟨w.heap.size + 1 + 1, 5, none⟩ (.string s'.e.name)).setCell ⟨w.heap.size + 1 + 1, 6, none⟩ (.slice s'.e.base s'.e.kids.length s'.e.cap)).setCell ⟨w.heap.size + 1 + 1, 7, none⟩ (.int .i64 s'.f.kind)).setCell ⟨w.heap.size + 1 + 1, 8, none⟩ (.int .i64 s'.f.num)).setCell ⟨w.heap.size + 1 + 1, 9, none⟩ (.string s'.f.name)).setCell ⟨w.heap.size + 1 + 1, 10, none⟩ (.slice s'.f.base s'.f.kids.length s'.f.cap)).setCell ⟨w.heap.size + 1 + 1, 11, none⟩ (.slice s'.abase s'.la.length s'.acap)).setCell ⟨w.heap.size + 1 + 1, 12, none⟩ (.slice s'.bbase s'.lb.length s'.bcap)).cell? ⟨w.heap.size + 1 + 1, 0, none⟩ = some (.int .i64 x.op) := by rw [set_far (by omega), set_far (by omega), set_far (by omega), set_far (by omega), set_far (by omega), set_far (by omega), set_far (by omega), set_far (by omega), set_far (by omega), set_far (by omega), set_far (by omega), set_far (by omega)]; exact n0'
  clear z1 fz1 z2 fz2 z3 fz3 z4 fz4 z5 fz5 z6 fz6 z7 fz7 z8 fz8 z9 fz9 z10 fz10 z11 fz11 z12 fz12
  obtain ⟨X0, hX⟩ : ∃ X, ((((((((((((y0.setCell ⟨w.heap.size + 1 + 1, 1, none⟩ (.int .i64 s'.kind)).setCell ⟨w.heap.size + 1 + 1, 2, none⟩ (.string s'.name)).setCell ⟨w.heap.size + 1 + 1, 3, none⟩ (.int .i64 s'.e.kind)).setCell ⟨w.heap.size + 1 + 1, 4, none⟩ (.int .i64 s'.e.num)).setCell ⟨w.heap.size + 1 + 1, 5, none⟩ (.string s'.e.name)).setCell ⟨w.heap.size + 1 + 1, 6, none⟩ (.slice s'.e.base s'.e.kids.length s'.e.cap)).setCell ⟨w.heap.size + 1 + 1, 7, none⟩ (.int .i64 s'.f.kind)).setCell ⟨w.heap.size + 1 + 1, 8, none⟩ (.int .i64 s'.f.num)).setCell ⟨w.heap.size + 1 + 1, 9, none⟩ (.string s'.f.name)).setCell ⟨w.heap.size + 1 + 1, 10, none⟩ (.slice s'.f.base s'.f.kids.length s'.f.cap)).setCell ⟨w.heap.size + 1 + 1, 11, none⟩ (.slice s'.abase s'.la.length s'.acap)).setCell ⟨w.heap.size + 1 + 1, 12, none⟩ (.slice s'.bbase s'.lb.length s'.bcap)) = X := ⟨_, rfl⟩
  rw [hX] at hK hR m0 m1 m2 m3 m4 m5 m6 m7 m8 m9 m10 m11 m12 ⊢
  have hzx : X0.heap.size = y0.heap.size := by rw [← hX]; simp
  clear hX
  have q13 := hK.cell p13 (by dsimp only; omega)
  have hT2 := hT'.of_block (hK.block _ (by omega) (by omega))
  obtain ⟨o13, z13⟩ := hR.cell (o := 13) (by omega)
  have fz13 := hR.frozen 13
  obtain ⟨t0, u0⟩ := hT2.cell (o := 0) (by omega)
  have ft0 := hT2.frozen 0
  obtain ⟨t1, u1⟩ := hT2.cell (o := 1) (by omega)
  have ft1 := hT2.frozen 1
  obtain ⟨t2, u2⟩ := hT2.cell (o := 2) (by omega)
  have ft2 := hT2.frozen 2
  obtain ⟨t3, u3⟩ := hT2.cell (o := 3) (by omega)
  have ft3 := hT2.frozen 3
  obtain ⟨t4, u4⟩ := hT2.cell (o := 4) (by omega)
  have ft4 := hT2.frozen 4
  obtain ⟨t5, u5⟩ := hT2.cell (o := 5) (by omega)
  have ft5 := hT2.frozen 5
  obtain ⟨t6, u6⟩ := hT2.cell (o := 6) (by omega)
  have ft6 := hT2.frozen 6
  obtain ⟨t7, u7⟩ := hT2.cell (o := 7) (by omega)
  have ft7 := hT2.frozen 7
  obtain ⟨t8, u8⟩ := hT2.cell (o := 8) (by omega)
  have ft8 := hT2.frozen 8
  obtain ⟨t9, u9⟩ := hT2.cell (o := 9) (by omega)
  have ft9 := hT2.frozen 9
  obtain ⟨t10, u10⟩ := hT2.cell (o := 10) (by omega)
  have ft10 := hT2.frozen 10
  obtain ⟨t11, u11⟩ := hT2.cell (o := 11) (by omega)
  have ft11 := hT2.frozen 11
  obtain ⟨t12, u12⟩ := hT2.cell (o := 12) (by omega)
  have ft12 := hT2.frozen 12
  obtain ⟨t13, u13⟩ := hT2.cell (o := 13) (by omega)
  have ft13 := hT2.frozen 13
  have hL1 := hL0.plain hK (fun b hb => by omega)
  have hBX : Below w.heap.size w X0 := (hB.trans (hb.mono (by omega))).trans (hK.below (by omega) (fun k h => by omega))
  clear hP hT hM hM' hT' hLX hokX hL0 hb hL n0 n0' p13 hok
  go_wp2
  have hK2 := ((((((((((((((((Kept.refl (fun k => k = w.heap.size + 1 ∨ k = w.heap.size + 1 + 1) X0).setCell (p := ⟨w.heap.size + 1 + 1, 13, none⟩) (.inr rfl) (.int .i64 x.dst)).setCell (p := ⟨w.heap.size + 1, 0, none⟩) (.inl rfl) (.int .i64 x.op)).setCell (p := ⟨w.heap.size + 1, 1, none⟩) (.inl rfl) (.int .i64 s'.kind)).setCell (p := ⟨w.heap.size + 1, 2, none⟩) (.inl rfl) (.string s'.name)).setCell (p := ⟨w.heap.size + 1, 3, none⟩) (.inl rfl) (.int .i64 s'.e.kind)).setCell (p := ⟨w.heap.size + 1, 4, none⟩) (.inl rfl) (.int .i64 s'.e.num)).setCell (p := ⟨w.heap.size + 1, 5, none⟩) (.inl rfl) (.string s'.e.name)).setCell (p := ⟨w.heap.size + 1, 6, none⟩) (.inl rfl) (.slice s'.e.base s'.e.kids.length s'.e.cap)).setCell (p := ⟨w.heap.size + 1, 7, none⟩) (.inl rfl) (.int .i64 s'.f.kind)).setCell (p := ⟨w.heap.size + 1, 8, none⟩) (.inl rfl) (.int .i64 s'.f.num)).setCell (p := ⟨w.heap.size + 1, 9, none⟩) (.inl rfl) (.string s'.f.name)).setCell (p := ⟨w.heap.size + 1, 10, none⟩) (.inl rfl) (.slice s'.f.base s'.f.kids.length s'.f.cap)).setCell (p := ⟨w.heap.size + 1, 11, none⟩) (.inl rfl) (.slice s'.abase s'.la.length s'.acap)).setCell (p := ⟨w.heap.size + 1, 12, none⟩) (.inl rfl) (.slice s'.bbase s'.lb.length s'.bcap)).setCell (p := ⟨w.heap.size + 1, 13, none⟩) (.inl rfl) (.int .i64 x.dst))
  first | go_returns | (refine bodyPost_ret (by simp [results, Try.results41, go_sem, *]; try rfl) rfl ?_)
  exact ⟨⟨x.op, s', x.dst⟩, rfl, ⟨rfl, hS0, rfl⟩, (hL1.plain hK2 (fun b hb => by omega)).wider (fun b hb => by omega), hBX.trans (hK2.below (by omega) (fun k h => by omega))⟩
set_option maxRecDepth 10000 in
set_option maxHeartbeats 4000000 in
theorem IX.tos (ks : List IX) (a : Option Addr) (c : Nat) (ok : Nat → Prop) (w : World) (hok : ∀ b, ok b → b < w.heap.size) (hcl : IX.Row ok w a ks) (hlen : ks.length ≤ 1048577)
    (hL : ∀ (i : Nat) (k : IX), ks[i]? = some k → SmallS k.s ∧ LiesS ok w k.s) :
    Calls Try.prog 17 #[.slice a ks.length c] w fun e w' => ∃ us : List IX, e = .returned (.slice (some ⟨w.heap.size, 0, none⟩) ks.length ks.length) ∧ us.length = ks.length ∧
      (∀ (i : Nat) (x y : IX), ks[i]? = some x → us[i]? = some y → IX.Same x y ∧ Cells14 w' w.heap.size (0 + i * 14) y ∧ LiesS (fun b => w.heap.size < b ∧ Pl w' b) w' y.s) ∧ Pl w' w.heap.size ∧ Below w.heap.size w w' := by
  have H : ∀ (i : Nat) (k : IX), ks[i]? = some k → ∀ (w' : World), Below w.heap.size w w' →
      Calls Try.prog 41 #[k.val] w' fun e w'' => ∃ y : IX, e = .returned y.val ∧ IX.Same k y ∧ LiesS (fun b => w'.heap.size ≤ b ∧ Pl w'' b) w'' y.s ∧ Below w'.heap.size w' w'' := fun i k hk W hB =>
    IX.to k (hL i k hk).1 ok W (fun b hb => Nat.lt_of_lt_of_le (hok b hb) hB.size) ((hL i k hk).2.under hB hok)
  clear hL
  obtain ⟨len, hl⟩ : ∃ len, ks.length = len := ⟨_, rfl⟩
  rw [hl] at hlen ⊢
  obtain ⟨i0, hi, hz0, hz1, hz2⟩ := info_parts infoI
  obtain ⟨W1, hW1⟩ : ∃ W1, w.alloc (.cells (madeCells (Value.cells (.agg #[.int .i64 0, .int .i64 0, .string ByteArray.empty, .int .i64 0, .int .i64 0, .string ByteArray.empty, .slice none 0 0, .int .i64 0, .int .i64 0, .string ByteArray.empty, .slice none 0 0, .slice none 0 0, .slice none 0 0, .int .i64 0])) (len * 14)) 52) = W1 := ⟨_, rfl⟩
  have hmk : (Instr.makeSlice 24 (.int .i64 (len : Int)) (.int .i64 (len : Int))).run Try.prog w = .ok (.slice (some ⟨w.heap.size, 0, none⟩) len len) W1 := by
    have h := run_make w 24 52 i0 _ Try.underlying24 hi hz0 .i64 .i64 len len (by omega) (by omega) (by rw [hz2]; omega) (by omega)
    simp only [Int.toNat_natCast, hz1] at h
    rw [hW1] at h
    exact h
  have hR1 : RowAt W1 w.heap.size (len * 14) 52 := by
    have h := RowAt.new w (madeCells (Value.cells (.agg #[.int .i64 0, .int .i64 0, .string ByteArray.empty, .int .i64 0, .int .i64 0, .string ByteArray.empty, .slice none 0 0, .int .i64 0, .int .i64 0, .string ByteArray.empty, .slice none 0 0, .slice none 0 0, .slice none 0 0, .int .i64 0])) (len * 14)) 52
    rw [hW1, size_madeCells] at h
    exact h
  have hB1 : Below w.heap.size w W1 := by rw [← hW1]; exact (Below.refl _ w).alloc (Nat.le_refl _) _
  clear hW1
  go_enter Try.func17, Try.ntmps17
  go_wp2
  go_loopw [4] (fun v4 wr => ∃ (i : Nat) (us : List IX), v4 = .int .i64 i ∧ i ≤ len ∧ us.length = i ∧ Below w.heap.size w wr ∧ RowAt wr w.heap.size (len * 14) 52 ∧
      (∀ (j : Nat) (x y : IX), ks[j]? = some x → us[j]? = some y → IX.Same x y ∧ Cells14 wr w.heap.size (0 + j * 14) y ∧ LiesS (fun b => w.heap.size < b ∧ Pl wr b) wr y.s)) (fun v4 _ => len - (intOf v4).toNat)
  case atStart => exact ⟨0, [], rfl, by omega, rfl, hB1, hR1, fun j x y _ h => by simp at h⟩
  case round =>
    obtain ⟨i, us, rfl, hi, hus, hB, hR, hS⟩ := hrel
    by_cases hlt : i < len
    · obtain ⟨x, hx⟩ : ∃ x, ks[i]? = some x := ⟨_, List.getElem?_eq_getElem (by omega)⟩
      obtain ⟨b1, o1, hbase1, hok1, hc1⟩ := hcl i x hx
      obtain ⟨c0, c1, c2, c3, c4, c5, c6, c7, c8, c9, c10, c11, c12, c13⟩ := hc1.below hB (hok b1 hok1)
      have hcall := H i x hx wr hB
      subst hbase1
      go_wp2_with fail
      go_at_call 41
      refine hcall.mono ?_
      clear hcall c0 c1 c2 c3 c4 c5 c6 c7 c8 c9 c10 c11 c12 c13
      rintro e w4 ⟨y, rfl, hxy, hLy, hB4⟩
      have hR4 := hR.of_block (hB4.block _ hR.lt)
      obtain ⟨v0, r0⟩ := hR4.cell (o := i * 14) (by omega)
      have f0 := hR4.frozen (i * 14)
      obtain ⟨v1, r1⟩ := hR4.cell (o := i * 14 + 1) (by omega)
      have f1 := hR4.frozen (i * 14 + 1)
      obtain ⟨v2, r2⟩ := hR4.cell (o := i * 14 + 2) (by omega)
      have f2 := hR4.frozen (i * 14 + 2)
      obtain ⟨v3, r3⟩ := hR4.cell (o := i * 14 + 3) (by omega)
      have f3 := hR4.frozen (i * 14 + 3)
      obtain ⟨v4, r4⟩ := hR4.cell (o := i * 14 + 4) (by omega)
      have f4 := hR4.frozen (i * 14 + 4)
      obtain ⟨v5, r5⟩ := hR4.cell (o := i * 14 + 5) (by omega)
      have f5 := hR4.frozen (i * 14 + 5)
      obtain ⟨v6, r6⟩ := hR4.cell (o := i * 14 + 6) (by omega)
      have f6 := hR4.frozen (i * 14 + 6)
      obtain ⟨v7, r7⟩ := hR4.cell (o := i * 14 + 7) (by omega)
      have f7 := hR4.frozen (i * 14 + 7)
      obtain ⟨v8, r8⟩ := hR4.cell (o := i * 14 + 8) (by omega)
      have f8 := hR4.frozen (i * 14 + 8)
      obtain ⟨v9, r9⟩ := hR4.cell (o := i * 14 + 9) (by omega)
      have f9 := hR4.frozen (i * 14 + 9)
      obtain ⟨v10, r10⟩ := hR4.cell (o := i * 14 + 10) (by omega)
      have f10 := hR4.frozen (i * 14 + 10)
      obtain ⟨v11, r11⟩ := hR4.cell (o := i * 14 + 11) (by omega)
      have f11 := hR4.frozen (i * 14 + 11)
      obtain ⟨v12, r12⟩ := hR4.cell (o := i * 14 + 12) (by omega)
      have f12 := hR4.frozen (i * 14 + 12)
      obtain ⟨v13, r13⟩ := hR4.cell (o := i * 14 + 13) (by omega)
      have f13 := hR4.frozen (i * 14 + 13)
      obtain ⟨p1, p2, p3, p4⟩ := put14 hR4 (i * 14) (by omega) y
      go_wp2
      have hg : w.heap.size < wr.heap.size := hR.lt
      refine ⟨⟨i + 1, us ++ [y], by go_num, by omega, by simp [hus], ?_, p1, ?_⟩, ?_⟩
      · exact (hB.trans (hB4.mono hB.size)).trans (p2.below (by have := hB4.size; omega) (fun k h => by omega))
      · intro j x' y' hx' hy'
        by_cases hj : j < i
        · rw [List.getElem?_append_left (by omega)] at hy'
          obtain ⟨q1, q2, q3⟩ := hS j x' y' hx' hy'
          refine ⟨q1, p4 (0 + j * 14) y' (by omega) (q2.below hB4 hg), ?_⟩
          have q4 := q3.plain (Kept.of_new (fun k => k = w.heap.size) hB4) (fun b hb => by omega)
          exact q4.plain p2 (fun b hb => by omega)
        · have hji : j = i := by
            have := (List.getElem?_eq_some_iff.1 hy').1
            simp [hus] at this
            omega
          subst hji
          rw [List.getElem?_append_right (by omega)] at hy'
          simp [hus] at hy'
          subst hy'
          rw [hx] at hx'
          cases hx'
          refine ⟨hxy, by rw [Nat.zero_add]; exact p3, ?_⟩
          have q4 := hLy.wider (Q := fun b => w.heap.size < b) (fun b hb => by omega)
          exact q4.plain p2 (fun b hb => by omega)
      · simp [intOf]
        omega
    · have he : i = len := by omega
      go_wp2
      go_returns
      exact ⟨us, rfl, by omega, hS, hR.plain, hB⟩
theorem cellsTIX : Try.prog.cellsOf 75 = 14 := by kernel_rfl
abbrev IX.cells (x : IX) : List Value := [.int .i64 x.op, .int .i64 x.s.kind, .string x.s.name, .int .i64 x.s.e.kind, .int .i64 x.s.e.num, .string x.s.e.name, .slice x.s.e.base x.s.e.kids.length x.s.e.cap, .int .i64 x.s.f.kind, .int .i64 x.s.f.num, .string x.s.f.name, .slice x.s.f.base x.s.f.kids.length x.s.f.cap, .slice x.s.abase x.s.la.length x.s.acap, .slice x.s.bbase x.s.lb.length x.s.bcap, .int .i64 x.dst]
set_option maxRecDepth 100000 in
theorem readI {H : Type} {enc : TypeId × Value → H} {W : World} {base : Nat} {spare : Nat → Bool} {held : Bool} (fuel : Nat) (cs : List Value) (x : DataW H × List MemPlace)
    (h : DataW.trod enc Try.prog W base spare held fuel 75 cs = some x) : ∃ q : IX, cs = q.cells ∧ WideS q.s ∧ LiesS (fun b => b < W.heap.size) W q.s := by
  obtain ⟨xs, n, rfl, -, hl, hlen, hf⟩ := DataW.trod_struct Try.underlying75 h
  rw [cellsTIX] at hl
  obtain ⟨c0, c1, c2, c3, c4, c5, c6, c7, c8, c9, c10, c11, c12, c13, rfl⟩ : ∃ c0 c1 c2 c3 c4 c5 c6 c7 c8 c9 c10 c11 c12 c13, cs = [c0, c1, c2, c3, c4, c5, c6, c7, c8, c9, c10, c11, c12, c13] := by
    match cs, hl with
    | [c0, c1, c2, c3, c4, c5, c6, c7, c8, c9, c10, c11, c12, c13], _ => exact ⟨c0, c1, c2, c3, c4, c5, c6, c7, c8, c9, c10, c11, c12, c13, rfl⟩
  obtain ⟨y0, y1, y2, rfl⟩ : ∃ y0 y1 y2, xs = [y0, y1, y2] := by
    match xs, hlen with
    | [y0, y1, y2], _ => exact ⟨y0, y1, y2, rfl⟩
  have g0 : DataW.trod enc Try.prog W base spare held n 3 (List.take (Try.prog.cellsOf 3) (List.drop 0 [c0, c1, c2, c3, c4, c5, c6, c7, c8, c9, c10, c11, c12, c13])) = some y0 := hf 0 _ rfl
  have g1 : DataW.trod enc Try.prog W base spare held n 44 (List.take (Try.prog.cellsOf 44) (List.drop 1 [c0, c1, c2, c3, c4, c5, c6, c7, c8, c9, c10, c11, c12, c13])) = some y1 := hf 1 _ rfl
  have g2 : DataW.trod enc Try.prog W base spare held n 3 (List.take (Try.prog.cellsOf 3) (List.drop 13 [c0, c1, c2, c3, c4, c5, c6, c7, c8, c9, c10, c11, c12, c13])) = some y2 := hf 2 _ rfl
  simp only [cellsInt, cellsTST, List.drop_zero, List.drop_succ_cons, List.take_succ_cons, List.take_zero, List.getElem?_cons_zero, List.getElem?_cons_succ] at g0 g1 g2
  obtain ⟨k0, e0, -, -⟩ := DataW.trod_int Try.underlying3 g0
  obtain ⟨k2, e2, -, -⟩ := DataW.trod_int Try.underlying3 g2
  obtain ⟨s, e1, hW, hL⟩ := readS n _ _ g1
  simp only [List.cons.injEq, and_true] at e0 e1 e2
  subst e0 e2
  obtain ⟨rfl, rfl, rfl, rfl, rfl, rfl, rfl, rfl, rfl, rfl, rfl, rfl⟩ := e1
  exact ⟨⟨k0, s, k2⟩, rfl, hW, hL⟩
set_option maxRecDepth 100000 in
theorem readsI {H : Type} {enc : TypeId × Value → H} {W : World} {base : Nat} {spare : Nat → Bool} {held : Bool} (n : Nat)
    (c : Value) (y : DataW H × List MemPlace) (g : DataW.trod enc Try.prog W base spare held n 33 [c] = some y) :
    ∃ (a : Option Addr) (cap : Nat) (ks : List IX), c = .slice a ks.length cap ∧ ks.length ≤ maxLen ∧ IX.Row (fun b => b < W.heap.size) W a ks ∧ ∀ (i : Nat) (k : IX), ks[i]? = some k → WideS k.s ∧ LiesS (fun b => b < W.heap.size) W k.s := by
  rcases DataW.trod_slice Try.underlying33 g with ⟨e3, -⟩ | ⟨a, len, cap, elems, rest, n', rfl, e3, -, hb, hlc, hcm, hel, hget, -, -⟩
  · simp only [List.cons.injEq, and_true] at e3
    subst e3
    exact ⟨none, 0, [], rfl, Nat.zero_le _, fun i k hk => by simp at hk, fun i k hk => by simp at hk⟩
  · simp only [List.cons.injEq, and_true] at e3
    subst e3
    rw [cellsTIX] at hget
    have hkid : ∀ i, i < len → ∃ q : IX, WideS q.s ∧ LiesS (fun b => b < W.heap.size) W q.s ∧ ∃ cs', W.cells? base (a.add (i * 14)) 14 = some cs' ∧ cs' = q.cells := by
      intro i hi
      have h1 := hget i hi
      rw [List.getElem?_eq_getElem (by omega)] at h1
      obtain ⟨cs', h2, h3⟩ := Option.bind_eq_some_iff.1 h1
      obtain ⟨q, h4, h5, h6⟩ := readI n' cs' _ h3
      exact ⟨q, h5, h6, cs', h2, h4⟩
    obtain ⟨ks, hks, hq⟩ := list_of hkid
    refine ⟨some a, cap, ks, by rw [hks], by omega, fun i q hk => ?_, fun i q hk => ⟨(hq i q hk).1, (hq i q hk).2.1⟩⟩
    obtain ⟨-, -, cs', h2, h4⟩ := hq i q hk
    obtain ⟨-, -, h5⟩ := World.cells?_some h2
    obtain ⟨b, o, spot⟩ := a
    have hspot : spot = none := by
      obtain ⟨q0, -, -, cs0, k2, k4⟩ := hkid 0 (by have := (List.getElem?_eq_some_iff.1 hk).1; omega)
      obtain ⟨-, -, k5⟩ := World.cells?_some k2
      have k6 := k5 0 (by omega)
      rw [k4] at k6
      have k7 := World.cell?_spot k6
      simpa [Addr.add] using k7
    subst hspot
    subst h4
    have p0 := h5 0 (by omega)
    have p1 := h5 1 (by omega)
    have p2 := h5 2 (by omega)
    have p3 := h5 3 (by omega)
    have p4 := h5 4 (by omega)
    have p5 := h5 5 (by omega)
    have p6 := h5 6 (by omega)
    have p7 := h5 7 (by omega)
    have p8 := h5 8 (by omega)
    have p9 := h5 9 (by omega)
    have p10 := h5 10 (by omega)
    have p11 := h5 11 (by omega)
    have p12 := h5 12 (by omega)
    have p13 := h5 13 (by omega)
    rw [add_add] at p0 p1 p2 p3 p4 p5 p6 p7 p8 p9 p10 p11 p12 p13
    exact ⟨b, o, rfl, World.block_lt_of_cell? W _ p0, p0, p1, p2, p3, p4, p5, p6, p7, p8, p9, p10, p11, p12, p13⟩
end Go.Proofs.Ytimfdfeleoaehaa
