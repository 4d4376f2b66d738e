/-
  A copy of a statement in new memory is the same in all parts.
-/
import Derived.Test.YtimfdfeleoaehaaStmtC
namespace Go.Proofs.Ytimfdfeleoaehaa
open Go.RowKit
set_option linter.unusedSimpArgs false
set_option linter.unusedVariables false

set_option maxRecDepth 10000 in
set_option maxHeartbeats 4000000 in
theorem toS1 (sz : Nat) : ∀ (s : SX), s.size ≤ sz → SmallS s → ∀ (ok : Nat → Prop) (w : World), (∀ b, ok b → b < w.heap.size) → LiesS ok w s →
    Calls Try.prog 23 #[s.val] w fun e w' => ∃ s' : SX, e = .returned s'.val ∧ SameS s s' ∧ LiesS (fun b => w.heap.size ≤ b ∧ Pl w' b) w' s' ∧ Below w.heap.size w w' := by
  induction sz with
  | zero => intro s h; rw [SX.size_eq] at h; omega
  | succ sz ih =>
  intro s hsz hm ok w hok hL
  obtain ⟨m1, m2, m3, m4, m5, m6⟩ := hm.parts
  have hse := s.size_eq
  go_enter Try.func23, Try.ntmps23
  go_wp2_with fail
  obtain ⟨W1, hW1⟩ : ∃ W1, w.alloc (.cells #[.int .i64 s.kind, .string s.name, .int .i64 s.e.kind, .int .i64 s.e.num, .string s.e.name, .slice s.e.base s.e.kids.length s.e.cap, .int .i64 s.f.kind, .int .i64 s.f.num, .string s.f.name, .slice s.f.base s.f.kids.length s.f.cap, .slice s.abase s.la.length s.acap, .slice s.bbase s.lb.length s.bcap] 44) = W1 := ⟨_, rfl⟩
  obtain ⟨W2, hW2⟩ : ∃ W2, W1.alloc (.cells #[.int .i64 0, .string ⟨#[]⟩, .int .i64 0, .int .i64 0, .string ⟨#[]⟩, .slice none 0 0, .int .i64 0, .int .i64 0, .string ⟨#[]⟩, .slice none 0 0, .slice none 0 0, .slice none 0 0] 50) = W2 := ⟨_, rfl⟩
  obtain ⟨W3, hW3⟩ : ∃ W3, W2.alloc (.cells #[.int .i64 s.kind, .string s.name, .int .i64 0, .int .i64 0, .string ⟨#[]⟩, .slice none 0 0, .int .i64 0, .int .i64 0, .string ⟨#[]⟩, .slice none 0 0, .slice none 0 0, .slice none 0 0] 50) = W3 := ⟨_, rfl⟩
  rw [hW1, hW2, hW3]
  have s1 : W1.heap.size = w.heap.size + 1 := by rw [← hW1]; simp
  have s2 : W2.heap.size = w.heap.size + 2 := by rw [← hW2]; simp [s1]
  have s3 : W3.heap.size = w.heap.size + 3 := by rw [← hW3]; simp [s2]
  have hB : Below w.heap.size w W3 := by
    rw [← hW3, ← hW2, ← hW1]
    exact (((Below.refl _ w).alloc (Nat.le_refl _) _).alloc (by simp) _).alloc (by simp; omega) _
  have hP : Cells12 W3 w.heap.size 0 s := by
    have h := Cells12.new w s 44
    rw [hW1] at h
    have h2 := h.below (n := W1.heap.size) (B := W2) (by rw [← hW2]; exact (Below.refl _ _).alloc (Nat.le_refl _) _) (by omega)
    exact h2.below (n := W1.heap.size) (B := W3) (by rw [← hW3]; exact (Below.refl _ _).alloc (by omega) _) (by omega)
  have hT : RowAt W3 (w.heap.size + 1) 12 50 := by
    have h := RowAt.new W1 #[.int .i64 0, .string ⟨#[]⟩, .int .i64 0, .int .i64 0, .string ⟨#[]⟩, .slice none 0 0, .int .i64 0, .int .i64 0, .string ⟨#[]⟩, .slice none 0 0, .slice none 0 0, .slice none 0 0] 50
    rw [hW2, s1] at h
    rw [← hW3]
    exact h.of_block (Below.heap_alloc _ _ _ (by omega))
  have hM : RowAt W3 (w.heap.size + 1 + 1) 12 50 := by
    have h := RowAt.new W2 #[.int .i64 s.kind, .string s.name, .int .i64 0, .int .i64 0, .string ⟨#[]⟩, .slice none 0 0, .int .i64 0, .int .i64 0, .string ⟨#[]⟩, .slice none 0 0, .slice none 0 0, .slice none 0 0] 50
    rw [hW3, s2] at h
    exact h
  have n0 : W3.cell? ⟨w.heap.size + 1 + 1, 0, none⟩ = some (.int .i64 s.kind) := by
    have h := World.cell?_alloc_new W2 #[.int .i64 s.kind, .string s.name, .int .i64 0, .int .i64 0, .string ⟨#[]⟩, .slice none 0 0, .int .i64 0, .int .i64 0, .string ⟨#[]⟩, .slice none 0 0, .slice none 0 0, .slice none 0 0] 50 0
    rw [hW3, s2] at h
    exact h
  have n1 : W3.cell? ⟨w.heap.size + 1 + 1, 1, none⟩ = some (.string s.name) := by
    have h := World.cell?_alloc_new W2 #[.int .i64 s.kind, .string s.name, .int .i64 0, .int .i64 0, .string ⟨#[]⟩, .slice none 0 0, .int .i64 0, .int .i64 0, .string ⟨#[]⟩, .slice none 0 0, .slice none 0 0, .slice none 0 0] 50 1
    rw [hW3, s2] at h
    exact h
  have hz : w.heap.size + 3 ≤ W3.heap.size := by omega
  clear hW1 hW2 hW3 s1 s2
  have hLX := hL.under hB hok
  have hokX : ∀ b, ok b → b < W3.heap.size := fun b hb => by have := hok b hb; omega
  obtain ⟨l1, l2, l3, l4, l5, l6⟩ := hLX.parts
  refine (to1 _ s.e (by omega) (Nat.le_refl _) ok W3 hokX l1).mono ?_
  rintro e y0 ⟨e', rfl, hS0, hL0, hb⟩
  have hzy : W3.heap.size ≤ y0.heap.size := hb.size
  replace hB := hB.trans (hb.mono (by omega))
  replace hP := hP.below hb (by omega)
  replace hT := hT.of_block (hb.block _ (by omega))
  replace hM := hM.of_block (hb.block _ (by omega))
  replace hLX := hLX.under hb hokX
  replace n0 := below_cell hb n0 (by dsimp only; omega)
  replace n1 := below_cell hb n1 (by dsimp only; omega)
  obtain ⟨o2, z2⟩ := hM.cell (o := 2) (by omega)
  have fz2 := hM.frozen 2
  obtain ⟨o3, z3⟩ := hM.cell (o := 3) (by omega)
  have fz3 := hM.frozen 3
  obtain ⟨o4, z4⟩ := hM.cell (o := 4) (by omega)
  have fz4 := hM.frozen 4
  obtain ⟨o5, z5⟩ := hM.cell (o := 5) (by omega)
  have fz5 := hM.frozen 5
  obtain ⟨c0, c1, c2, c3, c4, c5, c6, c7, c8, c9, c10, c11⟩ := hP
  go_wp2_with fail
  go_at_call 46
  replace hP : Cells12 y0 w.heap.size 0 s := ⟨c0, c1, c2, c3, c4, c5, c6, c7, c8, c9, c10, c11⟩
  clear c0 c1 c2 c3 c4 c5 c6 c7 c8 c9 c10 c11
  have hK := (((((Kept.refl (fun k => k = w.heap.size + 1 + 1) y0).setCell (p := ⟨w.heap.size + 1 + 1, 2, none⟩) rfl (.int .i64 e'.kind)).setCell (p := ⟨w.heap.size + 1 + 1, 3, none⟩) rfl (.int .i64 e'.num)).setCell (p := ⟨w.heap.size + 1 + 1, 4, none⟩) rfl (.string e'.name)).setCell (p := ⟨w.heap.size + 1 + 1, 5, none⟩) rfl (.slice e'.base e'.kids.length e'.cap))
  have hM' := ((((hM.set 2 (.int .i64 e'.kind)).set 3 (.int .i64 e'.num)).set 4 (.string e'.name)).set 5 (.slice e'.base e'.kids.length e'.cap))
  have n2 : ((((y0.setCell ⟨w.heap.size + 1 + 1, 2, none⟩ (.int .i64 e'.kind)).setCell ⟨w.heap.size + 1 + 1, 3, none⟩ (.int .i64 e'.num)).setCell ⟨w.heap.size + 1 + 1, 4, none⟩ (.string e'.name)).setCell ⟨w.heap.size + 1 + 1, 5, none⟩ (.slice e'.base e'.kids.length e'.cap)).cell? ⟨w.heap.size + 1 + 1, 2, none⟩ = some (.int .i64 e'.kind) := by rw [set_far (by omega), set_far (by omega), set_far (by omega)]; exact hM.put (by omega) _
  have n3 : ((((y0.setCell ⟨w.heap.size + 1 + 1, 2, none⟩ (.int .i64 e'.kind)).setCell ⟨w.heap.size + 1 + 1, 3, none⟩ (.int .i64 e'.num)).setCell ⟨w.heap.size + 1 + 1, 4, none⟩ (.string e'.name)).setCell ⟨w.heap.size + 1 + 1, 5, none⟩ (.slice e'.base e'.kids.length e'.cap)).cell? ⟨w.heap.size + 1 + 1, 3, none⟩ = some (.int .i64 e'.num) := by rw [set_far (by omega), set_far (by omega)]; exact (hM.set 2 (.int .i64 e'.kind)).put (by omega) _
  have n4 : ((((y0.setCell ⟨w.heap.size + 1 + 1, 2, none⟩ (.int .i64 e'.kind)).setCell ⟨w.heap.size + 1 + 1, 3, none⟩ (.int .i64 e'.num)).setCell ⟨w.heap.size + 1 + 1, 4, none⟩ (.string e'.name)).setCell ⟨w.heap.size + 1 + 1, 5, none⟩ (.slice e'.base e'.kids.length e'.cap)).cell? ⟨w.heap.size + 1 + 1, 4, none⟩ = some (.string e'.name) := by rw [set_far (by omega)]; exact ((hM.set 2 (.int .i64 e'.kind)).set 3 (.int .i64 e'.num)).put (by omega) _
  have n5 : ((((y0.setCell ⟨w.heap.size + 1 + 1, 2, none⟩ (.int .i64 e'.kind)).setCell ⟨w.heap.size + 1 + 1, 3, none⟩ (.int .i64 e'.num)).setCell ⟨w.heap.size + 1 + 1, 4, none⟩ (.string e'.name)).setCell ⟨w.heap.size + 1 + 1, 5, none⟩ (.slice e'.base e'.kids.length e'.cap)).cell? ⟨w.heap.size + 1 + 1, 5, none⟩ = some (.slice e'.base e'.kids.length e'.cap) := by exact (((hM.set 2 (.int .i64 e'.kind)).set 3 (.int .i64 e'.num)).set 4 (.string e'.name)).put (by omega) _
  replace n0 : ((((y0.setCell ⟨w.heap.size + 1 + 1, 2, none⟩ (.int .i64 e'.kind)).setCell ⟨w.heap.size + 1 + 1, 3, none⟩ (.int .i64 e'.num)).setCell ⟨w.heap.size + 1 + 1, 4, none⟩ (.string e'.name)).setCell ⟨w.heap.size + 1 + 1, 5, none⟩ (.slice e'.base e'.kids.length e'.cap)).cell? ⟨w.heap.size + 1 + 1, 0, none⟩ = some (.int .i64 s.kind) := by rw [set_far (by omega), set_far (by omega), set_far (by omega), set_far (by omega)]; exact n0
  replace n1 : ((((y0.setCell ⟨w.heap.size + 1 + 1, 2, none⟩ (.int .i64 e'.kind)).setCell ⟨w.heap.size + 1 + 1, 3, none⟩ (.int .i64 e'.num)).setCell ⟨w.heap.size + 1 + 1, 4, none⟩ (.string e'.name)).setCell ⟨w.heap.size + 1 + 1, 5, none⟩ (.slice e'.base e'.kids.length e'.cap)).cell? ⟨w.heap.size + 1 + 1, 1, none⟩ = some (.string s.name) := by rw [set_far (by omega), set_far (by omega), set_far (by omega), set_far (by omega)]; exact n1
  clear z2 fz2 z3 fz3 z4 fz4 z5 fz5
  obtain ⟨X0, hX⟩ : ∃ X, ((((y0.setCell ⟨w.heap.size + 1 + 1, 2, none⟩ (.int .i64 e'.kind)).setCell ⟨w.heap.size + 1 + 1, 3, none⟩ (.int .i64 e'.num)).setCell ⟨w.heap.size + 1 + 1, 4, none⟩ (.string e'.name)).setCell ⟨w.heap.size + 1 + 1, 5, none⟩ (.slice e'.base e'.kids.length e'.cap)) = X := ⟨_, rfl⟩
  rw [hX] at hK hM' n0 n1 n2 n3 n4 n5 ⊢
  have hzx : X0.heap.size = y0.heap.size := by rw [← hX]; simp
  clear hX
  replace hM := hM'
  replace hT := hT.of_block (hK.block _ hT.lt (by omega))
  replace hP := hP.kept hK (by omega)
  replace hLX := hLX.kept hK (fun b hb => by have := hok b hb; omega)
  replace hB := hB.trans (hK.below (n := w.heap.size) (by omega) (fun k h => by omega))
  replace hL0 := hL0.plain hK (fun b hb => by omega)
  have hz' : w.heap.size + 3 ≤ X0.heap.size := by omega
  clear hM' hK hb hzy
  have hokX : ∀ b, ok b → b < X0.heap.size := fun b hb => by have := hok b hb; omega
  obtain ⟨l1, l2, l3, l4, l5, l6⟩ := hLX.parts
  refine (to1 _ s.f (by omega) (Nat.le_refl _) ok X0 hokX l2).mono ?_
  rintro e y1 ⟨f', rfl, hS1, hL1, hb⟩
  have hzy : X0.heap.size ≤ y1.heap.size := hb.size
  replace hB := hB.trans (hb.mono (by omega))
  replace hP := hP.below hb (by omega)
  replace hT := hT.of_block (hb.block _ (by omega))
  replace hM := hM.of_block (hb.block _ (by omega))
  replace hLX := hLX.under hb hokX
  replace n0 := below_cell hb n0 (by dsimp only; omega)
  replace n1 := below_cell hb n1 (by dsimp only; omega)
  replace n2 := below_cell hb n2 (by dsimp only; omega)
  replace n3 := below_cell hb n3 (by dsimp only; omega)
  replace n4 := below_cell hb n4 (by dsimp only; omega)
  replace n5 := below_cell hb n5 (by dsimp only; omega)
  replace hL0 := hL0.plain (Kept.of_new (fun k => k = w.heap.size + 1 + 1) hb) (fun b hb => by omega)
  obtain ⟨o6, z6⟩ := hM.cell (o := 6) (by omega)
  have fz6 := hM.frozen 6
  obtain ⟨o7, z7⟩ := hM.cell (o := 7) (by omega)
  have fz7 := hM.frozen 7
  obtain ⟨o8, z8⟩ := hM.cell (o := 8) (by omega)
  have fz8 := hM.frozen 8
  obtain ⟨o9, z9⟩ := hM.cell (o := 9) (by omega)
  have fz9 := hM.frozen 9
  obtain ⟨c0, c1, c2, c3, c4, c5, c6, c7, c8, c9, c10, c11⟩ := hP
  go_wp2_with fail
  go_at_call 8
  replace hP : Cells12 y1 w.heap.size 0 s := ⟨c0, c1, c2, c3, c4, c5, c6, c7, c8, c9, c10, c11⟩
  clear c0 c1 c2 c3 c4 c5 c6 c7 c8 c9 c10 c11
  have hK := (((((Kept.refl (fun k => k = w.heap.size + 1 + 1) y1).setCell (p := ⟨w.heap.size + 1 + 1, 6, none⟩) rfl (.int .i64 f'.kind)).setCell (p := ⟨w.heap.size + 1 + 1, 7, none⟩) rfl (.int .i64 f'.num)).setCell (p := ⟨w.heap.size + 1 + 1, 8, none⟩) rfl (.string f'.name)).setCell (p := ⟨w.heap.size + 1 + 1, 9, none⟩) rfl (.slice f'.base f'.kids.length f'.cap))
  have hM' := ((((hM.set 6 (.int .i64 f'.kind)).set 7 (.int .i64 f'.num)).set 8 (.string f'.name)).set 9 (.slice f'.base f'.kids.length f'.cap))
  have n6 : ((((y1.setCell ⟨w.heap.size + 1 + 1, 6, none⟩ (.int .i64 f'.kind)).setCell ⟨w.heap.size + 1 + 1, 7, none⟩ (.int .i64 f'.num)).setCell ⟨w.heap.size + 1 + 1, 8, none⟩ (.string f'.name)).setCell ⟨w.heap.size + 1 + 1, 9, none⟩ (.slice f'.base f'.kids.length f'.cap)).cell? ⟨w.heap.size + 1 + 1, 6, none⟩ = some (.int .i64 f'.kind) := by rw [set_far (by omega), set_far (by omega), set_far (by omega)]; exact hM.put (by omega) _
  have n7 : ((((y1.setCell ⟨w.heap.size + 1 + 1, 6, none⟩ (.int .i64 f'.kind)).setCell ⟨w.heap.size + 1 + 1, 7, none⟩ (.int .i64 f'.num)).setCell ⟨w.heap.size + 1 + 1, 8, none⟩ (.string f'.name)).setCell ⟨w.heap.size + 1 + 1, 9, none⟩ (.slice f'.base f'.kids.length f'.cap)).cell? ⟨w.heap.size + 1 + 1, 7, none⟩ = some (.int .i64 f'.num) := by rw [set_far (by omega), set_far (by omega)]; exact (hM.set 6 (.int .i64 f'.kind)).put (by omega) _
  have n8 : ((((y1.setCell ⟨w.heap.size + 1 + 1, 6, none⟩ (.int .i64 f'.kind)).setCell ⟨w.heap.size + 1 + 1, 7, none⟩ (.int .i64 f'.num)).setCell ⟨w.heap.size + 1 + 1, 8, none⟩ (.string f'.name)).setCell ⟨w.heap.size + 1 + 1, 9, none⟩ (.slice f'.base f'.kids.length f'.cap)).cell? ⟨w.heap.size + 1 + 1, 8, none⟩ = some (.string f'.name) := by rw [set_far (by omega)]; exact ((hM.set 6 (.int .i64 f'.kind)).set 7 (.int .i64 f'.num)).put (by omega) _
  have n9 : ((((y1.setCell ⟨w.heap.size + 1 + 1, 6, none⟩ (.int .i64 f'.kind)).setCell ⟨w.heap.size + 1 + 1, 7, none⟩ (.int .i64 f'.num)).setCell ⟨w.heap.size + 1 + 1, 8, none⟩ (.string f'.name)).setCell ⟨w.heap.size + 1 + 1, 9, none⟩ (.slice f'.base f'.kids.length f'.cap)).cell? ⟨w.heap.size + 1 + 1, 9, none⟩ = some (.slice f'.base f'.kids.length f'.cap) := by exact (((hM.set 6 (.int .i64 f'.kind)).set 7 (.int .i64 f'.num)).set 8 (.string f'.name)).put (by omega) _
  replace n0 : ((((y1.setCell ⟨w.heap.size + 1 + 1, 6, none⟩ (.int .i64 f'.kind)).setCell ⟨w.heap.size + 1 + 1, 7, none⟩ (.int .i64 f'.num)).setCell ⟨w.heap.size + 1 + 1, 8, none⟩ (.string f'.name)).setCell ⟨w.heap.size + 1 + 1, 9, none⟩ (.slice f'.base f'.kids.length f'.cap)).cell? ⟨w.heap.size + 1 + 1, 0, none⟩ = some (.int .i64 s.kind) := by rw [set_far (by omega), set_far (by omega), set_far (by omega), set_far (by omega)]; exact n0
  replace n1 : ((((y1.setCell ⟨w.heap.size + 1 + 1, 6, none⟩ (.int .i64 f'.kind)).setCell ⟨w.heap.size + 1 + 1, 7, none⟩ (.int .i64 f'.num)).setCell ⟨w.heap.size + 1 + 1, 8, none⟩ (.string f'.name)).setCell ⟨w.heap.size + 1 + 1, 9, none⟩ (.slice f'.base f'.kids.length f'.cap)).cell? ⟨w.heap.size + 1 + 1, 1, none⟩ = some (.string s.name) := by rw [set_far (by omega), set_far (by omega), set_far (by omega), set_far (by omega)]; exact n1
  replace n2 : ((((y1.setCell ⟨w.heap.size + 1 + 1, 6, none⟩ (.int .i64 f'.kind)).setCell ⟨w.heap.size + 1 + 1, 7, none⟩ (.int .i64 f'.num)).setCell ⟨w.heap.size + 1 + 1, 8, none⟩ (.string f'.name)).setCell ⟨w.heap.size + 1 + 1, 9, none⟩ (.slice f'.base f'.kids.length f'.cap)).cell? ⟨w.heap.size + 1 + 1, 2, none⟩ = some (.int .i64 e'.kind) := by rw [set_far (by omega), set_far (by omega), set_far (by omega), set_far (by omega)]; exact n2
  replace n3 : ((((y1.setCell ⟨w.heap.size + 1 + 1, 6, none⟩ (.int .i64 f'.kind)).setCell ⟨w.heap.size + 1 + 1, 7, none⟩ (.int .i64 f'.num)).setCell ⟨w.heap.size + 1 + 1, 8, none⟩ (.string f'.name)).setCell ⟨w.heap.size + 1 + 1, 9, none⟩ (.slice f'.base f'.kids.length f'.cap)).cell? ⟨w.heap.size + 1 + 1, 3, none⟩ = some (.int .i64 e'.num) := by rw [set_far (by omega), set_far (by omega), set_far (by omega), set_far (by omega)]; exact n3
  replace n4 : ((((y1.setCell ⟨w.heap.size + 1 + 1, 6, none⟩ (.int .i64 f'.kind)).setCell ⟨w.heap.size + 1 + 1, 7, none⟩ (.int .i64 f'.num)).setCell ⟨w.heap.size + 1 + 1, 8, none⟩ (.string f'.name)).setCell ⟨w.heap.size + 1 + 1, 9, none⟩ (.slice f'.base f'.kids.length f'.cap)).cell? ⟨w.heap.size + 1 + 1, 4, none⟩ = some (.string e'.name) := by rw [set_far (by omega), set_far (by omega), set_far (by omega), set_far (by omega)]; exact n4
  replace n5 : ((((y1.setCell ⟨w.heap.size + 1 + 1, 6, none⟩ (.int .i64 f'.kind)).setCell ⟨w.heap.size + 1 + 1, 7, none⟩ (.int .i64 f'.num)).setCell ⟨w.heap.size + 1 + 1, 8, none⟩ (.string f'.name)).setCell ⟨w.heap.size + 1 + 1, 9, none⟩ (.slice f'.base f'.kids.length f'.cap)).cell? ⟨w.heap.size + 1 + 1, 5, none⟩ = some (.slice e'.base e'.kids.length e'.cap) := by rw [set_far (by omega), set_far (by omega), set_far (by omega), set_far (by omega)]; exact n5
  clear z6 fz6 z7 fz7 z8 fz8 z9 fz9
  obtain ⟨X1, hX⟩ : ∃ X, ((((y1.setCell ⟨w.heap.size + 1 + 1, 6, none⟩ (.int .i64 f'.kind)).setCell ⟨w.heap.size + 1 + 1, 7, none⟩ (.int .i64 f'.num)).setCell ⟨w.heap.size + 1 + 1, 8, none⟩ (.string f'.name)).setCell ⟨w.heap.size + 1 + 1, 9, none⟩ (.slice f'.base f'.kids.length f'.cap)) = X := ⟨_, rfl⟩
  rw [hX] at hK hM' n0 n1 n2 n3 n4 n5 n6 n7 n8 n9 ⊢
  have hzx : X1.heap.size = y1.heap.size := by rw [← hX]; simp
  clear hX
  replace hM := hM'
  replace hT := hT.of_block (hK.block _ hT.lt (by omega))
  replace hP := hP.kept hK (by omega)
  replace hLX := hLX.kept hK (fun b hb => by have := hok b hb; omega)
  replace hB := hB.trans (hK.below (n := w.heap.size) (by omega) (fun k h => by omega))
  replace hL0 := hL0.plain hK (fun b hb => by omega)
  replace hL1 := hL1.plain hK (fun b hb => by omega)
  have hz' : w.heap.size + 3 ≤ X1.heap.size := by omega
  clear hM' hK hb hzy
  have hokX : ∀ b, ok b → b < X1.heap.size := fun b hb => by have := hok b hb; omega
  obtain ⟨l1, l2, l3, l4, l5, l6⟩ := hLX.parts
  refine (toSS s.la s.abase s.acap ok X1 hokX l3 (by omega) (fun j k hk w' hBw => ih k (by have := SX.size_get hk; omega) (m5 j k hk) ok w' (fun b hb => Nat.lt_of_lt_of_le (hokX b hb) hBw.size) ((l5 j k hk).under hBw hokX))).mono ?_
  rintro e y2 ⟨la', rfl, hS2, hL2, hp2, hb⟩
  obtain ⟨g2, hg2⟩ : ∃ g, X1.heap.size = g := ⟨_, rfl⟩
  rw [hg2] at hL2 hp2 ⊢
  have hgz2 : w.heap.size + 3 ≤ g2 := by omega
  have hzy : X1.heap.size ≤ y2.heap.size := hb.size
  replace hB := hB.trans (hb.mono (by omega))
  replace hP := hP.below hb (by omega)
  replace hT := hT.of_block (hb.block _ (by omega))
  replace hM := hM.of_block (hb.block _ (by omega))
  replace hLX := hLX.under hb hokX
  replace n0 := below_cell hb n0 (by dsimp only; omega)
  replace n1 := below_cell hb n1 (by dsimp only; omega)
  replace n2 := below_cell hb n2 (by dsimp only; omega)
  replace n3 := below_cell hb n3 (by dsimp only; omega)
  replace n4 := below_cell hb n4 (by dsimp only; omega)
  replace n5 := below_cell hb n5 (by dsimp only; omega)
  replace n6 := below_cell hb n6 (by dsimp only; omega)
  replace n7 := below_cell hb n7 (by dsimp only; omega)
  replace n8 := below_cell hb n8 (by dsimp only; omega)
  replace n9 := below_cell hb n9 (by dsimp only; omega)
  replace hL0 := hL0.plain (Kept.of_new (fun k => k = w.heap.size + 1 + 1) hb) (fun b hb => by omega)
  replace hL1 := hL1.plain (Kept.of_new (fun k => k = w.heap.size + 1 + 1) hb) (fun b hb => by omega)
  obtain ⟨o10, z10⟩ := hM.cell (o := 10) (by omega)
  have fz10 := hM.frozen 10
  obtain ⟨c0, c1, c2, c3, c4, c5, c6, c7, c8, c9, c10, c11⟩ := hP
  go_wp2_with fail
  go_at_call 8
  replace hP : Cells12 y2 w.heap.size 0 s := ⟨c0, c1, c2, c3, c4, c5, c6, c7, c8, c9, c10, c11⟩
  clear c0 c1 c2 c3 c4 c5 c6 c7 c8 c9 c10 c11
  have hK := ((Kept.refl (fun k => k = w.heap.size + 1 + 1) y2).setCell (p := ⟨w.heap.size + 1 + 1, 10, none⟩) rfl (.slice (some ⟨g2, 0, none⟩) s.la.length s.la.length))
  have hM' := (hM.set 10 (.slice (some ⟨g2, 0, none⟩) s.la.length s.la.length))
  have n10 : (y2.setCell ⟨w.heap.size + 1 + 1, 10, none⟩ (.slice (some ⟨g2, 0, none⟩) s.la.length s.la.length)).cell? ⟨w.heap.size + 1 + 1, 10, none⟩ = some (.slice (some ⟨g2, 0, none⟩) s.la.length s.la.length) := by exact hM.put (by omega) _
  replace n0 : (y2.setCell ⟨w.heap.size + 1 + 1, 10, none⟩ (.slice (some ⟨g2, 0, none⟩) s.la.length s.la.length)).cell? ⟨w.heap.size + 1 + 1, 0, none⟩ = some (.int .i64 s.kind) := by rw [set_far (by omega)]; exact n0
  replace n1 : (y2.setCell ⟨w.heap.size + 1 + 1, 10, none⟩ (.slice (some ⟨g2, 0, none⟩) s.la.length s.la.length)).cell? ⟨w.heap.size + 1 + 1, 1, none⟩ = some (.string s.name) := by rw [set_far (by omega)]; exact n1
  replace n2 : (y2.setCell ⟨w.heap.size + 1 + 1, 10, none⟩ (.slice (some ⟨g2, 0, none⟩) s.la.length s.la.length)).cell? ⟨w.heap.size + 1 + 1, 2, none⟩ = some (.int .i64 e'.kind) := by rw [set_far (by omega)]; exact n2
  replace n3 : (y2.setCell ⟨w.heap.size + 1 + 1, 10, none⟩ (.slice (some ⟨g2, 0, none⟩) s.la.length s.la.length)).cell? ⟨w.heap.size + 1 + 1, 3, none⟩ = some (.int .i64 e'.num) := by rw [set_far (by omega)]; exact n3
  replace n4 : (y2.setCell ⟨w.heap.size + 1 + 1, 10, none⟩ (.slice (some ⟨g2, 0, none⟩) s.la.length s.la.length)).cell? ⟨w.heap.size + 1 + 1, 4, none⟩ = some (.string e'.name) := by rw [set_far (by omega)]; exact n4
  replace n5 : (y2.setCell ⟨w.heap.size + 1 + 1, 10, none⟩ (.slice (some ⟨g2, 0, none⟩) s.la.length s.la.length)).cell? ⟨w.heap.size + 1 + 1, 5, none⟩ = some (.slice e'.base e'.kids.length e'.cap) := by rw [set_far (by omega)]; exact n5
  replace n6 : (y2.setCell ⟨w.heap.size + 1 + 1, 10, none⟩ (.slice (some ⟨g2, 0, none⟩) s.la.length s.la.length)).cell? ⟨w.heap.size + 1 + 1, 6, none⟩ = some (.int .i64 f'.kind) := by rw [set_far (by omega)]; exact n6
  replace n7 : (y2.setCell ⟨w.heap.size + 1 + 1, 10, none⟩ (.slice (some ⟨g2, 0, none⟩) s.la.length s.la.length)).cell? ⟨w.heap.size + 1 + 1, 7, none⟩ = some (.int .i64 f'.num) := by rw [set_far (by omega)]; exact n7
  replace n8 : (y2.setCell ⟨w.heap.size + 1 + 1, 10, none⟩ (.slice (some ⟨g2, 0, none⟩) s.la.length s.la.length)).cell? ⟨w.heap.size + 1 + 1, 8, none⟩ = some (.string f'.name) := by rw [set_far (by omega)]; exact n8
  replace n9 : (y2.setCell ⟨w.heap.size + 1 + 1, 10, none⟩ (.slice (some ⟨g2, 0, none⟩) s.la.length s.la.length)).cell? ⟨w.heap.size + 1 + 1, 9, none⟩ = some (.slice f'.base f'.kids.length f'.cap) := by rw [set_far (by omega)]; exact n9
  clear z10 fz10
  obtain ⟨X2, hX⟩ : ∃ X, (y2.setCell ⟨w.heap.size + 1 + 1, 10, none⟩ (.slice (some ⟨g2, 0, none⟩) s.la.length s.la.length)) = X := ⟨_, rfl⟩
  rw [hX] at hK hM' n0 n1 n2 n3 n4 n5 n6 n7 n8 n9 n10 ⊢
  have hzx : X2.heap.size = y2.heap.size := by rw [← hX]; simp
  clear hX
  replace hM := hM'
  replace hT := hT.of_block (hK.block _ hT.lt (by omega))
  replace hP := hP.kept hK (by omega)
  replace hLX := hLX.kept hK (fun b hb => by have := hok b hb; omega)
  replace hB := hB.trans (hK.below (n := w.heap.size) (by omega) (fun k h => by omega))
  replace hL0 := hL0.plain hK (fun b hb => by omega)
  replace hL1 := hL1.plain hK (fun b hb => by omega)
  replace hL2 : ∀ (i : Nat) (x y : SX), s.la[i]? = some x → la'[i]? = some y → SameS x y ∧ Cells12 X2 g2 (0 + i * 12) y ∧ LiesS (fun b => g2 < b ∧ Pl X2 b) X2 y := fun i x y hx hy => ⟨(hL2 i x y hx hy).1, (hL2 i x y hx hy).2.1.kept hK (by omega), (hL2 i x y hx hy).2.2.plain hK (fun b hb => by omega)⟩
  replace hp2 := hp2.kept hK (by omega)
  have hz' : w.heap.size + 3 ≤ X2.heap.size := by omega
  clear hM' hK hb hzy
  have hokX : ∀ b, ok b → b < X2.heap.size := fun b hb => by have := hok b hb; omega
  obtain ⟨l1, l2, l3, l4, l5, l6⟩ := hLX.parts
  refine (toSS s.lb s.bbase s.bcap ok X2 hokX l4 (by omega) (fun j k hk w' hBw => ih k (by have := SX.size_get hk; omega) (m6 j k hk) ok w' (fun b hb => Nat.lt_of_lt_of_le (hokX b hb) hBw.size) ((l6 j k hk).under hBw hokX))).mono ?_
  rintro e y3 ⟨lb', rfl, hS3, hL3, hp3, hb⟩
  obtain ⟨g3, hg3⟩ : ∃ g, X2.heap.size = g := ⟨_, rfl⟩
  rw [hg3] at hL3 hp3 ⊢
  have hgz3 : w.heap.size + 3 ≤ g3 := by omega
  have hzy : X2.heap.size ≤ y3.heap.size := hb.size
  replace hB := hB.trans (hb.mono (by omega))
  replace hP := hP.below hb (by omega)
  replace hT := hT.of_block (hb.block _ (by omega))
  replace hM := hM.of_block (hb.block _ (by omega))
  replace hLX := hLX.under hb hokX
  replace n0 := below_cell hb n0 (by dsimp only; omega)
  replace n1 := below_cell hb n1 (by dsimp only; omega)
  replace n2 := below_cell hb n2 (by dsimp only; omega)
  replace n3 := below_cell hb n3 (by dsimp only; omega)
  replace n4 := below_cell hb n4 (by dsimp only; omega)
  replace n5 := below_cell hb n5 (by dsimp only; omega)
  replace n6 := below_cell hb n6 (by dsimp only; omega)
  replace n7 := below_cell hb n7 (by dsimp only; omega)
  replace n8 := below_cell hb n8 (by dsimp only; omega)
  replace n9 := below_cell hb n9 (by dsimp only; omega)
  replace n10 := below_cell hb n10 (by dsimp only; omega)
  replace hL0 := hL0.plain (Kept.of_new (fun k => k = w.heap.size + 1 + 1) hb) (fun b hb => by omega)
  replace hL1 := hL1.plain (Kept.of_new (fun k => k = w.heap.size + 1 + 1) hb) (fun b hb => by omega)
  replace hL2 : ∀ (i : Nat) (x y : SX), s.la[i]? = some x → la'[i]? = some y → SameS x y ∧ Cells12 y3 g2 (0 + i * 12) y ∧ LiesS (fun b => g2 < b ∧ Pl y3 b) y3 y := fun i x y hx hy => ⟨(hL2 i x y hx hy).1, (hL2 i x y hx hy).2.1.below hb (by have := (hL2 i x y hx hy).2.1.lt; omega), (hL2 i x y hx hy).2.2.plain (Kept.of_new (fun k => k = w.heap.size + 1 + 1) hb) (fun b hb => by omega)⟩
  replace hp2 := hp2.below hb hp2.lt
  obtain ⟨o11, z11⟩ := hM.cell (o := 11) (by omega)
  have fz11 := hM.frozen 11
  obtain ⟨c0, c1, c2, c3, c4, c5, c6, c7, c8, c9, c10, c11⟩ := hP
  obtain ⟨p0, t0⟩ := hT.cell (o := 0) (by omega)
  have ft0 := hT.frozen 0
  obtain ⟨p1, t1⟩ := hT.cell (o := 1) (by omega)
  have ft1 := hT.frozen 1
  obtain ⟨p2, t2⟩ := hT.cell (o := 2) (by omega)
  have ft2 := hT.frozen 2
  obtain ⟨p3, t3⟩ := hT.cell (o := 3) (by omega)
  have ft3 := hT.frozen 3
  obtain ⟨p4, t4⟩ := hT.cell (o := 4) (by omega)
  have ft4 := hT.frozen 4
  obtain ⟨p5, t5⟩ := hT.cell (o := 5) (by omega)
  have ft5 := hT.frozen 5
  obtain ⟨p6, t6⟩ := hT.cell (o := 6) (by omega)
  have ft6 := hT.frozen 6
  obtain ⟨p7, t7⟩ := hT.cell (o := 7) (by omega)
  have ft7 := hT.frozen 7
  obtain ⟨p8, t8⟩ := hT.cell (o := 8) (by omega)
  have ft8 := hT.frozen 8
  obtain ⟨p9, t9⟩ := hT.cell (o := 9) (by omega)
  have ft9 := hT.frozen 9
  obtain ⟨p10, t10⟩ := hT.cell (o := 10) (by omega)
  have ft10 := hT.frozen 10
  obtain ⟨p11, t11⟩ := hT.cell (o := 11) (by omega)
  have ft11 := hT.frozen 11
  go_wp2
  have hK : Kept (fun k => k = w.heap.size + 1 ∨ k = w.heap.size + 1 + 1) y3 (((((((((((((y3.setCell ⟨w.heap.size + 1 + 1, 11, none⟩ (.slice (some ⟨g3, 0, none⟩) s.lb.length s.lb.length)).setCell ⟨w.heap.size + 1, 0, none⟩ (.int .i64 s.kind)).setCell ⟨w.heap.size + 1, 1, none⟩ (.string s.name)).setCell ⟨w.heap.size + 1, 2, none⟩ (.int .i64 e'.kind)).setCell ⟨w.heap.size + 1, 3, none⟩ (.int .i64 e'.num)).setCell ⟨w.heap.size + 1, 4, none⟩ (.string e'.name)).setCell ⟨w.heap.size + 1, 5, none⟩ (.slice e'.base e'.kids.length e'.cap)).setCell ⟨w.heap.size + 1, 6, none⟩ (.int .i64 f'.kind)).setCell ⟨w.heap.size + 1, 7, none⟩ (.int .i64 f'.num)).setCell ⟨w.heap.size + 1, 8, none⟩ (.string f'.name)).setCell ⟨w.heap.size + 1, 9, none⟩ (.slice f'.base f'.kids.length f'.cap)).setCell ⟨w.heap.size + 1, 10, none⟩ (.slice (some ⟨g2, 0, none⟩) s.la.length s.la.length)).setCell ⟨w.heap.size + 1, 11, none⟩ (.slice (some ⟨g3, 0, none⟩) s.lb.length s.lb.length)) :=
    ((((((((((((((Kept.refl (fun k => k = w.heap.size + 1 ∨ k = w.heap.size + 1 + 1) y3).setCell (p := ⟨w.heap.size + 1 + 1, 11, none⟩) (.inr rfl) _).setCell (p := ⟨w.heap.size + 1, 0, none⟩) (.inl rfl) _).setCell (p := ⟨w.heap.size + 1, 1, none⟩) (.inl rfl) _).setCell (p := ⟨w.heap.size + 1, 2, none⟩) (.inl rfl) _).setCell (p := ⟨w.heap.size + 1, 3, none⟩) (.inl rfl) _).setCell (p := ⟨w.heap.size + 1, 4, none⟩) (.inl rfl) _).setCell (p := ⟨w.heap.size + 1, 5, none⟩) (.inl rfl) _).setCell (p := ⟨w.heap.size + 1, 6, none⟩) (.inl rfl) _).setCell (p := ⟨w.heap.size + 1, 7, none⟩) (.inl rfl) _).setCell (p := ⟨w.heap.size + 1, 8, none⟩) (.inl rfl) _).setCell (p := ⟨w.heap.size + 1, 9, none⟩) (.inl rfl) _).setCell (p := ⟨w.heap.size + 1, 10, none⟩) (.inl rfl) _).setCell (p := ⟨w.heap.size + 1, 11, none⟩) (.inl rfl) _)
  first | go_returns | (refine bodyPost_ret (by simp [results, Try.results23, go_sem, *]; try rfl) rfl ?_)
  refine ⟨.mk s.kind s.name e' f' (some ⟨g2, 0, none⟩) s.la.length la' (some ⟨g3, 0, none⟩) s.lb.length lb', ?_, ?_, ?_, ?_⟩
  · simp only [SX.val, SX.kind, SX.name, SX.e, SX.f, SX.abase, SX.acap, SX.la, SX.bbase, SX.bcap, SX.lb, hS2, hS3]
  · exact .mk _ _ rfl rfl hS0 hS1 hS2 hS3 (fun i a b ha hb => (hL2 i a b ha hb).1) (fun i a b ha hb => (hL3 i a b ha hb).1)
  · have hga : ∀ (i : Nat) (y : SX), la'[i]? = some y → ∃ x, s.la[i]? = some x := fun i y hy => ⟨_, List.getElem?_eq_getElem (by have := (List.getElem?_eq_some_iff.1 hy).1; omega)⟩
    have hgb : ∀ (i : Nat) (y : SX), lb'[i]? = some y → ∃ x, s.lb[i]? = some x := fun i y hy => ⟨_, List.getElem?_eq_getElem (by have := (List.getElem?_eq_some_iff.1 hy).1; omega)⟩
    refine .mk _ ?_ ?_ (fun i y hy => ?_) (fun i y hy => ?_) (fun i y hy => ?_) (fun i y hy => ?_)
    · exact (hL0.plain hK (fun b hb => by omega)).wider (fun b hb => by omega)
    · exact (hL1.plain hK (fun b hb => by omega)).wider (fun b hb => by omega)
    · obtain ⟨x, hx⟩ := hga i y hy
      exact ⟨g2, 0, rfl, ⟨by omega, hp2.kept hK (by omega)⟩, (hL2 i x y hx hy).2.1.kept hK (by omega)⟩
    · obtain ⟨x, hx⟩ := hgb i y hy
      exact ⟨g3, 0, rfl, ⟨by omega, hp3.kept hK (by omega)⟩, (hL3 i x y hx hy).2.1.kept hK (by omega)⟩
    · obtain ⟨x, hx⟩ := hga i y hy
      exact ((hL2 i x y hx hy).2.2.plain hK (fun b hb => by omega)).wider (fun b hb => by omega)
    · obtain ⟨x, hx⟩ := hgb i y hy
      exact ((hL3 i x y hx hy).2.2.plain hK (fun b hb => by omega)).wider (fun b hb => by omega)
  · exact hB.trans (hK.below (by have := hB.size; omega) (fun k h => by omega))
end Go.Proofs.Ytimfdfeleoaehaa
