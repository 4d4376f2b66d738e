/-
  A copy of statements in new memory is the same in all parts.
-/
import Derived.Test.YtimfdfeleoaehaaStmtB
namespace Go.Proofs.Ytimfdfeleoaehaa
open Go.RowKit
set_option linter.unusedSimpArgs false
set_option linter.unusedVariables false

set_option maxHeartbeats 2000000 in
theorem LiesS.plain {P S : Nat → Prop} {A B : World} {t : SX} (h : LiesS (fun b => P b ∧ Pl A b) A t) (hk : Kept S A B) (hs : ∀ b, P b → ¬ S b) : LiesS (fun b => P b ∧ Pl B b) B t :=
  h.mono fun b ho hb => ⟨⟨ho.1, ho.2.kept hk (hs b ho.1)⟩, hk.block b hb (hs b ho.1)⟩
theorem LiesS.wider {P Q : Nat → Prop} {A : World} {t : SX} (h : LiesS (fun b => P b ∧ Pl A b) A t) (hs : ∀ b, P b → Q b) : LiesS (fun b => Q b ∧ Pl A b) A t :=
  h.mono fun b ho hb => ⟨⟨hs b ho.1, ho.2⟩, rfl⟩
theorem put12 {W : World} {g N : Nat} {t : TypeId} (h0 : RowAt W g N t) (i : Nat) (hi : i * 12 + 11 < N) (y : SX) :
    RowAt ((((((((((((W.setCell ⟨g, i * 12, none⟩ (.int .i64 y.kind)).setCell ⟨g, i * 12 + 1, none⟩ (.string y.name)).setCell ⟨g, i * 12 + 2, none⟩ (.int .i64 y.e.kind)).setCell ⟨g, i * 12 + 3, none⟩ (.int .i64 y.e.num)).setCell ⟨g, i * 12 + 4, none⟩ (.string y.e.name)).setCell ⟨g, i * 12 + 5, none⟩ (.slice y.e.base y.e.kids.length y.e.cap)).setCell ⟨g, i * 12 + 6, none⟩ (.int .i64 y.f.kind)).setCell ⟨g, i * 12 + 7, none⟩ (.int .i64 y.f.num)).setCell ⟨g, i * 12 + 8, none⟩ (.string y.f.name)).setCell ⟨g, i * 12 + 9, none⟩ (.slice y.f.base y.f.kids.length y.f.cap)).setCell ⟨g, i * 12 + 10, none⟩ (.slice y.abase y.la.length y.acap)).setCell ⟨g, i * 12 + 11, none⟩ (.slice y.bbase y.lb.length y.bcap)) g N t ∧ Kept (fun k => k = g) W ((((((((((((W.setCell ⟨g, i * 12, none⟩ (.int .i64 y.kind)).setCell ⟨g, i * 12 + 1, none⟩ (.string y.name)).setCell ⟨g, i * 12 + 2, none⟩ (.int .i64 y.e.kind)).setCell ⟨g, i * 12 + 3, none⟩ (.int .i64 y.e.num)).setCell ⟨g, i * 12 + 4, none⟩ (.string y.e.name)).setCell ⟨g, i * 12 + 5, none⟩ (.slice y.e.base y.e.kids.length y.e.cap)).setCell ⟨g, i * 12 + 6, none⟩ (.int .i64 y.f.kind)).setCell ⟨g, i * 12 + 7, none⟩ (.int .i64 y.f.num)).setCell ⟨g, i * 12 + 8, none⟩ (.string y.f.name)).setCell ⟨g, i * 12 + 9, none⟩ (.slice y.f.base y.f.kids.length y.f.cap)).setCell ⟨g, i * 12 + 10, none⟩ (.slice y.abase y.la.length y.acap)).setCell ⟨g, i * 12 + 11, none⟩ (.slice y.bbase y.lb.length y.bcap)) ∧ Cells12 ((((((((((((W.setCell ⟨g, i * 12, none⟩ (.int .i64 y.kind)).setCell ⟨g, i * 12 + 1, none⟩ (.string y.name)).setCell ⟨g, i * 12 + 2, none⟩ (.int .i64 y.e.kind)).setCell ⟨g, i * 12 + 3, none⟩ (.int .i64 y.e.num)).setCell ⟨g, i * 12 + 4, none⟩ (.string y.e.name)).setCell ⟨g, i * 12 + 5, none⟩ (.slice y.e.base y.e.kids.length y.e.cap)).setCell ⟨g, i * 12 + 6, none⟩ (.int .i64 y.f.kind)).setCell ⟨g, i * 12 + 7, none⟩ (.int .i64 y.f.num)).setCell ⟨g, i * 12 + 8, none⟩ (.string y.f.name)).setCell ⟨g, i * 12 + 9, none⟩ (.slice y.f.base y.f.kids.length y.f.cap)).setCell ⟨g, i * 12 + 10, none⟩ (.slice y.abase y.la.length y.acap)).setCell ⟨g, i * 12 + 11, none⟩ (.slice y.bbase y.lb.length y.bcap)) g (0 + i * 12) y ∧
    ∀ (j : Nat) (x : SX), j ≠ i → Cells12 W g (0 + j * 12) x → Cells12 ((((((((((((W.setCell ⟨g, i * 12, none⟩ (.int .i64 y.kind)).setCell ⟨g, i * 12 + 1, none⟩ (.string y.name)).setCell ⟨g, i * 12 + 2, none⟩ (.int .i64 y.e.kind)).setCell ⟨g, i * 12 + 3, none⟩ (.int .i64 y.e.num)).setCell ⟨g, i * 12 + 4, none⟩ (.string y.e.name)).setCell ⟨g, i * 12 + 5, none⟩ (.slice y.e.base y.e.kids.length y.e.cap)).setCell ⟨g, i * 12 + 6, none⟩ (.int .i64 y.f.kind)).setCell ⟨g, i * 12 + 7, none⟩ (.int .i64 y.f.num)).setCell ⟨g, i * 12 + 8, none⟩ (.string y.f.name)).setCell ⟨g, i * 12 + 9, none⟩ (.slice y.f.base y.f.kids.length y.f.cap)).setCell ⟨g, i * 12 + 10, none⟩ (.slice y.abase y.la.length y.acap)).setCell ⟨g, i * 12 + 11, none⟩ (.slice y.bbase y.lb.length y.bcap)) g (0 + j * 12) x := by
  have h1 := h0.set (i * 12) (.int .i64 y.kind)
  have h2 := h1.set (i * 12 + 1) (.string y.name)
  have h3 := h2.set (i * 12 + 2) (.int .i64 y.e.kind)
  have h4 := h3.set (i * 12 + 3) (.int .i64 y.e.num)
  have h5 := h4.set (i * 12 + 4) (.string y.e.name)
  have h6 := h5.set (i * 12 + 5) (.slice y.e.base y.e.kids.length y.e.cap)
  have h7 := h6.set (i * 12 + 6) (.int .i64 y.f.kind)
  have h8 := h7.set (i * 12 + 7) (.int .i64 y.f.num)
  have h9 := h8.set (i * 12 + 8) (.string y.f.name)
  have h10 := h9.set (i * 12 + 9) (.slice y.f.base y.f.kids.length y.f.cap)
  have h11 := h10.set (i * 12 + 10) (.slice y.abase y.la.length y.acap)
  have h12 := h11.set (i * 12 + 11) (.slice y.bbase y.lb.length y.bcap)
  refine ⟨h12, (((((((((((((Kept.refl (fun k => k = g) W).setCell (p := ⟨g, i * 12, none⟩) rfl _).setCell (p := ⟨g, i * 12 + 1, none⟩) rfl _).setCell (p := ⟨g, i * 12 + 2, none⟩) rfl _).setCell (p := ⟨g, i * 12 + 3, none⟩) rfl _).setCell (p := ⟨g, i * 12 + 4, none⟩) rfl _).setCell (p := ⟨g, i * 12 + 5, none⟩) rfl _).setCell (p := ⟨g, i * 12 + 6, none⟩) rfl _).setCell (p := ⟨g, i * 12 + 7, none⟩) rfl _).setCell (p := ⟨g, i * 12 + 8, none⟩) rfl _).setCell (p := ⟨g, i * 12 + 9, none⟩) rfl _).setCell (p := ⟨g, i * 12 + 10, none⟩) rfl _).setCell (p := ⟨g, i * 12 + 11, none⟩) rfl _), ?_, ?_⟩
  · rw [Nat.zero_add]
    refine ⟨?_, ?_, ?_, ?_, ?_, ?_, ?_, ?_, ?_, ?_, ?_, ?_⟩
    · rw [set_far (by omega), set_far (by omega), set_far (by omega), set_far (by omega), set_far (by omega), set_far (by omega), set_far (by omega), set_far (by omega), set_far (by omega), set_far (by omega), set_far (by omega)]
      exact h0.put (by omega) _
    · rw [set_far (by omega), set_far (by omega), set_far (by omega), set_far (by omega), set_far (by omega), set_far (by omega), set_far (by omega), set_far (by omega), set_far (by omega), set_far (by omega)]
      exact h1.put (by omega) _
    · rw [set_far (by omega), set_far (by omega), set_far (by omega), set_far (by omega), set_far (by omega), set_far (by omega), set_far (by omega), set_far (by omega), set_far (by omega)]
      exact h2.put (by omega) _
    · rw [set_far (by omega), set_far (by omega), set_far (by omega), set_far (by omega), set_far (by omega), set_far (by omega), set_far (by omega), set_far (by omega)]
      exact h3.put (by omega) _
    · rw [set_far (by omega), set_far (by omega), set_far (by omega), set_far (by omega), set_far (by omega), set_far (by omega), set_far (by omega)]
      exact h4.put (by omega) _
    · rw [set_far (by omega), set_far (by omega), set_far (by omega), set_far (by omega), set_far (by omega), set_far (by omega)]
      exact h5.put (by omega) _
    · rw [set_far (by omega), set_far (by omega), set_far (by omega), set_far (by omega), set_far (by omega)]
      exact h6.put (by omega) _
    · rw [set_far (by omega), set_far (by omega), set_far (by omega), set_far (by omega)]
      exact h7.put (by omega) _
    · rw [set_far (by omega), set_far (by omega), set_far (by omega)]
      exact h8.put (by omega) _
    · rw [set_far (by omega), set_far (by omega)]
      exact h9.put (by omega) _
    · rw [set_far (by omega)]
      exact h10.put (by omega) _
    · exact h11.put (by omega) _
  · intro j x hj hc
    rw [Nat.zero_add] at hc ⊢
    refine ⟨?_, ?_, ?_, ?_, ?_, ?_, ?_, ?_, ?_, ?_, ?_, ?_⟩
    · rw [set_far (by omega), set_far (by omega), set_far (by omega), set_far (by omega), set_far (by omega), set_far (by omega), set_far (by omega), set_far (by omega), set_far (by omega), set_far (by omega), set_far (by omega), set_far (by omega)]; exact hc.c0
    · rw [set_far (by omega), set_far (by omega), set_far (by omega), set_far (by omega), set_far (by omega), set_far (by omega), set_far (by omega), set_far (by omega), set_far (by omega), set_far (by omega), set_far (by omega), set_far (by omega)]; exact hc.c1
    · rw [set_far (by omega), set_far (by omega), set_far (by omega), set_far (by omega), set_far (by omega), set_far (by omega), set_far (by omega), set_far (by omega), set_far (by omega), set_far (by omega), set_far (by omega), set_far (by omega)]; exact hc.c2
    · rw [set_far (by omega), set_far (by omega), set_far (by omega), set_far (by omega), set_far (by omega), set_far (by omega), set_far (by omega), set_far (by omega), set_far (by omega), set_far (by omega), set_far (by omega), set_far (by omega)]; exact hc.c3
    · rw [set_far (by omega), set_far (by omega), set_far (by omega), set_far (by omega), set_far (by omega), set_far (by omega), set_far (by omega), set_far (by omega), set_far (by omega), set_far (by omega), set_far (by omega), set_far (by omega)]; exact hc.c4
    · rw [set_far (by omega), set_far (by omega), set_far (by omega), set_far (by omega), set_far (by omega), set_far (by omega), set_far (by omega), set_far (by omega), set_far (by omega), set_far (by omega), set_far (by omega), set_far (by omega)]; exact hc.c5
    · rw [set_far (by omega), set_far (by omega), set_far (by omega), set_far (by omega), set_far (by omega), set_far (by omega), set_far (by omega), set_far (by omega), set_far (by omega), set_far (by omega), set_far (by omega), set_far (by omega)]; exact hc.c6
    · rw [set_far (by omega), set_far (by omega), set_far (by omega), set_far (by omega), set_far (by omega), set_far (by omega), set_far (by omega), set_far (by omega), set_far (by omega), set_far (by omega), set_far (by omega), set_far (by omega)]; exact hc.c7
    · rw [set_far (by omega), set_far (by omega), set_far (by omega), set_far (by omega), set_far (by omega), set_far (by omega), set_far (by omega), set_far (by omega), set_far (by omega), set_far (by omega), set_far (by omega), set_far (by omega)]; exact hc.c8
    · rw [set_far (by omega), set_far (by omega), set_far (by omega), set_far (by omega), set_far (by omega), set_far (by omega), set_far (by omega), set_far (by omega), set_far (by omega), set_far (by omega), set_far (by omega), set_far (by omega)]; exact hc.c9
    · rw [set_far (by omega), set_far (by omega), set_far (by omega), set_far (by omega), set_far (by omega), set_far (by omega), set_far (by omega), set_far (by omega), set_far (by omega), set_far (by omega), set_far (by omega), set_far (by omega)]; exact hc.c10
    · rw [set_far (by omega), set_far (by omega), set_far (by omega), set_far (by omega), set_far (by omega), set_far (by omega), set_far (by omega), set_far (by omega), set_far (by omega), set_far (by omega), set_far (by omega), set_far (by omega)]; exact hc.c11
theorem infoS : (Try.prog.info? 50).map (fun i => (i.zero, i.size, i.bytes)) = some (some (.agg #[.int .i64 0, .string ByteArray.empty, .int .i64 0, .int .i64 0, .string ByteArray.empty, .slice none 0 0, .int .i64 0, .int .i64 0, .string ByteArray.empty, .slice none 0 0, .slice none 0 0, .slice none 0 0]), 12, 184) := by kernel_rfl
set_option maxRecDepth 10000 in
set_option maxHeartbeats 4000000 in
theorem toSS (ks : List SX) (a : Option Addr) (c : Nat) (ok : Nat → Prop) (w : World) (hok : ∀ b, ok b → b < w.heap.size) (hcl : SRow ok w a ks) (hlen : ks.length ≤ 1048577)
    (H : ∀ (i : Nat) (k : SX), ks[i]? = some k → ∀ (w' : World), Below w.heap.size w w' →
      Calls Try.prog 23 #[k.val] w' fun e w'' => ∃ k' : SX, e = .returned k'.val ∧ SameS k k' ∧ LiesS (fun b => w'.heap.size ≤ b ∧ Pl w'' b) w'' k' ∧ Below w'.heap.size w' w'') :
    Calls Try.prog 8 #[.slice a ks.length c] w fun e w' => ∃ us : List SX, e = .returned (.slice (some ⟨w.heap.size, 0, none⟩) ks.length ks.length) ∧ us.length = ks.length ∧
      (∀ (i : Nat) (x y : SX), ks[i]? = some x → us[i]? = some y → SameS x y ∧ Cells12 w' w.heap.size (0 + i * 12) y ∧ LiesS (fun b => w.heap.size < b ∧ Pl w' b) w' y) ∧ Pl w' w.heap.size ∧ Below w.heap.size w w' := by
  obtain ⟨len, hl⟩ : ∃ len, ks.length = len := ⟨_, rfl⟩
  rw [hl] at hlen ⊢
  obtain ⟨i0, hi, hz0, hz1, hz2⟩ := info_parts infoS
  obtain ⟨W1, hW1⟩ : ∃ W1, w.alloc (.cells (madeCells (Value.cells (.agg #[.int .i64 0, .string ByteArray.empty, .int .i64 0, .int .i64 0, .string ByteArray.empty, .slice none 0 0, .int .i64 0, .int .i64 0, .string ByteArray.empty, .slice none 0 0, .slice none 0 0, .slice none 0 0])) (len * 12)) 50) = W1 := ⟨_, rfl⟩
  have hmk : (Instr.makeSlice 26 (.int .i64 (len : Int)) (.int .i64 (len : Int))).run Try.prog w = .ok (.slice (some ⟨w.heap.size, 0, none⟩) len len) W1 := by
    have h := run_make w 26 50 i0 _ Try.underlying26 hi hz0 .i64 .i64 len len (by omega) (by omega) (by rw [hz2]; omega) (by omega)
    simp only [Int.toNat_natCast, hz1] at h
    rw [hW1] at h
    exact h
  have hR1 : RowAt W1 w.heap.size (len * 12) 50 := by
    have h := RowAt.new w (madeCells (Value.cells (.agg #[.int .i64 0, .string ByteArray.empty, .int .i64 0, .int .i64 0, .string ByteArray.empty, .slice none 0 0, .int .i64 0, .int .i64 0, .string ByteArray.empty, .slice none 0 0, .slice none 0 0, .slice none 0 0])) (len * 12)) 50
    rw [hW1, size_madeCells] at h
    exact h
  have hB1 : Below w.heap.size w W1 := by rw [← hW1]; exact (Below.refl _ w).alloc (Nat.le_refl _) _
  clear hW1
  go_enter Try.func8, Try.ntmps8
  go_wp2
  go_loopw [4] (fun v4 wr => ∃ (i : Nat) (us : List SX), v4 = .int .i64 i ∧ i ≤ len ∧ us.length = i ∧ Below w.heap.size w wr ∧ RowAt wr w.heap.size (len * 12) 50 ∧
      (∀ (j : Nat) (x y : SX), ks[j]? = some x → us[j]? = some y → SameS x y ∧ Cells12 wr w.heap.size (0 + j * 12) y ∧ LiesS (fun b => w.heap.size < b ∧ Pl wr b) wr y)) (fun v4 _ => len - (intOf v4).toNat)
  case atStart => exact ⟨0, [], rfl, by omega, rfl, hB1, hR1, fun j x y _ h => by simp at h⟩
  case round =>
    obtain ⟨i, us, rfl, hi, hus, hB, hR, hS⟩ := hrel
    by_cases hlt : i < len
    · obtain ⟨x, hx⟩ : ∃ x, ks[i]? = some x := ⟨_, List.getElem?_eq_getElem (by omega)⟩
      obtain ⟨b1, o1, hbase1, hok1, hc1⟩ := hcl i x hx
      obtain ⟨c0, c1, c2, c3, c4, c5, c6, c7, c8, c9, c10, c11⟩ := hc1.below hB (hok b1 hok1)
      have hcall := H i x hx wr hB
      subst hbase1
      go_wp2_with fail
      go_at_call 23
      refine hcall.mono ?_
      clear hcall c0 c1 c2 c3 c4 c5 c6 c7 c8 c9 c10 c11
      rintro e w4 ⟨y, rfl, hxy, hLy, hB4⟩
      have hR4 := hR.of_block (hB4.block _ hR.lt)
      obtain ⟨v0, r0⟩ := hR4.cell (o := i * 12) (by omega)
      have f0 := hR4.frozen (i * 12)
      obtain ⟨v1, r1⟩ := hR4.cell (o := i * 12 + 1) (by omega)
      have f1 := hR4.frozen (i * 12 + 1)
      obtain ⟨v2, r2⟩ := hR4.cell (o := i * 12 + 2) (by omega)
      have f2 := hR4.frozen (i * 12 + 2)
      obtain ⟨v3, r3⟩ := hR4.cell (o := i * 12 + 3) (by omega)
      have f3 := hR4.frozen (i * 12 + 3)
      obtain ⟨v4, r4⟩ := hR4.cell (o := i * 12 + 4) (by omega)
      have f4 := hR4.frozen (i * 12 + 4)
      obtain ⟨v5, r5⟩ := hR4.cell (o := i * 12 + 5) (by omega)
      have f5 := hR4.frozen (i * 12 + 5)
      obtain ⟨v6, r6⟩ := hR4.cell (o := i * 12 + 6) (by omega)
      have f6 := hR4.frozen (i * 12 + 6)
      obtain ⟨v7, r7⟩ := hR4.cell (o := i * 12 + 7) (by omega)
      have f7 := hR4.frozen (i * 12 + 7)
      obtain ⟨v8, r8⟩ := hR4.cell (o := i * 12 + 8) (by omega)
      have f8 := hR4.frozen (i * 12 + 8)
      obtain ⟨v9, r9⟩ := hR4.cell (o := i * 12 + 9) (by omega)
      have f9 := hR4.frozen (i * 12 + 9)
      obtain ⟨v10, r10⟩ := hR4.cell (o := i * 12 + 10) (by omega)
      have f10 := hR4.frozen (i * 12 + 10)
      obtain ⟨v11, r11⟩ := hR4.cell (o := i * 12 + 11) (by omega)
      have f11 := hR4.frozen (i * 12 + 11)
      obtain ⟨p1, p2, p3, p4⟩ := put12 hR4 i (by omega) y
      go_wp2
      have hg : w.heap.size < wr.heap.size := hR.lt
      refine ⟨⟨i + 1, us ++ [y], by go_num, by omega, by simp [hus], ?_, p1, ?_⟩, ?_⟩
      · exact (hB.trans (hB4.mono hB.size)).trans (p2.below (by have := hB4.size; omega) (fun k h => by omega))
      · intro j x' y' hx' hy'
        by_cases hj : j < i
        · rw [List.getElem?_append_left (by omega)] at hy'
          obtain ⟨q1, q2, q3⟩ := hS j x' y' hx' hy'
          refine ⟨q1, p4 j y' (by omega) (q2.below hB4 hg), ?_⟩
          have q4 := q3.plain (Kept.of_new (fun k => k = w.heap.size) hB4) (fun b hb => by omega)
          exact q4.plain p2 (fun b hb => by omega)
        · have hji : j = i := by
            have := (List.getElem?_eq_some_iff.1 hy').1
            simp [hus] at this
            omega
          subst hji
          rw [List.getElem?_append_right (by omega)] at hy'
          simp [hus] at hy'
          subst hy'
          rw [hx] at hx'
          cases hx'
          refine ⟨hxy, p3, ?_⟩
          have q4 := hLy.wider (Q := fun b => w.heap.size < b) (fun b hb => by omega)
          exact q4.plain p2 (fun b hb => by omega)
      · simp [intOf]
        omega
    · have he : i = len := by omega
      go_wp2
      go_returns
      exact ⟨us, rfl, by omega, hS, hR.plain, hB⟩
end Go.Proofs.Ytimfdfeleoaehaa
