/-
  A copy of statements in new memory is the same in all parts.
-/
import Derived.Test.YtijblhnjhpmedaaDoorStmtB
namespace Go.Proofs.YtijblhnjhpmedaaDoor
open Go.RowKit
set_option linter.unusedSimpArgs false
set_option linter.unusedVariables false

set_option maxHeartbeats 2000000 in
theorem LiesS.plain {P S : Nat → Prop} {A B : World} {t : SX} (h : LiesS (fun b => P b ∧ Pl A b) A t) (hk : Kept S A B) (hs : ∀ b, P b → ¬ S b) : LiesS (fun b => P b ∧ Pl B b) B t :=
  h.mono fun b ho hb => ⟨⟨ho.1, ho.2.kept hk (hs b ho.1)⟩, hk.block b hb (hs b ho.1)⟩
theorem LiesS.wider {P Q : Nat → Prop} {A : World} {t : SX} (h : LiesS (fun b => P b ∧ Pl A b) A t) (hs : ∀ b, P b → Q b) : LiesS (fun b => Q b ∧ Pl A b) A t :=
  h.mono fun b ho hb => ⟨⟨hs b ho.1, ho.2⟩, rfl⟩
theorem put12 {W : World} {g N : Nat} {t : TypeId} (h0 : RowAt W g N t) (i : Nat) (hi : i * 12 + 11 < N) (y : SX) :
    RowAt ((((((((((((W.setCell ⟨g, i * 12, none⟩ (.int .i64 y.kind)).setCell ⟨g, i * 12 + 1, none⟩ (.string y.name)).setCell ⟨g, i * 12 + 2, none⟩ (.int .i64 y.e.kind)).setCell ⟨g, i * 12 + 3, none⟩ (.int .i64 y.e.num)).setCell ⟨g, i * 12 + 4, none⟩ (.string y.e.name)).setCell ⟨g, i * 12 + 5, none⟩ (.slice y.e.base y.e.kids.length y.e.cap)).setCell ⟨g, i * 12 + 6, none⟩ (.int .i64 y.f.kind)).setCell ⟨g, i * 12 + 7, none⟩ (.int .i64 y.f.num)).setCell ⟨g, i * 12 + 8, none⟩ (.string y.f.name)).setCell ⟨g, i * 12 + 9, none⟩ (.slice y.f.base y.f.kids.length y.f.cap)).setCell ⟨g, i * 12 + 10, none⟩ (.slice y.abase y.la.length y.acap)).setCell ⟨g, i * 12 + 11, none⟩ (.slice y.bbase y.lb.length y.bcap)) g N t ∧ Kept (fun k => k = g) W ((((((((((((W.setCell ⟨g, i * 12, none⟩ (.int .i64 y.kind)).setCell ⟨g, i * 12 + 1, none⟩ (.string y.name)).setCell ⟨g, i * 12 + 2, none⟩ (.int .i64 y.e.kind)).setCell ⟨g, i * 12 + 3, none⟩ (.int .i64 y.e.num)).setCell ⟨g, i * 12 + 4, none⟩ (.string y.e.name)).setCell ⟨g, i * 12 + 5, none⟩ (.slice y.e.base y.e.kids.length y.e.cap)).setCell ⟨g, i * 12 + 6, none⟩ (.int .i64 y.f.kind)).setCell ⟨g, i * 12 + 7, none⟩ (.int .i64 y.f.num)).setCell ⟨g, i * 12 + 8, none⟩ (.string y.f.name)).setCell ⟨g, i * 12 + 9, none⟩ (.slice y.f.base y.f.kids.length y.f.cap)).setCell ⟨g, i * 12 + 10, none⟩ (.slice y.abase y.la.length y.acap)).setCell ⟨g, i * 12 + 11, none⟩ (.slice y.bbase y.lb.length y.bcap)) ∧ Cells12 ((((((((((((W.setCell ⟨g, i * 12, none⟩ (.int .i64 y.kind)).setCell ⟨g, i * 12 + 1, none⟩ (.string y.name)).setCell ⟨g, i * 12 + 2, none⟩ (.int .i64 y.e.kind)).setCell ⟨g, i * 12 + 3, none⟩ (.int .i64 y.e.num)).setCell ⟨g, i * 12 + 4, none⟩ (.string y.e.name)).setCell ⟨g, i * 12 + 5, none⟩ (.slice y.e.base y.e.kids.length y.e.cap)).setCell ⟨g, i * 12 + 6, none⟩ (.int .i64 y.f.kind)).setCell ⟨g, i * 12 + 7, none⟩ (.int .i64 y.f.num)).setCell ⟨g, i * 12 + 8, none⟩ (.string y.f.name)).setCell ⟨g, i * 12 + 9, none⟩ (.slice y.f.base y.f.kids.length y.f.cap)).setCell ⟨g, i * 12 + 10, none⟩ (.slice y.abase y.la.length y.acap)).setCell ⟨g, i * 12 + 11, none⟩ (.slice y.bbase y.lb.length y.bcap)) g (0 + i * 12) y ∧
    ∀ (j : Nat) (x : SX), j ≠ i → Cells12 W g (0 + j * 12) x → Cells12 ((((((((((((W.setCell ⟨g, i * 12, none⟩ (.int .i64 y.kind)).setCell ⟨g, i * 12 + 1, none⟩ (.string y.name)).setCell ⟨g, i * 12 + 2, none⟩ (.int .i64 y.e.kind)).setCell ⟨g, i * 12 + 3, none⟩ (.int .i64 y.e.num)).setCell ⟨g, i * 12 + 4, none⟩ (.string y.e.name)).setCell ⟨g, i * 12 + 5, none⟩ (.slice y.e.base y.e.kids.length y.e.cap)).setCell ⟨g, i * 12 + 6, none⟩ (.int .i64 y.f.kind)).setCell ⟨g, i * 12 + 7, none⟩ (.int .i64 y.f.num)).setCell ⟨g, i * 12 + 8, none⟩ (.string y.f.name)).setCell ⟨g, i * 12 + 9, none⟩ (.slice y.f.base y.f.kids.length y.f.cap)).setCell ⟨g, i * 12 + 10, none⟩ (.slice y.abase y.la.length y.acap)).setCell ⟨g, i * 12 + 11, none⟩ (.slice y.bbase y.lb.length y.bcap)) g (0 + j * 12) x := by
  have h1 := h0.set (i * 12) (.int .i64 y.kind)
  have h2 := h1.set (i * 12 + 1) (.string y.name)
  have h3 := h2.set (i * 12 + 2) (.int .i64 y.e.kind)
  have h4 := h3.set (i * 12 + 3) (.int .i64 y.e.num)
  have h5 := h4.set (i * 12 + 4) (.string y.e.name)
  have h6 := h5.set (i * 12 + 5) (.slice y.e.base y.e.kids.length y.e.cap)
  have h7 := h6.set (i * 12 + 6) (.int .i64 y.f.kind)
  have h8 := h7.set (i * 12 + 7) (.int .i64 y.f.num)
  have h9 := h8.set (i * 12 + 8) (.string y.f.name)
  have h10 := h9.set (i * 12 + 9) (.slice y.f.base y.f.kids.length y.f.cap)
  have h11 := h10.set (i * 12 + 10) (.slice y.abase y.la.length y.acap)
  have h12 := h11.set (i * 12 + 11) (.slice y.bbase y.lb.length y.bcap)
  refine ⟨h12, (((((((((((((Kept.refl (fun k => k = g) W).setCell (p := ⟨g, i * 12, none⟩) rfl _).setCell (p := ⟨g, i * 12 + 1, none⟩) rfl _).setCell (p := ⟨g, i * 12 + 2, none⟩) rfl _).setCell (p := ⟨g, i * 12 + 3, none⟩) rfl _).setCell (p := ⟨g, i * 12 + 4, none⟩) rfl _).setCell (p := ⟨g, i * 12 + 5, none⟩) rfl _).setCell (p := ⟨g, i * 12 + 6, none⟩) rfl _).setCell (p := ⟨g, i * 12 + 7, none⟩) rfl _).setCell (p := ⟨g, i * 12 + 8, none⟩) rfl _).setCell (p := ⟨g, i * 12 + 9, none⟩) rfl _).setCell (p := ⟨g, i * 12 + 10, none⟩) rfl _).setCell (p := ⟨g, i * 12 + 11, none⟩) rfl _), ?_, ?_⟩
  · rw [Nat.zero_add]
    refine ⟨?_, ?_, ?_, ?_, ?_, ?_, ?_, ?_, ?_, ?_, ?_, ?_⟩
    · rw [set_far (by omega), set_far (by omega), set_far (by omega), set_far (by omega), set_far (by omega), set_far (by omega), set_far (by omega), set_far (by omega), set_far (by omega), set_far (by omega), set_far (by omega)]
      exact h0.put (by omega) _
    · rw [set_far (by omega), set_far (by omega), set_far (by omega), set_far (by omega), set_far (by omega), set_far (by omega), set_far (by omega), set_far (by omega), set_far (by omega), set_far (by omega)]
      exact h1.put (by omega) _
    · rw [set_far (by omega), set_far (by omega), set_far (by omega), set_far (by omega), set_far (by omega), set_far (by omega), set_far (by omega), set_far (by omega), set_far (by omega)]
      exact h2.put (by omega) _
    · rw [set_far (by omega), set_far (by omega), set_far (by omega), set_far (by omega), set_far (by omega), set_far (by omega), set_far (by omega), set_far (by omega)]
      exact h3.put (by omega) _
    · rw [set_far (by omega), set_far (by omega), set_far (by omega), set_far (by omega), set_far (by omega), set_far (by omega), set_far (by omega)]
      exact h4.put (by omega) _
    · rw [set_far (by omega), set_far (by omega), set_far (by omega), set_far (by omega), set_far (by omega), set_far (by omega)]
      exact h5.put (by omega) _
    · rw [set_far (by omega), set_far (by omega), set_far (by omega), set_far (by omega), set_far (by omega)]
      exact h6.put (by omega) _
    · rw [set_far (by omega), set_far (by omega), set_far (by omega), set_far (by omega)]
      exact h7.put (by omega) _
    · rw [set_far (by omega), set_far (by omega), set_far (by omega)]
      exact h8.put (by omega) _
    · rw [set_far (by omega), set_far (by omega)]
      exact h9.put (by omega) _
    · rw [set_far (by omega)]
      exact h10.put (by omega) _
    · exact h11.put (by omega) _
  · intro j x hj hc
    rw [Nat.zero_add] at hc ⊢
    refine ⟨?_, ?_, ?_, ?_, ?_, ?_, ?_, ?_, ?_, ?_, ?_, ?_⟩
    · rw [set_far (by omega), set_far (by omega), set_far (by omega), set_far (by omega), set_far (by omega), set_far (by omega), set_far (by omega), set_far (by omega), set_far (by omega), set_far (by omega), set_far (by omega), set_far (by omega)]; exact hc.c0
    · rw [set_far (by omega), set_far (by omega), set_far (by omega), set_far (by omega), set_far (by omega), set_far (by omega), set_far (by omega), set_far (by omega), set_far (by omega), set_far (by omega), set_far (by omega), set_far (by omega)]; exact hc.c1
    · rw [set_far (by omega), set_far (by omega), set_far (by omega), set_far (by omega), set_far (by omega), set_far (by omega), set_far (by omega), set_far (by omega), set_far (by omega), set_far (by omega), set_far (by omega), set_far (by omega)]; exact hc.c2
    · rw [set_far (by omega), set_far (by omega), set_far (by omega), set_far (by omega), set_far (by omega), set_far (by omega), set_far (by omega), set_far (by omega), set_far (by omega), set_far (by omega), set_far (by omega), set_far (by omega)]; exact hc.c3
    · rw [set_far (by omega), set_far (by omega), set_far (by omega), set_far (by omega), set_far (by omega), set_far (by omega), set_far (by omega), set_far (by omega), set_far (by omega), set_far (by omega), set_far (by omega), set_far (by omega)]; exact hc.c4
    · rw [set_far (by omega), set_far (by omega), set_far (by omega), set_far (by omega), set_far (by omega), set_far (by omega), set_far (by omega), set_far (by omega), set_far (by omega), set_far (by omega), set_far (by omega), set_far (by omega)]; exact hc.c5
    · rw [set_far (by omega), set_far (by omega), set_far (by omega), set_far (by omega), set_far (by omega), set_far (by omega), set_far (by omega), set_far (by omega), set_far (by omega), set_far (by omega), set_far (by omega), set_far (by omega)]; exact hc.c6
    · rw [set_far (by omega), set_far (by omega), set_far (by omega), set_far (by omega), set_far (by omega), set_far (by omega), set_far (by omega), set_far (by omega), set_far (by omega), set_far (by omega), set_far (by omega), set_far (by omega)]; exact hc.c7
    · rw [set_far (by omega), set_far (by omega), set_far (by omega), set_far (by omega), set_far (by omega), set_far (by omega), set_far (by omega), set_far (by omega), set_far (by omega), set_far (by omega), set_far (by omega), set_far (by omega)]; exact hc.c8
    · rw [set_far (by omega), set_far (by omega), set_far (by omega), set_far (by omega), set_far (by omega), set_far (by omega), set_far (by omega), set_far (by omega), set_far (by omega), set_far (by omega), set_far (by omega), set_far (by omega)]; exact hc.c9
    · rw [set_far (by omega), set_far (by omega), set_far (by omega), set_far (by omega), set_far (by omega), set_far (by omega), set_far (by omega), set_far (by omega), set_far (by omega), set_far (by omega), set_far (by omega), set_far (by omega)]; exact hc.c10
    · rw [set_far (by omega), set_far (by omega), set_far (by omega), set_far (by omega), set_far (by omega), set_far (by omega), set_far (by omega), set_far (by omega), set_far (by omega), set_far (by omega), set_far (by omega), set_far (by omega)]; exact hc.c11
end Go.Proofs.YtijblhnjhpmedaaDoor
