/-
  A list of statements to which one is appended as nothing and then written: what it owns.
-/
import Derived.Test.YtomdbaokidphjaaCopyC
import Derived.Laws.OwnMore
namespace Go.Proofs.Ytomdbaokidphjaa
open Go.RowKit Go.Shelf
set_option linter.unusedSimpArgs false
set_option linter.unusedVariables false
attribute [local go_sem] Oper.semAt_some

theorem AccS.on {A B : World} {base : Nat} {v : Value} {us : List SX} {l h : Nat → Nat} (hA : AccS A base v us l h) (hz : A.heap.size ≤ B.heap.size) (hb : ∀ k, k < A.heap.size → (v.ownBlock = some k ∨ ∃ i, i < us.length ∧ l i ≤ k ∧ k < h i) → B.heap[k]? = A.heap[k]?) : AccS B base v us l h := by
  refine ⟨own_on hA.own (fun g hg => hb g (hA.own.lt g hg).2 (.inl hg)), fun i hi => ?_, hA.ord, fun i t ht => (hA.kid i t ht).mono (fun b q1 q2 => ?_)⟩
  · obtain ⟨h1, h2, h3⟩ := hA.int i hi
    exact ⟨h1, Nat.le_trans h2 hz, h3⟩
  · have hi := (List.getElem?_eq_some_iff.1 ht).1
    exact hb b (by have := (hA.int i hi).2.1; omega) (.inr ⟨i, hi, q1, q2⟩)
def zE : XT := .mk 0 0 ⟨#[]⟩ none 0 []
def zS : SX := .mk 0 ⟨#[]⟩ zE zE none 0 [] none 0 []
theorem OwnS1.zero (W : World) {lo hi : Nat} (h : lo ≤ hi) : OwnS1 W lo hi zS := by
  refine ⟨fun _ => lo, fun _ => lo, fun m _ => ⟨Nat.le_refl _, h⟩, fun m n _ _ _ => .inl (Nat.le_refl _), ?_, ?_, ?_, ?_⟩
  · exact .mk _ _ _ _ 0 0 (fun _ => 0) (fun _ => 0) (fun i k hk => by simp [zS, SX.e, zE, XT.kids] at hk) (fun i k hk => by simp [zS, SX.e, zE, XT.kids] at hk) (fun i hi => by simp [zS, SX.e, zE, XT.kids] at hi) (fun i j hi => by simp [zS, SX.e, zE, XT.kids] at hi) (fun i k hk => by simp [zS, SX.e, zE, XT.kids] at hk)
  · exact .mk _ _ _ _ 0 0 (fun _ => 0) (fun _ => 0) (fun i k hk => by simp [zS, SX.f, zE, XT.kids] at hk) (fun i k hk => by simp [zS, SX.f, zE, XT.kids] at hk) (fun i hi => by simp [zS, SX.f, zE, XT.kids] at hi) (fun i j hi => by simp [zS, SX.f, zE, XT.kids] at hi) (fun i k hk => by simp [zS, SX.f, zE, XT.kids] at hk)
  · exact .mk _ _ _ _ 0 0 (fun _ => 0) (fun _ => 0) (fun i k hk => by simp [zS, SX.la] at hk) (fun i k hk => by simp [zS, SX.la] at hk) (fun i hi => by simp [zS, SX.la] at hi) (fun i j hi => by simp [zS, SX.la] at hi) (fun i k hk => by simp [zS, SX.la] at hk) (fun i k hk => by simp [zS, SX.la] at hk) (fun i k hk => by simp [zS, SX.la] at hk) (fun i k hk => by simp [zS, SX.la] at hk)
  · exact .mk _ _ _ _ 0 0 (fun _ => 0) (fun _ => 0) (fun i k hk => by simp [zS, SX.lb] at hk) (fun i k hk => by simp [zS, SX.lb] at hk) (fun i hi => by simp [zS, SX.lb] at hi) (fun i j hi => by simp [zS, SX.lb] at hi) (fun i k hk => by simp [zS, SX.lb] at hk) (fun i k hk => by simp [zS, SX.lb] at hk) (fun i k hk => by simp [zS, SX.lb] at hk) (fun i k hk => by simp [zS, SX.lb] at hk)
/-- The last of a list is written. -/
theorem AccS.put {Z B : World} {base n g : Nat} {v : Value} {us : List SX} {l h : Nat → Nat} {z t : SX} {lo hi : Nat} (hA : AccS Z base v (us ++ [z]) l h) (hn : us.length = n) (hv : v.ownBlock = some g) (hO : OwnS1 Z lo hi t) (hlo : ∀ i, i < n → h i ≤ lo) (hb : base ≤ lo) (hhi : hi ≤ Z.heap.size) (hg : g < lo ∨ hi ≤ g)
    (hK : Kept (fun k => k = g) Z B) (hrow : B.ownsRow base 40 12 v (n + 1) (fl12 us ++ t.vals)) :
    AccS B base v (us ++ [t]) (fun i => if i = n then lo else l i) (fun i => if i = n then hi else h i) := by
  have hz := hK.size
  refine ⟨?_, fun i hi' => ?_, fun i j hij hj => ?_, fun i y hy => ?_⟩
  · rw [fl12_snoc, List.length_append, hn]
    exact hrow
  · simp only [List.length_append, List.length_singleton] at hi'
    by_cases e : i = n
    · simp only [e, if_true]
      exact ⟨hb, by omega, fun g' hg' => by rw [hv] at hg'; cases hg'; exact hg⟩
    · simp only [e, if_false]
      obtain ⟨h1, h2, h3⟩ := hA.int i (by simp; omega)
      exact ⟨h1, by omega, h3⟩
  · simp only [List.length_append, List.length_singleton] at hj
    have hi' : i ≠ n := by omega
    simp only [hi', if_false]
    by_cases e : j = n
    · simp only [e, if_true]
      exact hlo i (by omega)
    · simp only [e, if_false]
      exact hA.ord i j hij (by simp; omega)
  · by_cases e : i < us.length
    · rw [List.getElem?_append_left e] at hy
      have hi' : i ≠ n := by omega
      simp only [hi', if_false]
      obtain ⟨h1, h2, h3⟩ := hA.int i (by simp; omega)
      have h4 := h3 g hv
      exact (hA.kid i y (by rw [List.getElem?_append_left e]; exact hy)).mono (fun b q1 q2 => hK.block b (by omega) (by omega))
    · have hi' : i = n := by
        have := (List.getElem?_eq_some_iff.1 hy).1
        simp at this
        omega
      rw [List.getElem?_append_right (by omega)] at hy
      simp [hi', hn] at hy
      subst hy
      simp only [hi', if_true]
      exact hO.mono (fun b q1 q2 => hK.block b (by omega) (by omega))
theorem set_right (xs ys : List Value) (j : Nat) (u : Value) : (xs ++ ys).set (xs.length + j) u = xs ++ ys.set j u := by
  rw [List.set_append_right _ _ (by omega)]
  congr 2
  omega
/-- Twelve cells of the last one. -/
theorem put12L {Z : World} {base n g cap : Nat} {us : List SX} {z : SX} (t : SX) (hn : us.length = n) (h : Z.ownsRow base 40 12 (.slice (some ⟨g, 0, none⟩) (n + 1) cap) (n + 1) (fl12 us ++ z.vals)) (o : Nat) (ho : o = n * 12) :
    let B := (((((((((((Z.setCell ⟨g, o, none⟩ (.int .i64 t.kind)).setCell ⟨g, o + 1, none⟩ (.string t.name)).setCell ⟨g, o + 2, none⟩ (.int .i64 t.e.kind)).setCell ⟨g, o + 3, none⟩ (.int .i64 t.e.num)).setCell ⟨g, o + 4, none⟩ (.string t.e.name)).setCell ⟨g, o + 5, none⟩ (.slice t.e.base t.e.kids.length t.e.cap)).setCell ⟨g, o + 6, none⟩ (.int .i64 t.f.kind)).setCell ⟨g, o + 7, none⟩ (.int .i64 t.f.num)).setCell ⟨g, o + 8, none⟩ (.string t.f.name)).setCell ⟨g, o + 9, none⟩ (.slice t.f.base t.f.kids.length t.f.cap)).setCell ⟨g, o + 10, none⟩ (.slice t.abase t.la.length t.acap)).setCell ⟨g, o + 11, none⟩ (.slice t.bbase t.lb.length t.bcap)
    B.ownsRow base 40 12 (.slice (some ⟨g, 0, none⟩) (n + 1) cap) (n + 1) (fl12 us ++ t.vals) ∧ Kept (fun k => k = g) Z B := by
  intro B
  have hl : (fl12 us).length = o := by rw [fl12_length, hn, ho]
  refine ⟨?_, ?_⟩
  · have r0 := (h.stored o (.int .i64 t.kind)).1
    have r1 := (r0.stored (o + 1) (.string t.name)).1
    have r2 := (r1.stored (o + 2) (.int .i64 t.e.kind)).1
    have r3 := (r2.stored (o + 3) (.int .i64 t.e.num)).1
    have r4 := (r3.stored (o + 4) (.string t.e.name)).1
    have r5 := (r4.stored (o + 5) (.slice t.e.base t.e.kids.length t.e.cap)).1
    have r6 := (r5.stored (o + 6) (.int .i64 t.f.kind)).1
    have r7 := (r6.stored (o + 7) (.int .i64 t.f.num)).1
    have r8 := (r7.stored (o + 8) (.string t.f.name)).1
    have r9 := (r8.stored (o + 9) (.slice t.f.base t.f.kids.length t.f.cap)).1
    have r10 := (r9.stored (o + 10) (.slice t.abase t.la.length t.acap)).1
    have r11 := (r10.stored (o + 11) (.slice t.bbase t.lb.length t.bcap)).1
    have e : ∀ ys : List Value, ys.length = 12 → ((((((((((((fl12 us ++ ys).set o (.int .i64 t.kind)).set (o + 1) (.string t.name)).set (o + 2) (.int .i64 t.e.kind)).set (o + 3) (.int .i64 t.e.num)).set (o + 4) (.string t.e.name)).set (o + 5) (.slice t.e.base t.e.kids.length t.e.cap)).set (o + 6) (.int .i64 t.f.kind)).set (o + 7) (.int .i64 t.f.num)).set (o + 8) (.string t.f.name)).set (o + 9) (.slice t.f.base t.f.kids.length t.f.cap)).set (o + 10) (.slice t.abase t.la.length t.acap)).set (o + 11) (.slice t.bbase t.lb.length t.bcap) = fl12 us ++ t.vals := by
      intro ys hy
      have s0 := set_right (fl12 us) ys 0 (.int .i64 t.kind)
      rw [hl, Nat.add_zero] at s0
      rw [s0, ← hl]
      simp only [set_right]
      match ys, hy with
      | [a, b, c, d, e, f, g, h, i, j, k, l], _ => rfl
    rw [e _ rfl] at r11
    exact r11
  · exact (((((((((((((Kept.refl (fun k => k = g) Z).setCell (p := ⟨g, o, none⟩) rfl _).setCell (p := ⟨g, o + 1, none⟩) rfl _).setCell (p := ⟨g, o + 2, none⟩) rfl _).setCell (p := ⟨g, o + 3, none⟩) rfl _).setCell (p := ⟨g, o + 4, none⟩) rfl _).setCell (p := ⟨g, o + 5, none⟩) rfl _).setCell (p := ⟨g, o + 6, none⟩) rfl _).setCell (p := ⟨g, o + 7, none⟩) rfl _).setCell (p := ⟨g, o + 8, none⟩) rfl _).setCell (p := ⟨g, o + 9, none⟩) rfl _).setCell (p := ⟨g, o + 10, none⟩) rfl _).setCell (p := ⟨g, o + 11, none⟩) rfl _)
end Go.Proofs.Ytomdbaokidphjaa
