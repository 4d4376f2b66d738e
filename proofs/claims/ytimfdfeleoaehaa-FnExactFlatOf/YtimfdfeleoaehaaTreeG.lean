/-
  The program's and the specification's TreeExprOk say the same of every expression of at most 1099511627776 parts.
-/
import Derived.Test.YtimfdfeleoaehaaTreeF
namespace Go.Proofs.Ytimfdfeleoaehaa
open Go.RowKit
set_option linter.unusedSimpArgs false
set_option linter.unusedVariables false

theorem name_nonempty {s : ByteArray} (h : s.toList.isEmpty = true) : nameB s = false := by
  have h0 : s.size = 0 := by
    rw [ByteArray.toList_eq] at h
    have h1 : s.data.toList = [] := List.isEmpty_iff.1 h
    have h2 : s.data.toList.length = 0 := by rw [h1]; rfl
    rw [Array.length_toList] at h2
    exact h2
  simp [nameB, h0]
theorem fit_same (k n : Int) (s : ByteArray) (len : Nat) : fitI k n s len = fitS k n s len := by
  have hEN : s.toList.isEmpty = true → nameB s = false := name_nonempty
  unfold fitI fitS kidsN
  revert hEN
  generalize s.toList.isEmpty = E
  generalize nameB s = N
  intro hEN
  by_cases hn : n = 0
  · subst hn
    cases E <;> cases N <;> simp at hEN
    all_goals
      rw [Bool.eq_iff_iff]
      by_cases h1 : k = 1
      · subst h1; simp <;> omega
      by_cases h2 : k = 2
      · subst h2; simp <;> omega
      by_cases h3 : k = 3
      · subst h3; simp <;> omega
      by_cases h12 : k = 12
      · subst h12; simp <;> omega
      by_cases h4 : 4 ≤ k ∧ k ≤ 11
      · simp [h1, h2, h3, h4, h12] <;> omega
      · simp [h1, h2, h3, h4, h12] <;> omega
  · have hn' : (n == 0) = false := by simp [hn]
    cases E <;> cases N <;> simp at hEN
    all_goals
      rw [Bool.eq_iff_iff]
      by_cases h1 : k = 1
      · subst h1; simp <;> omega
      by_cases h2 : k = 2
      · subst h2; simp [hn] <;> omega
      by_cases h3 : k = 3
      · subst h3; simp [hn] <;> omega
      by_cases h12 : k = 12
      · subst h12; simp [hn] <;> omega
      by_cases h4 : 4 ≤ k ∧ k ≤ 11
      · simp [h1, h2, h3, h4, h12, hn] <;> omega
      · simp [h1, h2, h3, h4, h12, hn] <;> omega
mutual
def XT.depth : XT → Nat
  | .mk _ _ _ _ _ ks => 1 + XT.depthAll ks
def XT.depthAll : List XT → Nat
  | [] => 0
  | t :: ts => max (XT.depth t) (XT.depthAll ts)
end
theorem XT.depth_eq (t : XT) : t.depth = 1 + XT.depthAll t.kids := by cases t; simp [XT.depth, XT.kids]
theorem XT.depth_le (sz : Nat) : ∀ t : XT, t.size ≤ sz → t.depth ≤ t.size := by
  induction sz with
  | zero => intro t h; rw [XT.size_eq] at h; omega
  | succ sz ih =>
    have hl : ∀ ks : List XT, XT.sizeAll ks ≤ sz → XT.depthAll ks ≤ XT.sizeAll ks := by
      intro ks
      induction ks with
      | nil => intro _; simp [XT.depthAll]
      | cons x xs ihx =>
        intro h
        simp only [XT.sizeAll] at h
        have h1 := ih x (by omega)
        have h2 := ihx (by omega)
        simp only [XT.depthAll, XT.sizeAll]
        omega
    intro t h
    rw [XT.size_eq] at h ⊢
    rw [XT.depth_eq]
    have := hl t.kids (by omega)
    omega
def fitsA (xs : List (Int × XT)) : Bool := xs.all fun x => x.2.fit
theorem XT.spec_sound (sz : Nat) : ∀ t : XT, t.size ≤ sz → ∀ d : Int,
    (t.specR.2.2 = true → t.specR.1 = t.size ∧ t.specR.2.1 = t.depth ∧ fitsA (t.parts d) = true) ∧ (fitsA (t.parts d) = true → t.size ≤ 160 → t.specR.2.2 = true) := by
  induction sz with
  | zero => intro t h; rw [XT.size_eq] at h; omega
  | succ sz ih =>
    have hl : ∀ ks : List XT, XT.sizeAll ks ≤ sz → ∀ (d : Int) (r : Nat × Nat × Bool),
        ((XT.specL ks r).2.2 = true → r.2.2 = true ∧ (XT.specL ks r).1 = r.1 + XT.sizeAll ks ∧ (XT.specL ks r).2.1 = max r.2.1 (XT.depthAll ks) ∧ fitsA (XT.partsAll ks d) = true) ∧
        (r.2.2 = true → fitsA (XT.partsAll ks d) = true → r.1 + XT.sizeAll ks ≤ 160 → (XT.specL ks r).2.2 = true) := by
      intro ks
      induction ks with
      | nil =>
        intro _ d r
        simp [XT.specL, XT.sizeAll, XT.depthAll, XT.partsAll, fitsA]
        exact fun h _ => h
      | cons x xs ihx =>
        intro h d r
        simp only [XT.sizeAll] at h
        obtain ⟨hx1, hx2⟩ := ih x (by omega) d
        have hx3 := XT.spec_le _ x (Nat.le_refl _)
        rw [XT.specL]
        cases hr : r.2.2
        · simp [hr]
        · simp only [if_true]
          obtain ⟨ha, hb⟩ := ihx (by omega) d (r.1 + x.specR.1, max r.2.1 x.specR.2.1, x.specR.2.2 && decide (r.1 + x.specR.1 ≤ 160))
          simp only [Bool.and_eq_true, decide_eq_true_eq] at ha hb
          constructor
          · intro hh
            obtain ⟨⟨h1, h2⟩, h3, h4, h5⟩ := ha hh
            obtain ⟨g1, g2, g3⟩ := hx1 h1
            refine ⟨trivial, ?_, ?_, ?_⟩
            · simp only [XT.sizeAll]; omega
            · simp only [XT.depthAll]; omega
            · simp only [XT.partsAll, fitsA, List.all_append, Bool.and_eq_true]
              exact ⟨g3, h5⟩
          · intro _ hf hs
            simp only [XT.partsAll, fitsA, List.all_append, Bool.and_eq_true] at hf
            simp only [XT.sizeAll] at hs
            exact hb ⟨hx2 hf.1 (by omega), by omega⟩ hf.2 (by omega)
    intro t h d
    obtain ⟨k, n, s, a, c, ks⟩ := t
    simp only [XT.size] at h
    obtain ⟨ha, hb⟩ := hl ks (by omega) (wrap64 (d + 1)) (1, 0, fitS k n s ks.length)
    have hfit : (XT.mk k n s a c ks).fit = fitS k n s ks.length := by
      rw [← fit_same]
      rfl
    simp only [XT.specR, XT.size, XT.depth, XT.parts]
    simp only at ha hb
    constructor
    · intro hh
      obtain ⟨h1, h2, h3, h4⟩ := ha hh
      refine ⟨h2, by omega, ?_⟩
      simp only [fitsA, List.all_cons, hfit, Bool.and_eq_true]
      exact ⟨h1, h4⟩
    · intro hf hs
      simp only [fitsA, List.all_cons, hfit, Bool.and_eq_true] at hf
      exact hb hf.1 hf.2 hs
theorem wrap_small {d : Int} (h0 : 0 ≤ d) (h1 : d < 4611686018427387904) : wrap64 (d + 1) = d + 1 := by
  unfold wrap64
  omega
theorem XT.depth_parts (sz : Nat) : ∀ t : XT, t.size ≤ sz → ∀ (d m : Int), 0 ≤ d → d + t.depth < 4611686018427387904 →
    ((t.parts d).all (fun x => decide (x.1 ≤ m)) = true ↔ d + t.depth - 1 ≤ m) := by
  induction sz with
  | zero => intro t h; rw [XT.size_eq] at h; omega
  | succ sz ih =>
    have hl : ∀ ks : List XT, XT.sizeAll ks ≤ sz → ∀ (d m : Int), 0 ≤ d → d + XT.depthAll ks < 4611686018427387904 →
        ((XT.partsAll ks d).all (fun x => decide (x.1 ≤ m)) = true ↔ (XT.depthAll ks = 0 ∨ d + XT.depthAll ks - 1 ≤ m)) := by
      intro ks
      induction ks with
      | nil => intro _ d m _ _; simp [XT.partsAll, XT.depthAll]
      | cons x xs ihx =>
        intro h d m hd hm
        simp only [XT.sizeAll] at h
        simp only [XT.depthAll] at hm
        have h1 := ih x (by omega) d m hd (by omega)
        have h2 := ihx (by omega) d m hd (by omega)
        have h3 := x.depth_eq
        simp only [XT.partsAll, List.all_append, Bool.and_eq_true, h1, h2, XT.depthAll]
        omega
    intro t h d m hd hm
    rw [XT.size_eq] at h
    have h3 := t.depth_eq
    rw [XT.parts_eq, List.all_cons, Bool.and_eq_true, wrap_small hd (by omega), hl t.kids (by omega) (d + 1) m (by omega) (by omega)]
    simp only [decide_eq_true_eq]
    omega
theorem all_good (xs : List (Int × XT)) : xs.all goodB = ((xs.all fun x => decide (x.1 ≤ 6)) && fitsA xs) := by
  induction xs with
  | nil => rfl
  | cons x xs ih =>
    simp only [List.all_cons, fitsA, goodB] at ih ⊢
    rw [ih]
    rw [Bool.eq_iff_iff]
    simp only [Bool.and_eq_true]
    constructor
    · rintro ⟨⟨a, b⟩, c, d⟩; exact ⟨⟨a, c⟩, b, d⟩
    · rintro ⟨⟨a, c⟩, b, d⟩; exact ⟨⟨a, b⟩, c, d⟩
theorem XT.ok_same (t : XT) (h : t.size ≤ 1099511627776) : t.okI = (t.specR.2.2 && decide (t.specR.1 ≤ 160 ∧ t.specR.2.1 ≤ 6)) := by
  obtain ⟨ha, hb⟩ := XT.spec_sound _ t (Nat.le_refl _) 1
  have hd := XT.depth_le _ t (Nat.le_refl _)
  have hp := XT.depth_parts _ t (Nat.le_refl _) 1 6 (by omega) (by omega)
  rw [XT.okI, all_good]
  rw [Bool.eq_iff_iff]
  simp only [Bool.and_eq_true, decide_eq_true_eq, hp]
  constructor
  · rintro ⟨⟨h1, h2⟩, h3⟩
    have h4 := hb h2 h3
    obtain ⟨g1, g2, g3⟩ := ha h4
    exact ⟨h4, by omega, by omega⟩
  · rintro ⟨h1, h2, h3⟩
    obtain ⟨g1, g2, g3⟩ := ha h1
    exact ⟨⟨by omega, g3⟩, by omega⟩
end Go.Proofs.Ytimfdfeleoaehaa
