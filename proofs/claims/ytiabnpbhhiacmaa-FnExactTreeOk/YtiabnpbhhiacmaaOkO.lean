/-
  The specification counts and judges a list of statements as the program does a task.
-/
import Derived.Test.YtiabnpbhhiacmaaOkM
import Derived.Test.YtiabnpbhhiacmaaOkJ
namespace Go.Proofs.Ytiabnpbhhiacmaa
open Go.RowKit Go.Shelf
set_option linter.unusedSimpArgs false
set_option linter.unusedVariables false

theorem none_size {t : XT} (h : noneE t = true) : t.specR.1 = t.size := by
  obtain ⟨k, n, s, a, c, ks⟩ := t
  simp only [noneE, XT.kids, Bool.and_eq_true, decide_eq_true_eq] at h
  have hks : ks = [] := List.length_eq_zero_iff.1 (of_decide_eq_true h.2.2.2)
  subst hks
  simp [XT.specR, XT.specL, XT.size, XT.sizeAll]
theorem okI_size {t : XT} (hs : t.size ≤ 1099511627776) (h : t.okI = true) : t.specR.1 = t.size := by
  rw [XT.ok_same t hs] at h
  simp only [Bool.and_eq_true, decide_eq_true_eq] at h
  exact ((XT.spec_sound _ t (Nat.le_refl _) 1).1 h.1).1
theorem SX.fit_size {s : SX} (hm : SmallS s) (h : s.fitB = true) : s.e.specR.1 = s.e.size ∧ s.f.specR.1 = s.f.size := by
  obtain ⟨-, m2, m3, -⟩ := hm.parts
  have h2 := m2.1
  have h3 := m3.1
  have hE : s.e.okI = true ∨ noneE s.e = true := by
    unfold SX.fitB SX.onlyE SX.onlyN at h
    repeat' split at h
    all_goals simp_all
  have hF : s.f.okI = true ∨ noneE s.f = true := by
    unfold SX.fitB SX.onlyE SX.onlyN at h
    repeat' split at h
    all_goals simp_all
  refine ⟨?_, ?_⟩
  · rcases hE with hE | hE
    · exact okI_size (by omega) hE
    · exact none_size hE
  · rcases hF with hF | hF
    · exact okI_size (by omega) hF
    · exact none_size hF
def fine (ks : List SX) (r n m : Nat) : Prop := (SX.withinAll ks r).all goodS = true ∧ n + (SX.withinAll ks r).length ≤ 40 ∧ m + nodesOf (SX.withinAll ks r) ≤ 640
theorem SX.goR_same (sz : Nat) : ∀ ks : List SX, SX.sizeAll ks ≤ sz → (∀ (i : Nat) (k : SX), ks[i]? = some k → SmallS k) → ∀ r n m : Nat, r + 1 ≤ 6 → n ≤ 40 → m ≤ 640 →
    ((SX.goR ks (r + 1) n m).2.2 = true ↔ fine ks r n m) ∧ (fine ks r n m → SX.goR ks (r + 1) n m = (n + (SX.withinAll ks r).length, m + nodesOf (SX.withinAll ks r), true)) := by
  induction sz using Nat.strongRecOn with
  | _ sz ih =>
  have hl : ∀ l : List SX, SX.sizeAll l < sz → (∀ (i : Nat) (k : SX), l[i]? = some k → SmallS k) → ∀ r : Nat,
      ((SX.listR l (r + 1)).2.2 = true ↔ (r + 1 ≤ 6 ∧ fine l r 0 0)) ∧ ((r + 1 ≤ 6 ∧ fine l r 0 0) → SX.listR l (r + 1) = ((SX.withinAll l r).length, nodesOf (SX.withinAll l r), true)) := by
    intro l h hs r
    rw [SX.listR_eq]
    by_cases h6 : 6 < r + 1
    · rw [if_pos h6]
      exact ⟨⟨fun h => (by cases h), fun h => by omega⟩, fun h => by omega⟩
    · rw [if_neg h6]
      have h1 := ih _ h l (Nat.le_refl _) hs r 0 0 (by omega) (by omega) (by omega)
      refine ⟨⟨fun h => ⟨by omega, h1.1.1 h⟩, fun h => h1.1.2 h.2⟩, fun h => ?_⟩
      rw [h1.2 h.2]
      simp
  intro ks
  induction ks with
  | nil =>
    intro _ _ r n m _ hn hm
    rw [SX.goR_nil]
    refine ⟨⟨fun _ => ⟨rfl, ?_, ?_⟩, fun _ => rfl⟩, fun _ => ?_⟩
    · simpa [SX.withinAll] using hn
    · simpa [SX.withinAll, nodesOf] using hm
    · simp [SX.withinAll, nodesOf]
  | cons s ss ihs =>
    intro hsz hs r n m hr hn hm
    have hs0 := hs 0 s rfl
    obtain ⟨-, -, -, -, ka, kb⟩ := hs0.parts
    have h1 := s.size_eq
    simp only [SX.sizeAll] at hsz
    have hA := hl s.la (by omega) ka (r + 1)
    have hB := hl s.lb (by omega) kb (r + 1)
    have hw : wrap64 ((r : Int) + 1) = ((r + 1 : Nat) : Int) := by rw [wrap_small (by omega) (by omega)]; simp
    have hin : s.within r = ((r : Int), s) :: (SX.withinAll s.la (r + 1 : Nat) ++ SX.withinAll s.lb (r + 1 : Nat)) := by rw [SX.within_eq, hw]
    have hall : SX.withinAll (s :: ss) r = s.within r ++ SX.withinAll ss r := by rw [SX.withinAll]
    -- one statement
    have hone : ((s.oneR (r + 1)).2.2 = true ↔ (r ≤ 4 ∧ s.fitB = true ∧ fine s.la (r + 1) 0 0 ∧ fine s.lb (r + 1) 0 0)) := by
      rw [SX.oneR_eq]
      dsimp only
      rw [Bool.and_eq_true, Bool.and_eq_true, hA.1, hB.1]
      constructor
      · rintro ⟨⟨a1, a2⟩, ⟨b1, b2⟩, b3⟩
        exact ⟨by omega, b3, a2, b2⟩
      · rintro ⟨a1, a2, a3, a4⟩
        exact ⟨⟨by omega, a3⟩, ⟨by omega, a4⟩, a2⟩
    have hcnt : (r ≤ 4 ∧ s.fitB = true ∧ fine s.la (r + 1) 0 0 ∧ fine s.lb (r + 1) 0 0) → (s.oneR (r + 1)).1 = (s.within r).length ∧ (s.oneR (r + 1)).2.1 = nodesOf (s.within r) := by
      rintro ⟨a1, a2, a3, a4⟩
      obtain ⟨e1, e2⟩ := SX.fit_size hs0 a2
      rw [SX.oneR_eq, hA.2 ⟨by omega, a3⟩, hB.2 ⟨by omega, a4⟩, e1, e2, hin]
      have hn1 : nodesOf (((r : Int), s) :: (SX.withinAll s.la (r + 1 : Nat) ++ SX.withinAll s.lb (r + 1 : Nat))) = s.e.size + s.f.size + (nodesOf (SX.withinAll s.la (r + 1 : Nat)) + nodesOf (SX.withinAll s.lb (r + 1 : Nat))) := by
        rw [← nodesOf_append]
        simp [nodesOf]
      rw [hn1]
      refine ⟨?_, ?_⟩
      · simp only [List.length_cons, List.length_append]; omega
      · dsimp only; omega
    have hgood : (s.within r).all goodS = true ↔ (r ≤ 4 ∧ s.fitB = true ∧ (SX.withinAll s.la (r + 1 : Nat)).all goodS = true ∧ (SX.withinAll s.lb (r + 1 : Nat)).all goodS = true) := by
      rw [hin, List.all_cons, List.all_append, Bool.and_eq_true, Bool.and_eq_true]
      simp only [goodS, Bool.and_eq_true, decide_eq_true_eq]
      constructor
      · rintro ⟨⟨a1, a2⟩, a3, a4⟩
        exact ⟨by omega, a2, a3, a4⟩
      · rintro ⟨a1, a2, a3, a4⟩
        exact ⟨⟨by omega, a2⟩, a3, a4⟩
    have hlen : (s.within r).length = 1 + (SX.withinAll s.la (r + 1 : Nat)).length + (SX.withinAll s.lb (r + 1 : Nat)).length := by
      rw [hin]
      simp only [List.length_cons, List.length_append]
      omega
    have hnod : nodesOf (SX.withinAll s.la (r + 1 : Nat)) ≤ nodesOf (s.within r) ∧ nodesOf (SX.withinAll s.lb (r + 1 : Nat)) ≤ nodesOf (s.within r) := by
      rw [hin]
      have hn1 : nodesOf (((r : Int), s) :: (SX.withinAll s.la (r + 1 : Nat) ++ SX.withinAll s.lb (r + 1 : Nat))) = s.e.size + s.f.size + (nodesOf (SX.withinAll s.la (r + 1 : Nat)) + nodesOf (SX.withinAll s.lb (r + 1 : Nat))) := by
        rw [← nodesOf_append]
        simp [nodesOf]
      rw [hn1]
      omega
    have hfine : fine (s :: ss) r n m ↔ ((s.within r).all goodS = true ∧ fine ss r (n + (s.within r).length) (m + nodesOf (s.within r))) := by
      unfold fine
      rw [hall, List.all_append, Bool.and_eq_true, List.length_append, nodesOf_append]
      constructor
      · rintro ⟨⟨a1, a2⟩, a3, a4⟩
        exact ⟨a1, a2, by omega, by omega⟩
      · rintro ⟨a1, a2, a3, a4⟩
        exact ⟨⟨a1, a2⟩, by omega, by omega⟩
    rw [SX.goR_cons]
    by_cases hc : (s.oneR (r + 1)).2.2 = true ∧ n + (s.oneR (r + 1)).1 ≤ 40 ∧ m + (s.oneR (r + 1)).2.1 ≤ 640
    · rw [if_pos hc]
      have hg := hone.1 hc.1
      obtain ⟨q1, q2⟩ := hcnt hg
      rw [q1, q2] at hc
      rw [q1, q2]
      have hi := ihs (by omega) (fun i k hk => hs (i + 1) k (by simpa using hk)) r (n + (s.within r).length) (m + nodesOf (s.within r)) hr hc.2.1 hc.2.2
      have hga : (s.within r).all goodS = true := hgood.2 ⟨hg.1, hg.2.1, hg.2.2.1.1, hg.2.2.2.1⟩
      rw [hfine]
      refine ⟨⟨fun h => ⟨hga, hi.1.1 h⟩, fun h => hi.1.2 h.2⟩, fun h => ?_⟩
      rw [hi.2 h.2, hall, List.length_append, nodesOf_append]
      simp only [Nat.add_assoc]
    · rw [if_neg hc]
      have hno : ¬ fine (s :: ss) r n m := by
        rw [hfine]
        rintro ⟨a1, -, a2, a3⟩
        obtain ⟨g1, g2, g3, g4⟩ := hgood.1 a1
        have hx : r ≤ 4 ∧ s.fitB = true ∧ fine s.la (r + 1) 0 0 ∧ fine s.lb (r + 1) 0 0 := by
          refine ⟨g1, g2, ⟨g3, ?_, ?_⟩, ⟨g4, ?_, ?_⟩⟩
          all_goals omega
        obtain ⟨q1, q2⟩ := hcnt hx
        exact hc ⟨hone.2 hx, by omega, by omega⟩
      exact ⟨⟨fun h => (by cases h), fun h => absurd h hno⟩, fun h => absurd h hno⟩
theorem task_same (ks : List SX) (hs : ∀ (i : Nat) (k : SX), ks[i]? = some k → SmallS k) : (SX.listR ks 1).2.2 = taskI ks := by
  have h := SX.goR_same _ ks (Nat.le_refl _) hs 0 0 0 (by omega) (by omega) (by omega)
  rw [SX.listR_eq, if_neg (by omega), Bool.eq_iff_iff, h.1]
  unfold fine taskI
  rw [Bool.and_eq_true, decide_eq_true_eq]
  simp only [Nat.zero_add]
  exact Iff.rfl
end Go.Proofs.Ytiabnpbhhiacmaa
