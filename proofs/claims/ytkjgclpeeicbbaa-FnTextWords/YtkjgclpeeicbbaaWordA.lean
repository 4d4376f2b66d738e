/-
  The words of two texts with a space and a new line between: those of the one, and then those of the other; a word has a letter, and no space and no new line.
-/
import Derived.Test.YtkjgclpeeicbbaaTextC
namespace Go.Proofs.Ytkjgclpeeicbbaa
open Go.RowKit Go.Shelf
set_option linter.unusedSimpArgs false
set_option linter.unusedVariables false

theorem ext_pre (a c : ByteArray) {i j : Nat} (h : j ≤ a.size) : (a ++ c).extract i j = a.extract i j := by
  apply ByteArray.ext
  rw [ByteArray.data_extract, ByteArray.data_extract, ByteArray.data_append]
  have h' : j ≤ a.data.size := h
  apply Array.ext_getElem?
  intro n
  simp only [Array.getElem?_extract, Array.getElem?_append, Array.size_append]
  split <;> split <;> first | rfl | (split <;> first | rfl | (exfalso; omega)) | (exfalso; omega)
theorem ext_suf (a c : ByteArray) (i j : Nat) : (a ++ c).extract (a.size + i) (a.size + j) = c.extract i j := by
  apply ByteArray.ext
  rw [ByteArray.data_extract, ByteArray.data_extract, ByteArray.data_append]
  have h' : a.size = a.data.size := rfl
  rw [h']
  apply Array.ext_getElem?
  intro n
  simp only [Array.getElem?_extract, Array.getElem?_append, Array.size_append]
  by_cases h : n < min j c.data.size - i
  · rw [if_pos (by omega), if_pos h, if_neg (by omega)]
    congr 1
    omega
  · rw [if_neg (by omega), if_neg h]
theorem getD_pre (a c : ByteArray) {i : Nat} (h : i < a.size) : (a ++ c).data.getD i 32 = a.data.getD i 32 := by
  have h' : i < a.data.size := h
  rw [ByteArray.data_append, Array.getD_eq_getD_getElem?, Array.getD_eq_getD_getElem?, Array.getElem?_append_left h']
theorem getD_suf (a c : ByteArray) (i : Nat) : (a ++ c).data.getD (a.size + i) 32 = c.data.getD i 32 := by
  have h' : a.size = a.data.size := rfl
  rw [ByteArray.data_append, Array.getD_eq_getD_getElem?, Array.getD_eq_getD_getElem?, h', Array.getElem?_append_right (by omega), Nat.add_sub_cancel_left]
theorem wst_left (a c : ByteArray) : ∀ k, k ≤ a.size → wst (a ++ c) k = wst a k
  | 0, _ => by rw [wst, wst]
  | k + 1, h => by
    have ih := wst_left a c k (by omega)
    rw [wst, wst, ih, getD_pre a c (by omega), ext_pre a c (by omega)]
theorem wcut_left (a c : ByteArray) (k : Nat) (h : k ≤ a.size) : wcut (a ++ c) k = wcut a k := by
  unfold wcut
  rw [wst_left a c k h, ext_pre a c h]
/-- Behind a place where no word is begun the words go on as those of the rest. -/
theorem wst_right (a c : ByteArray) (L : List ByteArray) (h : wst (a ++ c) a.size = (L, a.size)) : ∀ k, wst (a ++ c) (a.size + k) = (L ++ (wst c k).1, a.size + (wst c k).2)
  | 0 => by rw [Nat.add_zero, h, wst]; simp
  | k + 1 => by
    have ih := wst_right a c L h k
    rw [show a.size + (k + 1) = (a.size + k) + 1 from rfl, wst, ih, getD_suf]
    conv => rhs; rw [wst]
    by_cases hs : sepB (c.data.getD k 32) = true
    · rw [if_pos hs, if_pos hs]
      by_cases hk : (wst c k).2 < k
      · rw [if_pos (by omega), if_pos hk, ext_suf, List.append_assoc]
        rfl
      · rw [if_neg (by omega), if_neg hk]
        rfl
    · rw [if_neg hs, if_neg hs]
theorem wds_right (a c : ByteArray) (L : List ByteArray) (h : wst (a ++ c) a.size = (L, a.size)) : wds (a ++ c) = L ++ wds c := by
  have hr := wst_right a c L h c.size
  have hsz : (a ++ c).size = a.size + c.size := ByteArray.size_append
  unfold wds wcut
  rw [hsz, hr]
  by_cases hk : (wst c c.size).2 < c.size
  · rw [if_pos (by dsimp only; omega), if_pos hk, ext_suf, List.append_assoc]
  · rw [if_neg (by dsimp only; omega), if_neg hk]
def gap : ByteArray := ⟨#[32, 10]⟩
theorem wds_gap (a b : ByteArray) : wds (a ++ gap ++ b) = wds a ++ wds b := by
  have h1 : wst (a ++ gap ++ b) (a ++ gap).size = (wds a, (a ++ gap).size) := by
    rw [wst_left _ b _ (Nat.le_refl _)]
    have hsz : (a ++ gap).size = a.size + 1 + 1 := ByteArray.size_append
    have e0 : wst (a ++ gap) a.size = wst a a.size := wst_left a gap _ (Nat.le_refl _)
    have s0 : (a ++ gap).data.getD a.size 32 = 32 := getD_suf a gap 0
    have s1 : (a ++ gap).data.getD (a.size + 1) 32 = 10 := getD_suf a gap 1
    have e1 : wst (a ++ gap) (a.size + 1) = (wds a, a.size + 1) := by
      rw [wst, s0, if_pos (by decide)]
      have := wcut_left a gap a.size (Nat.le_refl _)
      unfold wcut at this
      rw [this]
      rfl
    rw [hsz, wst, s1, if_pos (by decide), e1]
    rw [if_neg (by dsimp only; omega)]
  exact wds_right (a ++ gap) b (wds a) h1
/-- What a word is. -/
def wordOkB (x : ByteArray) : Prop := 0 < x.size ∧ ∀ (i : Nat) (h : i < x.size), sepB x[i] = false
theorem wst_ok (s : ByteArray) : ∀ k, k ≤ s.size → (∀ x ∈ (wst s k).1, wordOkB x) ∧ (∀ i, (wst s k).2 ≤ i → (h : i < k) → sepB (s.data.getD i 32) = false)
  | 0, _ => by rw [wst]; exact ⟨fun x h => by simp at h, fun i _ h => by omega⟩
  | k + 1, hk => by
    obtain ⟨h1, h2⟩ := wst_ok s k (by omega)
    have hle := (wst_le s k).2
    rw [wst]
    by_cases hs : sepB (s.data.getD k 32) = true
    · rw [if_pos hs]
      refine ⟨fun x hx => ?_, fun i hi h => by dsimp only at hi; omega⟩
      dsimp only at hx
      split at hx
      · rcases List.mem_append.1 hx with hx | hx
        · exact h1 x hx
        · rw [List.mem_singleton] at hx
          have hxs : x.size = k - (wst s k).2 := by rw [hx, ext_size s (by omega)]
          refine ⟨by omega, fun i hi => ?_⟩
          have h3 := h2 ((wst s k).2 + i) (by omega) (by omega)
          have h4 : x[i] = s.data.getD ((wst s k).2 + i) 32 := by
            subst hx
            rw [Array.getD_eq_getD_getElem?, Array.getElem?_eq_getElem (show (wst s k).2 + i < s.data.size from by have : s.data.size = s.size := rfl; omega)]
            simp [ByteArray.getElem_extract]
            rfl
          rw [h4]
          exact h3
      · exact h1 x hx
    · rw [if_neg hs]
      refine ⟨h1, fun i hi h => ?_⟩
      by_cases e : i = k
      · subst e; simpa using hs
      · exact h2 i hi (by omega)
theorem wds_ok (s : ByteArray) : ∀ x ∈ wds s, wordOkB x := by
  obtain ⟨h1, h2⟩ := wst_ok s s.size (Nat.le_refl _)
  have h3 := wst_le s s.size
  intro x hx
  unfold wds wcut at hx
  split at hx
  · rcases List.mem_append.1 hx with hx | hx
    · exact h1 x hx
    · rw [List.mem_singleton] at hx
      have hxs : x.size = s.size - (wst s s.size).2 := by rw [hx, ext_size s (Nat.le_refl _)]
      refine ⟨by omega, fun i hi => ?_⟩
      have h3 := h2 ((wst s s.size).2 + i) (by omega) (by omega)
      have h4 : x[i] = s.data.getD ((wst s s.size).2 + i) 32 := by
        subst hx
        rw [Array.getD_eq_getD_getElem?, Array.getElem?_eq_getElem (show (wst s s.size).2 + i < s.data.size from by have : s.data.size = s.size := rfl; omega)]
        simp [ByteArray.getElem_extract]
        rfl
      rw [h4]
      exact h3
  · exact h1 x hx
end Go.Proofs.Ytkjgclpeeicbbaa
