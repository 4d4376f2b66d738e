/-
  The words of a text: the specification's TextWords answers them, in a list of its own.
-/
import Derived.Test.YtimfdfeleoaehaaTextA
import Derived.Deep.AppendLies
import Derived.Deep.RegionLaw
import Derived.OwnWalk
namespace Go.Proofs.Ytimfdfeleoaehaa
open Go.RowKit Go.Shelf
set_option linter.unusedSimpArgs false
set_option linter.unusedVariables false

def sepB (b : UInt8) : Bool := decide ((b.toNat : Int) = 32 ∨ (b.toNat : Int) = 10)
mutual
def wst (s : ByteArray) : Nat → List ByteArray × Nat
  | 0 => ([], 0)
  | k + 1 => if sepB (s.data.getD k 32) then ((if (wst s k).2 < k then (wst s k).1 ++ [s.extract (wst s k).2 k] else (wst s k).1), k + 1) else wst s k
end
def wcut (s : ByteArray) (k : Nat) : List ByteArray := if (wst s k).2 < k then (wst s k).1 ++ [s.extract (wst s k).2 k] else (wst s k).1
def wds (s : ByteArray) : List ByteArray := wcut s s.size
theorem wst_sep {s : ByteArray} {k : Nat} (h : k < s.size) (hs : sepB s[k] = true) : wst s (k + 1) = (wcut s k, k + 1) := by
  have : s.data.getD k 32 = s[k] := by simp only [Array.getD]; rw [dif_pos (show k < s.data.size from h)]; rfl
  rw [wst, this, if_pos hs]; rfl
theorem wst_let {s : ByteArray} {k : Nat} (h : k < s.size) (hs : sepB s[k] = false) : wst s (k + 1) = wst s k := by
  have : s.data.getD k 32 = s[k] := by simp only [Array.getD]; rw [dif_pos (show k < s.data.size from h)]; rfl
  rw [wst, this, if_neg (by simp [hs])]
theorem wst_le (s : ByteArray) (k : Nat) : (wst s k).1.length ≤ (wst s k).2 ∧ (wst s k).2 ≤ k := by
  induction k with
  | zero => simp [wst]
  | succ k ih =>
    rw [wst]
    split
    · dsimp only
      split
      · simp; omega
      · omega
    · omega
theorem wcut_le (s : ByteArray) (k : Nat) : (wcut s k).length ≤ k := by
  have := wst_le s k
  unfold wcut
  split
  · simp; omega
  · omega

theorem wst_last (s : ByteArray) : wst s (s.size + 1) = (wds s, s.size + 1) := by
  have : s.data.getD s.size 32 = 32 := by simp only [Array.getD]; rw [dif_neg (show ¬ s.size < s.data.size from Nat.lt_irrefl _)]
  rw [wst, this, if_pos (by decide)]; rfl
theorem wst_next (s : ByteArray) (k : Nat) : (wst s k).1 <+: (wst s (k + 1)).1 := by
  rw [wst]
  split
  · dsimp only
    split
    · exact List.prefix_append _ _
    · exact List.prefix_refl _
  · exact List.prefix_refl _
theorem wst_pre (s : ByteArray) (k m : Nat) : (wst s k).1 <+: (wst s (k + m)).1 := by
  induction m with
  | zero => exact List.prefix_refl _
  | succ m ih => exact ih.trans (wst_next s (k + m))
theorem wst_wds (s : ByteArray) {k : Nat} (h : k ≤ s.size + 1) : (wst s k).1 <+: wds s := by
  have h1 := wst_pre s k (s.size + 1 - k)
  rw [Nat.add_sub_cancel' h, wst_last] at h1
  exact h1
theorem ext_none (s : ByteArray) (n : Nat) : (⟨#[]⟩ : ByteArray) = s.extract n n := by
  apply ByteArray.ext
  rw [ByteArray.data_extract]
  simp
  omega
theorem ext_join (s : ByteArray) {a b c : Nat} (h1 : a ≤ b) (h2 : b ≤ c) : s.extract a b ++ s.extract b c = s.extract a c := by
  apply ByteArray.ext
  rw [ByteArray.data_append, ByteArray.data_extract, ByteArray.data_extract, ByteArray.data_extract, Array.extract_append_extract, Nat.min_eq_left h1, Nat.max_eq_right h2]
theorem ext_size (s : ByteArray) {a b : Nat} (h : b ≤ s.size) : (s.extract a b).size = b - a := by
  rw [ByteArray.size_extract, Nat.min_eq_left h]
theorem empty_iff (x : ByteArray) : x.toList.isEmpty = decide (x.size = 0) := by
  rw [ByteArray.toList_eq, Bool.eq_iff_iff, List.isEmpty_iff, decide_eq_true_eq, ← List.length_eq_zero_iff]
  exact Iff.rfl
theorem some_iff (x : ByteArray) : (!x.toList.isEmpty) = decide (0 < x.size) := by
  rw [empty_iff, Bool.eq_iff_iff, Bool.not_eq_true', decide_eq_false_iff_not, decide_eq_true_eq]
  omega
theorem some_yes {x : ByteArray} (h : (!x.toList.isEmpty) = true) : 0 < x.size := by rw [some_iff] at h; simpa using h
theorem some_no {x : ByteArray} (h : (!x.toList.isEmpty) = false) : ¬ 0 < x.size := by rw [some_iff] at h; simpa using h
theorem infoStr : (Try.prog.info? 9).map (fun i => (i.zero, i.size, i.bytes)) = some (some (.string ByteArray.empty), 1, 16) := by kernel_rfl
def strs (l : List ByteArray) : List Value := l.map .string
theorem strs_snoc (l : List ByteArray) (x : ByteArray) : strs (l ++ [x]) = strs l ++ [.string x] := by simp [strs]
/-- A separator ends a word that is begun. -/
theorem wst_end {s x : ByteArray} {ws : List ByteArray} {k : Nat} (h : k < s.size) (hs : sepB s[k] = true) (hH : ws = (wst s k).1 ∧ x = s.extract (wst s k).2 k) :
    (0 < x.size → ws ++ [x] = (wst s (k + 1)).1) ∧ (¬ 0 < x.size → ws = (wst s (k + 1)).1) ∧ (⟨#[]⟩ : ByteArray) = s.extract (wst s (k + 1)).2 (k + 1) := by
  have h1 := wst_le s k
  have h2 : x.size = k - (wst s k).2 := by rw [hH.2, ext_size s (by omega)]
  rw [wst_sep h hs, hH.1, hH.2]
  rw [hH.2] at h2
  refine ⟨fun h0 => ?_, fun h0 => ?_, ext_none s _⟩
  · simp only [wcut]; rw [if_pos (by omega)]
  · simp only [wcut]; rw [if_neg (by omega)]
theorem wst_more {s x : ByteArray} {ws : List ByteArray} {k : Nat} (h : k < s.size) (hs : sepB s[k] = false) (hH : ws = (wst s k).1 ∧ x = s.extract (wst s k).2 k) :
    ws = (wst s (k + 1)).1 ∧ x ++ s.extract k (k + 1) = s.extract (wst s (k + 1)).2 (k + 1) := by
  have h1 := wst_le s k
  rw [wst_let h hs, hH.1, hH.2]
  exact ⟨rfl, ext_join s h1.2 (by omega)⟩
theorem wds_end {s x : ByteArray} {ws : List ByteArray} (hH : ws = (wst s s.size).1 ∧ x = s.extract (wst s s.size).2 s.size) :
    (0 < x.size → ws ++ [x] = wds s) ∧ (¬ 0 < x.size → ws = wds s) := by
  have h1 := wst_le s s.size
  have h2 : x.size = s.size - (wst s s.size).2 := by rw [hH.2, ext_size s (by omega)]
  rw [hH.1, hH.2]
  rw [hH.2] at h2
  refine ⟨fun h0 => ?_, fun h0 => ?_⟩
  · simp only [wds, wcut]; rw [if_pos (by omega)]
  · simp only [wds, wcut]; rw [if_neg (by omega)]

end Go.Proofs.Ytimfdfeleoaehaa
