/-
  Going along jumps: whoever has gone along as many as there are instructions, the last of which is no jump, goes round for ever.
-/
import Derived.Test.YtimfdfeleoaehaaStmtA
namespace Go.Proofs.Ytimfdfeleoaehaa
open Go.RowKit
set_option linter.unusedSimpArgs false
set_option linter.unusedVariables false

/-- an instruction as it lies in memory -/
structure IX where
  op : Int
  s : SX
  dst : Int
theorem pigeon : ∀ (n : Nat) (f : Nat → Nat), (∀ i, i ≤ n → f i < n) → ∃ i j, i < j ∧ j ≤ n ∧ f i = f j
  | 0, f, h => absurd (h 0 (Nat.le_refl 0)) (by omega)
  | n + 1, f, h => by
    by_cases hx : ∃ i, i ≤ n ∧ f i = f (n + 1)
    · obtain ⟨i, h1, h2⟩ := hx
      exact ⟨i, n + 1, by omega, by omega, h2⟩
    · have hne : ∀ i, i ≤ n → f i ≠ f (n + 1) := fun i hi e => hx ⟨i, hi, e⟩
      have hl := h (n + 1) (Nat.le_refl _)
      obtain ⟨i, j, h1, h2, h3⟩ := pigeon n (fun i => if f i < f (n + 1) then f i else f i - 1) (fun i hi => by
        have := hne i hi
        have := h i (by omega)
        split <;> omega)
      refine ⟨i, j, h1, by omega, ?_⟩
      have e1 := hne i (by omega)
      have e2 := hne j (by omega)
      split at h3 <;> split at h3 <;> omega
def isJ (code : List IX) (k : Nat) : Bool := match code[k]? with
  | some x => decide (x.op = 3)
  | none => false
def nxt (code : List IX) (k : Nat) : Nat := match code[k]? with
  | some x => x.dst.toNat
  | none => 0
def goJ (code : List IX) : Nat → Nat → Option Nat
  | 0, _ => none
  | f + 1, k => if isJ code k = true then goJ code f (nxt code k) else some k
def itr (code : List IX) : Nat → Nat → Nat
  | 0, k => k
  | m + 1, k => itr code m (nxt code k)
theorem itr_add (code : List IX) : ∀ (m n k : Nat), itr code (m + n) k = itr code n (itr code m k)
  | 0, n, k => by simp [itr]
  | m + 1, n, k => by
    rw [show m + 1 + n = (m + n) + 1 by omega]
    simp only [itr]
    exact itr_add code m n _
theorem goJ_none (code : List IX) : ∀ (f k : Nat), goJ code f k = none ↔ ∀ m, m < f → isJ code (itr code m k) = true
  | 0, k => by simp [goJ]
  | f + 1, k => by
    rw [goJ]
    by_cases hj : isJ code k = true
    · rw [if_pos hj, goJ_none code f]
      constructor
      · intro h m hm
        cases m with
        | zero => exact hj
        | succ m => exact h m (by omega)
      · intro h m hm
        exact h (m + 1) (by omega)
    · rw [if_neg hj]
      constructor
      · intro h; cases h
      · intro h; exact absurd (h 0 (by omega)) hj
theorem goJ_more (code : List IX) : ∀ (f k m : Nat), goJ code f k = some m → goJ code (f + 1) k = some m
  | 0, k, m, h => by simp [goJ] at h
  | f + 1, k, m, h => by
    rw [goJ] at h
    rw [goJ]
    by_cases hj : isJ code k = true
    · rw [if_pos hj] at h ⊢
      exact goJ_more code f _ m h
    · rw [if_neg hj] at h ⊢
      exact h
theorem isJ_lt {code : List IX} {k : Nat} (h : isJ code k = true) : k < code.length := by
  unfold isJ at h
  split at h
  · rename_i x hx
    exact (List.getElem?_eq_some_iff.1 hx).1
  · cases h
theorem goJ_same (code : List IX) (n : Nat) (hn : code.length = n) (h1 : 1 ≤ n) (hlast : isJ code (n - 1) = false) (k : Nat) : goJ code (n + 1) k = goJ code n k := by
  cases hg : goJ code n k with
  | some m => exact goJ_more code n k m hg
  | none =>
    rw [goJ_none] at hg ⊢
    have hsmall : ∀ i, i ≤ n - 1 → itr code i k < n - 1 := by
      intro i hi
      have h2 := hg i (by omega)
      have h3 := isJ_lt h2
      have h4 : itr code i k ≠ n - 1 := by
        intro e
        rw [e, hlast] at h2
        cases h2
      omega
    obtain ⟨i, j, hij, hj, heq⟩ := pigeon (n - 1) (fun i => itr code i k) hsmall
    have hall : ∀ m, isJ code (itr code m k) = true := by
      intro m
      induction m using Nat.strongRecOn with
      | _ m ih =>
        by_cases hm : m < n
        · exact hg m hm
        · obtain ⟨d, hd⟩ : ∃ d, m = j + d := ⟨m - j, by omega⟩
          have h5 : itr code m k = itr code (i + d) k := by
            rw [hd, itr_add, itr_add]
            rw [heq]
          rw [h5]
          exact ih (i + d) (by omega)
    exact fun m _ => hall m
/-- where one is from a place on, jumps being gone along so often; -1, if that never ends -/
def alongN (code : List IX) : Nat → Int → Int
  | 0, _ => -1
  | f + 1, p => if p < 0 ∨ (code.length : Int) ≤ p then -1 else match code[p.toNat]? with
    | some x => if x.op = 3 then alongN code f x.dst else p
    | none => -1
def toI : Option Nat → Int
  | some m => (m : Int)
  | none => -1
theorem along_go (code : List IX) (hr : ∀ (i : Nat) (x : IX), code[i]? = some x → x.op = 3 → 0 ≤ x.dst ∧ x.dst < (code.length : Int)) : ∀ (f k : Nat), k < code.length → alongN code f (k : Int) = toI (goJ code f k)
  | 0, k, h => rfl
  | f + 1, k, h => by
    rw [alongN, goJ, if_neg (by omega)]
    obtain ⟨x, hx⟩ : ∃ x, code[k]? = some x := ⟨_, List.getElem?_eq_getElem h⟩
    have h1 : ((k : Int)).toNat = k := by omega
    rw [h1, hx]
    dsimp only
    by_cases hj : x.op = 3
    · obtain ⟨r1, r2⟩ := hr k x hx hj
      have h2 : isJ code k = true := by simp [isJ, hx, hj]
      have h3 : nxt code k = x.dst.toNat := by simp [nxt, hx]
      rw [if_pos hj, if_pos h2, h3, ← along_go code hr f x.dst.toNat (by omega)]
      congr 1
      omega
    · have h2 : isJ code k = false := by simp [isJ, hx, hj]
      rw [if_neg hj, h2]
      rfl
theorem goJ_lt (code : List IX) (hr : ∀ (i : Nat) (x : IX), code[i]? = some x → x.op = 3 → 0 ≤ x.dst ∧ x.dst < (code.length : Int)) : ∀ (f k m : Nat), k < code.length → goJ code f k = some m → m < code.length
  | 0, k, m, h, hm => by simp [goJ] at hm
  | f + 1, k, m, h, hm => by
    rw [goJ] at hm
    obtain ⟨x, hx⟩ : ∃ x, code[k]? = some x := ⟨_, List.getElem?_eq_getElem h⟩
    by_cases hj : x.op = 3
    · obtain ⟨r1, r2⟩ := hr k x hx hj
      have h2 : isJ code k = true := by simp [isJ, hx, hj]
      have h3 : nxt code k = x.dst.toNat := by simp [nxt, hx]
      rw [if_pos h2, h3] at hm
      exact goJ_lt code hr f _ m (by omega) hm
    · have h2 : isJ code k = false := by simp [isJ, hx, hj]
      rw [h2] at hm
      simp at hm
      omega
end Go.Proofs.Ytimfdfeleoaehaa
