/-
  What the program's TreeExprOk answers: an expression is ok just if it has at most 160 parts, none deeper than 6, each of which has what its kind has.
-/
import Derived.Test.YtijblhnjhpmedaaDoorTreeE
namespace Go.Proofs.YtijblhnjhpmedaaDoor
open Go.RowKit Go.Shelf
set_option linter.unusedSimpArgs false
set_option linter.unusedVariables false
attribute [local go_sem] Oper.semAt_some

def fitI (k n : Int) (s : ByteArray) (len : Nat) : Bool :=
  if k = 1 then decide (-1000000 ≤ n ∧ n ≤ 1000000) && (s.toList.isEmpty && decide (len = 0))
  else if k = 2 then (n == 0) && (nameB s && decide (len = 0))
  else if k = 3 then (n == 0) && (nameB s && decide (len = 1))
  else if 4 ≤ k ∧ k ≤ 11 then (n == 0) && (s.toList.isEmpty && decide (len = 2))
  else if k = 12 then (n == 0) && (s.toList.isEmpty && decide (len = 1))
  else false
def XT.fit (t : XT) : Bool := fitI t.kind t.num t.name t.kids.length
def goodB (x : Int × XT) : Bool := decide (x.1 ≤ 6) && x.2.fit
def XT.okI (t : XT) : Bool := (t.parts 1).all goodB && decide (t.size ≤ 160)
theorem XT.parts_length (sz : Nat) : ∀ (t : XT), t.size ≤ sz → ∀ d, (t.parts d).length = t.size := by
  induction sz with
  | zero => intro t h; rw [XT.size_eq] at h; omega
  | succ sz ih =>
    have hl : ∀ ks : List XT, XT.sizeAll ks ≤ sz → ∀ d, (XT.partsAll ks d).length = XT.sizeAll ks := by
      intro ks
      induction ks with
      | nil => intro _ d; rfl
      | cons x xs ihx =>
        intro h d
        simp only [XT.sizeAll] at h
        simp only [XT.partsAll, XT.sizeAll, List.length_append]
        rw [ih x (by omega), ihx (by omega)]
    intro t h d
    rw [XT.size_eq] at h ⊢
    rw [XT.parts_eq, List.length_cons, hl _ (by omega)]
    omega
theorem XT.okI_long {t : XT} {pre : List (Int × XT)} (h : pre <+: t.parts 1) (hl : 160 < pre.length) : t.okI = false := by
  have h1 := h.length_le
  rw [XT.parts_length _ t (Nat.le_refl _)] at h1
  simp [XT.okI]
  omega
theorem XT.okI_bad {t : XT} {pre : List (Int × XT)} {x : Int × XT} (h : pre ++ [x] <+: t.parts 1) (hl : goodB x = false) : t.okI = false := by
  obtain ⟨r, hr⟩ := h
  have hx : (t.parts 1).all goodB = false := by
    rw [← hr]
    simp [hl]
  simp [XT.okI, hx]
theorem Good.parts (sz : Nat) : ∀ (t : XT), t.size ≤ sz → Good t → ∀ d, ∀ x ∈ t.parts d, x.2.name.size ≤ 1048576 := by
  induction sz with
  | zero => intro t h; rw [XT.size_eq] at h; omega
  | succ sz ih =>
    have hl : ∀ ks : List XT, XT.sizeAll ks ≤ sz → (∀ (i : Nat) (k : XT), ks[i]? = some k → Good k) → ∀ d, ∀ x ∈ XT.partsAll ks d, x.2.name.size ≤ 1048576 := by
      intro ks
      induction ks with
      | nil => intro _ _ d x hx; simp [XT.partsAll] at hx
      | cons y ys ihx =>
        intro h hg d x hx
        simp only [XT.sizeAll] at h
        simp only [XT.partsAll, List.mem_append] at hx
        rcases hx with hx | hx
        · exact ih y (by omega) (hg 0 y rfl) d x hx
        · exact ihx (by omega) (fun i k hk => hg (i + 1) k (by simpa using hk)) d x hx
    intro t h hg d x hx
    rw [XT.size_eq] at h
    rw [XT.parts_eq] at hx
    rcases List.mem_cons.1 hx with rfl | hx
    · exact hg.name
    · exact hl _ (by omega) hg.kid _ x hx

end Go.Proofs.YtijblhnjhpmedaaDoor
