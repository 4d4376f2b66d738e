/-
  When two expressions are the same, and that the program's and the specification's comparison of expressions both say so.
-/
import Derived.Test.YtijblhnjhpmedaaDoorTreeI
namespace Go.Proofs.YtijblhnjhpmedaaDoor
open Go.RowKit Go.Shelf
set_option linter.unusedSimpArgs false
set_option linter.unusedVariables false
attribute [local go_sem] Oper.semAt_some

def allZ {α : Type} (f : α → α → Bool) : List α → List α → Bool
  | [], [] => true
  | x :: xs, y :: ys => f x y && allZ f xs ys
  | [], _ :: _ => false
  | _ :: _, [] => false
theorem allZ_len {α : Type} (f : α → α → Bool) : ∀ (ks us : List α), ks.length ≠ us.length → allZ f ks us = false
  | [], [], h => absurd rfl h
  | [], _ :: _, _ => rfl
  | _ :: _, [], _ => rfl
  | x :: xs, y :: ys, h => by
    have := allZ_len f xs ys (by simpa using h)
    simp [allZ, this]
theorem allZ_bad {α : Type} {f : α → α → Bool} : ∀ {ks us : List α} {i : Nat} {x y : α}, ks[i]? = some x → us[i]? = some y → f x y = false → allZ f ks us = false
  | [], _, i, _, _, h, _, _ => by simp at h
  | _ :: _, [], i, _, _, _, h, _ => by simp at h
  | a :: as', b :: bs, 0, x, y, hx, hy, hf => by
    simp at hx hy
    subst hx
    subst hy
    simp [allZ, hf]
  | a :: as', b :: bs, i + 1, x, y, hx, hy, hf => by
    have := allZ_bad (ks := as') (us := bs) (i := i) (by simpa using hx) (by simpa using hy) hf
    simp [allZ, this]
theorem allZ_all {α : Type} {f : α → α → Bool} : ∀ {ks us : List α}, ks.length = us.length → (∀ (i : Nat) (x y : α), ks[i]? = some x → us[i]? = some y → f x y = true) → allZ f ks us = true
  | [], [], _, _ => rfl
  | [], _ :: _, h, _ => by simp at h
  | _ :: _, [], h, _ => by simp at h
  | x :: xs, y :: ys, h, H => by
    have h1 := H 0 x y rfl rfl
    have h2 := allZ_all (f := f) (ks := xs) (us := ys) (by simpa using h) (fun i a b ha hb => H (i + 1) a b (by simpa using ha) (by simpa using hb))
    simp [allZ, h1, h2]
def upToZ {α : Type} (f : α → α → Bool) (ks us : List α) (i : Nat) : Prop := ∀ (j : Nat) (x y : α), j < i → ks[j]? = some x → us[j]? = some y → f x y = true
theorem upToZ_next {α : Type} {f : α → α → Bool} {ks us : List α} {i : Nat} {x y : α} (h : upToZ f ks us i) (hx : ks[i]? = some x) (hy : us[i]? = some y) (hf : f x y = true) : upToZ f ks us (i + 1) := by
  intro j x' y' hj hx' hy'
  by_cases e : j = i
  · subst e
    rw [hx] at hx'
    rw [hy] at hy'
    cases hx'
    cases hy'
    exact hf
  · exact h j x' y' (by omega) hx' hy'
theorem upToZ_all {α : Type} {f : α → α → Bool} {ks us : List α} {i : Nat} (h : upToZ f ks us i) (hl : ks.length = us.length) (hi : ks.length ≤ i) : allZ f ks us = true :=
  allZ_all hl (fun j x y hx hy => h j x y (by have := (List.getElem?_eq_some_iff.1 hx).1; omega) hx hy)
mutual
def XT.sameB : XT → XT → Bool
  | .mk k n s _ _ ks, u => decide (k = u.kind) && (decide (n = u.num) && ((s.toList == u.name.toList) && XT.sameL ks u.kids))
def XT.sameL : List XT → List XT → Bool
  | [], us => match us with
    | [] => true
    | _ :: _ => false
  | t :: ts, us => match us with
    | [] => false
    | v :: vs => XT.sameB t v && XT.sameL ts vs
end
theorem XT.sameL_eq : ∀ ks us : List XT, XT.sameL ks us = allZ XT.sameB ks us
  | [], [] => by simp [XT.sameL, allZ]
  | [], _ :: _ => by simp [XT.sameL, allZ]
  | _ :: _, [] => by simp [XT.sameL, allZ]
  | x :: xs, y :: ys => by simp [XT.sameL, allZ, XT.sameL_eq xs ys]
theorem XT.sameB_eq (t u : XT) : t.sameB u = (decide (t.kind = u.kind) && (decide (t.num = u.num) && ((t.name.toList == u.name.toList) && allZ XT.sameB t.kids u.kids))) := by
  cases t
  rw [XT.sameB, XT.sameL_eq]
  rfl
def ERow (ok : Nat → Prop) (W : World) (a : Option Addr) (ks : List XT) : Prop := ∀ (i : Nat) (k : XT), ks[i]? = some k → ∃ b o, a = some ⟨b, o, none⟩ ∧ ok b ∧ Cells4 W b (o + i * 4) k

end Go.Proofs.YtijblhnjhpmedaaDoor
