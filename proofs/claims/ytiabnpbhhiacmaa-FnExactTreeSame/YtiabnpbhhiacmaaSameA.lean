/-
  When two expressions are the same, and that the program's and the specification's comparison of expressions both say so.
-/
import Derived.Test.YtiabnpbhhiacmaaTreeI
namespace Go.Proofs.Ytiabnpbhhiacmaa
open Go.RowKit Go.Shelf
set_option linter.unusedSimpArgs false
set_option linter.unusedVariables false
attribute [local go_sem] Oper.semAt_some

def allZ {α : Type} (f : α → α → Bool) : List α → List α → Bool
  | [], [] => true
  | x :: xs, y :: ys => f x y && allZ f xs ys
  | [], _ :: _ => false
  | _ :: _, [] => false
theorem allZ_len {α : Type} (f : α → α → Bool) : ∀ (ks us : List α), ks.length ≠ us.length → allZ f ks us = false
  | [], [], h => absurd rfl h
  | [], _ :: _, _ => rfl
  | _ :: _, [], _ => rfl
  | x :: xs, y :: ys, h => by
    have := allZ_len f xs ys (by simpa using h)
    simp [allZ, this]
theorem allZ_bad {α : Type} {f : α → α → Bool} : ∀ {ks us : List α} {i : Nat} {x y : α}, ks[i]? = some x → us[i]? = some y → f x y = false → allZ f ks us = false
  | [], _, i, _, _, h, _, _ => by simp at h
  | _ :: _, [], i, _, _, _, h, _ => by simp at h
  | a :: as', b :: bs, 0, x, y, hx, hy, hf => by
    simp at hx hy
    subst hx
    subst hy
    simp [allZ, hf]
  | a :: as', b :: bs, i + 1, x, y, hx, hy, hf => by
    have := allZ_bad (ks := as') (us := bs) (i := i) (by simpa using hx) (by simpa using hy) hf
    simp [allZ, this]
theorem allZ_all {α : Type} {f : α → α → Bool} : ∀ {ks us : List α}, ks.length = us.length → (∀ (i : Nat) (x y : α), ks[i]? = some x → us[i]? = some y → f x y = true) → allZ f ks us = true
  | [], [], _, _ => rfl
  | [], _ :: _, h, _ => by simp at h
  | _ :: _, [], h, _ => by simp at h
  | x :: xs, y :: ys, h, H => by
    have h1 := H 0 x y rfl rfl
    have h2 := allZ_all (f := f) (ks := xs) (us := ys) (by simpa using h) (fun i a b ha hb => H (i + 1) a b (by simpa using ha) (by simpa using hb))
    simp [allZ, h1, h2]
def upToZ {α : Type} (f : α → α → Bool) (ks us : List α) (i : Nat) : Prop := ∀ (j : Nat) (x y : α), j < i → ks[j]? = some x → us[j]? = some y → f x y = true
theorem upToZ_next {α : Type} {f : α → α → Bool} {ks us : List α} {i : Nat} {x y : α} (h : upToZ f ks us i) (hx : ks[i]? = some x) (hy : us[i]? = some y) (hf : f x y = true) : upToZ f ks us (i + 1) := by
  intro j x' y' hj hx' hy'
  by_cases e : j = i
  · subst e
    rw [hx] at hx'
    rw [hy] at hy'
    cases hx'
    cases hy'
    exact hf
  · exact h j x' y' (by omega) hx' hy'
theorem upToZ_all {α : Type} {f : α → α → Bool} {ks us : List α} {i : Nat} (h : upToZ f ks us i) (hl : ks.length = us.length) (hi : ks.length ≤ i) : allZ f ks us = true :=
  allZ_all hl (fun j x y hx hy => h j x y (by have := (List.getElem?_eq_some_iff.1 hx).1; omega) hx hy)
mutual
def XT.sameB : XT → XT → Bool
  | .mk k n s _ _ ks, u => decide (k = u.kind) && (decide (n = u.num) && ((s.toList == u.name.toList) && XT.sameL ks u.kids))
def XT.sameL : List XT → List XT → Bool
  | [], us => match us with
    | [] => true
    | _ :: _ => false
  | t :: ts, us => match us with
    | [] => false
    | v :: vs => XT.sameB t v && XT.sameL ts vs
end
theorem XT.sameL_eq : ∀ ks us : List XT, XT.sameL ks us = allZ XT.sameB ks us
  | [], [] => by simp [XT.sameL, allZ]
  | [], _ :: _ => by simp [XT.sameL, allZ]
  | _ :: _, [] => by simp [XT.sameL, allZ]
  | x :: xs, y :: ys => by simp [XT.sameL, allZ, XT.sameL_eq xs ys]
theorem XT.sameB_eq (t u : XT) : t.sameB u = (decide (t.kind = u.kind) && (decide (t.num = u.num) && ((t.name.toList == u.name.toList) && allZ XT.sameB t.kids u.kids))) := by
  cases t
  rw [XT.sameB, XT.sameL_eq]
  rfl
def ERow (ok : Nat → Prop) (W : World) (a : Option Addr) (ks : List XT) : Prop := ∀ (i : Nat) (k : XT), ks[i]? = some k → ∃ b o, a = some ⟨b, o, none⟩ ∧ ok b ∧ Cells4 W b (o + i * 4) k

set_option maxHeartbeats 2000000 in
theorem eqfE (ks us : List XT) (a a' : Option Addr) (c c' : Nat) (ok : Nat → Prop) (w : World) (hok : ∀ b, ok b → b < w.heap.size)
    (hcl : ERow ok w a ks) (hcl' : ERow ok w a' us) (hlen : ks.length ≤ 1099511627776) (hlen' : us.length ≤ 1099511627776)
    (H : ∀ (i : Nat) (x y : XT), ks[i]? = some x → us[i]? = some y → ∀ (w' : World), Below w.heap.size w w' →
      Calls Try.prog 131 #[x.val, y.val] w' fun e w'' => e = .returned (.bool (x.sameB y)) ∧ Below w'.heap.size w' w'') :
    Calls Try.prog 135 #[.slice a ks.length c, .slice a' us.length c', .func (.func 131) #[] #[]] w fun e w' => e = .returned (.bool (allZ XT.sameB ks us)) ∧ Below w.heap.size w w' := by
  obtain ⟨len, hl⟩ : ∃ len, ks.length = len := ⟨_, rfl⟩
  obtain ⟨len', hl'⟩ : ∃ len', us.length = len' := ⟨_, rfl⟩
  rw [hl] at hlen ⊢
  rw [hl'] at hlen' ⊢
  by_cases hne : len = len'
  · subst hne
    go_enter Try.func135, Try.ntmps135
    go_wp2
    go_loopw [17] (fun v17 wr => ∃ (i : Nat), v17 = .int .i64 i ∧ i ≤ len ∧ Hid (upToZ XT.sameB ks us i) ∧ Below w.heap.size w wr) (fun v17 _ => len - (intOf v17).toNat)
    case atStart => exact ⟨0, rfl, by omega, fun j x y h => by omega, Below.refl _ _⟩
    case round =>
      obtain ⟨i, rfl, hi, hall, hB⟩ := hrel
      by_cases hlt : i < len
      · obtain ⟨x, hx⟩ : ∃ x, ks[i]? = some x := ⟨_, List.getElem?_eq_getElem (by omega)⟩
        obtain ⟨y, hy⟩ : ∃ y, us[i]? = some y := ⟨_, List.getElem?_eq_getElem (by omega)⟩
        obtain ⟨b1, o1, hbase1, hok1, hc1⟩ := hcl i x hx
        obtain ⟨b2, o2, hbase2, hok2, hc2⟩ := hcl' i y hy
        obtain ⟨c0, c1, c2, c3⟩ := hc1.below hB (hok b1 hok1)
        have hd2 := (hc2.below hB (hok b2 hok2)).below (n := wr.heap.size) ((Below.refl _ wr).alloc (Nat.le_refl _) (.cells #[.int .i64 x.kind, .int .i64 x.num, .string x.name, .slice x.base x.kids.length x.cap] 25)) (by have := hok b2 hok2; have := hB.size; omega)
        obtain ⟨d0, d1, d2, d3⟩ := hd2
        have H' : Hid (∀ (w' : World), Below w.heap.size w w' →
          Calls Try.prog 131 #[x.val, y.val] w' fun e w'' => e = .returned (.bool (x.sameB y)) ∧ Below w'.heap.size w' w'') := H i x y hx hy
        subst hbase1
        subst hbase2
        cases hv : x.sameB y
        · go_wp2_with (go_at_call 131; refine (H'.out _ (by repeat' (first | (with_reducible exact Below.refl _ _) | (with_reducible assumption) | (with_reducible refine balloc ?_ _) | (with_reducible refine bdrew ?_) | (with_reducible refine Below.setCell ?_ ?_ _) | (with_reducible refine bstep ?_ (by with_reducible assumption)) | go_size))).mono ?_; rintro e w5 ⟨rfl, hb⟩; rw [hv])
          go_returns
          exact ⟨ret_bool (allZ_bad hx hy hv).symm, by repeat' (first | (with_reducible exact Below.refl _ _) | (with_reducible assumption) | (with_reducible refine balloc ?_ _) | (with_reducible refine bdrew ?_) | (with_reducible refine Below.setCell ?_ ?_ _) | (with_reducible refine bstep ?_ (by with_reducible assumption)) | go_size)⟩
        · go_wp2_with (go_at_call 131; refine (H'.out _ (by repeat' (first | (with_reducible exact Below.refl _ _) | (with_reducible assumption) | (with_reducible refine balloc ?_ _) | (with_reducible refine bdrew ?_) | (with_reducible refine Below.setCell ?_ ?_ _) | (with_reducible refine bstep ?_ (by with_reducible assumption)) | go_size))).mono ?_; rintro e w5 ⟨rfl, hb⟩; rw [hv])
          refine ⟨⟨i + 1, by go_num, by omega, upToZ_next hall hx hy hv, by repeat' (first | (with_reducible exact Below.refl _ _) | (with_reducible assumption) | (with_reducible refine balloc ?_ _) | (with_reducible refine bdrew ?_) | (with_reducible refine Below.setCell ?_ ?_ _) | (with_reducible refine bstep ?_ (by with_reducible assumption)) | go_size)⟩, ?_⟩
          simp [intOf]
          omega
      · have he : i = len := by omega
        go_wp2
        go_returns
        exact ⟨ret_bool (upToZ_all hall.out (by omega) (by omega)).symm, hB⟩
  · go_enter Try.func135, Try.ntmps135
    go_wp2
    all_goals first | (exfalso; omega) | skip
    go_returns
    exact ⟨ret_bool (allZ_len _ ks us (by omega)).symm, Below.refl _ _⟩
end Go.Proofs.Ytiabnpbhhiacmaa
