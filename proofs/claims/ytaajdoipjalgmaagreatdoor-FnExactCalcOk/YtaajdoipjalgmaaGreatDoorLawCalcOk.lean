/-
  What the program and the specification answer of whether variables have what they must: one contract a function.
  What the specification answers of whether lists are as many and as long as they must be, with no number too great.
  What the program's and the specification's CalcOk answer: the names of the program are right, and the lists fit its variables.
  At every program and every list of lists of numbers the program's CalcOk answers as the specification's and writes into no argument, in every memory that holds errors.errorType.
-/
import Derived.Test.YtaajdoipjalgmaaGreatDoorGridA
import Derived.Test.YtaajdoipjalgmaaGreatDoorOkC
import Derived.Test.YtaajdoipjalgmaaGreatDoorSameA
import Derived.Test.YtaajdoipjalgmaaGreatDoorUsesJ
import Derived.Test.YtaajdoipjalgmaaGreatDoorNameH
import Derived.Test.YtaajdoipjalgmaaGreatDoorOkQ
import Derived.Test.YtaajdoipjalgmaaGreatDoorOkD
import Derived.Test.YtaajdoipjalgmaaGreatDoorProgD
import Derived.Test.YtaajdoipjalgmaaGreatDoorRows
import Derived.ChangeMaps5
import Derived.Deep.RegionHeld3
import Derived.Test.YtaajdoipjalgmaaGreatDoorCards
import Derived.Test.YtaajdoipjalgmaaGreatDoorTie
import Derived.Stop.LaidErr
import Derived.ProofKit
import Derived.LaidMore
import Derived.LaidLaws
import Derived.LaidHandle
import Derived.OpenShut
import Derived.ChangeSame
import Derived.ChangeVars
import Derived.JoinedOf
import Derived.Stop.Joined
import Derived.ChangeOld
import Derived.Lib.SmallJoins
import Derived.SevenTiedAt
namespace Go.Proofs.YtaajdoipjalgmaaGreatDoor
open Go.RowKit Go.Shelf
set_option linter.unusedSimpArgs false
set_option linter.unusedVariables false
attribute [local go_sem] Oper.semAt_some

def allT {α β : Type} (f : α → β → Bool) : List α → List β → Bool
  | [], [] => true
  | x :: xs, y :: ys => f x y && allT f xs ys
  | [], _ :: _ => false
  | _ :: _, [] => false
theorem allT_len {α β : Type} (f : α → β → Bool) : ∀ (ks : List α) (us : List β), ks.length ≠ us.length → allT f ks us = false
  | [], [], h => absurd rfl h
  | [], _ :: _, _ => rfl
  | _ :: _, [], _ => rfl
  | x :: xs, y :: ys, h => by
    have := allT_len f xs ys (by simpa using h)
    simp [allT, this]
theorem allT_bad {α β : Type} {f : α → β → Bool} : ∀ {ks : List α} {us : List β} {i : Nat} {x : α} {y : β}, ks[i]? = some x → us[i]? = some y → f x y = false → allT f ks us = false
  | [], _, i, _, _, h, _, _ => by simp at h
  | _ :: _, [], i, _, _, _, h, _ => by simp at h
  | a :: as', b :: bs, 0, x, y, hx, hy, hf => by
    simp at hx hy
    subst hx
    subst hy
    simp [allT, hf]
  | a :: as', b :: bs, i + 1, x, y, hx, hy, hf => by
    have := allT_bad (ks := as') (us := bs) (i := i) (by simpa using hx) (by simpa using hy) hf
    simp [allT, this]
theorem allT_all {α β : Type} {f : α → β → Bool} : ∀ {ks : List α} {us : List β}, ks.length = us.length → (∀ (i : Nat) (x : α) (y : β), ks[i]? = some x → us[i]? = some y → f x y = true) → allT f ks us = true
  | [], [], _, _ => rfl
  | [], _ :: _, h, _ => by simp at h
  | _ :: _, [], h, _ => by simp at h
  | x :: xs, y :: ys, h, H => by
    have h1 := H 0 x y rfl rfl
    have h2 := allT_all (f := f) (ks := xs) (us := ys) (by simpa using h) (fun i a b ha hb => H (i + 1) a b (by simpa using ha) (by simpa using hb))
    simp [allT, h1, h2]
def upToT {α β : Type} (f : α → β → Bool) (ks : List α) (us : List β) (i : Nat) : Prop := ∀ (j : Nat) (x : α) (y : β), j < i → ks[j]? = some x → us[j]? = some y → f x y = true
theorem upToT_next {α β : Type} {f : α → β → Bool} {ks : List α} {us : List β} {i : Nat} {x : α} {y : β} (h : upToT f ks us i) (hx : ks[i]? = some x) (hy : us[i]? = some y) (hf : f x y = true) : upToT f ks us (i + 1) := by
  intro j x' y' hj hx' hy'
  by_cases e : j = i
  · subst e
    rw [hx] at hx'
    rw [hy] at hy'
    cases hx'
    cases hy'
    exact hf
  · exact h j x' y' (by omega) hx' hy'
theorem upToT_all {α β : Type} {f : α → β → Bool} {ks : List α} {us : List β} {i : Nat} (h : upToT f ks us i) (hl : ks.length = us.length) (hi : ks.length ≤ i) : allT f ks us = true :=
  allT_all hl (fun j x y hx hy => h j x y (by have := (List.getElem?_eq_some_iff.1 hx).1; omega) hx hy)
def nmB (n : Int) : Bool := decide (-1000000 ≤ n ∧ n ≤ 1000000)
def VX.beB (v : VX) (g : GX) : Bool := decide ((g.l.length : Int) = mxI v.size 1) && g.l.all nmB
theorem mxI_swap (a b : Int) : mxI a b = mxI b a := by unfold mxI; split <;> split <;> omega
set_option maxHeartbeats 2000000 in
theorem allI (ks : List Int) (a : Option Addr) (c : Nat) (ok : Nat → Prop) (w : World) (hok : ∀ b, ok b → b < w.heap.size) (hcl : IRow ok w a ks) (hlen : ks.length ≤ 1048577) :
    Calls Tryz.prog 80 #[.slice a ks.length c, .func (.func 81) #[] #[]] w fun e w' => e = .returned (.bool (ks.all nmB)) ∧ Below w.heap.size w w' := by
  obtain ⟨len, hl⟩ : ∃ len, ks.length = len := ⟨_, rfl⟩
  rw [hl] at hlen ⊢
  go_enter Tryz.func80, Tryz.ntmps80
  go_wp2
  go_loopw [9] (fun v9 wr => ∃ (i : Nat), v9 = .int .i64 i ∧ i ≤ len ∧ (ks.take i).all nmB = true ∧ Below w.heap.size w wr) (fun v9 _ => len - (intOf v9).toNat)
  case atStart => exact ⟨0, rfl, by omega, by simp, Below.refl _ _⟩
  case round =>
    obtain ⟨i, rfl, hi, hall, hB⟩ := hrel
    by_cases hlt : i < len
    · obtain ⟨v, hx⟩ : ∃ x, ks[i]? = some x := ⟨_, List.getElem?_eq_getElem (by omega)⟩
      obtain ⟨b1, o1, hbase1, hok1, hc1⟩ := hcl i v hx
      have c0 := below_cell hB hc1 (hok b1 hok1)
      subst hbase1
      have hB4 := hB
      have hcall : ∀ W, Calls Tryz.prog 81 #[.int .i64 v] W fun e w' => e = .returned (.bool (nmB v)) ∧ w' = W := fun W => numOk v W
      cases hv : nmB v
      · go_wp2_with (go_at_call 81; refine (hcall _).mono ?_; rintro e w5 ⟨rfl, hb⟩; rw [hv])
        go_returns
        exact ⟨ret_bool (all_bad nmB hx hv).symm, (hb ▸ hB4)⟩
      · go_wp2_with (go_at_call 81; refine (hcall _).mono ?_; rintro e w5 ⟨rfl, hb⟩; rw [hv])
        refine ⟨⟨i + 1, by go_num, by omega, all_take nmB hx hall hv, (hb ▸ hB4)⟩, ?_⟩
        simp [intOf]
        omega
    · have he : i = len := by omega
      have hfull : ks.take i = ks := List.take_of_length_le (by omega)
      rw [hfull] at hall
      go_wp2
      go_returns
      exact ⟨ret_bool hall.symm, hB⟩
set_option maxHeartbeats 2000000 in
theorem VX.implNumbers (v : VX) (w : World) : Calls Tryz.prog 73 #[v.val] w fun e w' => e = .returned (.int .i64 (mxI v.size 1)) ∧ Below w.heap.size w w' := by
  go_enter Tryz.func73, Tryz.ntmps73
  go_wp2_with (go_at_call 107; refine (greater _ _ _).mono ?_; rintro e w2 ⟨rfl, hw2⟩; subst w2)
  go_returns
  refine ⟨rfl, ?_⟩
  repeat' (first | (with_reducible exact Below.refl _ _) | (with_reducible assumption) | (with_reducible refine balloc ?_ _) | (with_reducible refine bdrew ?_) | (with_reducible refine Below.setCell ?_ ?_ _) | (with_reducible refine bstep ?_ (by with_reducible assumption)) | go_size)
set_option maxRecDepth 10000 in
set_option maxHeartbeats 2000000 in
theorem VX.implBe (v : VX) (g : GX) (ok : Nat → Prop) (w : World) (hok : ∀ b, ok b → b < w.heap.size) (hL : GX.Lies ok w g) (hlen : g.l.length ≤ 1048577) :
    Calls Tryz.prog 51 #[v.val, g.val] w fun e w' => e = .returned (.bool (v.beB g)) ∧ Below w.heap.size w w' := by
  obtain ⟨W1, hW1⟩ : ∃ W1, w.alloc (.cells #[.string v.name, .int .i64 v.size, .int .i64 v.init, .int .i64 v.lo, .int .i64 v.hi, .string v.lock, .int .i64 v.task] 58) = W1 := ⟨_, rfl⟩
  have hs1 : w.heap.size + 1 = W1.heap.size := by rw [← hW1]; simp
  have hB1 : Below w.heap.size w W1 := by rw [← hW1]; exact (Below.refl _ w).alloc (Nat.le_refl _) _
  have hC : VX.At W1 w.heap.size 0 v := by
    rw [← hW1]
    exact ⟨World.cell?_alloc_new w _ _ 0, World.cell?_alloc_new w _ _ 1, World.cell?_alloc_new w _ _ 2, World.cell?_alloc_new w _ _ 3, World.cell?_alloc_new w _ _ 4, World.cell?_alloc_new w _ _ 5, World.cell?_alloc_new w _ _ 6⟩
  obtain ⟨c0, c1, c2, c3, c4, c5, c6⟩ := hC
  have hN := VX.implNumbers v W1
  have hA : ∀ W2, Below W1.heap.size W1 W2 → Calls Tryz.prog 80 #[.slice g.base g.l.length g.cap, .func (.func 81) #[] #[]] W2 fun e w' => e = .returned (.bool (g.l.all nmB)) ∧ Below W2.heap.size W2 w' := fun W2 hB =>
    allI g.l g.base g.cap ok W2 (fun b hb => by have := hok b hb; have := hB.size; omega) ((IRow.under hL hB1 hok).under hB (fun b hb => by have := hok b hb; omega)) hlen
  unfold VX.beB GX.val
  obtain ⟨gb, gc, l⟩ := g
  dsimp only at hA hlen ⊢
  obtain ⟨len, hl⟩ : ∃ len, l.length = len := ⟨_, rfl⟩
  rw [hl] at hA hlen ⊢
  clear hL
  by_cases hq : (len : Int) = mxI v.size 1
  · rw [decide_eq_true hq, Bool.true_and]
    go_enter Tryz.func51, Tryz.ntmps51
    go_wp2_with fail
    go_at_call 73
    refine hN.mono ?_
    clear hN
    rintro e w3 ⟨rfl, hB3⟩
    rw [← hq]
    go_wp2_with fail
    go_at_call 80
    refine (hA _ hB3).mono ?_
    rintro e w4 ⟨rfl, hB4⟩
    go_wp2
    go_returns
    exact ⟨rfl, (hB1.trans (hB3.mono hB1.size)).trans (hB4.mono (by have := hB1.size; have := hB3.size; omega))⟩
  · rw [decide_eq_false hq, Bool.false_and]
    go_enter Tryz.func51, Tryz.ntmps51
    go_wp2_with fail
    go_at_call 73
    refine hN.mono ?_
    clear hN
    rintro e w3 ⟨rfl, hB3⟩
    go_wp2
    all_goals first | (exfalso; omega) | skip
    go_returns
    exact ⟨rfl, hB1.trans (hB3.mono hB1.size)⟩
set_option maxHeartbeats 2000000 in
theorem eqfG (ks : List VX) (us : List GX) (a a' : Option Addr) (c c' : Nat) (ok : Nat → Prop) (w : World) (hok : ∀ b, ok b → b < w.heap.size)
    (hcl : VX.Row ok w a ks) (hcl' : GX.Row ok w a' us) (hU : ∀ (i : Nat) (g : GX), us[i]? = some g → GX.Lies ok w g) (hlen : ks.length ≤ 1048577) (hlen' : us.length ≤ 1048577) (hm : ∀ (i : Nat) (g : GX), us[i]? = some g → g.l.length ≤ 1048577) :
    Calls Tryz.prog 50 #[.slice a ks.length c, .slice a' us.length c', .func (.func 51) #[] #[]] w fun e w' => e = .returned (.bool (allT VX.beB ks us)) ∧ Below w.heap.size w w' := by
  obtain ⟨len, hl⟩ : ∃ len, ks.length = len := ⟨_, rfl⟩
  obtain ⟨len', hl'⟩ : ∃ len', us.length = len' := ⟨_, rfl⟩
  rw [hl] at hlen ⊢
  rw [hl'] at hlen' ⊢
  by_cases hne : len = len'
  · subst hne
    go_enter Tryz.func50, Tryz.ntmps50
    go_wp2
    go_loopw [17] (fun v17 wr => ∃ (i : Nat), v17 = .int .i64 i ∧ i ≤ len ∧ Hid (upToT VX.beB ks us i) ∧ Below w.heap.size w wr) (fun v17 _ => len - (intOf v17).toNat)
    case atStart => exact ⟨0, rfl, by omega, fun j x y h => by omega, Below.refl _ _⟩
    case round =>
      obtain ⟨i, rfl, hi, hall, hB⟩ := hrel
      by_cases hlt : i < len
      · obtain ⟨x, hx⟩ : ∃ x, ks[i]? = some x := ⟨_, List.getElem?_eq_getElem (by omega)⟩
        obtain ⟨y, hy⟩ : ∃ y, us[i]? = some y := ⟨_, List.getElem?_eq_getElem (by omega)⟩
        obtain ⟨b1, o1, hbase1, hok1, hc1⟩ := hcl i x hx
        obtain ⟨b2, o2, hbase2, hok2, hc2⟩ := hcl' i y hy
        obtain ⟨c0, c1, c2, c3, c4, c5, c6⟩ := hc1.below hB (hok b1 hok1)
        have d0 := below_cell ((Below.refl _ wr).alloc (Nat.le_refl _) (.cells #[.string x.name, .int .i64 x.size, .int .i64 x.init, .int .i64 x.lo, .int .i64 x.hi, .string x.lock, .int .i64 x.task] 58)) (below_cell hB hc2 (hok b2 hok2)) (show b2 < wr.heap.size from by have := hok b2 hok2; have := hB.size; omega)
        have H' : Hid (∀ (w' : World), Below w.heap.size w w' →
          Calls Tryz.prog 51 #[x.val, y.val] w' fun e w'' => e = .returned (.bool (x.beB y)) ∧ Below w'.heap.size w' w'') := fun w' hw' => VX.implBe x y ok w' (fun b hb => Nat.lt_of_lt_of_le (hok b hb) hw'.size) (IRow.under (hU i y hy) hw' hok) (hm i y hy)
        subst hbase1
        subst hbase2
        cases hv : x.beB y
        · go_wp2_with (go_at_call 51; refine (H'.out _ (by repeat' (first | (with_reducible exact Below.refl _ _) | (with_reducible assumption) | (with_reducible refine balloc ?_ _) | (with_reducible refine bdrew ?_) | (with_reducible refine Below.setCell ?_ ?_ _) | (with_reducible refine bstep ?_ (by with_reducible assumption)) | go_size))).mono ?_; rintro e w5 ⟨rfl, hb⟩; rw [hv])
          go_returns
          exact ⟨ret_bool (allT_bad hx hy hv).symm, by repeat' (first | (with_reducible exact Below.refl _ _) | (with_reducible assumption) | (with_reducible refine balloc ?_ _) | (with_reducible refine bdrew ?_) | (with_reducible refine Below.setCell ?_ ?_ _) | (with_reducible refine bstep ?_ (by with_reducible assumption)) | go_size)⟩
        · go_wp2_with (go_at_call 51; refine (H'.out _ (by repeat' (first | (with_reducible exact Below.refl _ _) | (with_reducible assumption) | (with_reducible refine balloc ?_ _) | (with_reducible refine bdrew ?_) | (with_reducible refine Below.setCell ?_ ?_ _) | (with_reducible refine bstep ?_ (by with_reducible assumption)) | go_size))).mono ?_; rintro e w5 ⟨rfl, hb⟩; rw [hv])
          refine ⟨⟨i + 1, by go_num, by omega, upToT_next hall hx hy hv, by repeat' (first | (with_reducible exact Below.refl _ _) | (with_reducible assumption) | (with_reducible refine balloc ?_ _) | (with_reducible refine bdrew ?_) | (with_reducible refine Below.setCell ?_ ?_ _) | (with_reducible refine bstep ?_ (by with_reducible assumption)) | go_size)⟩, ?_⟩
          simp [intOf]
          omega
      · have he : i = len := by omega
        go_wp2
        go_returns
        exact ⟨ret_bool (upToT_all hall.out (by omega) (by omega)).symm, hB⟩
  · go_enter Tryz.func50, Tryz.ntmps50
    go_wp2
    all_goals first | (exfalso; omega) | skip
    go_returns
    exact ⟨ret_bool (allT_len _ ks us (by omega)).symm, Below.refl _ _⟩
end Go.Proofs.YtaajdoipjalgmaaGreatDoor
namespace Go.Proofs.YtaajdoipjalgmaaGreatDoor
open Go.RowKit Go.Shelf
set_option linter.unusedSimpArgs false
set_option linter.unusedVariables false
attribute [local go_sem] Oper.semAt_some

theorem VX.be_num {v : VX} {g : GX} (h : (g.l.length : Int) = mxI v.size 1) : v.beB g = g.l.all nmB := by
  unfold VX.beB
  rw [decide_eq_true h, Bool.true_and]
theorem VX.be_not {v : VX} {g : GX} (h : ¬ (g.l.length : Int) = mxI v.size 1) : v.beB g = false := by
  unfold VX.beB
  rw [decide_eq_false h, Bool.false_and]
theorem nm_low {n : Int} (h : n < -1000000) : nmB n = false := by
  unfold nmB
  exact decide_eq_false (by omega)
theorem nm_high {n : Int} (h : 1000000 < n) : nmB n = false := by
  unfold nmB
  exact decide_eq_false (by omega)
theorem nm_in {n : Int} (h : ¬ n < -1000000) (h' : ¬ 1000000 < n) : nmB n = true := by
  unfold nmB
  exact decide_eq_true (by omega)
set_option maxRecDepth 10000 in
set_option maxHeartbeats 2000000 in
theorem PX.specBe (p : PX) (us : List GX) (a : Option Addr) (c : Nat) (ok : Nat → Prop) (w : World) (hok : ∀ b, ok b → b < w.heap.size) (hm : p.vars.length ≤ 1048577) (hR : VX.Row ok w p.vbase p.vars)
    (hcl : GX.Row ok w a us) (hU : ∀ (i : Nat) (g : GX), us[i]? = some g → GX.Lies ok w g) (hlen : us.length ≤ 1048577) (hmu : ∀ (i : Nat) (g : GX), us[i]? = some g → g.l.length ≤ 1048577) :
    Calls Tryz.prog 48 #[p.val, .slice a us.length c] w fun e w' => e = .returned (.bool (allT VX.beB p.vars us)) ∧ Below w.heap.size w w' := by
  obtain ⟨W1, hW1⟩ : ∃ W1, w.alloc (.cells #[.slice p.vbase p.vars.length p.vcap, .slice p.cbase p.chans.length p.ccap, .slice p.nbase p.locks.length p.ncap, .slice p.tbase p.tasks.length p.tcap] 35) = W1 := ⟨_, rfl⟩
  have hs1 : w.heap.size + 1 = W1.heap.size := by rw [← hW1]; simp
  have hB1 : Below w.heap.size w W1 := by rw [← hW1]; exact (Below.refl _ w).alloc (Nat.le_refl _) _
  have hA1 : PX.At W1 w.heap.size p := by rw [← hW1]; exact PX.At.new w p _
  have hok1 : ∀ b, ok b → b < W1.heap.size := fun b hb => by have := hok b hb; omega
  have hR1 := hR.under hB1 hok
  have hcl1 := hcl.under hB1 hok
  have hU1 : ∀ (i : Nat) (g : GX), us[i]? = some g → GX.Lies ok W1 g := fun i g hg => IRow.under (hU i g hg) hB1 hok
  have hz : w.heap.size < W1.heap.size := by omega
  obtain ⟨a0, a1, a2, a3⟩ := hA1
  clear hR hcl hU
  unfold PX.val
  obtain ⟨vb, vc, vars, cb, cc, chans, nb, nc, locks, tb, tc, tasks⟩ := p
  dsimp only at hR1 hm hW1 a0 a1 a2 a3 ⊢
  obtain ⟨len, hl⟩ : ∃ len, us.length = len := ⟨_, rfl⟩
  rw [hl] at hlen ⊢
  by_cases hne : vars.length = len
  · rw [hne] at a0 hm hW1 ⊢
    go_enter Tryz.func48, Tryz.ntmps48
    go_wp2
    go_loopw [5] (fun v5 wr => ∃ (i : Nat), v5 = .int .i64 i ∧ i ≤ len ∧ Hid (upToT VX.beB vars us i) ∧ Below W1.heap.size W1 wr) (fun v5 _ => len - (intOf v5).toNat)
    case atStart => exact ⟨0, rfl, by omega, fun j x y h => by omega, Below.refl _ _⟩
    case round =>
      obtain ⟨i, rfl, hi, hall, hB⟩ := hrel
      by_cases hlt : i < len
      · obtain ⟨x, hx⟩ : ∃ x, vars[i]? = some x := ⟨_, List.getElem?_eq_getElem (by omega)⟩
        obtain ⟨y, hy⟩ : ∃ y, us[i]? = some y := ⟨_, List.getElem?_eq_getElem (by omega)⟩
        obtain ⟨b1, o1, hbase1, hokb1, hc1⟩ := hR1 i x hx
        obtain ⟨b2, o2, hbase2, hokb2, hc2⟩ := hcl1 i y hy
        have c1 := (hc1.below hB (hok1 b1 hokb1)).c1
        have d0 : wr.cell? ⟨b2, o2 + i, none⟩ = some (.slice y.base y.l.length y.cap) := below_cell hB hc2 (hok1 b2 hokb2)
        have k0 := below_cell hB a0 hz
        have hyR := IRow.under (hU1 i y hy) hB hok1
        have hym := hmu i y hy
        have hyok : ∀ b, ok b → b < wr.heap.size := fun b hb => Nat.lt_of_lt_of_le (hok1 b hb) hB.size
        subst hbase1
        subst hbase2
        haveI : Nonempty (Later wr) := ⟨⟨wr, Below.refl _ _⟩⟩
        have e1 := Later.cell c1
        have e2 := Later.cell d0
        have e3 := Later.cell k0
        obtain ⟨yb, yc, l⟩ := y
        dsimp only at hyR hym d0 e2
        obtain ⟨ll, hll⟩ : ∃ ll, l.length = ll := ⟨_, rfl⟩
        rw [hll] at d0 e2 hym
        by_cases hq : (ll : Int) = mxI 1 x.size
        · have hbe : x.beB ⟨yb, yc, l⟩ = l.all nmB := VX.be_num (by rw [mxI_swap]; dsimp only; rw [hll]; exact hq)
          go_wp2_with fail
          refine region_class (fun w' => ∃ z : Later wr, w' = z.at) (by kernel_rfl) (by kernel_rfl) ⟨⟨_, (Below.refl _ _).drew⟩, rfl⟩ ?_
          repeat (go_big_quiet_step (first | (go_at_call 79; refine (l1Max _ _ _).mono ?_; rintro e w2 ⟨rfl, hw2⟩; subst w2; exact ⟨rfl, _, rfl⟩)))
          refine wpQuiet_nil ?_
          rintro w' ⟨z, rfl⟩
          have hBz := hB.trans ((Later.below z).mono hB.size)
          rw [← hq]
          go_wp2
          rename World => wo
          clear e1 e2 e3
          go_loopw [6] (fun v6 wr => ∃ (k : Nat), v6 = .int .i64 k ∧ k ≤ ll ∧ Hid ((l.take k).all nmB = true) ∧ Below W1.heap.size W1 wr) (fun v6 _ => ll - (intOf v6).toNat)
          case atStart => exact ⟨0, rfl, by omega, by simp [Hid], hBz⟩
          case round =>
            obtain ⟨k, rfl, hk, hallk, hBk⟩ := hrel
            have d1 := below_cell hBk hc2 (hok1 _ hokb2)
            rw [show GX.val ⟨yb, yc, l⟩ = .slice yb ll yc from by unfold GX.val; dsimp only; rw [hll]] at d1
            by_cases hkl : k < ll
            · obtain ⟨n, hn⟩ : ∃ n, l[k]? = some n := ⟨_, List.getElem?_eq_getElem (by omega)⟩
              obtain ⟨b3, o3, hbase3, hokb3, hc3⟩ := IRow.under (hU1 i _ hy) hBk hok1 k n hn
              dsimp only at hbase3
              subst hbase3
              by_cases hlo : n < -1000000
              · go_wp2
                all_goals first | (exfalso; omega) | skip
                go_returns
                exact ⟨ret_bool (allT_bad hx hy (by rw [hbe]; exact all_bad nmB hn (nm_low hlo))).symm, hB1.trans (hBk.mono (by omega))⟩
              · by_cases hhi : 1000000 < n
                · go_wp2
                  all_goals first | (exfalso; omega) | skip
                  go_returns
                  exact ⟨ret_bool (allT_bad hx hy (by rw [hbe]; exact all_bad nmB hn (nm_high hhi))).symm, hB1.trans (hBk.mono (by omega))⟩
                · go_wp2
                  all_goals first | (exfalso; omega) | skip
                  refine ⟨⟨k + 1, by go_num, by omega, all_take nmB hn hallk.out (nm_in hlo hhi), hBk⟩, ?_⟩
                  simp [intOf]
                  omega
            · have hek : l.take k = l := List.take_of_length_le (by omega)
              rw [hek] at hallk
              go_wp2
              refine ⟨⟨i + 1, by go_num, by omega, upToT_next hall hx hy (hbe.trans hallk.out), hBk⟩, ?_⟩
              simp [intOf]
              omega
        · have hbe : x.beB ⟨yb, yc, l⟩ = false := VX.be_not (by rw [mxI_swap]; dsimp only; rw [hll]; exact hq)
          go_wp2_with fail
          refine region_class (fun w' => ∃ z : Later wr, w' = z.at) (by kernel_rfl) (by kernel_rfl) ⟨⟨_, (Below.refl _ _).drew⟩, rfl⟩ ?_
          repeat (go_big_quiet_step (first | (go_at_call 79; refine (l1Max _ _ _).mono ?_; rintro e w2 ⟨rfl, hw2⟩; subst w2; exact ⟨rfl, _, rfl⟩)))
          refine wpQuiet_nil ?_
          rintro w' ⟨z, rfl⟩
          have hBz := hB.trans ((Later.below z).mono hB.size)
          go_wp2
          all_goals first | (exfalso; omega) | skip
          go_returns
          exact ⟨ret_bool (allT_bad hx hy hbe).symm, hB1.trans (hBz.mono (by omega))⟩
      · have he : i = len := by omega
        go_wp2
        go_returns
        exact ⟨ret_bool (upToT_all hall.out (by omega) (by omega)).symm, hB1.trans (hB.mono (by omega))⟩
  · go_enter Tryz.func48, Tryz.ntmps48
    go_wp2
    all_goals first | (exfalso; omega) | skip
    go_returns
    exact ⟨ret_bool (allT_len _ vars us (by omega)).symm, hB1⟩
end Go.Proofs.YtaajdoipjalgmaaGreatDoor
namespace Go.Proofs.YtaajdoipjalgmaaGreatDoor
open Go.RowKit Go.Shelf Go.Maps
set_option linter.unusedSimpArgs false
set_option linter.unusedVariables false
attribute [local go_sem] Oper.semAt_some

def PX.calcB (p : PX) (us : List GX) : Bool := decide (p.namesI = 0) && allT VX.beB p.vars us
theorem PX.calc_yes {p : PX} {us : List GX} (h : p.namesI = 0) : p.calcB us = allT VX.beB p.vars us := by
  unfold PX.calcB
  rw [decide_eq_true h, Bool.true_and]
theorem PX.calc_no {p : PX} {us : List GX} (h : ¬ p.namesI = 0) : p.calcB us = false := by
  unfold PX.calcB
  rw [decide_eq_false h, Bool.false_and]
theorem allT_sameR {α β : Type} {f : α → β → Bool} {l : List α} : ∀ {us vs : List β}, vs.length = us.length → (∀ (i : Nat) (x y : β), us[i]? = some x → vs[i]? = some y → ∀ a, f a x = f a y) → allT f l vs = allT f l us := by
  induction l with
  | nil =>
    intro us vs hl _
    cases us <;> cases vs <;> simp_all [allT]
  | cons x xs ih =>
    intro us vs hl h
    match us, vs, hl with
    | [], [], _ => rfl
    | [], _ :: _, hl => simp at hl
    | _ :: _, [], hl => simp at hl
    | u :: us, v :: vs, hl =>
      have h1 := h 0 u v rfl rfl x
      have h2 := ih (us := us) (vs := vs) (by simpa using hl) (fun i a b ha hb => h (i + 1) a b (by simpa using ha) (by simpa using hb))
      simp only [allT]
      rw [h1, h2]
theorem calc_same {p q : PX} (hm : p.Small) (hS : PX.Same p q) {us vs : List GX} (hl : vs.length = us.length) (h : ∀ (i : Nat) (x y : GX), us[i]? = some x → vs[i]? = some y → y.l = x.l) : q.calcB vs = p.calcB us := by
  unfold PX.calcB
  rw [names_same hm hS, hS.v, allT_sameR hl (fun i x y hx hy a => by unfold VX.beB; rw [h i x y hx hy])]
set_option maxRecDepth 10000 in
set_option maxHeartbeats 2000000 in
theorem implCalcOk (p : PX) (hm : p.Small) (hN : p.Names) (hT : ∀ (i : Nat) (t : LX), p.tasks[i]? = some t → SX.sizeAll t.l ≤ 1048577) (us : List GX) (a : Option Addr) (c : Nat) (ok : Nat → Prop) (w : World) (hok : ∀ b, ok b → b < w.heap.size) (hL : PX.Lies ok w p)
    (hcl : GX.Row ok w a us) (hU : ∀ (i : Nat) (g : GX), us[i]? = some g → GX.Lies ok w g) (hlen : us.length ≤ 1048577) (hmu : ∀ (i : Nat) (g : GX), us[i]? = some g → g.l.length ≤ 1048577) (hg : ErrG w) :
    Calls Tryz.prog 18 #[p.val, .slice a us.length c] w fun e w' => e = .returned (.bool (p.calcB us)) ∧ Below w.heap.size w w' := by
  obtain ⟨W1, hW1⟩ : ∃ W1, w.alloc (.cells #[.slice p.vbase p.vars.length p.vcap, .slice p.cbase p.chans.length p.ccap, .slice p.nbase p.locks.length p.ncap, .slice p.tbase p.tasks.length p.tcap] 35) = W1 := ⟨_, rfl⟩
  have hs1 : w.heap.size + 1 = W1.heap.size := by rw [← hW1]; simp
  have hB1 : Below w.heap.size w W1 := by rw [← hW1]; exact (Below.refl _ w).alloc (Nat.le_refl _) _
  have hA1 : PX.At W1 w.heap.size p := by rw [← hW1]; exact PX.At.new w p _
  have hok1 : ∀ b, ok b → b < W1.heap.size := fun b hb => by have := hok b hb; omega
  have hS := implScope p hm hN hT ok W1 hok1 (hL.under hB1 hok) (hg.of hB1)
  have hQ : ∀ W2, Below W1.heap.size W1 W2 → Calls Tryz.prog 50 #[.slice p.vbase p.vars.length p.vcap, .slice a us.length c, .func (.func 51) #[] #[]] W2 fun e w' => e = .returned (.bool (allT VX.beB p.vars us)) ∧ Below W2.heap.size W2 w' := fun W2 hB =>
    eqfG p.vars us p.vbase a p.vcap c ok W2 (fun b hb => Nat.lt_of_lt_of_le (hok1 b hb) hB.size) ((hL.v.under hB1 hok).under hB hok1) ((hcl.under hB1 hok).under hB hok1) (fun i g hi => IRow.under (IRow.under (hU i g hi) hB1 hok) hB hok1) (by have := hm.vl; omega) hlen hmu
  have hvl := hm.vl
  have hz : w.heap.size < W1.heap.size := by omega
  obtain ⟨a0, a1, a2, a3⟩ := hA1
  obtain ⟨r, hr⟩ : ∃ r, allT VX.beB p.vars us = r := ⟨_, rfl⟩
  rw [hr] at hQ
  obtain ⟨len, hl⟩ : ∃ len, us.length = len := ⟨_, rfl⟩
  rw [hl] at hQ hlen ⊢
  obtain ⟨cd, hcd⟩ : ∃ cd, p.namesI = cd := ⟨_, rfl⟩
  rw [hcd] at hS
  by_cases h0 : cd = 0
  · rw [PX.calc_yes (by rw [hcd]; exact h0), hr]
    subst h0
    clear hL hcl hU hN hT hmu
    go_enter Tryz.func18, Tryz.ntmps18
    go_wp2_with fail
    go_at_call 33
    refine hS.mono ?_
    clear hS
    rintro e w3 ⟨rfl, hB3⟩
    have k0 := below_cell hB3 a0 hz
    go_wp2_with fail
    go_at_call 50
    refine (hQ _ hB3).mono ?_
    rintro e w4 ⟨rfl, hB4⟩
    go_wp2
    go_returns
    exact ⟨rfl, (hB1.trans (hB3.mono hB1.size)).trans (hB4.mono (by have := hB1.size; have := hB3.size; omega))⟩
  · rw [PX.calc_no (by rw [hcd]; exact h0)]
    clear hL hcl hU hN hT hmu
    go_enter Tryz.func18, Tryz.ntmps18
    go_wp2_with fail
    go_at_call 33
    refine hS.mono ?_
    clear hS
    rintro e w3 ⟨rfl, hB3⟩
    go_wp2
    go_returns
    exact ⟨rfl, hB1.trans (hB3.mono hB1.size)⟩
set_option maxRecDepth 10000 in
set_option maxHeartbeats 2000000 in
theorem specCalcOk (p : PX) (hm : p.Small) (hN : p.Names) (hT : ∀ (i : Nat) (t : LX), p.tasks[i]? = some t → SX.sizeAll t.l ≤ 1048577) (hF : ∀ (i : Nat) (t : LX), p.tasks[i]? = some t → ∀ us, SameL (SX.flatAll t.l) us → us.length ≤ 1048576 ∧ ∀ (i : Nat) (k : SX), us[i]? = some k → SmallS k ∧ k.tot ≤ 1048576)
    (us : List GX) (a : Option Addr) (c : Nat) (ok : Nat → Prop) (w : World) (hok : ∀ b, ok b → b < w.heap.size) (hL : PX.Lies ok w p)
    (hcl : GX.Row ok w a us) (hU : ∀ (i : Nat) (g : GX), us[i]? = some g → GX.Lies ok w g) (hlen : us.length ≤ 1048577) (hmu : ∀ (i : Nat) (g : GX), us[i]? = some g → g.l.length ≤ 1048577) :
    Calls Tryz.prog 16 #[p.val, .slice a us.length c] w fun e w' => e = .returned (.bool (p.calcB us)) ∧ Below w.heap.size w w' := by
  obtain ⟨W1, hW1⟩ : ∃ W1, w.alloc (.cells #[.slice p.vbase p.vars.length p.vcap, .slice p.cbase p.chans.length p.ccap, .slice p.nbase p.locks.length p.ncap, .slice p.tbase p.tasks.length p.tcap] 35) = W1 := ⟨_, rfl⟩
  have hs1 : w.heap.size + 1 = W1.heap.size := by rw [← hW1]; simp
  have hB1 : Below w.heap.size w W1 := by rw [← hW1]; exact (Below.refl _ w).alloc (Nat.le_refl _) _
  have hA1 : PX.At W1 w.heap.size p := by rw [← hW1]; exact PX.At.new w p _
  have hok1 : ∀ b, ok b → b < W1.heap.size := fun b hb => by have := hok b hb; omega
  have hS := specScope p hm hN hT hF ok W1 hok1 (hL.under hB1 hok)
  have hQ : ∀ W2, Below W1.heap.size W1 W2 → Calls Tryz.prog 48 #[p.val, .slice a us.length c] W2 fun e w' => e = .returned (.bool (allT VX.beB p.vars us)) ∧ Below W2.heap.size W2 w' := fun W2 hB =>
    PX.specBe p us a c ok W2 (fun b hb => Nat.lt_of_lt_of_le (hok1 b hb) hB.size) (by have := hm.vl; omega) ((hL.v.under hB1 hok).under hB hok1) ((hcl.under hB1 hok).under hB hok1) (fun i g hi => IRow.under (IRow.under (hU i g hi) hB1 hok) hB hok1) hlen hmu
  have hvl := hm.vl
  have hz : w.heap.size < W1.heap.size := by omega
  obtain ⟨a0, a1, a2, a3⟩ := hA1
  obtain ⟨r, hr⟩ : ∃ r, allT VX.beB p.vars us = r := ⟨_, rfl⟩
  rw [hr] at hQ
  obtain ⟨len, hl⟩ : ∃ len, us.length = len := ⟨_, rfl⟩
  rw [hl] at hQ hlen ⊢
  obtain ⟨cd, hcd⟩ : ∃ cd, p.namesI = cd := ⟨_, rfl⟩
  rw [hcd] at hS
  by_cases h0 : cd = 0
  · rw [PX.calc_yes (by rw [hcd]; exact h0), hr]
    subst h0
    clear hL hcl hU hN hT hmu hF
    go_enter Tryz.func16, Tryz.ntmps16
    go_wp2_with fail
    go_at_call 28
    refine hS.mono ?_
    clear hS
    rintro e w3 ⟨rfl, hB3⟩
    have k0 := below_cell hB3 a0 hz
    have k1 := below_cell hB3 a1 hz
    have k2 := below_cell hB3 a2 hz
    have k3 := below_cell hB3 a3 hz
    go_wp2_with fail
    go_at_call 48
    refine (hQ _ hB3).mono ?_
    rintro e w4 ⟨rfl, hB4⟩
    go_wp2
    go_returns
    exact ⟨rfl, (hB1.trans (hB3.mono hB1.size)).trans (hB4.mono (by have := hB1.size; have := hB3.size; omega))⟩
  · rw [PX.calc_no (by rw [hcd]; exact h0)]
    clear hL hcl hU hN hT hmu hF
    go_enter Tryz.func16, Tryz.ntmps16
    go_wp2_with fail
    go_at_call 28
    refine hS.mono ?_
    clear hS
    rintro e w3 ⟨rfl, hB3⟩
    go_wp2
    go_returns
    exact ⟨rfl, hB1.trans (hB3.mono hB1.size)⟩
end Go.Proofs.YtaajdoipjalgmaaGreatDoor
namespace Go.Proofs.YtaajdoipjalgmaaGreatDoor
open Go.ChangeShapes Go.WideShapes Go.ChangeAt Go.RowKit Go.Joins
set_option linter.unusedSimpArgs false
set_option linter.unusedVariables false

namespace FnExactCalcOk
theorem boxP {A : World} {b : Nat} {p : PX} (h : PX.At A b p) : A.cell? ⟨b, 0, none⟩ = some (.slice p.vbase p.vars.length p.vcap) ∧ A.cell? ⟨b, 1, none⟩ = some (.slice p.cbase p.chans.length p.ccap) ∧ A.cell? ⟨b, 2, none⟩ = some (.slice p.nbase p.locks.length p.ncap) ∧ A.cell? ⟨b, 3, none⟩ = some (.slice p.tbase p.tasks.length p.tcap) := ⟨h.c0, h.c1, h.c2, h.c3⟩
theorem sumG {ks : List GX} {i : Nat} {k : GX} (h : ks[i]? = some k) : k.l.length ≤ sumOf (fun t : GX => t.l.length) ks := sumOf_get (fun t : GX => t.l.length) h
theorem lies_all {ok ok' : Nat → Prop} {A B : World} {ks : List GX} (h : ∀ (i : Nat) (g : GX), ks[i]? = some g → GX.Lies ok A g) (hb : ∀ b, ok b → b < A.heap.size → ok' b ∧ B.heap[b]? = A.heap[b]?) : ∀ (i : Nat) (g : GX), ks[i]? = some g → GX.Lies ok' B g := fun i g hg => IRow.mono (h i g hg) hb
theorem lies_under {ok : Nat → Prop} {n : Nat} {A B : World} {ks : List GX} (h : ∀ (i : Nat) (g : GX), ks[i]? = some g → GX.Lies ok A g) (hk : Below n A B) (hs : ∀ b, ok b → b < n) : ∀ (i : Nat) (g : GX), ks[i]? = some g → GX.Lies ok B g := fun i g hg => IRow.under (h i g hg) hk hs
/-- A copy of lists: as many, the same numbers, all of it new. -/
structure GCopy (n : Nat) (W : World) (ks us : List GX) : Prop where
  len : us.length = ks.length
  row : GX.Row (fun b => b < W.heap.size) W (some ⟨n, 0, none⟩) us
  lies : ∀ (i : Nat) (g : GX), us[i]? = some g → GX.Lies (fun b => b < W.heap.size) W g
  nums : ∀ (i : Nat) (x y : GX), ks[i]? = some x → us[i]? = some y → y.l = x.l
theorem GCopy.under {n : Nat} {A B : World} {ks us : List GX} (h : GCopy n A ks us) (hk : Below A.heap.size A B) : GCopy n B ks us :=
  ⟨h.len, h.row.mono fun b _ hb => ⟨Nat.lt_of_lt_of_le hb hk.size, hk.block b hb⟩, lies_all h.lies fun b _ hb => ⟨Nat.lt_of_lt_of_le hb hk.size, hk.block b hb⟩, h.nums⟩
theorem GCopy.get {n : Nat} {W : World} {ks us : List GX} (h : GCopy n W ks us) {i : Nat} {y : GX} (hy : us[i]? = some y) : ∃ x, ks[i]? = some x := ⟨_, List.getElem?_eq_getElem (by have := (List.getElem?_eq_some_iff.1 hy).1; have := h.len; omega)⟩
theorem GCopy.small {n : Nat} {W : World} {ks us : List GX} (h : GCopy n W ks us) {N : Nat} (hm : ∀ (i : Nat) (k : GX), ks[i]? = some k → k.l.length ≤ N) : ∀ (i : Nat) (k : GX), us[i]? = some k → k.l.length ≤ N := by
  intro i k hk
  obtain ⟨x, hx⟩ := h.get hk
  rw [h.nums i x k hx hk]
  exact hm i x hx
theorem toG (ks : List GX) (a : Option Addr) (c : Nat) (ok : Nat → Prop) (w : World) (hok : ∀ b, ok b → b < w.heap.size) (hcl : GX.Row ok w a ks) (hlen : ks.length ≤ 1048577)
    (hL : ∀ (i : Nat) (k : GX), ks[i]? = some k → GX.Lies ok w k) (hm : ∀ (i : Nat) (k : GX), ks[i]? = some k → k.l.length ≤ 1048577) :
    Calls Tryz.prog 17 #[.slice a ks.length c] w fun e w' => ∃ us : List GX, e = .returned (.slice (some ⟨w.heap.size, 0, none⟩) us.length us.length) ∧ GCopy w.heap.size w' ks us ∧ Below w.heap.size w w' := by
  refine (GX.tos ks a c ok w hok hcl hlen hL hm).mono ?_
  rintro e w' ⟨us, rfl, hul, hur, hus, hB⟩
  have hlt : ∀ (i : Nat) (y : GX), us[i]? = some y → ∃ x, ks[i]? = some x := fun i y hy => ⟨_, List.getElem?_eq_getElem (by have := (List.getElem?_eq_some_iff.1 hy).1; omega)⟩
  refine ⟨us, by rw [hul], ⟨hul, hur.mono fun b _ hb => ⟨hb, rfl⟩, fun i y hy => ?_, fun i x y hx hy => (hus i x y hx hy).1⟩, hB⟩
  obtain ⟨x, hx⟩ := hlt i y hy
  exact IRow.mono (hus i x y hx hy).2 fun b _ hb => ⟨hb, rfl⟩
set_option maxRecDepth 10000 in
set_option maxHeartbeats 4000000 in
theorem walk (p : PX) (ha : Option Addr) (hc : Nat) (ks : List GX) (w : World) (hW : p.Wide) (hL : PX.Lies (fun b => b < w.heap.size) w p) (hkl : ks.length ≤ maxLen) (hkr : GX.Row (fun b => b < w.heap.size) w ha ks) (hkw : ∀ (i : Nat) (k : GX), ks[i]? = some k → k.l.length ≤ maxLen ∧ GX.Lies (fun b => b < w.heap.size) w k) (hg : ErrG w) :
    Calls Tryz.prog 4 #[p.val, .slice ha ks.length hc] w fun e w' => e = .returned (.bool true) ∧ Below w.heap.size w w' := by
  have hB1 : Below w.heap.size w (w.alloc (.cells #[.slice p.vbase p.vars.length p.vcap, .slice p.cbase p.chans.length p.ccap, .slice p.nbase p.locks.length p.ncap, .slice p.tbase p.tasks.length p.tcap] 27)) := (Below.refl _ w).alloc (Nat.le_refl _) _
  go_enter Tryz.func4, Tryz.ntmps4
  go_wp2_with fail
  all_goals first | (exfalso; omega) | skip
  go_at_call 6
  obtain ⟨W1, hW1⟩ : ∃ W1, w.alloc (.cells #[.slice p.vbase p.vars.length p.vcap, .slice p.cbase p.chans.length p.ccap, .slice p.nbase p.locks.length p.ncap, .slice p.tbase p.tasks.length p.tcap] 27) = W1 := ⟨_, rfl⟩
  have hs1 : w.heap.size + 1 = W1.heap.size := by rw [← hW1]; simp
  have hb1 : PX.At W1 w.heap.size p := by rw [← hW1]; exact PX.At.new w p _
  rw [hW1] at hB1 ⊢
  clear hW1
  have hlt : ∀ b, b < w.heap.size → b < W1.heap.size := fun b hb => by omega
  have hL1 := hL.under hB1 (fun b hb => hb)
  have hk1 := hkr.under hB1 (fun b hb => hb)
  have hj1 := lies_under (fun i g hi => (hkw i g hi).2) hB1 (fun b hb => hb)
  refine (PX.sz p hW _ W1 hlt hL1 1048576 (by omega) (by omega)).mono ?_
  rintro e w2 ⟨rfl, hB2⟩
  have hb2 := hb1.below hB2 (by omega)
  have hB2' := hB1.trans (hB2.mono hB1.size)
  have hL2 := hL1.under hB2 hlt
  have hk2 := hk1.under hB2 hlt
  have hj2 := lies_under hj1 hB2 hlt
  have hz2 := hB2.size
  by_cases htot : p.tot ≤ 1048576
  case neg =>
    rw [subI_no (by omega)]
    go_wp2
    go_returns
    exact ⟨rfl, hB2'⟩
  rw [subI_yes (by omega)]
  have hsz := GX.szs ks ha hc _ w2 (fun b hb => by omega) hk2 hkl (fun i k hk => (hkw i k hk).1) (1048576 - (p.tot : Int)) (by omega) (by omega)
  go_wp2_with fail
  all_goals first | (exfalso; omega) | skip
  go_at_call 15
  refine hsz.mono ?_
  clear hsz
  rintro e x2 ⟨rfl, hC2⟩
  replace hb2 := hb2.below hC2 (by omega)
  replace hB2' := hB2'.trans (hC2.mono hB2'.size)
  replace hL2 := hL2.under hC2 (fun b hb => by omega)
  replace hk2 := hk2.under hC2 (fun b hb => by omega)
  replace hj2 := lies_under hj2 hC2 (fun b hb => by omega)
  have hy2 := hC2.size
  by_cases hto : ks.length + sumOf (fun t : GX => t.l.length) ks ≤ 1048576 - p.tot
  case neg =>
    rw [subI_no (by omega)]
    go_wp2
    go_returns
    exact ⟨rfl, hB2'⟩
  rw [subI_yes (by omega)]
  have hm := PX.small htot
  have hN := PX.names htot
  have hkn : ks.length ≤ 1048577 := by omega
  have hkm : ∀ (i : Nat) (k : GX), ks[i]? = some k → k.l.length ≤ 1048577 := fun i k hk => by have := sumG hk; omega
  obtain ⟨c0, c1, c2, c3⟩ := boxP hb2
  go_wp2_with fail
  all_goals first | (exfalso; omega) | skip
  go_at_call 8
  refine (PX.to p hm _ x2 (fun b hb => by omega) hL2).mono ?_
  rintro e w3 ⟨q0, rfl, hS0, hL0, hB3⟩
  have hb3 := hb2.below hB3 (by omega)
  have hB3' := hB2'.trans (hB3.mono hB2'.size)
  have hz3 := hB3.size
  have hk3 := hk2.under hB3 (fun b hb => by omega)
  have hj3 := lies_under hj2 hB3 (fun b hb => by omega)
  clear c0 c1 c2 c3
  go_wp2_with fail
  go_at_call 17
  refine (toG ks ha hc _ w3 (fun b hb => by omega) hk3 hkn hj3 hkm).mono ?_
  rintro e x3 ⟨us0, rfl, hG0, hC3⟩
  replace hb3 := hb3.below hC3 (by omega)
  replace hB3' := hB3'.trans (hC3.mono hB3'.size)
  replace hk3 := hk3.under hC3 (fun b hb => by omega)
  replace hj3 := lies_under hj3 hC3 (fun b hb => by omega)
  replace hL0 := hL0.bound.under hC3 (fun b hb => hb)
  have hL3 := (hL2.under hB3 (fun b hb => by omega)).under hC3 (fun b hb => by omega)
  have hy3 := hC3.size
  obtain ⟨okv, hokv⟩ : ∃ okv, p.calcB ks = okv := ⟨_, rfl⟩
  obtain ⟨r0, z0⟩ := PX.same_ok hm hS0
  have hspec := specCalcOk q0 (PX.small (by omega)) (PX.names (by omega)) (PX.sizes (by omega)) (flatGoodP (by omega)) us0 (some ⟨w3.heap.size, 0, none⟩) us0.length (fun b => b < x3.heap.size) x3 (fun b hb => hb) (hL0.mono (fun b _ h => ⟨h, rfl⟩)) hG0.row hG0.lies (by rw [hG0.len]; exact hkn) (hG0.small hkm)
  rw [calc_same hm hS0 hG0.len hG0.nums, hokv] at hspec
  go_wp2_with fail
  go_at_call 16
  refine hspec.mono ?_
  clear hspec hG0 r0 z0
  rintro e w4 ⟨rfl, hB4⟩
  have hb4 := hb3.below hB4 (by omega)
  have hB4' := hB3'.trans (hB4.mono hB3'.size)
  have hz4 := hB4.size
  have hL4 := hL3.under hB4 (fun b hb => by omega)
  have hk4 := hk3.under hB4 (fun b hb => by omega)
  have hj4 := lies_under hj3 hB4 (fun b hb => by omega)
  obtain ⟨c0, c1, c2, c3⟩ := boxP hb4
  go_wp2_with fail
  go_at_call 8
  refine (PX.to p hm _ w4 (fun b hb => by omega) hL4).mono ?_
  rintro e w5 ⟨q1, rfl, hS1, hL1', hB5⟩
  have hb5 := hb4.below hB5 (by omega)
  have hB5' := hB4'.trans (hB5.mono hB4'.size)
  have hz5 := hB5.size
  have hL5 := hL4.under hB5 (fun b hb => by omega)
  have hk5 := hk4.under hB5 (fun b hb => by omega)
  have hj5 := lies_under hj4 hB5 (fun b hb => by omega)
  obtain ⟨r1, z1⟩ := PX.same_ok hm hS1
  have hm1 : q1.Small := PX.small (by omega)
  have hn1 := PX.names (p := q1) (by omega)
  have ht1 := PX.sizes (p := q1) (by omega)
  clear c0 c1 c2 c3
  obtain ⟨W6, hW6⟩ : ∃ W6, w5.alloc (.cells #[.slice q1.vbase q1.vars.length q1.vcap, .slice q1.cbase q1.chans.length q1.ccap, .slice q1.nbase q1.locks.length q1.ncap, .slice q1.tbase q1.tasks.length q1.tcap] 35) = W6 := ⟨_, rfl⟩
  have hs6 : w5.heap.size + 1 = W6.heap.size := by rw [← hW6]; simp
  have hB6 : Below w5.heap.size w5 W6 := by rw [← hW6]; exact (Below.refl _ _).alloc (Nat.le_refl _) _
  have hx6 : PX.At W6 w5.heap.size q1 := by rw [← hW6]; exact PX.At.new w5 q1 _
  have hL16 := hL1'.bound.under hB6 (fun b hb => hb)
  have hk6 := hk5.under hB6 (fun b hb => by omega)
  have hj6 := lies_under hj5 hB6 (fun b hb => by omega)
  have hb6 := hb5.below hB6 (by omega)
  have htn := toG ks ha hc _ W6 (fun b hb => by omega) hk6 hkn hj6 hkm
  go_wp2_with fail
  go_at_call 17
  clear hW6
  refine htn.mono ?_
  clear htn
  rintro e x6 ⟨us1, rfl, hG1, hC6⟩
  have hy6 := hC6.size
  have hb7 := hb6.below hC6 (by omega)
  have hx7 := hx6.below hC6 (by omega)
  have hL17 := hL16.under hC6 (fun b hb => by omega)
  have hk7 := hk6.under hC6 (fun b hb => by omega)
  have hj7 := lies_under hj6 hC6 (fun b hb => by omega)
  have hL7 := (hL5.under hB6 (fun b hb => by omega)).under hC6 (fun b hb => by omega)
  have hg6 := hg.of ((hB5'.trans (hB6.mono hB5'.size)).trans (hC6.mono (by omega)))
  have himpl := implCalcOk q1 hm1 hn1 ht1 us1 (some ⟨W6.heap.size, 0, none⟩) us1.length (fun b => b < x6.heap.size) x6 (fun b hb => hb) (hL17.mono (fun b _ h => ⟨h, rfl⟩)) hG1.row hG1.lies (by rw [hG1.len]; exact hkn) (hG1.small hkm) hg6
  rw [calc_same hm hS1 hG1.len hG1.nums, hokv] at himpl
  obtain ⟨d0, d1, d2, d3⟩ := boxP hx7
  have hB7' := ((hB5'.trans (hB6.mono hB5'.size)).trans (hC6.mono (by omega)))
  clear hB2 hB3 hB4 hB5 hB6 hC2 hC3 hC6 hb1 hb2 hb3 hb4 hb5 hb6 hx6 hL hL1 hL2 hL3 hL4 hL5 hL16 hL0 hL1' hB1 hB2' hB3' hB4' hB5' hlt hk1 hk2 hk3 hk4 hk5 hk6 hkr hj1 hj2 hj3 hj4 hj5 hj6 hS0 hg hg6 hn1 ht1 r1 z1
  go_wp2_with fail
  go_at_call 18
  refine himpl.mono ?_
  clear himpl d0 d1 d2 d3
  rintro e w7 ⟨rfl, hB7⟩
  have hz7 := hB7.size
  replace hb7 := hb7.below hB7 (by omega)
  replace hx7 := hx7.below hB7 (by omega)
  replace hL17 := hL17.under hB7 (fun b hb => by omega)
  replace hL7 := hL7.under hB7 (fun b hb => by omega)
  replace hk7 := hk7.under hB7 (fun b hb => by omega)
  replace hj7 := lies_under hj7 hB7 (fun b hb => by omega)
  have hG7 := hG1.under hB7
  replace hB7' := hB7'.trans (hB7.mono (by omega))
  clear hG1 hokv
  obtain ⟨c0, c1, c2, c3⟩ := boxP hb7
  obtain ⟨d0, d1, d2, d3⟩ := boxP hx7
  go_wp2_with fail
  have hzd : w7.drew.heap.size = w7.heap.size := rfl
  have hb7d : PX.At w7.drew w.heap.size p := ⟨hb7.c0, hb7.c1, hb7.c2, hb7.c3⟩
  have hx7d : PX.At w7.drew w5.heap.size q1 := ⟨hx7.c0, hx7.c1, hx7.c2, hx7.c3⟩
  have hL17d := hL17.mono (B := w7.drew) (ok' := fun b => b < w7.heap.size) (fun b hb h => ⟨h, rfl⟩)
  have hto' := PX.to p hm (fun b => b < w.heap.size) w7.drew (fun b hb => by rw [hzd]; omega) (hL7.mono (fun b hb _ => ⟨hb, rfl⟩))
  go_region_held3 (fun w' => w'.cell? ⟨w5.heap.size, 0, none⟩ = some (.slice q1.vbase q1.vars.length q1.vcap) ∧ w'.cell? ⟨w5.heap.size, 1, none⟩ = some (.slice q1.cbase q1.chans.length q1.ccap) ∧ w'.cell? ⟨w5.heap.size, 2, none⟩ = some (.slice q1.nbase q1.locks.length q1.ncap) ∧ w'.cell? ⟨w5.heap.size, 3, none⟩ = some (.slice q1.tbase q1.tasks.length q1.tcap) ∧ w'.cell? ⟨w.heap.size, 0, none⟩ = some (.slice p.vbase p.vars.length p.vcap) ∧ w'.cell? ⟨w.heap.size, 1, none⟩ = some (.slice p.cbase p.chans.length p.ccap) ∧ w'.cell? ⟨w.heap.size, 2, none⟩ = some (.slice p.nbase p.locks.length p.ncap) ∧ w'.cell? ⟨w.heap.size, 3, none⟩ = some (.slice p.tbase p.tasks.length p.tcap)) (simp [*, go_sem, World.cell?_alloc_some, World.cell?_setCell_far, apart1, apart2, apart3, apart4, apart5, apart6]) (first | (go_at_call 8; refine hto'.mono ?_; rintro e w8 ⟨q2, rfl, hS2, hL28, hB8⟩; (have hz8 := hB8.size); (obtain ⟨k0, k1, k2, k3⟩ := boxP (hb7d.below hB8 (by rw [hzd]; omega))); (obtain ⟨l0, l1, l2, l3⟩ := boxP (hx7d.below hB8 (by rw [hzd]; omega))); (have heq := PX.eq q1 q2 hm1 (hS1.join hS2) _ w8 (fun b hb => hb) (hL17d.under hB8 (fun b hb => by rw [hzd]; omega)).bound hL28.bound)) | (go_at_call 11; refine heq.mono ?_; rintro e w9 ⟨rfl, hB9⟩; (obtain ⟨kk0, kk1, kk2, kk3⟩ := boxP (((hb7d.below hB8 (by rw [hzd]; omega))).below hB9 (by omega))); (obtain ⟨ll0, ll1, ll2, ll3⟩ := boxP (((hx7d.below hB8 (by rw [hzd]; omega))).below hB9 (by omega)))))
  have hB79 : Below w7.heap.size w7 w9 := (((Below.refl _ w7).drew).trans (hB8.mono (by rw [hzd]; omega))).trans (hB9.mono (by omega))
  have hz9 := hB79.size
  have hB9' := hB7'.trans (hB79.mono (by omega))
  have hk9 := hk7.under hB79 (fun b hb => by omega)
  have hj9 := lies_under hj7 hB79 (fun b hb => by omega)
  have hG9 := hG7.under hB79
  have ht9 := toG ks ha hc _ w9 (fun b hb => by omega) hk9 hkn hj9 hkm
  go_wp2_with fail
  go_at_call 17
  refine ht9.mono ?_
  clear ht9
  rintro e x9 ⟨us2, rfl, hG2, hC9⟩
  have hy9 := hC9.size
  have hG1x := hG9.under hC9
  have heq9 := GX.eqs us1 us2 (some ⟨W6.heap.size, 0, none⟩) (some ⟨w9.heap.size, 0, none⟩) us1.length us2.length (fun b => b < x9.heap.size) x9 (fun b hb => hb) hG1x.row hG2.row (by rw [hG1x.len]; exact hkn) (by rw [hG1x.len, hG2.len]) hG1x.lies hG2.lies (hG1x.small hkm) (fun i x y hx hy => by
    obtain ⟨z, hz⟩ := hG1x.get hx
    rw [hG1x.nums i z x hz hx, hG2.nums i z y hz hy])
  go_wp2_with fail
  go_at_call 10
  refine heq9.mono ?_
  rintro e y9 ⟨rfl, hD9⟩
  go_wp2
  go_returns
  exact ⟨rfl, (hB9'.trans (hC9.mono (by omega))).trans (hD9.mono (by omega))⟩
theorem own : ownKnob Tryz.prog.godebug = none := by kernel_rfl
theorem laidOut : laidOutB Tryz.prog = true := by kernel_rfl
theorem gE : Tryz.prog.globalNamed "errors.errorType" = some 0 := by kernel_rfl
theorem rtE : (Tryz.prog.cutTypes.find? (·.1 == "internal/reflectlite.rtype")).map (·.2) = some 189 := by kernel_rfl
theorem oneRow : ((List.range 305).filter fun t => Tryz.prog.rowNamed t [101, 114, 114, 111, 114]) = [108] := by kernel_rfl
theorem sizeT : Tryz.prog.types.size = 305 := by kernel_rfl
/-- What the condition gives the walk: the one variable that errors.As reads. -/
theorem of_laid {W : World} (h : laidMetH Tryz.prog Rows.fnExactCalcOkRow.laid W) : ErrG W := by
  have h' : laidMet Tryz.prog [] W ∧ handlesMet Tryz.prog Rows.fnExactCalcOkRow.laid W := h
  obtain ⟨name, u, ty, e1, e2, e3, e4, e5⟩ := h'.2 _ (List.mem_singleton.2 rfl)
  have en : name = [101, 114, 114, 111, 114] := (Option.some.inj e1).symm
  subst en
  obtain rfl := Option.some.inj (rtE.symm.trans e2)
  have hm : ty ∈ (List.range 305).filter fun t => Tryz.prog.rowNamed t [101, 114, 114, 111, 114] := List.mem_filter.2 ⟨List.mem_range.2 (by rw [← sizeT]; exact e3), e4⟩
  rw [oneRow] at hm
  obtain rfl := List.mem_singleton.1 hm
  have hh : typeHandle Tryz.prog 108 = .pointer (some ⟨1, 108, none⟩) := by kernel_rfl
  rw [hh] at e5
  have h6 : W.cell? ⟨0, 0, none⟩ = some (.iface 189 (.agg #[.pointer (some ⟨1, 108, none⟩)])) := by simpa using World.var?_cell gE e5 0
  exact h6
theorem door_met (os : Os) (args : Array Value) : laidMetH Tryz.prog Rows.fnExactCalcOkRow.laid ((World.doorLaid Tryz.prog 16 os).forCall (fun _ _ => 0) ⟨#[], args, []⟩).memory :=
  laidMetH_of_parts (laidMet_nil _ _) (by kernel_rfl)
set_option maxRecDepth 100000 in
theorem lifted (os : Os) (started : os.Started) (H : Type) (enc : TypeId × Value → H) :
    ReturnsInHanded {} Tryz.checked os 4 .any (fun w args => (Rows.fnExactCalcOkSpec.pre enc Tryz.prog Tryz.f4 [] false w args ∧ laidMetH Tryz.prog Rows.fnExactCalcOkRow.laid w) ∧ sizedMet enc Tryz.prog Tryz.f4 (OpenSpec.ofChange Rows.fnExactCalcOkSpec) false w args)
      (Rows.fnExactCalcOkSpec.post enc Tryz.prog Tryz.f4 false true false false) := by
  refine returnsInHanded_of_change_and (C := Tryz.checked) (X := fun w _ => laidMetH Tryz.prog Rows.fnExactCalcOkRow.laid w) (fun _ _ _ hh h => h.of_heap hh) own started (by kernel_rfl) Tryz.func4
    (ChangeSpec.witness_shaped (enc := enc) (C := Tryz.checked) (os := os) (X := fun w _ => laidMetH Tryz.prog Rows.fnExactCalcOkRow.laid w) false (World.doorLaid Tryz.prog 16 os) #[.agg #[.slice none 0 0, .slice none 0 0, .slice none 0 0, .slice none 0 0], .slice none 0 0] 8 rfl (World.shaped_of_RefB (by kernel_rfl) (by kernel_rfl)) (by kernel_rfl) (by kernel_rfl) (by kernel_rfl) (door_met os _)) ?_
  intro W base args ds gs before hval0 hW _ _ hLaid _
  have hval : ∀ (j : Nat) t v, Tryz.f4.params[j]? = some t → args[j]? = some v → Value.okWide Tryz.prog W .any base t v := hval0
  have hW' := hW
  obtain ⟨p, q, hA0, hV, rfl, hfz, hnd⟩ := hW
  have hA : DataW.TrodAll enc Tryz.prog W 0 (fun _ => true) true Tryz.f4.params.toList args.toList ds p := hA0
  rw [Tryz.params4] at hA hval
  obtain ⟨v0, vs0, d0, ds0, p0, q0, hargs, rfl, rfl, h0, r0⟩ := trodAll_cons hA
  obtain ⟨v1, vs1, d1, ds1, p1, q1, rfl, rfl, rfl, h1, r1⟩ := trodAll_cons r0
  obtain ⟨rfl, rfl, rfl⟩ := trodAll_nil r1
  obtain rfl : args = #[v0, v1] := by cases args; simp_all
  obtain ⟨rfl, rfl⟩ := trodVars_none hV
  have k0 := h0
  have lt0 : ∀ x ∈ p0, x.block < W.heap.size := by obtain ⟨m, hm⟩ := k0; exact DataW.trod_lt m _ _ _ hm
  obtain ⟨a0, e0, wd0, ly0⟩ : ∃ t : PX, v0 = t.val ∧ t.Wide ∧ PX.Lies (fun b => b < W.heap.size) W t := by
    obtain ⟨cs, rfl, _⟩ := okWide_struct Tryz.underlying27 (hval 0 27 v0 rfl rfl)
    obtain ⟨m, hm⟩ := h0
    obtain ⟨t, h1, h2, h3⟩ := readP m _ _ hm
    refine ⟨t, ?_, h2, h3⟩
    obtain ⟨l⟩ := cs
    have h4 : l = _ := h1
    rw [h4]
  subst e0
  have k1 := h1
  have lt1 : ∀ x ∈ p1, x.block < W.heap.size := by obtain ⟨m, hm⟩ := k1; exact DataW.trod_lt m _ _ _ hm
  obtain ⟨b1, len1, bap1, rfl⟩ := okWide_slice Tryz.underlying29 (hval 1 29 v1 rfl rfl)
  obtain ⟨a1, cap1, ks1, e1, wl1, wr1, wk1⟩ : ∃ (a : Option Addr) (cap : Nat) (ks : List GX), Value.slice b1 len1 bap1 = .slice a ks.length cap ∧ ks.length ≤ maxLen ∧ GX.Row (fun b => b < W.heap.size) W a ks ∧ ∀ (i : Nat) (k : GX), ks[i]? = some k → k.l.length ≤ maxLen ∧ GX.Lies (fun b => b < W.heap.size) W k := by
    obtain ⟨m, hm⟩ := h1
    exact GX.reads m _ _ hm
  cases e1
  have hErr := of_laid hLaid
  clear hA0 hval0
  refine (walk a0 b1 bap1 ks1 W wd0 ly0 wl1 wr1 wk1 hErr).mono fun e W' ⟨he, bel⟩ => ?_
  subst he
  exact ⟨_, rfl, _, _, _, [], _, [], hW', trodAll_mk1 (shut_bool Tryz.underlying4 _), (trodAll_cons_mk (Below.trod laidOut (by kernel_rfl) (of_decide_eq_true (by kernel_rfl)) k0 bel lt0) (trodAll_cons_mk (Below.trod laidOut (by kernel_rfl) (of_decide_eq_true (by kernel_rfl)) k1 bel lt1) trodAll_mk0)), rfl, bel.frame _, fun h => by cases h⟩
theorem over : Rows.fnExactCalcOkRow.holds Tryz.pinned (OpenSpec.ofChange Rows.fnExactCalcOkSpec) :=
  OpenClaim.holds_of_wide 4 Tryz.f4 rfl rfl rfl rfl rfl rfl rfl ⟨rfl, rfl, rfl, rfl, rfl⟩ rfl rfl rfl rfl rfl (by kernel_rfl) Tryz.func4 (by kernel_rfl)
    (of_decide_eq_true (by kernel_rfl)) (by unfold Func.isWrapper; first | (rw [if_pos (by decide +kernel)]; kernel_rfl) | (rw [if_neg (by decide +kernel)]; exact ⟨rfl, rfl⟩))
    (fun os started H enc _ => lifted os started H enc)
end FnExactCalcOk
theorem calcOk_holds : Rows.FnExactCalcOkCardSaid :=
  Claim7.holds_tied_plain_at .later [] [.handle] true Rows.fnExactCalcOkCard.stood.harness true
    FnExactCalcOk.over (fun _ h => by cases h) (by kernel_rfl) (fun _ h => by cases h) fnExactCalcOk_row_tie rfl ⟨rfl, rfl⟩ (by kernel_rfl) rfl
    (fun f fn hf hfn => by
      obtain rfl : f = 4 := Option.some.inj ((show Tryz.prog.funcNamed "loop.example/hedge/laws.FnExactCalcOk" = some 4 by kernel_rfl).symm.trans hf) |>.symm
      obtain rfl : fn = Tryz.f4 := (Option.some.inj (Tryz.func4.symm.trans hfn)).symm
      exact ⟨by kernel_rfl, fun j t ht => by
        rw [Tryz.params4] at ht
        have hm : t ∈ [27, 29] := by simpa using Array.mem_of_getElem? ht
        have hall : ([27, 29].all fun u => !Tryz.prog.wantsStandIn u) = true := by kernel_rfl
        exact (show Tryz.prog.wantsStandIn t = false by simpa using List.all_eq_true.1 hall t hm)⟩)
    (by kernel_rfl)
#print axioms calcOk_holds
end Go.Proofs.YtaajdoipjalgmaaGreatDoor
