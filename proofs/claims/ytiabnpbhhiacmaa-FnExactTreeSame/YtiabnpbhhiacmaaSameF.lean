/-
  The program's comparison of two programs.
-/
import Derived.Test.YtiabnpbhhiacmaaHoldE
import Derived.Test.YtiabnpbhhiacmaaSameD
import Derived.Test.YtiabnpbhhiacmaaSameE
import Derived.Test.YtiabnpbhhiacmaaOkK
namespace Go.Proofs.Ytiabnpbhhiacmaa
open Go.RowKit Go.Shelf
set_option linter.unusedSimpArgs false
set_option linter.unusedVariables false
attribute [local go_sem] Oper.semAt_some

def LX.sameB (t u : LX) : Bool := allZ SX.sameB t.l u.l
structure LX.Fine (t : LX) : Prop where
  small : t.Small
  size : SX.sizeAll t.l ≤ 2097152
/-- Tasks that lie in blocks that may be written. -/
def LX.Plain (W : World) (ks : List LX) : Prop := ∀ (i : Nat) (k : LX), ks[i]? = some k → LX.Lies (fun b => b < W.heap.size ∧ Pl W b) W k
theorem LX.Plain.of {W : World} {ks : List LX} (h : ∀ (i : Nat) (k : LX), ks[i]? = some k → LX.Lies (Pl W) W k) : LX.Plain W ks := fun i k hk => (h i k hk).mono (fun b hb hl => ⟨⟨hl, hb⟩, rfl⟩)
theorem LX.Plain.under {A B : World} {ks : List LX} (h : LX.Plain A ks) (hb : Below A.heap.size A B) : LX.Plain B ks := fun i k hk =>
  (h i k hk).mono (fun b ho hl => ⟨⟨Nat.lt_of_lt_of_le hl hb.size, ho.2.below hb hl⟩, hb.block b hl⟩)
set_option maxHeartbeats 2000000 in
theorem LX.allEnds (ks : List LX) (a : Option Addr) (c : Nat) (ok : Nat → Prop) (w : World) (hok : ∀ b, ok b → b < w.heap.size) (hcl : LX.Row ok w a ks) (hP : LX.Plain w ks) (hlen : ks.length ≤ 1048577) (hm : ∀ (i : Nat) (t : LX), ks[i]? = some t → t.Fine) :
    Calls Try.prog 65 #[.slice a ks.length c, .func (.func 73) #[] #[]] w fun e w' => e = .returned (.bool true) ∧ Below w.heap.size w w' := by
  obtain ⟨len, hl⟩ : ∃ len, ks.length = len := ⟨_, rfl⟩
  rw [hl] at hlen ⊢
  go_enter Try.func65, Try.ntmps65
  go_wp2
  go_loopw [9] (fun v9 wr => ∃ (i : Nat), v9 = .int .i64 i ∧ i ≤ len ∧ Below w.heap.size w wr) (fun v9 _ => len - (intOf v9).toNat)
  case atStart => exact ⟨0, rfl, by omega, Below.refl _ _⟩
  case round =>
    obtain ⟨i, rfl, hi, hB⟩ := hrel
    by_cases hlt : i < len
    · obtain ⟨v, hx⟩ : ∃ x, ks[i]? = some x := ⟨_, List.getElem?_eq_getElem (by omega)⟩
      obtain ⟨b1, o1, hbase1, hok1, hc1⟩ := hcl i v hx
      obtain ⟨hs1, hs2⟩ := hm i v hx
      have c0 := below_cell hB hc1 (hok b1 hok1)
      have hLv := hP.under hB i v hx
      subst hbase1
      go_wp2_with (go_at_call 73; refine (ends v.l hs2 hs1.kid v.base v.cap _ _ (fun b hb => hb) hLv.row hLv.kid).mono ?_; rintro e w5 ⟨rfl, hb⟩)
      refine ⟨⟨i + 1, by go_num, by omega, bstep hB hb⟩, ?_⟩
      simp [intOf]
      omega
    · have he : i = len := by omega
      go_wp2
      go_returns
      exact ⟨rfl, hB⟩
set_option maxRecDepth 10000 in
set_option maxHeartbeats 2000000 in
theorem eqfL (ks us : List LX) (a a' : Option Addr) (c c' : Nat) (ok : Nat → Prop) (w : World) (hok : ∀ b, ok b → b < w.heap.size)
    (hcl : LX.Row ok w a ks) (hcl' : LX.Row ok w a' us) (hL : ∀ (i : Nat) (k : LX), ks[i]? = some k → LX.Lies ok w k) (hL' : ∀ (i : Nat) (k : LX), us[i]? = some k → LX.Lies ok w k) (hm : ∀ (i : Nat) (t : LX), ks[i]? = some t → t.Fine) (hm' : ∀ (i : Nat) (t : LX), us[i]? = some t → t.Fine) (hlen : ks.length ≤ 1099511627776) (hlen' : us.length ≤ 1099511627776) :
    Calls Try.prog 84 #[.slice a ks.length c, .slice a' us.length c', .func (.func 85) #[] #[]] w fun e w' => e = .returned (.bool (allZ LX.sameB ks us)) ∧ Below w.heap.size w w' := by
  obtain ⟨len, hl⟩ : ∃ len, ks.length = len := ⟨_, rfl⟩
  obtain ⟨len', hl'⟩ : ∃ len', us.length = len' := ⟨_, rfl⟩
  rw [hl] at hlen ⊢
  rw [hl'] at hlen' ⊢
  by_cases hne : len = len'
  · subst hne
    go_enter Try.func84, Try.ntmps84
    go_wp2
    go_loopw [17] (fun v17 wr => ∃ (i : Nat), v17 = .int .i64 i ∧ i ≤ len ∧ Hid (upToZ LX.sameB ks us i) ∧ Below w.heap.size w wr) (fun v17 _ => len - (intOf v17).toNat)
    case atStart => exact ⟨0, rfl, by omega, fun j x y h => by omega, Below.refl _ _⟩
    case round =>
      obtain ⟨i, rfl, hi, hall, hB⟩ := hrel
      by_cases hlt : i < len
      · obtain ⟨x, hx⟩ : ∃ x, ks[i]? = some x := ⟨_, List.getElem?_eq_getElem (by omega)⟩
        obtain ⟨y, hy⟩ : ∃ y, us[i]? = some y := ⟨_, List.getElem?_eq_getElem (by omega)⟩
        obtain ⟨b1, o1, hbase1, hok1, hc1⟩ := hcl i x hx
        obtain ⟨b2, o2, hbase2, hok2, hc2⟩ := hcl' i y hy
        have c0 := below_cell hB hc1 (hok b1 hok1)
        have d0 := below_cell hB hc2 (hok b2 hok2)
        have hLx := (hL i x hx).under hB hok
        have hLy := (hL' i y hy).under hB hok
        have hokr : ∀ b, ok b → b < wr.heap.size := fun b hb => Nat.lt_of_lt_of_le (hok b hb) hB.size
        have mx := hm i x hx
        have my := hm' i y hy
        have l1 := mx.small.len
        have l2 := my.small.len
        have H' : Hid (Calls Try.prog 85 #[.slice x.base x.l.length x.cap, .slice y.base y.l.length y.cap] wr fun e w'' => e = .returned (.bool (x.sameB y)) ∧ Below wr.heap.size wr w'') :=
          sameSS x.l y.l mx.small.kid my.small.kid (by omega) (by omega) x.base y.base x.cap y.cap ok wr hokr hLx.row hLy.row hLx.kid hLy.kid
        subst hbase1
        subst hbase2
        clear hLx hLy
        cases hv : x.sameB y
        · go_wp2_with (go_at_call 85; refine H'.out.mono ?_; rintro e w5 ⟨rfl, hb⟩; rw [hv])
          go_returns
          exact ⟨ret_bool (allZ_bad hx hy hv).symm, bstep hB hb⟩
        · go_wp2_with (go_at_call 85; refine H'.out.mono ?_; rintro e w5 ⟨rfl, hb⟩; rw [hv])
          refine ⟨⟨i + 1, by go_num, by omega, upToZ_next hall hx hy hv, bstep hB hb⟩, ?_⟩
          simp [intOf]
          omega
      · have he : i = len := by omega
        go_wp2
        go_returns
        exact ⟨ret_bool (upToZ_all hall.out (by omega) (by omega)).symm, hB⟩
  · go_enter Try.func84, Try.ntmps84
    go_wp2
    all_goals first | (exfalso; omega) | skip
    go_returns
    exact ⟨ret_bool (allZ_len _ ks us (by omega)).symm, Below.refl _ _⟩
def PX.sameB (p q : PX) : Bool := allZ VX.eqB p.vars q.vars && (allZ CX.eqB p.chans q.chans && (allZ eqN1 p.locks q.locks && allZ LX.sameB p.tasks q.tasks))
structure PX.Fine (p : PX) : Prop where
  small : p.Small
  tasks : ∀ (i : Nat) (t : LX), p.tasks[i]? = some t → t.Fine
set_option maxRecDepth 10000 in
set_option maxHeartbeats 4000000 in
theorem PX.implSame (p q : PX) (hm : p.Fine) (hm' : q.Fine) (ok : Nat → Prop) (w : World) (hok : ∀ b, ok b → b < w.heap.size) (hL : PX.Lies ok w p) (hU : PX.Lies ok w q) (hP : LX.Plain w p.tasks) (hP' : LX.Plain w q.tasks) :
    Calls Try.prog 31 #[p.val, q.val] w fun e w' => e = .returned (.bool (p.sameB q)) ∧ Below w.heap.size w w' := by
  obtain ⟨W1, hW1⟩ : ∃ W1, w.alloc (.cells #[.slice p.vbase p.vars.length p.vcap, .slice p.cbase p.chans.length p.ccap, .slice p.nbase p.locks.length p.ncap, .slice p.tbase p.tasks.length p.tcap] 49) = W1 := ⟨_, rfl⟩
  obtain ⟨W2, hW2⟩ : ∃ W2, W1.alloc (.cells #[.slice q.vbase q.vars.length q.vcap, .slice q.cbase q.chans.length q.ccap, .slice q.nbase q.locks.length q.ncap, .slice q.tbase q.tasks.length q.tcap] 49) = W2 := ⟨_, rfl⟩
  have hs1 : w.heap.size + 1 = W1.heap.size := by rw [← hW1]; simp
  have hs2 : W1.heap.size + 1 = W2.heap.size := by rw [← hW2]; simp
  have hB1 : Below w.heap.size w W1 := by rw [← hW1]; exact (Below.refl _ w).alloc (Nat.le_refl _) _
  have hB2 : Below w.heap.size w W2 := by rw [← hW2]; exact hB1.alloc (by omega) _
  have hC : PX.At W2 w.heap.size p := by
    have h := PX.At.new w p 49
    rw [hW1] at h
    rw [← hW2]
    exact h.below (n := W1.heap.size) ((Below.refl _ _).alloc (Nat.le_refl _) _) (by omega)
  have hD : PX.At W2 W1.heap.size q := by rw [← hW2]; exact PX.At.new W1 q _
  have hok2 : ∀ b, ok b → b < W2.heap.size := fun b hb => Nat.lt_of_lt_of_le (hok b hb) hB2.size
  have hL2 := hL.under hB2 hok
  have hU2 := hU.under hB2 hok
  have hP2 := hP.under hB2
  have hP2' := hP'.under hB2
  obtain ⟨⟨vl, cl, nl, tl, hmt⟩, hft⟩ := hm
  obtain ⟨⟨vl', cl', nl', tl', hmt'⟩, hft'⟩ := hm'
  have up : ∀ x, Below W2.heap.size W2 x → ∀ b, ok b → b < x.heap.size := fun x hx b hb => Nat.lt_of_lt_of_le (hok2 b hb) hx.size
  have HV : Hid (∀ x, Below W2.heap.size W2 x → Calls Try.prog 81 #[.slice p.vbase p.vars.length p.vcap, .slice q.vbase q.vars.length q.vcap] x fun e w' => e = .returned (.bool (allZ VX.eqB p.vars q.vars)) ∧ Below x.heap.size x w') := fun x hx =>
    eqsV p.vars q.vars _ _ _ _ ok x (up x hx) (hL2.v.under hx hok2) (hU2.v.under hx hok2) (by omega) (by omega)
  have HC : Hid (∀ x, Below W2.heap.size W2 x → Calls Try.prog 82 #[.slice p.cbase p.chans.length p.ccap, .slice q.cbase q.chans.length q.ccap] x fun e w' => e = .returned (.bool (allZ CX.eqB p.chans q.chans)) ∧ Below x.heap.size x w') := fun x hx =>
    eqsC p.chans q.chans _ _ _ _ ok x (up x hx) (hL2.c.under hx hok2) (hU2.c.under hx hok2) (by omega) (by omega)
  have HN : Hid (∀ x, Below W2.heap.size W2 x → Calls Try.prog 83 #[.slice p.nbase p.locks.length p.ncap, .slice q.nbase q.locks.length q.ncap] x fun e w' => e = .returned (.bool (allZ eqN1 p.locks q.locks)) ∧ Below x.heap.size x w') := fun x hx =>
    eqsN p.locks q.locks _ _ _ _ ok x (up x hx) (hL2.n.under hx hok2) (hU2.n.under hx hok2) (by omega) (by omega)
  have HA : Hid (∀ x, Below W2.heap.size W2 x → Calls Try.prog 65 #[.slice p.tbase p.tasks.length p.tcap, .func (.func 73) #[] #[]] x fun e w' => e = .returned (.bool true) ∧ Below x.heap.size x w') := fun x hx =>
    LX.allEnds p.tasks p.tbase p.tcap ok x (up x hx) (hL2.t.under hx hok2) (hP2.under hx) (by omega) hft
  have HB : Hid (∀ x, Below W2.heap.size W2 x → Calls Try.prog 65 #[.slice q.tbase q.tasks.length q.tcap, .func (.func 73) #[] #[]] x fun e w' => e = .returned (.bool true) ∧ Below x.heap.size x w') := fun x hx =>
    LX.allEnds q.tasks q.tbase q.tcap ok x (up x hx) (hU2.t.under hx hok2) (hP2'.under hx) (by omega) hft'
  have HT : Hid (∀ x, Below W2.heap.size W2 x → Calls Try.prog 84 #[.slice p.tbase p.tasks.length p.tcap, .slice q.tbase q.tasks.length q.tcap, .func (.func 85) #[] #[]] x fun e w' => e = .returned (.bool (allZ LX.sameB p.tasks q.tasks)) ∧ Below x.heap.size x w') := fun x hx =>
    eqfL p.tasks q.tasks _ _ _ _ ok x (up x hx) (hL2.t.under hx hok2) (hU2.t.under hx hok2) (fun i k hk => (hL2.k i k hk).under hx hok2) (fun i k hk => (hU2.k i k hk).under hx hok2) hft hft' (by omega) (by omega)
  obtain ⟨bv, qv⟩ : ∃ b, allZ VX.eqB p.vars q.vars = b := ⟨_, rfl⟩
  obtain ⟨bc, qc⟩ : ∃ b, allZ CX.eqB p.chans q.chans = b := ⟨_, rfl⟩
  obtain ⟨bn, qn⟩ : ∃ b, allZ eqN1 p.locks q.locks = b := ⟨_, rfl⟩
  obtain ⟨bt, qt⟩ : ∃ b, allZ LX.sameB p.tasks q.tasks = b := ⟨_, rfl⟩
  have hres : p.sameB q = (bv && (bc && (bn && bt))) := by unfold PX.sameB; rw [qv, qc, qn, qt]
  rw [hres]
  clear hres hL hU hL2 hU2 hP hP' hP2 hP2' hft hft' hmt hmt'
  have hX := Below.refl W2.heap.size W2
  obtain ⟨c0, c1, c2, c3⟩ := hC.below hX (by omega)
  obtain ⟨d0, d1, d2, d3⟩ := hD.below hX (by omega)
  go_enter Try.func31, Try.ntmps31
  go_wp2_with fail
  go_at_call 81
  refine (HV.out _ hX).mono ?_
  rintro z x1 ⟨rfl, hb⟩
  rw [qv]
  replace hX := bstep hX hb
  clear hb c0 c1 c2 c3 d0 d1 d2 d3
  obtain ⟨c0, c1, c2, c3⟩ := hC.below hX (by omega)
  obtain ⟨d0, d1, d2, d3⟩ := hD.below hX (by omega)
  cases bv
  · go_wp2
    go_returns
    exact ⟨ret_bool (by simp), hB2.trans (hX.mono (by omega))⟩
  · go_wp2_with fail
    go_at_call 82
    refine (HC.out _ hX).mono ?_
    rintro z x2 ⟨rfl, hb⟩
    rw [qc]
    replace hX := bstep hX hb
    clear hb c0 c1 c2 c3 d0 d1 d2 d3
    obtain ⟨c0, c1, c2, c3⟩ := hC.below hX (by omega)
    obtain ⟨d0, d1, d2, d3⟩ := hD.below hX (by omega)
    cases bc
    · go_wp2
      go_returns
      exact ⟨ret_bool (by simp), hB2.trans (hX.mono (by omega))⟩
    · go_wp2_with fail
      go_at_call 83
      refine (HN.out _ hX).mono ?_
      rintro z x3 ⟨rfl, hb⟩
      rw [qn]
      replace hX := bstep hX hb
      clear hb c0 c1 c2 c3 d0 d1 d2 d3
      obtain ⟨c0, c1, c2, c3⟩ := hC.below hX (by omega)
      obtain ⟨d0, d1, d2, d3⟩ := hD.below hX (by omega)
      cases bn
      · go_wp2
        go_returns
        exact ⟨ret_bool (by simp), hB2.trans (hX.mono (by omega))⟩
      · go_wp2_with fail
        go_at_call 65
        refine (HA.out _ hX).mono ?_
        rintro z x4 ⟨rfl, hb⟩
        replace hX := bstep hX hb
        clear hb c0 c1 c2 c3 d0 d1 d2 d3
        obtain ⟨c0, c1, c2, c3⟩ := hC.below hX (by omega)
        obtain ⟨d0, d1, d2, d3⟩ := hD.below hX (by omega)
        go_wp2_with fail
        go_at_call 65
        refine (HB.out _ hX).mono ?_
        rintro z x5 ⟨rfl, hb⟩
        replace hX := bstep hX hb
        clear hb c0 c1 c2 c3 d0 d1 d2 d3
        obtain ⟨c0, c1, c2, c3⟩ := hC.below hX (by omega)
        obtain ⟨d0, d1, d2, d3⟩ := hD.below hX (by omega)
        go_wp2_with fail
        go_at_call 84
        refine (HT.out _ hX).mono ?_
        rintro z x6 ⟨rfl, hb⟩
        rw [qt]
        replace hX := bstep hX hb
        clear hb c0 c1 c2 c3 d0 d1 d2 d3
        go_wp2
        go_returns
        exact ⟨ret_bool (by simp), hB2.trans (hX.mono (by omega))⟩
end Go.Proofs.Ytiabnpbhhiacmaa
