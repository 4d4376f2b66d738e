/-
  The program's comparison of two statements, and of two lists of them.
-/
import Derived.Test.YtiabnpbhhiacmaaSameB
import Derived.Test.YtiabnpbhhiacmaaOkL
namespace Go.Proofs.Ytiabnpbhhiacmaa
open Go.RowKit Go.Shelf
set_option linter.unusedSimpArgs false
set_option linter.unusedVariables false
attribute [local go_sem] Oper.semAt_some

mutual
def SX.sameB : SX → SX → Bool
  | .mk k n e f _ _ la _ _ lb, u => decide (k = u.kind) && ((n.toList == u.name.toList) && (e.sameB u.e && (f.sameB u.f && (SX.sameL la u.la && SX.sameL lb u.lb))))
def SX.sameL : List SX → List SX → Bool
  | [], us => match us with
    | [] => true
    | _ :: _ => false
  | t :: ts, us => match us with
    | [] => false
    | v :: vs => SX.sameB t v && SX.sameL ts vs
end
theorem SX.sameL_eq : ∀ ks us : List SX, SX.sameL ks us = allZ SX.sameB ks us
  | [], [] => by simp [SX.sameL, allZ]
  | [], _ :: _ => by simp [SX.sameL, allZ]
  | _ :: _, [] => by simp [SX.sameL, allZ]
  | x :: xs, y :: ys => by simp [SX.sameL, allZ, SX.sameL_eq xs ys]
theorem SX.sameB_eq (t u : SX) : t.sameB u = (decide (t.kind = u.kind) && ((t.name.toList == u.name.toList) && (t.e.sameB u.e && (t.f.sameB u.f && (allZ SX.sameB t.la u.la && allZ SX.sameB t.lb u.lb))))) := by
  cases t
  rw [SX.sameB, SX.sameL_eq, SX.sameL_eq]
  rfl
set_option maxRecDepth 10000 in
set_option maxHeartbeats 4000000 in
theorem sameS0 (k : Int) (n : ByteArray) (e f : XT) (ab : Option Addr) (ac : Nat) (la : List SX) (bb : Option Addr) (bc : Nat) (lb : List SX) (k' : Int) (n' : ByteArray) (e' f' : XT) (ab' : Option Addr) (ac' : Nat) (la' : List SX) (bb' : Option Addr) (bc' : Nat) (lb' : List SX) (q1 q2 q3 q4 : Bool) (w : World)
    (HE : Hid (∀ x, Below w.heap.size w x → Calls Try.prog 131 #[e.val, e'.val] x fun z w' => z = .returned (.bool q1) ∧ Below x.heap.size x w'))
    (HF : Hid (∀ x, Below w.heap.size w x → Calls Try.prog 131 #[f.val, f'.val] x fun z w' => z = .returned (.bool q2) ∧ Below x.heap.size x w'))
    (HA : Hid (∀ x, Below w.heap.size w x → Calls Try.prog 85 #[.slice ab la.length ac, .slice ab' la'.length ac'] x fun z w' => z = .returned (.bool q3) ∧ Below x.heap.size x w'))
    (HB : Hid (∀ x, Below w.heap.size w x → Calls Try.prog 85 #[.slice bb lb.length bc, .slice bb' lb'.length bc'] x fun z w' => z = .returned (.bool q4) ∧ Below x.heap.size x w')) :
    Calls Try.prog 119 #[.agg #[.int .i64 k, .string n, .int .i64 e.kind, .int .i64 e.num, .string e.name, .slice e.base e.kids.length e.cap, .int .i64 f.kind, .int .i64 f.num, .string f.name, .slice f.base f.kids.length f.cap, .slice ab la.length ac, .slice bb lb.length bc], .agg #[.int .i64 k', .string n', .int .i64 e'.kind, .int .i64 e'.num, .string e'.name, .slice e'.base e'.kids.length e'.cap, .int .i64 f'.kind, .int .i64 f'.num, .string f'.name, .slice f'.base f'.kids.length f'.cap, .slice ab' la'.length ac', .slice bb' lb'.length bc']] w fun z w' => z = .returned (.bool (decide (k = k') && ((n.toList == n'.toList) && (q1 && (q2 && (q3 && q4)))))) ∧ Below w.heap.size w w' := by
  obtain ⟨W1, hW1⟩ : ∃ W1, w.alloc (.cells #[.int .i64 k, .string n, .int .i64 e.kind, .int .i64 e.num, .string e.name, .slice e.base e.kids.length e.cap, .int .i64 f.kind, .int .i64 f.num, .string f.name, .slice f.base f.kids.length f.cap, .slice ab la.length ac, .slice bb lb.length bc] 111) = W1 := ⟨_, rfl⟩
  obtain ⟨W2, hW2⟩ : ∃ W2, W1.alloc (.cells #[.int .i64 k', .string n', .int .i64 e'.kind, .int .i64 e'.num, .string e'.name, .slice e'.base e'.kids.length e'.cap, .int .i64 f'.kind, .int .i64 f'.num, .string f'.name, .slice f'.base f'.kids.length f'.cap, .slice ab' la'.length ac', .slice bb' lb'.length bc'] 111) = W2 := ⟨_, rfl⟩
  have hs1 : w.heap.size + 1 = W1.heap.size := by rw [← hW1]; simp
  have hs2 : W1.heap.size + 1 = W2.heap.size := by rw [← hW2]; simp
  have hB1 : Below w.heap.size w W1 := by rw [← hW1]; exact (Below.refl _ w).alloc (Nat.le_refl _) _
  have hB2 : Below w.heap.size w W2 := by rw [← hW2]; exact hB1.alloc (by omega) _
  have hC : Cells12 W2 w.heap.size 0 (.mk k n e f ab ac la bb bc lb) := by
    have h := Cells12.new w (.mk k n e f ab ac la bb bc lb) 111
    dsimp only [SX.kind, SX.name, SX.e, SX.f, SX.abase, SX.acap, SX.la, SX.bbase, SX.bcap, SX.lb] at h
    rw [hW1] at h
    rw [← hW2]
    exact h.below (n := W1.heap.size) ((Below.refl _ _).alloc (Nat.le_refl _) _) (by omega)
  have hD : Cells12 W2 W1.heap.size 0 (.mk k' n' e' f' ab' ac' la' bb' bc' lb') := by
    have h := Cells12.new W1 (.mk k' n' e' f' ab' ac' la' bb' bc' lb') 111
    dsimp only [SX.kind, SX.name, SX.e, SX.f, SX.abase, SX.acap, SX.la, SX.bbase, SX.bcap, SX.lb] at h
    rw [hW2] at h
    exact h
  have hX := Below.refl W2.heap.size W2
  obtain ⟨c0, c1, c2, c3, c4, c5, c6, c7, c8, c9, c10, c11⟩ := raw12 (hC.below hX (by omega))
  obtain ⟨d0, d1, d2, d3, d4, d5, d6, d7, d8, d9, d10, d11⟩ := raw12 (hD.below hX (by omega))
  by_cases hk : k = k'
  · subst hk
    cases hn : (n.toList == n'.toList)
    · go_enter Try.func119, Try.ntmps119
      go_wp2_with fail
      go_returns
      exact ⟨ret_bool (by simp), hB2⟩
    · go_enter Try.func119, Try.ntmps119
      go_wp2_with fail
      go_at_call 131
      refine (HE.out _ (hB2.trans (hX.mono (by omega)))).mono ?_
      rintro z x0 ⟨rfl, hb⟩
      replace hX := bstep hX hb
      clear hb c0 c1 c2 c3 c4 c5 c6 c7 c8 c9 c10 c11 d0 d1 d2 d3 d4 d5 d6 d7 d8 d9 d10 d11
      obtain ⟨c0, c1, c2, c3, c4, c5, c6, c7, c8, c9, c10, c11⟩ := raw12 (hC.below hX (by omega))
      obtain ⟨d0, d1, d2, d3, d4, d5, d6, d7, d8, d9, d10, d11⟩ := raw12 (hD.below hX (by omega))
      cases q1
      · go_wp2
        go_returns
        exact ⟨ret_bool (by simp), hB2.trans (hX.mono (by omega))⟩
      · skip
        go_wp2_with fail
        go_at_call 131
        refine (HF.out _ (hB2.trans (hX.mono (by omega)))).mono ?_
        rintro z x1 ⟨rfl, hb⟩
        replace hX := bstep hX hb
        clear hb c0 c1 c2 c3 c4 c5 c6 c7 c8 c9 c10 c11 d0 d1 d2 d3 d4 d5 d6 d7 d8 d9 d10 d11
        obtain ⟨c0, c1, c2, c3, c4, c5, c6, c7, c8, c9, c10, c11⟩ := raw12 (hC.below hX (by omega))
        obtain ⟨d0, d1, d2, d3, d4, d5, d6, d7, d8, d9, d10, d11⟩ := raw12 (hD.below hX (by omega))
        cases q2
        · go_wp2
          go_returns
          exact ⟨ret_bool (by simp), hB2.trans (hX.mono (by omega))⟩
        · skip
          go_wp2_with fail
          go_at_call 85
          refine (HA.out _ (hB2.trans (hX.mono (by omega)))).mono ?_
          rintro z x2 ⟨rfl, hb⟩
          replace hX := bstep hX hb
          clear hb c0 c1 c2 c3 c4 c5 c6 c7 c8 c9 c10 c11 d0 d1 d2 d3 d4 d5 d6 d7 d8 d9 d10 d11
          obtain ⟨c0, c1, c2, c3, c4, c5, c6, c7, c8, c9, c10, c11⟩ := raw12 (hC.below hX (by omega))
          obtain ⟨d0, d1, d2, d3, d4, d5, d6, d7, d8, d9, d10, d11⟩ := raw12 (hD.below hX (by omega))
          cases q3
          · go_wp2
            go_returns
            exact ⟨ret_bool (by simp), hB2.trans (hX.mono (by omega))⟩
          · skip
            go_wp2_with fail
            go_at_call 85
            refine (HB.out _ (hB2.trans (hX.mono (by omega)))).mono ?_
            rintro z x3 ⟨rfl, hb⟩
            replace hX := bstep hX hb
            clear hb c0 c1 c2 c3 c4 c5 c6 c7 c8 c9 c10 c11 d0 d1 d2 d3 d4 d5 d6 d7 d8 d9 d10 d11
            obtain ⟨c0, c1, c2, c3, c4, c5, c6, c7, c8, c9, c10, c11⟩ := raw12 (hC.below hX (by omega))
            obtain ⟨d0, d1, d2, d3, d4, d5, d6, d7, d8, d9, d10, d11⟩ := raw12 (hD.below hX (by omega))
            go_wp2
            go_returns
            exact ⟨ret_bool (by simp), hB2.trans (hX.mono (by omega))⟩
  · go_enter Try.func119, Try.ntmps119
    go_wp2_with fail
    go_returns
    exact ⟨ret_bool (by simp [hk]), hB2⟩
set_option maxRecDepth 10000 in
set_option maxHeartbeats 4000000 in
theorem eqfS (ks us : List SX) (a a' : Option Addr) (c c' : Nat) (ok : Nat → Prop) (w : World) (hok : ∀ b, ok b → b < w.heap.size)
    (hcl : SRow ok w a ks) (hcl' : SRow ok w a' us) (hlen : ks.length ≤ 1099511627776) (hlen' : us.length ≤ 1099511627776)
    (H : ∀ (i : Nat) (x y : SX), ks[i]? = some x → us[i]? = some y → ∀ (w' : World), Below w.heap.size w w' →
      Calls Try.prog 119 #[x.val, y.val] w' fun e w'' => e = .returned (.bool (x.sameB y)) ∧ Below w'.heap.size w' w'') :
    Calls Try.prog 118 #[.slice a ks.length c, .slice a' us.length c', .func (.func 119) #[] #[]] w fun e w' => e = .returned (.bool (allZ SX.sameB ks us)) ∧ Below w.heap.size w w' := by
  obtain ⟨len, hl⟩ : ∃ len, ks.length = len := ⟨_, rfl⟩
  obtain ⟨len', hl'⟩ : ∃ len', us.length = len' := ⟨_, rfl⟩
  rw [hl] at hlen ⊢
  rw [hl'] at hlen' ⊢
  by_cases hne : len = len'
  · subst hne
    go_enter Try.func118, Try.ntmps118
    go_wp2
    go_loopw [17] (fun v17 wr => ∃ (i : Nat), v17 = .int .i64 i ∧ i ≤ len ∧ Hid (upToZ SX.sameB ks us i) ∧ Below w.heap.size w wr) (fun v17 _ => len - (intOf v17).toNat)
    case atStart => exact ⟨0, rfl, by omega, fun j x y h => by omega, Below.refl _ _⟩
    case round =>
      obtain ⟨i, rfl, hi, hall, hB⟩ := hrel
      by_cases hlt : i < len
      · obtain ⟨x, hx⟩ : ∃ x, ks[i]? = some x := ⟨_, List.getElem?_eq_getElem (by omega)⟩
        obtain ⟨y, hy⟩ : ∃ y, us[i]? = some y := ⟨_, List.getElem?_eq_getElem (by omega)⟩
        obtain ⟨b1, o1, hbase1, hok1, hc1⟩ := hcl i x hx
        obtain ⟨b2, o2, hbase2, hok2, hc2⟩ := hcl' i y hy
        obtain ⟨c0, c1, c2, c3, c4, c5, c6, c7, c8, c9, c10, c11⟩ := hc1.below hB (hok b1 hok1)
        have hd2 := (hc2.below hB (hok b2 hok2)).below (n := wr.heap.size) ((Below.refl _ wr).alloc (Nat.le_refl _) (.cells #[.int .i64 x.kind, .string x.name, .int .i64 x.e.kind, .int .i64 x.e.num, .string x.e.name, .slice x.e.base x.e.kids.length x.e.cap, .int .i64 x.f.kind, .int .i64 x.f.num, .string x.f.name, .slice x.f.base x.f.kids.length x.f.cap, .slice x.abase x.la.length x.acap, .slice x.bbase x.lb.length x.bcap] 111)) (by have := hok b2 hok2; have := hB.size; omega)
        obtain ⟨d0, d1, d2, d3, d4, d5, d6, d7, d8, d9, d10, d11⟩ := hd2
        have H' : Hid (∀ (w' : World), Below w.heap.size w w' →
          Calls Try.prog 119 #[x.val, y.val] w' fun e w'' => e = .returned (.bool (x.sameB y)) ∧ Below w'.heap.size w' w'') := H i x y hx hy
        subst hbase1
        subst hbase2
        cases hv : x.sameB y
        · go_wp2_with (go_at_call 119; refine (H'.out _ (by repeat' (first | (with_reducible exact Below.refl _ _) | (with_reducible assumption) | (with_reducible refine balloc ?_ _) | (with_reducible refine bdrew ?_) | (with_reducible refine Below.setCell ?_ ?_ _) | (with_reducible refine bstep ?_ (by with_reducible assumption)) | go_size))).mono ?_; rintro e w5 ⟨rfl, hb⟩; rw [hv])
          go_returns
          exact ⟨ret_bool (allZ_bad hx hy hv).symm, by repeat' (first | (with_reducible exact Below.refl _ _) | (with_reducible assumption) | (with_reducible refine balloc ?_ _) | (with_reducible refine bdrew ?_) | (with_reducible refine Below.setCell ?_ ?_ _) | (with_reducible refine bstep ?_ (by with_reducible assumption)) | go_size)⟩
        · go_wp2_with (go_at_call 119; refine (H'.out _ (by repeat' (first | (with_reducible exact Below.refl _ _) | (with_reducible assumption) | (with_reducible refine balloc ?_ _) | (with_reducible refine bdrew ?_) | (with_reducible refine Below.setCell ?_ ?_ _) | (with_reducible refine bstep ?_ (by with_reducible assumption)) | go_size))).mono ?_; rintro e w5 ⟨rfl, hb⟩; rw [hv])
          refine ⟨⟨i + 1, by go_num, by omega, upToZ_next hall hx hy hv, by repeat' (first | (with_reducible exact Below.refl _ _) | (with_reducible assumption) | (with_reducible refine balloc ?_ _) | (with_reducible refine bdrew ?_) | (with_reducible refine Below.setCell ?_ ?_ _) | (with_reducible refine bstep ?_ (by with_reducible assumption)) | go_size)⟩, ?_⟩
          simp [intOf]
          omega
      · have he : i = len := by omega
        go_wp2
        go_returns
        exact ⟨ret_bool (upToZ_all hall.out (by omega) (by omega)).symm, hB⟩
  · go_enter Try.func118, Try.ntmps118
    go_wp2
    all_goals first | (exfalso; omega) | skip
    go_returns
    exact ⟨ret_bool (allZ_len _ ks us (by omega)).symm, Below.refl _ _⟩
set_option maxHeartbeats 2000000 in
theorem sameSS0 (a a' : Option Addr) (len len' c c' : Nat) (q : Bool) (w : World)
    (H : Calls Try.prog 118 #[.slice a len c, .slice a' len' c', .func (.func 119) #[] #[]] w fun e w' => e = .returned (.bool q) ∧ Below w.heap.size w w') :
    Calls Try.prog 85 #[.slice a len c, .slice a' len' c'] w fun e w' => e = .returned (.bool q) ∧ Below w.heap.size w w' := by
  go_enter Try.func85, Try.ntmps85
  go_wp2_with (go_at_call 118; refine H.mono ?_; rintro e w5 ⟨rfl, hb⟩)
  go_returns
  exact ⟨rfl, hb⟩
theorem sameS (sz : Nat) : ∀ (s u : SX), s.size ≤ sz → SmallS s → SmallS u → ∀ (ok : Nat → Prop) (w : World), (∀ b, ok b → b < w.heap.size) → LiesS ok w s → LiesS ok w u →
    Calls Try.prog 119 #[s.val, u.val] w fun e w' => e = .returned (.bool (s.sameB u)) ∧ Below w.heap.size w w' := by
  induction sz with
  | zero => intro s u h; rw [SX.size_eq] at h; omega
  | succ sz ih =>
  intro s u hsz hm hm' ok w hok hL hU
  rw [SX.sameB_eq]
  obtain ⟨m1, m2, m3, m4, m5, m6⟩ := hm.parts
  obtain ⟨p1, p2, p3, p4, p5, p6⟩ := hm'.parts
  have hse := s.size_eq
  obtain ⟨k, n, e, f, ab, ac, la, bb, bc, lb⟩ := s
  obtain ⟨k', n', e', f', ab', ac', la', bb', bc', lb'⟩ := u
  have g1 := m2.1
  have g2 := m3.1
  have g3 := p2.1
  have g4 := p3.1
  simp only [SX.e, SX.f, SX.la, SX.lb] at g1 g2 g3 g4 hse m4 p4
  have hup : ∀ x, Below w.heap.size w x → ∀ b, ok b → b < x.heap.size := fun x hx b hb => Nat.lt_of_lt_of_le (hok b hb) hx.size
  refine sameS0 k n e f ab ac la bb bc lb k' n' e' f' ab' ac' la' bb' bc' lb' (e.sameB e') (f.sameB f') (allZ SX.sameB la la') (allZ SX.sameB lb lb') w ?_ ?_ ?_ ?_
  · intro x hx
    exact sameE _ e e' (by omega) (Nat.le_refl _) (by omega) ok x (hup x hx) (hL.under hx hok).parts.1 (hU.under hx hok).parts.1
  · intro x hx
    exact sameE _ f f' (by omega) (Nat.le_refl _) (by omega) ok x (hup x hx) (hL.under hx hok).parts.2.1 (hU.under hx hok).parts.2.1
  · intro x hx
    have l1 := (hL.under hx hok).parts
    have l2 := (hU.under hx hok).parts
    exact sameSS0 _ _ _ _ _ _ _ _ (eqfS la la' ab ab' ac ac' ok x (hup x hx) l1.2.2.1 l2.2.2.1 (by omega) (by omega) (fun i y z hy hz w' hw' =>
      ih y z (by have := SX.size_get hy; omega) (m5 i y hy) (p5 i z hz) ok w' (fun b hb => Nat.lt_of_lt_of_le (hup x hx b hb) hw'.size) ((l1.2.2.2.2.1 i y hy).under hw' (hup x hx)) ((l2.2.2.2.2.1 i z hz).under hw' (hup x hx))))
  · intro x hx
    have l1 := (hL.under hx hok).parts
    have l2 := (hU.under hx hok).parts
    exact sameSS0 _ _ _ _ _ _ _ _ (eqfS lb lb' bb bb' bc bc' ok x (hup x hx) l1.2.2.2.1 l2.2.2.2.1 (by omega) (by omega) (fun i y z hy hz w' hw' =>
      ih y z (by have := SX.size_get hy; omega) (m6 i y hy) (p6 i z hz) ok w' (fun b hb => Nat.lt_of_lt_of_le (hup x hx b hb) hw'.size) ((l1.2.2.2.2.2 i y hy).under hw' (hup x hx)) ((l2.2.2.2.2.2 i z hz).under hw' (hup x hx))))
theorem sameSS (ks us : List SX) (hs : ∀ (i : Nat) (k : SX), ks[i]? = some k → SmallS k) (hs' : ∀ (i : Nat) (k : SX), us[i]? = some k → SmallS k) (hlen : ks.length ≤ 1099511627776) (hlen' : us.length ≤ 1099511627776) (a a' : Option Addr) (c c' : Nat) (ok : Nat → Prop) (w : World) (hok : ∀ b, ok b → b < w.heap.size)
    (hcl : SRow ok w a ks) (hcl' : SRow ok w a' us) (hk : ∀ (i : Nat) (k : SX), ks[i]? = some k → LiesS ok w k) (hk' : ∀ (i : Nat) (k : SX), us[i]? = some k → LiesS ok w k) :
    Calls Try.prog 85 #[.slice a ks.length c, .slice a' us.length c'] w fun e w' => e = .returned (.bool (allZ SX.sameB ks us)) ∧ Below w.heap.size w w' :=
  sameSS0 _ _ _ _ _ _ _ _ (eqfS ks us a a' c c' ok w hok hcl hcl' hlen hlen' (fun i y z hy hz w' hw' =>
    sameS _ y z (Nat.le_refl _) (hs i y hy) (hs' i z hz) ok w' (fun b hb => Nat.lt_of_lt_of_le (hok b hb) hw'.size) ((hk i y hy).under hw' hok) ((hk' i z hz).under hw' hok)))
end Go.Proofs.Ytiabnpbhhiacmaa
