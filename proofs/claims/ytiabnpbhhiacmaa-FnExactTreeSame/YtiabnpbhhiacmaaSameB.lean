/-
  The program's and the specification's comparison of two expressions say the same.
-/
import Derived.Test.YtiabnpbhhiacmaaSameA
namespace Go.Proofs.Ytiabnpbhhiacmaa
open Go.RowKit Go.Shelf
set_option linter.unusedSimpArgs false
set_option linter.unusedVariables false
attribute [local go_sem] Oper.semAt_some

theorem Cells4.raw {W : World} {b : Nat} {k n : Int} {s : ByteArray} {a : Option Addr} {c : Nat} {ks : List XT} (h : Cells4 W b 0 (.mk k n s a c ks)) : W.cell? ⟨b, 0, none⟩ = some (.int .i64 k) ∧ W.cell? ⟨b, 1, none⟩ = some (.int .i64 n) ∧ W.cell? ⟨b, 2, none⟩ = some (.string s) ∧ W.cell? ⟨b, 3, none⟩ = some (.slice a ks.length c) :=
  ⟨h.c0, h.c1, h.c2, h.c3⟩
set_option maxRecDepth 10000 in
set_option maxHeartbeats 2000000 in
theorem sameE0 (k n : Int) (s : ByteArray) (a : Option Addr) (len c : Nat) (k' n' : Int) (s' : ByteArray) (a' : Option Addr) (len' c' : Nat) (q : Bool) (w : World)
    (HQ : Hid (∀ x, Below w.heap.size w x → Calls Try.prog 135 #[.slice a len c, .slice a' len' c', .func (.func 131) #[] #[]] x fun e w' => e = .returned (.bool q) ∧ Below x.heap.size x w')) :
    Calls Try.prog 131 #[.agg #[.int .i64 k, .int .i64 n, .string s, .slice a len c], .agg #[.int .i64 k', .int .i64 n', .string s', .slice a' len' c']] w fun e w' => e = .returned (.bool (decide (k = k') && (decide (n = n') && ((s.toList == s'.toList) && q)))) ∧ Below w.heap.size w w' := by
  by_cases hk : k = k'
  · subst hk
    by_cases hn : n = n'
    · subst hn
      cases hs : (s.toList == s'.toList)
      · go_enter Try.func131, Try.ntmps131
        go_wp2_with fail
        go_returns
        exact ⟨ret_bool (by simp), by repeat' (first | (with_reducible exact Below.refl _ _) | (with_reducible assumption) | (with_reducible refine balloc ?_ _) | (with_reducible refine bdrew ?_) | (with_reducible refine Below.setCell ?_ ?_ _) | (with_reducible refine bstep ?_ (by with_reducible assumption)) | go_size)⟩
      · cases q
        all_goals
          go_enter Try.func131, Try.ntmps131
          go_wp2_with (go_at_call 135; refine (HQ.out _ (by repeat' (first | (with_reducible exact Below.refl _ _) | (with_reducible assumption) | (with_reducible refine balloc ?_ _) | (with_reducible refine bdrew ?_) | (with_reducible refine Below.setCell ?_ ?_ _) | (with_reducible refine bstep ?_ (by with_reducible assumption)) | go_size))).mono ?_; rintro e w5 ⟨rfl, hb⟩)
          go_returns
          exact ⟨ret_bool (by simp), by repeat' (first | (with_reducible exact Below.refl _ _) | (with_reducible assumption) | (with_reducible refine balloc ?_ _) | (with_reducible refine bdrew ?_) | (with_reducible refine Below.setCell ?_ ?_ _) | (with_reducible refine bstep ?_ (by with_reducible assumption)) | go_size)⟩
    · go_enter Try.func131, Try.ntmps131
      go_wp2_with fail
      go_returns
      exact ⟨ret_bool (by simp [hn]), by repeat' (first | (with_reducible exact Below.refl _ _) | (with_reducible assumption) | (with_reducible refine balloc ?_ _) | (with_reducible refine bdrew ?_) | (with_reducible refine Below.setCell ?_ ?_ _) | (with_reducible refine bstep ?_ (by with_reducible assumption)) | go_size)⟩
  · go_enter Try.func131, Try.ntmps131
    go_wp2_with fail
    go_returns
    exact ⟨ret_bool (by simp [hk]), by repeat' (first | (with_reducible exact Below.refl _ _) | (with_reducible assumption) | (with_reducible refine balloc ?_ _) | (with_reducible refine bdrew ?_) | (with_reducible refine Below.setCell ?_ ?_ _) | (with_reducible refine bstep ?_ (by with_reducible assumption)) | go_size)⟩
set_option maxHeartbeats 2000000 in
theorem sameE (sz : Nat) : ∀ (t u : XT), sz ≤ 1099511627776 → t.size ≤ sz → u.size ≤ 1099511627776 → ∀ (ok : Nat → Prop) (w : World), (∀ b, ok b → b < w.heap.size) → Lies ok w t → Lies ok w u →
    Calls Try.prog 131 #[t.val, u.val] w fun e w' => e = .returned (.bool (t.sameB u)) ∧ Below w.heap.size w w' := by
  induction sz with
  | zero => intro t u _ h; rw [XT.size_eq] at h; omega
  | succ sz ih =>
  intro t u hlim hsz hu ok w hok hL hU
  rw [XT.sameB_eq]
  have hlt := t.length_le
  have hlu := u.length_le
  refine sameE0 t.kind t.num t.name t.base t.kids.length t.cap u.kind u.num u.name u.base u.kids.length u.cap (allZ XT.sameB t.kids u.kids) w ?_
  intro x hx
  have hokx : ∀ b, ok b → b < x.heap.size := fun b hb => Nat.lt_of_lt_of_le (hok b hb) hx.size
  have hL1 := hL.under hx hok
  have hU1 := hU.under hx hok
  refine eqfE t.kids u.kids t.base u.base t.cap u.cap ok x hokx hL1.cells hU1.cells (by omega) (by omega) (fun i p q hp hq w' hw' => ?_)
  exact ih p q (by omega) (by have h5 := XT.size_get hp; have h6 := t.size_eq; omega) (by have h5 := XT.size_get hq; have h6 := u.size_eq; omega) ok w' (fun b hb => Nat.lt_of_lt_of_le (hokx b hb) hw'.size) ((hL1.kid i p hp).under hw' hokx) ((hU1.kid i q hq).under hw' hokx)
set_option maxRecDepth 10000 in
set_option maxHeartbeats 4000000 in
theorem specSameE0 (k n : Int) (s : ByteArray) (a : Option Addr) (len c : Nat) (ks : List XT) (hl : ks.length = len) (k' n' : Int) (s' : ByteArray) (a' : Option Addr) (len' c' : Nat) (us : List XT) (hl' : us.length = len') (hm : len ≤ 1099511627776) (hm' : len' ≤ 1099511627776)
    (ok : Nat → Prop) (w : World) (hok : ∀ b, ok b → b < w.heap.size) (hLc : Hid (ERow ok w a ks)) (hUc : Hid (ERow ok w a' us))
    (HH : Hid (∀ (i : Nat) (p q : XT), ks[i]? = some p → us[i]? = some q → ∀ x, Below w.heap.size w x → Calls Try.prog 117 #[p.val, q.val] x fun e w' => e = .returned (.bool (p.sameB q)) ∧ Below x.heap.size x w')) :
    Calls Try.prog 117 #[.agg #[.int .i64 k, .int .i64 n, .string s, .slice a len c], .agg #[.int .i64 k', .int .i64 n', .string s', .slice a' len' c']] w fun e w' => e = .returned (.bool (decide (k = k') && (decide (n = n') && ((s.toList == s'.toList) && allZ XT.sameB ks us)))) ∧ Below w.heap.size w w' := by
  by_cases hk : k = k'
  · subst hk
    by_cases hn : n = n'
    · subst hn
      cases hs : (s.toList == s'.toList)
      · go_enter Try.func117, Try.ntmps117
        go_wp2_with fail
        go_returns
        exact ⟨ret_bool (by simp), by repeat' (first | (with_reducible exact Below.refl _ _) | (with_reducible assumption) | (with_reducible refine balloc ?_ _) | (with_reducible refine bdrew ?_) | (with_reducible refine Below.setCell ?_ ?_ _) | (with_reducible refine bstep ?_ (by with_reducible assumption)) | go_size)⟩
      · by_cases hlen : len = len'
        · subst hlen
          obtain ⟨W1, hW1⟩ : ∃ W1, w.alloc (.cells #[.int .i64 k, .int .i64 n, .string s, .slice a len c] 25) = W1 := ⟨_, rfl⟩
          obtain ⟨W2, hW2⟩ : ∃ W2, W1.alloc (.cells #[.int .i64 k, .int .i64 n, .string s', .slice a' len c'] 25) = W2 := ⟨_, rfl⟩
          have hs1 : w.heap.size + 1 = W1.heap.size := by rw [← hW1]; simp
          have hs2 : W1.heap.size + 1 = W2.heap.size := by rw [← hW2]; simp
          have hB1 : Below w.heap.size w W1 := by rw [← hW1]; exact (Below.refl _ w).alloc (Nat.le_refl _) _
          have hB2 : Below w.heap.size w W2 := by rw [← hW2]; exact hB1.alloc (by omega) _
          have hC : Cells4 W2 w.heap.size 0 (.mk k n s a c ks) := by
            have h := Cells4.new w (.mk k n s a c ks)
            dsimp only [XT.kind, XT.num, XT.name, XT.base, XT.cap, XT.kids] at h
            rw [hl, hW1] at h
            rw [← hW2]
            exact h.below (n := W1.heap.size) ((Below.refl _ _).alloc (Nat.le_refl _) _) (by omega)
          have hD : Cells4 W2 W1.heap.size 0 (.mk k n s' a' c' us) := by
            have h := Cells4.new W1 (.mk k n s' a' c' us)
            dsimp only [XT.kind, XT.num, XT.name, XT.base, XT.cap, XT.kids] at h
            rw [hl', hW2] at h
            exact h
          obtain ⟨c0, c1, c2, c3⟩ := hC.raw
          obtain ⟨d0, d1, d2, d3⟩ := hD.raw
          rw [hl] at c3
          rw [hl'] at d3
          go_enter Try.func117, Try.ntmps117
          go_wp2_with fail
          go_loopw [5] (fun v5 wr => ∃ (i : Nat), v5 = .int .i64 i ∧ i ≤ len ∧ Hid (upToZ XT.sameB ks us i) ∧ Below W2.heap.size W2 wr) (fun v5 _ => len - (intOf v5).toNat)
          case atStart => exact ⟨0, rfl, by omega, fun j x y h => by omega, Below.refl _ _⟩
          case round =>
            obtain ⟨i, rfl, hi, hall, hB⟩ := hrel
            have e3 := (hC.below hB (by omega)).raw.2.2.2
            have g3 := (hD.below hB (by omega)).raw.2.2.2
            rw [hl] at e3
            rw [hl'] at g3
            clear c0 c1 c2 c3 d0 d1 d2 d3
            by_cases hlt : i < len
            · obtain ⟨x, hx⟩ : ∃ x, ks[i]? = some x := ⟨_, List.getElem?_eq_getElem (by omega)⟩
              obtain ⟨y, hy⟩ : ∃ y, us[i]? = some y := ⟨_, List.getElem?_eq_getElem (by omega)⟩
              obtain ⟨b1, o1, hbase1, hok1, hc1⟩ := hLc.out i x hx
              obtain ⟨b2, o2, hbase2, hok2', hc2⟩ := hUc.out i y hy
              have hBw : Below w.heap.size w wr := hB2.trans (hB.mono (by omega))
              have hd1 := hc1.below hBw (hok b1 hok1)
              have hd2 := hc2.below hBw (hok b2 hok2')
              have H' : Hid (∀ x', Below w.heap.size w x' → Calls Try.prog 117 #[x.val, y.val] x' fun e w' => e = .returned (.bool (x.sameB y)) ∧ Below x'.heap.size x' w') := HH.out i x y hx hy
              subst hbase1
              subst hbase2
              haveI : Nonempty (Later wr) := ⟨⟨wr, Below.refl _ _⟩⟩
              have e0 := Later.cell hd1.c0
              have e1 := Later.cell hd1.c1
              have e2 := Later.cell hd1.c2
              have e4 := Later.cell hd1.c3
              have g0 := Later.cell hd2.c0
              have g1 := Later.cell hd2.c1
              have g2 := Later.cell hd2.c2
              have g4 := Later.cell hd2.c3
              have e3' := Later.cell e3
              have g3' := Later.cell g3
              cases hv : x.sameB y
              · go_wp2_with fail
                refine region_class (fun w' => ∃ z : Later wr, w' = z.at) (by kernel_rfl) (by kernel_rfl) ⟨⟨_, (Below.refl _ _).drew⟩, rfl⟩ ?_
                repeat (go_big_quiet_step ((go_at_call 117; refine (H'.out _ (hBw.trans ((Later.below _).mono hBw.size))).mono ?_; rintro e w2 ⟨rfl, hb⟩; rw [hv]; exact ⟨rfl, ⟨_, bstep (Later.below _) hb⟩, rfl⟩)))
                refine wpQuiet_nil ?_
                rintro w' ⟨z, rfl⟩
                go_wp2
                go_returns
                refine ⟨ret_bool ?_, hBw.trans ((Later.below z).mono hBw.size)⟩
                rw [allZ_bad hx hy hv]
                simp
              · go_wp2_with fail
                refine region_class (fun w' => ∃ z : Later wr, w' = z.at) (by kernel_rfl) (by kernel_rfl) ⟨⟨_, (Below.refl _ _).drew⟩, rfl⟩ ?_
                repeat (go_big_quiet_step ((go_at_call 117; refine (H'.out _ (hBw.trans ((Later.below _).mono hBw.size))).mono ?_; rintro e w2 ⟨rfl, hb⟩; rw [hv]; exact ⟨rfl, ⟨_, bstep (Later.below _) hb⟩, rfl⟩)))
                refine wpQuiet_nil ?_
                rintro w' ⟨z, rfl⟩
                go_wp2
                go_roundw
                case rel => exact ⟨i + 1, by go_num, by omega, upToZ_next hall.out hx hy hv, hB.trans ((Later.below z).mono hB.size)⟩
                case measure => simp [intOf]; omega
            · go_wp2
              go_returns
              refine ⟨ret_bool ?_, hB2.trans (hB.mono (by omega))⟩
              rw [upToZ_all hall.out (by omega) (by omega)]
              simp
        · go_enter Try.func117, Try.ntmps117
          go_wp2_with fail
          all_goals first | (exfalso; omega) | skip
          go_returns
          exact ⟨ret_bool (by rw [allZ_len _ ks us (by omega)]; simp), by repeat' (first | (with_reducible exact Below.refl _ _) | (with_reducible assumption) | (with_reducible refine balloc ?_ _) | (with_reducible refine bdrew ?_) | (with_reducible refine Below.setCell ?_ ?_ _) | (with_reducible refine bstep ?_ (by with_reducible assumption)) | go_size)⟩
    · go_enter Try.func117, Try.ntmps117
      go_wp2_with fail
      go_returns
      exact ⟨ret_bool (by simp [hn]), by repeat' (first | (with_reducible exact Below.refl _ _) | (with_reducible assumption) | (with_reducible refine balloc ?_ _) | (with_reducible refine bdrew ?_) | (with_reducible refine Below.setCell ?_ ?_ _) | (with_reducible refine bstep ?_ (by with_reducible assumption)) | go_size)⟩
  · go_enter Try.func117, Try.ntmps117
    go_wp2_with fail
    go_returns
    exact ⟨ret_bool (by simp [hk]), by repeat' (first | (with_reducible exact Below.refl _ _) | (with_reducible assumption) | (with_reducible refine balloc ?_ _) | (with_reducible refine bdrew ?_) | (with_reducible refine Below.setCell ?_ ?_ _) | (with_reducible refine bstep ?_ (by with_reducible assumption)) | go_size)⟩
set_option maxHeartbeats 2000000 in
theorem specSameE (sz : Nat) : ∀ (t u : XT), sz ≤ 1099511627776 → t.size ≤ sz → u.size ≤ 1099511627776 → ∀ (ok : Nat → Prop) (w : World), (∀ b, ok b → b < w.heap.size) → Lies ok w t → Lies ok w u →
    Calls Try.prog 117 #[t.val, u.val] w fun e w' => e = .returned (.bool (t.sameB u)) ∧ Below w.heap.size w w' := by
  induction sz with
  | zero => intro t u _ h; rw [XT.size_eq] at h; omega
  | succ sz ih =>
  intro t u hlim hsz hu ok w hok hL hU
  rw [XT.sameB_eq]
  have hlt := t.length_le
  have hlu := u.length_le
  refine specSameE0 t.kind t.num t.name t.base t.kids.length t.cap t.kids rfl u.kind u.num u.name u.base u.kids.length u.cap u.kids rfl (by omega) (by omega) ok w hok hL.cells hU.cells ?_
  exact fun i p q hp hq x hx =>
    ih p q (by omega) (by have h5 := XT.size_get hp; have h6 := t.size_eq; omega) (by have h5 := XT.size_get hq; have h6 := u.size_eq; omega) ok x (fun b hb => Nat.lt_of_lt_of_le (hok b hb) hx.size) ((hL.kid i p hp).under hx hok) ((hU.kid i q hq).under hx hok)
end Go.Proofs.Ytiabnpbhhiacmaa
