/-
  What the program and the specification answer of places of variables, channels and locks: one contract a function.
-/
import Derived.Test.YtaajdoipjalgmaaGreatDoorScopeB
import Derived.Maps.OwnSet
namespace Go.Proofs.YtaajdoipjalgmaaGreatDoor
open Go.RowKit Go.Shelf Go.Maps Go.WideMaps
set_option linter.unusedSimpArgs false
set_option linter.unusedVariables false
attribute [local go_sem] Oper.semAt_some

theorem VX.nameOf (x : VX) (w : World) : Calls Tryz.prog 172 #[x.val] w fun e w' => e = .returned (.string x.name) ∧ Below w.heap.size w w' := by
  go_enter Tryz.func172, Tryz.ntmps172
  go_wp2
  go_returns
  exact ⟨rfl, (Below.refl _ w).alloc (Nat.le_refl _) _⟩
set_option maxHeartbeats 2000000 in
theorem VX.namesOf (ks : List VX) (a : Option Addr) (c : Nat) (ok : Nat → Prop) (w : World) (hok : ∀ b, ok b → b < w.heap.size) (hcl : VX.Row ok w a ks) (hlen : ks.length ≤ 1048577) :
    Calls Tryz.prog 171 #[.slice a ks.length c, .func (.func 172) #[] #[]] w fun e w' => ∃ v, e = .returned v ∧ w'.ownsRow w.heap.size 9 1 v ks.length ((ks.map VX.name).map Value.string) ∧ Below w.heap.size w w' := by
  obtain ⟨len, hl⟩ : ∃ len, ks.length = len := ⟨_, rfl⟩
  rw [hl] at hlen ⊢
  obtain ⟨i0, hi0, hz0, hz1, hz2⟩ := info_parts infoW
  go_enter Tryz.func171, Tryz.ntmps171
  go_wp2_with fail
  go_loopw [5, 10] (fun v5 v10 wr => ∃ (i : Nat), v10 = .int .i64 i ∧ i ≤ len ∧ Hid (wr.ownsRow w.heap.size 9 1 v5 i (((ks.take i).map VX.name).map Value.string)) ∧ Below w.heap.size w wr) (fun _ v10 _ => len - (intOf v10).toNat)
  case atStart => exact ⟨0, rfl, by omega, World.ownsRow_nil _ _ _ _, Below.refl _ _⟩
  case round =>
    obtain ⟨i, rfl, hi, hA, hB⟩ := hrel
    obtain ⟨v, rfl⟩ : ∃ v, v = u5 := ⟨_, rfl⟩
    by_cases hlt : i < len
    · obtain ⟨x, hx⟩ : ∃ x, ks[i]? = some x := ⟨_, List.getElem?_eq_getElem (by omega)⟩
      obtain ⟨b1, o1, hbase1, hok1, hc1⟩ := hcl i x hx
      obtain ⟨c0, c1, c2, c3, c4q, c5, c6⟩ := hc1.below hB (hok b1 hok1)
      obtain ⟨W1, hW1⟩ : ∃ W1, wr.alloc (.cells #[.string x.name, .int .i64 x.size, .int .i64 x.init, .int .i64 x.lo, .int .i64 x.hi, .string x.lock, .int .i64 x.task] 58) = W1 := ⟨_, rfl⟩
      have hB1 : Below wr.heap.size wr W1 := by rw [← hW1]; exact (Below.refl _ _).alloc (Nat.le_refl _) _
      have hd : ∀ j, j < 7 → W1.cell? ⟨wr.heap.size, j, none⟩ = some ([.string x.name, .int .i64 x.size, .int .i64 x.init, .int .i64 x.lo, .int .i64 x.hi, .string x.lock, .int .i64 x.task].getD j (.bool false)) := by
        intro j hj
        rw [← hW1, World.cell?_alloc_new]
        have : j = 0 ∨ j = 1 ∨ j = 2 ∨ j = 3 ∨ j = 4 ∨ j = 5 ∨ j = 6 := by omega
        rcases this with rfl | rfl | rfl | rfl | rfl | rfl | rfl <;> rfl
      have d0 := hd 0 (by omega); have d1 := hd 1 (by omega); have d2 := hd 2 (by omega); have d3 := hd 3 (by omega); have d4 := hd 4 (by omega); have d5 := hd 5 (by omega); have d6 := hd 6 (by omega)
      clear hd
      subst hbase1
      go_wp2_with fail
      go_at_call 172
      refine (VX.nameOf x _).mono ?_
      rintro e w2 ⟨rfl, hB2⟩
      clear c0 c1 c2 c3 c4q c5 c6 d0 d1 d2 d3 d4 d5 d6
      have hzw := hB.size
      have hz1' := hB1.size
      have hz2' := hB2.size
      obtain ⟨W3, hW3⟩ : ∃ W3, w2.alloc (.cells #[.string x.name] 9) = W3 := ⟨_, rfl⟩
      have hB3 : Below w2.heap.size w2 W3 := by rw [← hW3]; exact (Below.refl _ _).alloc (Nat.le_refl _) _
      have hs3 : w2.heap.size + 1 = W3.heap.size := by rw [← hW3]; simp
      have hnewH : Hid (∀ j u, [Value.string x.name][j]? = some u → W3.cell? ((⟨w2.heap.size, 0, none⟩ : Addr).add j) = some u) := by rw [← hW3]; exact news1 w2 x.name _
      have hB13 : Below wr.heap.size wr W3 := bstep (bstep hB1 hB2) hB3
      have hown3 : Hid (W3.ownsRow w.heap.size 9 1 v i (((ks.take i).map VX.name).map Value.string)) := own_on hA.out (fun g hg => hB13.block g (hA.out.lt g hg).2)
      go_wp2_with (at_builtin; refine wpList_append_back _ rfl _ _ 24 rfl w.heap.size 9 i0 _ 1 16 Tryz.underlying24 hi0 hz0 hz1 hz2 rfl (by decide) v i (((ks.take i).map VX.name).map Value.string) rfl hown3.out ⟨w2.heap.size, 0, none⟩ 1 1 [Value.string x.name] rfl rfl hnewH.out (by simp [Value.oneCell']) (by unfold maxLen; omega) (by omega) (by omega) (by omega) ?_; intro v' w4 hown' hback)
      have hB4 : Below w.heap.size w w4 := by
        have h0 : Below w.heap.size w W3 := bstep hB hB13
        refine h0.trans (hback.kept.below (by omega) (fun k hk => ?_))
        rcases hk with hk | hk
        · exact (hown3.out.lt k hk).1
        · exact (hown'.lt k hk).1
      have htk : ((ks.take (i + 1)).map VX.name).map Value.string = ((ks.take i).map VX.name).map Value.string ++ [Value.string x.name] := by rw [List.take_add_one, hx]; simp
      refine ⟨⟨i + 1, by go_num, by omega, by rw [htk]; exact hown', hB4⟩, by simp [intOf]; omega⟩
    · have he : i = len := by omega
      subst he
      go_wp2_with fail
      go_returns
      have h := hA.out
      rw [List.take_of_length_le (by omega)] at h
      exact ⟨v, rfl, h, hB⟩
set_option maxHeartbeats 2000000 in
theorem PX.varNames (p : PX) (ok : Nat → Prop) (w : World) (hok : ∀ b, ok b → b < w.heap.size) (hR : VX.Row ok w p.vbase p.vars) (hm : p.vars.length ≤ 1048577) :
    Calls Tryz.prog 136 #[p.val] w fun e w' => ∃ v, e = .returned v ∧ w'.ownsRow w.heap.size 9 1 v p.vars.length ((p.vars.map VX.name).map Value.string) ∧ Below w.heap.size w w' := by
  obtain ⟨W1, hW1⟩ : ∃ W1, w.alloc (.cells #[.slice p.vbase p.vars.length p.vcap, .slice p.cbase p.chans.length p.ccap, .slice p.nbase p.locks.length p.ncap, .slice p.tbase p.tasks.length p.tcap] 35) = W1 := ⟨_, rfl⟩
  have hs1 : w.heap.size + 1 = W1.heap.size := by rw [← hW1]; simp
  have hB1 : Below w.heap.size w W1 := by rw [← hW1]; exact (Below.refl _ w).alloc (Nat.le_refl _) _
  obtain ⟨c0, c1, c2, c3⟩ : PX.At W1 w.heap.size p := by rw [← hW1]; exact PX.At.new w p _
  have hcall := VX.namesOf p.vars p.vbase p.vcap ok W1 (fun b hb => by have := hok b hb; omega) (hR.under hB1 hok) hm
  go_enter Tryz.func136, Tryz.ntmps136
  go_wp2_with fail
  go_at_call 171
  refine hcall.mono ?_
  rintro e w2 ⟨v, rfl, hown, hB2⟩
  go_wp2_with fail
  go_returns
  exact ⟨v, rfl, ⟨hown.1, hown.2.imp id (fun ⟨g, cap, cur, h1, h2, h⟩ => ⟨g, cap, cur, h1, by omega, h⟩)⟩, hB1.trans (hB2.mono (by omega))⟩
theorem CX.nameOf (x : CX) (w : World) : Calls Tryz.prog 174 #[x.val] w fun e w' => e = .returned (.string x.name) ∧ Below w.heap.size w w' := by
  go_enter Tryz.func174, Tryz.ntmps174
  go_wp2
  go_returns
  exact ⟨rfl, (Below.refl _ w).alloc (Nat.le_refl _) _⟩
set_option maxHeartbeats 2000000 in
theorem CX.namesOf (ks : List CX) (a : Option Addr) (c : Nat) (ok : Nat → Prop) (w : World) (hok : ∀ b, ok b → b < w.heap.size) (hcl : CX.Row ok w a ks) (hlen : ks.length ≤ 1048577) :
    Calls Tryz.prog 173 #[.slice a ks.length c, .func (.func 174) #[] #[]] w fun e w' => ∃ v, e = .returned v ∧ w'.ownsRow w.heap.size 9 1 v ks.length ((ks.map CX.name).map Value.string) ∧ Below w.heap.size w w' := by
  obtain ⟨len, hl⟩ : ∃ len, ks.length = len := ⟨_, rfl⟩
  rw [hl] at hlen ⊢
  obtain ⟨i0, hi0, hz0, hz1, hz2⟩ := info_parts infoW
  go_enter Tryz.func173, Tryz.ntmps173
  go_wp2_with fail
  go_loopw [5, 10] (fun v5 v10 wr => ∃ (i : Nat), v10 = .int .i64 i ∧ i ≤ len ∧ Hid (wr.ownsRow w.heap.size 9 1 v5 i (((ks.take i).map CX.name).map Value.string)) ∧ Below w.heap.size w wr) (fun _ v10 _ => len - (intOf v10).toNat)
  case atStart => exact ⟨0, rfl, by omega, World.ownsRow_nil _ _ _ _, Below.refl _ _⟩
  case round =>
    obtain ⟨i, rfl, hi, hA, hB⟩ := hrel
    obtain ⟨v, rfl⟩ : ∃ v, v = u5 := ⟨_, rfl⟩
    by_cases hlt : i < len
    · obtain ⟨x, hx⟩ : ∃ x, ks[i]? = some x := ⟨_, List.getElem?_eq_getElem (by omega)⟩
      obtain ⟨b1, o1, hbase1, hok1, hc1⟩ := hcl i x hx
      obtain ⟨c0, c1, c2, c3⟩ := hc1.below hB (hok b1 hok1)
      obtain ⟨W1, hW1⟩ : ∃ W1, wr.alloc (.cells #[.string x.name, .int .i64 x.cap, .int .i64 x.lo, .int .i64 x.hi] 101) = W1 := ⟨_, rfl⟩
      have hB1 : Below wr.heap.size wr W1 := by rw [← hW1]; exact (Below.refl _ _).alloc (Nat.le_refl _) _
      have hd : ∀ j, j < 4 → W1.cell? ⟨wr.heap.size, j, none⟩ = some ([.string x.name, .int .i64 x.cap, .int .i64 x.lo, .int .i64 x.hi].getD j (.bool false)) := by
        intro j hj
        rw [← hW1, World.cell?_alloc_new]
        have : j = 0 ∨ j = 1 ∨ j = 2 ∨ j = 3 := by omega
        rcases this with rfl | rfl | rfl | rfl <;> rfl
      have d0 := hd 0 (by omega); have d1 := hd 1 (by omega); have d2 := hd 2 (by omega); have d3 := hd 3 (by omega)
      clear hd
      subst hbase1
      go_wp2_with fail
      go_at_call 174
      refine (CX.nameOf x _).mono ?_
      rintro e w2 ⟨rfl, hB2⟩
      clear c0 c1 c2 c3 d0 d1 d2 d3
      have hzw := hB.size
      have hz1' := hB1.size
      have hz2' := hB2.size
      obtain ⟨W3, hW3⟩ : ∃ W3, w2.alloc (.cells #[.string x.name] 9) = W3 := ⟨_, rfl⟩
      have hB3 : Below w2.heap.size w2 W3 := by rw [← hW3]; exact (Below.refl _ _).alloc (Nat.le_refl _) _
      have hs3 : w2.heap.size + 1 = W3.heap.size := by rw [← hW3]; simp
      have hnewH : Hid (∀ j u, [Value.string x.name][j]? = some u → W3.cell? ((⟨w2.heap.size, 0, none⟩ : Addr).add j) = some u) := by rw [← hW3]; exact news1 w2 x.name _
      have hB13 : Below wr.heap.size wr W3 := bstep (bstep hB1 hB2) hB3
      have hown3 : Hid (W3.ownsRow w.heap.size 9 1 v i (((ks.take i).map CX.name).map Value.string)) := own_on hA.out (fun g hg => hB13.block g (hA.out.lt g hg).2)
      go_wp2_with (at_builtin; refine wpList_append_back _ rfl _ _ 24 rfl w.heap.size 9 i0 _ 1 16 Tryz.underlying24 hi0 hz0 hz1 hz2 rfl (by decide) v i (((ks.take i).map CX.name).map Value.string) rfl hown3.out ⟨w2.heap.size, 0, none⟩ 1 1 [Value.string x.name] rfl rfl hnewH.out (by simp [Value.oneCell']) (by unfold maxLen; omega) (by omega) (by omega) (by omega) ?_; intro v' w4 hown' hback)
      have hB4 : Below w.heap.size w w4 := by
        have h0 : Below w.heap.size w W3 := bstep hB hB13
        refine h0.trans (hback.kept.below (by omega) (fun k hk => ?_))
        rcases hk with hk | hk
        · exact (hown3.out.lt k hk).1
        · exact (hown'.lt k hk).1
      have htk : ((ks.take (i + 1)).map CX.name).map Value.string = ((ks.take i).map CX.name).map Value.string ++ [Value.string x.name] := by rw [List.take_add_one, hx]; simp
      refine ⟨⟨i + 1, by go_num, by omega, by rw [htk]; exact hown', hB4⟩, by simp [intOf]; omega⟩
    · have he : i = len := by omega
      subst he
      go_wp2_with fail
      go_returns
      have h := hA.out
      rw [List.take_of_length_le (by omega)] at h
      exact ⟨v, rfl, h, hB⟩
set_option maxHeartbeats 2000000 in
theorem PX.chanNames (p : PX) (ok : Nat → Prop) (w : World) (hok : ∀ b, ok b → b < w.heap.size) (hR : CX.Row ok w p.cbase p.chans) (hm : p.chans.length ≤ 1048577) :
    Calls Tryz.prog 137 #[p.val] w fun e w' => ∃ v, e = .returned v ∧ w'.ownsRow w.heap.size 9 1 v p.chans.length ((p.chans.map CX.name).map Value.string) ∧ Below w.heap.size w w' := by
  obtain ⟨W1, hW1⟩ : ∃ W1, w.alloc (.cells #[.slice p.vbase p.vars.length p.vcap, .slice p.cbase p.chans.length p.ccap, .slice p.nbase p.locks.length p.ncap, .slice p.tbase p.tasks.length p.tcap] 35) = W1 := ⟨_, rfl⟩
  have hs1 : w.heap.size + 1 = W1.heap.size := by rw [← hW1]; simp
  have hB1 : Below w.heap.size w W1 := by rw [← hW1]; exact (Below.refl _ w).alloc (Nat.le_refl _) _
  obtain ⟨c0, c1, c2, c3⟩ : PX.At W1 w.heap.size p := by rw [← hW1]; exact PX.At.new w p _
  have hcall := CX.namesOf p.chans p.cbase p.ccap ok W1 (fun b hb => by have := hok b hb; omega) (hR.under hB1 hok) hm
  go_enter Tryz.func137, Tryz.ntmps137
  go_wp2_with fail
  go_at_call 173
  refine hcall.mono ?_
  rintro e w2 ⟨v, rfl, hown, hB2⟩
  go_wp2_with fail
  go_returns
  exact ⟨v, rfl, ⟨hown.1, hown.2.imp id (fun ⟨g, cap, cur, h1, h2, h⟩ => ⟨g, cap, cur, h1, by omega, h⟩)⟩, hB1.trans (hB2.mono (by omega))⟩
set_option maxHeartbeats 2000000 in
theorem PX.specVar (p : PX) (s : ByteArray) (ok : Nat → Prop) (w : World) (hok : ∀ b, ok b → b < w.heap.size) (hR : VX.Row ok w p.vbase p.vars) (hm : p.vars.length ≤ 1048577) :
    Calls Tryz.prog 159 #[p.val, .string s] w fun e w' => e = .returned (.int .i64 (firstOf (p.vars.map VX.name) s)) ∧ Below w.heap.size w w' := by
  obtain ⟨vb, vc, vars, cb, cc, chans, nb, nc, locks, tb, tc, tasks⟩ := p
  unfold PX.val
  dsimp only at hR hm ⊢
  obtain ⟨len, hl⟩ : ∃ len, vars.length = len := ⟨_, rfl⟩
  rw [hl] at hm ⊢
  obtain ⟨W1, hW1⟩ : ∃ W1, w.alloc (.cells #[.slice vb len vc, .slice cb chans.length cc, .slice nb locks.length nc, .slice tb tasks.length tc] 35) = W1 := ⟨_, rfl⟩
  have hs1 : w.heap.size + 1 = W1.heap.size := by rw [← hW1]; simp
  have hB1 : Below w.heap.size w W1 := by rw [← hW1]; exact (Below.refl _ w).alloc (Nat.le_refl _) _
  obtain ⟨k0, k1, k2, k3⟩ : PX.At W1 w.heap.size ⟨vb, vc, vars, cb, cc, chans, nb, nc, locks, tb, tc, tasks⟩ := by rw [← hW1, ← hl]; exact PX.At.new w ⟨vb, vc, vars, cb, cc, chans, nb, nc, locks, tb, tc, tasks⟩ _
  dsimp only at k0 k1 k2 k3
  rw [hl] at k0
  have hR1 := hR.under hB1 hok
  go_enter Tryz.func159, Tryz.ntmps159
  go_wp2_with fail
  go_loopw [5] (fun v5 wr => ∃ (i : Nat), v5 = .int .i64 i ∧ i ≤ len ∧ findOf ((vars.map VX.name).take i) s = none ∧ wr = W1) (fun v5 _ => len - (intOf v5).toNat)
  case atStart => exact ⟨0, rfl, by omega, by rw [List.take_zero]; rfl, rfl⟩
  case round =>
    obtain ⟨i, rfl, hi, hn, hwr⟩ := hrel
    subst wr
    by_cases hlt : i < len
    · obtain ⟨x, hx⟩ : ∃ x, vars[i]? = some x := ⟨_, List.getElem?_eq_getElem (by omega)⟩
      have hnx : (vars.map VX.name)[i]? = some x.name := by rw [List.getElem?_map, hx]; rfl
      obtain ⟨b1, o1, hbase1, hok1, hc1⟩ := hR1 i x hx
      obtain ⟨q0, q1, q2, q3, q4, q5, q6⟩ := hc1
      subst hbase1
      cases he : isIt s x.name
      · have he' : (x.name.toList == s.toList) = false := he
        go_wp2_with fail
        all_goals first | (exfalso; omega) | skip
        refine ⟨⟨i + 1, by go_num, by omega, find_step hnx hn he, by first | rfl | trivial⟩, by simp [intOf]; omega⟩
      · have he' : (x.name.toList == s.toList) = true := he
        go_wp2_with fail
        all_goals first | (exfalso; omega) | skip
        go_returns
        exact ⟨ret_int (first_hit hnx hn he).symm, hB1⟩
    · go_wp2_with fail
      all_goals first | (exfalso; omega) | skip
      go_returns
      exact ⟨ret_int (first_none (by rw [List.length_map]; omega) hn).symm, hB1⟩
set_option maxHeartbeats 2000000 in
theorem PX.specChan (p : PX) (s : ByteArray) (ok : Nat → Prop) (w : World) (hok : ∀ b, ok b → b < w.heap.size) (hR : CX.Row ok w p.cbase p.chans) (hm : p.chans.length ≤ 1048577) :
    Calls Tryz.prog 121 #[p.val, .string s] w fun e w' => e = .returned (.int .i64 (firstOf (p.chans.map CX.name) s)) ∧ Below w.heap.size w w' := by
  obtain ⟨vb, vc, vars, cb, cc, chans, nb, nc, locks, tb, tc, tasks⟩ := p
  unfold PX.val
  dsimp only at hR hm ⊢
  obtain ⟨len, hl⟩ : ∃ len, chans.length = len := ⟨_, rfl⟩
  rw [hl] at hm ⊢
  obtain ⟨W1, hW1⟩ : ∃ W1, w.alloc (.cells #[.slice vb vars.length vc, .slice cb len cc, .slice nb locks.length nc, .slice tb tasks.length tc] 35) = W1 := ⟨_, rfl⟩
  have hs1 : w.heap.size + 1 = W1.heap.size := by rw [← hW1]; simp
  have hB1 : Below w.heap.size w W1 := by rw [← hW1]; exact (Below.refl _ w).alloc (Nat.le_refl _) _
  obtain ⟨k0, k1, k2, k3⟩ : PX.At W1 w.heap.size ⟨vb, vc, vars, cb, cc, chans, nb, nc, locks, tb, tc, tasks⟩ := by rw [← hW1, ← hl]; exact PX.At.new w ⟨vb, vc, vars, cb, cc, chans, nb, nc, locks, tb, tc, tasks⟩ _
  dsimp only at k0 k1 k2 k3
  rw [hl] at k1
  have hR1 := hR.under hB1 hok
  go_enter Tryz.func121, Tryz.ntmps121
  go_wp2_with fail
  go_loopw [5] (fun v5 wr => ∃ (i : Nat), v5 = .int .i64 i ∧ i ≤ len ∧ findOf ((chans.map CX.name).take i) s = none ∧ wr = W1) (fun v5 _ => len - (intOf v5).toNat)
  case atStart => exact ⟨0, rfl, by omega, by rw [List.take_zero]; rfl, rfl⟩
  case round =>
    obtain ⟨i, rfl, hi, hn, hwr⟩ := hrel
    subst wr
    by_cases hlt : i < len
    · obtain ⟨x, hx⟩ : ∃ x, chans[i]? = some x := ⟨_, List.getElem?_eq_getElem (by omega)⟩
      have hnx : (chans.map CX.name)[i]? = some x.name := by rw [List.getElem?_map, hx]; rfl
      obtain ⟨b1, o1, hbase1, hok1, hc1⟩ := hR1 i x hx
      obtain ⟨q0, q1, q2, q3⟩ := hc1
      subst hbase1
      cases he : isIt s x.name
      · have he' : (x.name.toList == s.toList) = false := he
        go_wp2_with fail
        all_goals first | (exfalso; omega) | skip
        refine ⟨⟨i + 1, by go_num, by omega, find_step hnx hn he, by first | rfl | trivial⟩, by simp [intOf]; omega⟩
      · have he' : (x.name.toList == s.toList) = true := he
        go_wp2_with fail
        all_goals first | (exfalso; omega) | skip
        go_returns
        exact ⟨ret_int (first_hit hnx hn he).symm, hB1⟩
    · go_wp2_with fail
      all_goals first | (exfalso; omega) | skip
      go_returns
      exact ⟨ret_int (first_none (by rw [List.length_map]; omega) hn).symm, hB1⟩
set_option maxHeartbeats 2000000 in
theorem PX.specLock (p : PX) (s : ByteArray) (ok : Nat → Prop) (w : World) (hok : ∀ b, ok b → b < w.heap.size) (hR : NRow ok w p.nbase p.locks) (hm : p.locks.length ≤ 1048577) :
    Calls Tryz.prog 65 #[p.val, .string s] w fun e w' => e = .returned (.int .i64 (firstOf p.locks s)) ∧ Below w.heap.size w w' := by
  obtain ⟨vb, vc, vars, cb, cc, chans, nb, nc, locks, tb, tc, tasks⟩ := p
  unfold PX.val
  dsimp only at hR hm ⊢
  obtain ⟨len, hl⟩ : ∃ len, locks.length = len := ⟨_, rfl⟩
  rw [hl] at hm ⊢
  obtain ⟨W1, hW1⟩ : ∃ W1, w.alloc (.cells #[.slice vb vars.length vc, .slice cb chans.length cc, .slice nb len nc, .slice tb tasks.length tc] 35) = W1 := ⟨_, rfl⟩
  have hs1 : w.heap.size + 1 = W1.heap.size := by rw [← hW1]; simp
  have hB1 : Below w.heap.size w W1 := by rw [← hW1]; exact (Below.refl _ w).alloc (Nat.le_refl _) _
  obtain ⟨k0, k1, k2, k3⟩ : PX.At W1 w.heap.size ⟨vb, vc, vars, cb, cc, chans, nb, nc, locks, tb, tc, tasks⟩ := by rw [← hW1, ← hl]; exact PX.At.new w ⟨vb, vc, vars, cb, cc, chans, nb, nc, locks, tb, tc, tasks⟩ _
  dsimp only at k0 k1 k2 k3
  rw [hl] at k2
  have hR1 := hR.under hB1 hok
  go_enter Tryz.func65, Tryz.ntmps65
  go_wp2_with fail
  go_loopw [5] (fun v5 wr => ∃ (i : Nat), v5 = .int .i64 i ∧ i ≤ len ∧ findOf (locks.take i) s = none ∧ wr = W1) (fun v5 _ => len - (intOf v5).toNat)
  case atStart => exact ⟨0, rfl, by omega, by rw [List.take_zero]; rfl, rfl⟩
  case round =>
    obtain ⟨i, rfl, hi, hn, hwr⟩ := hrel
    subst wr
    by_cases hlt : i < len
    · obtain ⟨x, hx⟩ : ∃ x, locks[i]? = some x := ⟨_, List.getElem?_eq_getElem (by omega)⟩
      have hnx : locks[i]? = some x := by exact hx
      obtain ⟨b1, o1, hbase1, hok1, hc1⟩ := hR1 i x hx
      have q0 := hc1
      subst hbase1
      cases he : isIt s x
      · have he' : (x.toList == s.toList) = false := he
        go_wp2_with fail
        all_goals first | (exfalso; omega) | skip
        refine ⟨⟨i + 1, by go_num, by omega, find_step hnx hn he, by first | rfl | trivial⟩, by simp [intOf]; omega⟩
      · have he' : (x.toList == s.toList) = true := he
        go_wp2_with fail
        all_goals first | (exfalso; omega) | skip
        go_returns
        exact ⟨ret_int (first_hit hnx hn he).symm, hB1⟩
    · go_wp2_with fail
      all_goals first | (exfalso; omega) | skip
      go_returns
      exact ⟨ret_int (first_none (by omega) hn).symm, hB1⟩
end Go.Proofs.YtaajdoipjalgmaaGreatDoor
