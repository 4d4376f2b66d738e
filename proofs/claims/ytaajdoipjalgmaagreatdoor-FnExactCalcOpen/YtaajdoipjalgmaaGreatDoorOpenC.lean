/-
  What variables are at first, as the program and the specification list it: one contract each.
  What variables are at first, as the specification lists it.
-/
import Derived.Test.YtaajdoipjalgmaaGreatDoorOpenA
import Derived.Test.YtaajdoipjalgmaaGreatDoorUsesJ
import Derived.Test.YtaajdoipjalgmaaGreatDoorNameH
namespace Go.Proofs.YtaajdoipjalgmaaGreatDoor
open Go.RowKit Go.Shelf Go.Maps
set_option linter.unusedSimpArgs false
set_option linter.unusedVariables false
attribute [local go_sem] Oper.semAt_some

theorem vars_small {p : PX} (h : p.namesI = 0) : ∀ (i : Nat) (v : VX), p.vars[i]? = some v → 0 ≤ v.size ∧ v.size ≤ 6 := by
  intro i v hv
  have h1 : p.okI = true := by
    cases e : p.okI with
    | true => rfl
    | false => unfold PX.namesI at h; rw [if_pos e] at h; omega
  unfold PX.okI at h1
  simp only [Bool.and_eq_true, List.all_eq_true] at h1
  have h2 := h1.2.1 v (List.mem_of_getElem? hv)
  unfold VX.okB at h2
  simp only [Bool.and_eq_true, decide_eq_true_eq] at h2
  exact h2.2.1
theorem OwnG.wide {W : World} {lo hi lo' : Nat} {a : Option Addr} {us : List GX} (h : OwnG W lo hi a us) (h1 : lo' ≤ lo) : OwnG W lo' hi a us := by
  refine ⟨fun i k hk => ?_, fun i k hk hn => ?_, h.apart⟩
  · obtain ⟨g, p1, p2, p3⟩ := h.row i k hk
    exact ⟨g, p1, by omega, p3⟩
  · obtain ⟨p1, p2, p3⟩ := h.inner i k hk hn
    exact ⟨p1, by omega, p3⟩
def PX.openLs (p : PX) : List (List Int) := if p.namesI = 0 then p.vars.map VX.openL else []
theorem PX.open_yes {p : PX} (h : p.namesI = 0) : p.openLs = p.vars.map VX.openL := by unfold PX.openLs; rw [if_pos h]
theorem PX.open_no {p : PX} (h : ¬ p.namesI = 0) : p.openLs = [] := by unfold PX.openLs; rw [if_neg h]
set_option maxRecDepth 10000 in
set_option maxHeartbeats 2000000 in
theorem implOpen (p : PX) (hm : p.Small) (hN : p.Names) (hT : ∀ (i : Nat) (t : LX), p.tasks[i]? = some t → SX.sizeAll t.l ≤ 1048577) (ok : Nat → Prop) (w : World) (hok : ∀ b, ok b → b < w.heap.size) (hL : PX.Lies ok w p) (hg : ErrG w) :
    Calls Tryz.prog 9 #[p.val] w fun e w' => ∃ (a : Option Addr) (c : Nat) (us : List GX), e = .returned (.slice a us.length c) ∧ us.map GX.l = p.openLs ∧ OwnG w' w.heap.size w'.heap.size a us ∧ Below w.heap.size w w' := by
  obtain ⟨W1, hW1⟩ : ∃ W1, w.alloc (.cells #[.slice p.vbase p.vars.length p.vcap, .slice p.cbase p.chans.length p.ccap, .slice p.nbase p.locks.length p.ncap, .slice p.tbase p.tasks.length p.tcap] 35) = W1 := ⟨_, rfl⟩
  have hs1 : w.heap.size + 1 = W1.heap.size := by rw [← hW1]; simp
  have hB1 : Below w.heap.size w W1 := by rw [← hW1]; exact (Below.refl _ w).alloc (Nat.le_refl _) _
  have hA1 : PX.At W1 w.heap.size p := by rw [← hW1]; exact PX.At.new w p _
  have hok1 : ∀ b, ok b → b < W1.heap.size := fun b hb => by have := hok b hb; omega
  have hS := implScope p hm hN hT ok W1 hok1 (hL.under hB1 hok) (hg.of hB1)
  have hvl := hm.vl
  have hz : w.heap.size < W1.heap.size := by omega
  obtain ⟨a0, a1, a2, a3⟩ := hA1
  obtain ⟨cd, hcd⟩ : ∃ cd, p.namesI = cd := ⟨_, rfl⟩
  rw [hcd] at hS
  by_cases h0 : cd = 0
  · rw [PX.open_yes (by rw [hcd]; exact h0)]
    have hsm := vars_small (p := p) (by rw [hcd]; exact h0)
    have hQ : ∀ W2, Below W1.heap.size W1 W2 → Calls Tryz.prog 34 #[.slice p.vbase p.vars.length p.vcap, .func (.func 35) #[] #[]] W2 fun e w' => ∃ (v : Value) (us : List GX), e = .returned v ∧ us.map GX.l = p.vars.map VX.openL ∧ AccG w' W2.heap.size v us ∧ Below W2.heap.size W2 w' := fun W2 hB =>
      eachOpen p.vars p.vbase p.vcap ok W2 (fun b hb => Nat.lt_of_lt_of_le (hok1 b hb) hB.size) ((hL.v.under hB1 hok).under hB hok1) (by omega) (fun i k hk => by have := (hsm i k hk).2; omega)
    subst h0
    clear hL hN hT hcd hsm
    go_enter Tryz.func9, Tryz.ntmps9
    go_wp2_with fail
    go_at_call 33
    refine hS.mono ?_
    clear hS
    rintro e w3 ⟨rfl, hB3⟩
    have k0 := below_cell hB3 a0 hz
    have hz3 := hB3.size
    go_wp2_with fail
    go_at_call 34
    refine (hQ _ hB3).mono ?_
    rintro e w4 ⟨v, us, rfl, hul, hA, hB4⟩
    obtain ⟨a, c, rfl, hO⟩ := hA.done
    go_wp2
    go_returns
    exact ⟨a, c, us, rfl, hul, hO.wide (by omega), (hB1.trans (hB3.mono hB1.size)).trans (hB4.mono (by omega))⟩
  · rw [PX.open_no (by rw [hcd]; exact h0)]
    clear hL hN hT
    go_enter Tryz.func9, Tryz.ntmps9
    go_wp2_with fail
    go_at_call 33
    refine hS.mono ?_
    clear hS
    rintro e w3 ⟨rfl, hB3⟩
    go_wp2
    go_returns
    exact ⟨none, 0, [], rfl, rfl, ⟨fun i k hk => by simp at hk, fun i k hk => by simp at hk, fun i j x y hx => by simp at hx⟩, hB1.trans (hB3.mono hB1.size)⟩
end Go.Proofs.YtaajdoipjalgmaaGreatDoor
namespace Go.Proofs.YtaajdoipjalgmaaGreatDoor
open Go.RowKit Go.Shelf Go.Maps
set_option linter.unusedSimpArgs false
set_option linter.unusedVariables false
attribute [local go_sem] Oper.semAt_some

theorem mx_of (a : Int) (h0 : 0 ≤ a) (k : Nat) (hk : 1 ≤ k) (h1 : (k : Int) ≤ mxI a 1) (h2 : ¬ (k : Int) < a) : k = (mxI a 1).toNat := by unfold mxI at *; split at * <;> omega
theorem mx_lt (a : Int) (k : Nat) (h : (k : Int) < a) : ((k + 1 : Nat) : Int) ≤ mxI a 1 := by unfold mxI; split <;> omega
set_option maxRecDepth 10000 in
set_option maxHeartbeats 4000000 in
theorem specOpen (p : PX) (hm : p.Small) (hN : p.Names) (hT : ∀ (i : Nat) (t : LX), p.tasks[i]? = some t → SX.sizeAll t.l ≤ 1048577) (hF : ∀ (i : Nat) (t : LX), p.tasks[i]? = some t → ∀ us, SameL (SX.flatAll t.l) us → us.length ≤ 1048576 ∧ ∀ (i : Nat) (k : SX), us[i]? = some k → SmallS k ∧ k.tot ≤ 1048576)
    (ok : Nat → Prop) (w : World) (hok : ∀ b, ok b → b < w.heap.size) (hL : PX.Lies ok w p) :
    Calls Tryz.prog 7 #[p.val] w fun e w' => ∃ (a : Option Addr) (c : Nat) (us : List GX), e = .returned (.slice a us.length c) ∧ us.map GX.l = p.openLs ∧ OwnG w' w.heap.size w'.heap.size a us ∧ Below w.heap.size w w' := by
  obtain ⟨W1, hW1⟩ : ∃ W1, w.alloc (.cells #[.slice p.vbase p.vars.length p.vcap, .slice p.cbase p.chans.length p.ccap, .slice p.nbase p.locks.length p.ncap, .slice p.tbase p.tasks.length p.tcap] 35) = W1 := ⟨_, rfl⟩
  have hs1 : w.heap.size + 1 = W1.heap.size := by rw [← hW1]; simp
  have hB1 : Below w.heap.size w W1 := by rw [← hW1]; exact (Below.refl _ w).alloc (Nat.le_refl _) _
  have hA1 : PX.At W1 w.heap.size p := by rw [← hW1]; exact PX.At.new w p _
  have hok1 : ∀ b, ok b → b < W1.heap.size := fun b hb => by have := hok b hb; omega
  obtain ⟨cd, hcd⟩ : ∃ cd, p.namesI = cd := ⟨_, rfl⟩
  have hS : Hid (∀ W2, Below W1.heap.size W1 W2 → Calls Tryz.prog 28 #[p.val] W2 fun e w' => e = .returned (.int .i64 cd) ∧ Below W2.heap.size W2 w') := fun W2 hB => by
    rw [← hcd]
    exact specScope p hm hN hT hF ok W2 (fun b hb => Nat.lt_of_lt_of_le (hok1 b hb) hB.size) ((hL.under hB1 hok).under hB hok1)
  have hvl := hm.vl
  have hR1 := hL.v.under hB1 hok
  have hz : w.heap.size < W1.heap.size := by omega
  obtain ⟨a0, a1, a2, a3⟩ := hA1
  obtain ⟨i0, hi0, hz0, hz1, hz2⟩ := info_parts infoGS
  obtain ⟨j0, hj0, hy0, hy1, hy2⟩ := info_parts infoI
  obtain ⟨W2, hW2⟩ : ∃ W2, W1.alloc (.cells #[] 45) = W2 := ⟨_, rfl⟩
  have hB2 : Below W1.heap.size W1 W2 := by rw [← hW2]; exact (Below.refl _ _).alloc (Nat.le_refl _) _
  have hown2 : W2.ownsRow W1.heap.size 45 1 (.slice (some ⟨W1.heap.size, 0, none⟩) 0 0) 0 [] := by rw [← hW2]; exact World.ownsRow_lit W1 #[] 0 (Nat.le_refl _) (by unfold maxLen; omega) rfl
  have hAcc2 : AccG W2 W1.heap.size (.slice (some ⟨W1.heap.size, 0, none⟩) 0 0) [] := ⟨hown2, fun i k h => by simp at h, fun i j x y h => by simp at h⟩
  have hsmall := vars_small (p := p)
  rw [hcd] at hsmall
  have hopen := PX.open_yes (p := p)
  have hopen' := PX.open_no (p := p)
  rw [hcd] at hopen hopen'
  clear hL hN hT hF hm hcd
  obtain ⟨ls, hls⟩ : ∃ ls, p.openLs = ls := ⟨_, rfl⟩
  rw [hls] at hopen hopen' ⊢
  clear hls
  unfold PX.val at hS ⊢
  obtain ⟨vb, vc, vars, cb, cc, chans, nb, nc, locks, tb, tc, tasks⟩ := p
  dsimp only at hR1 hW1 a0 a1 a2 a3 hvl hsmall hopen hopen' hS ⊢
  obtain ⟨len, hl⟩ : ∃ len, vars.length = len := ⟨_, rfl⟩
  rw [hl] at a0 hW1 hvl hS ⊢
  by_cases h0 : cd = 0
  · have hsm := hsmall h0
    have hop := hopen h0
    clear hsmall hopen hopen'
    subst h0
    go_enter Tryz.func7, Tryz.ntmps7
    go_wp2_with fail
    go_loopw [3, 4] (fun v3 v4 wr => ∃ (i : Nat) (us : List GX), v4 = .int .i64 i ∧ i ≤ len ∧ Hid (us.map GX.l = (vars.take i).map VX.openL) ∧ Hid (AccG wr W1.heap.size v3 us) ∧ Below W1.heap.size W1 wr) (fun _ v4 _ => len - (intOf v4).toNat)
    case atStart => exact ⟨0, [], rfl, by omega, rfl, hAcc2, hB2⟩
    case round =>
      obtain ⟨i, us, rfl, hi, hul, hA, hB⟩ := hrel
      obtain ⟨v, rfl⟩ : ∃ v, v = u3 := ⟨_, rfl⟩
      have hun : us.length = min i vars.length := by
        have h := congrArg List.length hul.out
        simpa using h
      have hzB := hB.size
      have b0 := below_cell hB a0 hz
      have b1 := below_cell hB a1 hz
      have b2 := below_cell hB a2 hz
      have b3 := below_cell hB a3 hz
      rename World => wo
      go_wp2_with fail
      go_at_call 28
      refine (hS.out _ hB).mono ?_
      rintro e w3 ⟨rfl, hB3⟩
      have hz3 := hB3.size
      have hB13 : Below W1.heap.size W1 w3 := hB.trans (hB3.mono hzB)
      clear b0 b1 b2 b3
      have b0 := below_cell hB13 a0 hz
      have hA3 := hA.out.below hB3
      by_cases hlt : i < len
      · obtain ⟨x, hx⟩ : ∃ x, vars[i]? = some x := ⟨_, List.getElem?_eq_getElem (by omega)⟩
        obtain ⟨b1, o1, hbase1, hokb1, hc1⟩ := hR1 i x hx
        have hlb := hok1 b1 hokb1
        have c2 := (hc1.below hB13 hlb).c2
        obtain ⟨hx0, hx6⟩ := hsm i x hx
        obtain ⟨W4, hW4⟩ : ∃ W4, w3.alloc (.cells #[.int .i64 x.init] 3) = W4 := ⟨_, rfl⟩
        have hB4 : Below w3.heap.size w3 W4 := by rw [← hW4]; exact (Below.refl _ _).alloc (Nat.le_refl _) _
        have hown4 : W4.ownsRow w3.heap.size 3 1 (.slice (some ⟨w3.heap.size, 0, none⟩) 1 1) 1 [.int .i64 x.init] := by rw [← hW4]; exact World.ownsRow_lit w3 #[.int .i64 x.init] 1 (Nat.le_refl _) (by unfold maxLen; omega) rfl
        have hs4 : w3.heap.size + 1 = W4.heap.size := by rw [← hW4]; simp
        subst hbase1
        go_wp2_with fail
        have hB14 : Below W1.heap.size W1 W4 := hB13.trans (hB4.mono (by omega))
        clear hW4
        go_loopw [5, 6] (fun v5 v6 wr => ∃ (k : Nat), v6 = .int .i64 k ∧ 1 ≤ k ∧ (k : Int) ≤ mxI x.size 1 ∧ Hid (wr.ownsRow w3.heap.size 3 1 v5 k (List.replicate k (.int .i64 x.init))) ∧ Below w3.heap.size w3 wr) (fun _ v6 _ => 6 - (intOf v6).toNat)
        case atStart => exact ⟨1, rfl, by omega, mx_one x.size, hown4, hB4⟩
        case round =>
          obtain ⟨k, rfl, hk1, hkm, hO, hBk⟩ := hrel
          obtain ⟨v5, rfl⟩ : ∃ v, v = u5 := ⟨_, rfl⟩
          have hzk := hBk.size
          have hB1k : Below W1.heap.size W1 wr := hB13.trans (hBk.mono (by omega))
          have e0 := below_cell hB1k a0 hz
          have e1 := (hc1.below hB1k hlb).c1
          have e2 := (hc1.below hB1k hlb).c2
          have hkx : (k : Int) ≤ 6 := by unfold mxI at hkm; split at hkm <;> omega
          by_cases hks : (k : Int) < x.size
          · obtain ⟨W5, hW5⟩ : ∃ W5, wr.alloc (.cells #[.int .i64 x.init] 3) = W5 := ⟨_, rfl⟩
            have hB5 : Below wr.heap.size wr W5 := by rw [← hW5]; exact (Below.refl _ _).alloc (Nat.le_refl _) _
            have hs5 : wr.heap.size + 1 = W5.heap.size := by rw [← hW5]; simp
            have hO5 : Hid (W5.ownsRow w3.heap.size 3 1 v5 k (List.replicate k (.int .i64 x.init))) := own_on hO.out (fun g hg => hB5.block g (hO.out.lt g hg).2)
            have hnewH : Hid (∀ j u, [Value.int .i64 x.init][j]? = some u → W5.cell? ((⟨wr.heap.size, 0, none⟩ : Addr).add j) = some u) := by rw [← hW5]; exact newsG wr (.int .i64 x.init) _
            have hone : ∀ u ∈ [Value.int .i64 x.init], u.oneCell' = true := by intro u hu; simp at hu; subst hu; rfl
            go_wp2_with (at_builtin; refine wpList_append_back _ rfl _ _ 45 rfl w3.heap.size 3 j0 _ 1 8 Tryz.underlying45 hj0 hy0 hy1 hy2 rfl (by decide) v5 k (List.replicate k (.int .i64 x.init)) rfl hO5.out ⟨wr.heap.size, 0, none⟩ 1 1 [Value.int .i64 x.init] rfl rfl hnewH.out hone (by unfold maxLen; omega) (by omega) (by omega) (by omega) ?_; intro v' w6 hown' hback)
            have hB6 : Below w3.heap.size w3 w6 := by
              refine (hBk.trans (hB5.mono hzk)).trans (hback.kept.below (by omega) (fun k hk => ?_))
              rcases hk with hk | hk
              · exact (hO5.out.lt k hk).1
              · exact (hown'.lt k hk).1
            refine ⟨⟨k + 1, by go_num, by omega, mx_lt _ _ hks, ?_, hB6⟩, by simp [intOf]; omega⟩
            show World.ownsRow _ _ _ _ _ _ _
            rw [show List.replicate (k + 1) (Value.int .i64 x.init) = List.replicate k (Value.int .i64 x.init) ++ [Value.int .i64 x.init] from List.replicate_succ']
            exact hown'
          · have hkn := mx_of x.size hx0 k hk1 hkm hks
            rcases hO.out.2 with ⟨-, h⟩ | ⟨g, cap, cur, rfl, hgb, hgh, hnc, hcm, hcs, htk⟩
            · exfalso; omega
            have hgl := (Array.getElem?_eq_some_iff.1 hgh).1
            obtain ⟨t, ht⟩ : ∃ t : GX, t = ⟨some ⟨g, 0, none⟩, cap, x.openL⟩ := ⟨_, rfl⟩
            have htlH : Hid (t.l = x.openL) := show _ = _ by rw [ht]
            have htvH : Hid (t.val = .slice (some ⟨g, 0, none⟩) k cap) := show _ = _ by rw [ht]; unfold GX.val VX.openL; simp [hkn]
            have hbkH : Hid (t.blk = g) := show _ = _ by rw [ht]; rfl
            have hbtH : Hid (t.base = some ⟨g, 0, none⟩) := show _ = _ by rw [ht]
            clear ht
            have hA5 := hA3.below hBk
            obtain ⟨W5, hW5⟩ : ∃ W5, wr.alloc (.cells #[.slice (some ⟨g, 0, none⟩) k cap] 45) = W5 := ⟨_, rfl⟩
            have hB5 : Below wr.heap.size wr W5 := by rw [← hW5]; exact (Below.refl _ _).alloc (Nat.le_refl _) _
            have hs5 : wr.heap.size + 1 = W5.heap.size := by rw [← hW5]; simp
            have hA6 : AccG W5 W1.heap.size v us := hA5.below hB5
            have hown3 : Hid (W5.ownsRow W1.heap.size 45 1 v us.length (us.map GX.val)) := hA6.own
            have hnewH : Hid (∀ j u, [Value.slice (some ⟨g, 0, none⟩) k cap][j]? = some u → W5.cell? ((⟨wr.heap.size, 0, none⟩ : Addr).add j) = some u) := by rw [← hW5]; exact newsG wr (.slice (some ⟨g, 0, none⟩) k cap) _
            have hone : ∀ u ∈ [Value.slice (some ⟨g, 0, none⟩) k cap], u.oneCell' = true := by intro u hu; simp at hu; subst hu; rfl
            have hg5 : W5.heap[g]? = some (.cells cur 3 (0, 0)) := (hB5.block g hgl).trans hgh
            have hg5H : Hid (W5.heap[g]? = some (.cells cur 3 (0, 0))) := hg5
            have htkH : Hid (cur.toList.take (k * 1) = List.replicate k (.int .i64 x.init)) := htk
            have hknH : Hid (k = (mxI x.size 1).toNat) := hkn
            have hcsH : Hid (cur.size = cap * 1) := hcs
            clear hg5 htk hkn hcs hgh
            have hmin : us.length ≤ 1048577 := by omega
            go_wp2_with (at_builtin; go_loud (refine wpList_append_back _ rfl _ _ 29 rfl W1.heap.size 45 i0 _ 1 24 Tryz.underlying29 hi0 hz0 hz1 hz2 rfl (by decide) v us.length (us.map GX.val) rfl hown3.out ⟨wr.heap.size, 0, none⟩ 1 1 [Value.slice (some ⟨g, 0, none⟩) k cap] rfl rfl hnewH.out hone (by unfold maxLen; omega) (by omega) (by omega) (by omega) ?_); intro v' w6 hown' hback)
            have htv := htvH.out
            have htl := htlH.out
            have hblk := hbkH.out
            have hbaseT := hbtH.out
            have hkn := hknH.out
            have hg5 := hg5H.out
            have htk := htkH.out
            have hcs := hcsH.out
            rw [← htv] at hown' hback
            have hlenT : t.l.length = k := by rw [htl]; unfold VX.openL; simp [hkn]
            have hP : AccG w6 W1.heap.size v' (us ++ [t]) := hA6.push rfl (by omega) (fun hne => by
              rw [hblk]
              refine ⟨hbaseT, by omega, by omega, fun j n hn => ?_, ⟨_, ⟨_, hg5, rfl⟩, by rw [hlenT, hcs]; omega⟩, fun g' hg' => by have := (hA3.own.lt g' hg').2; omega, fun j q hq hqn => by have := (hA3.inner j q hq hqn).2.2.1; omega⟩
              refine ⟨g, 0, hbaseT, rfl, ?_⟩
              have hj := (List.getElem?_eq_some_iff.1 hn).1
              rw [hlenT] at hj
              have h1 : (cur.toList.take (k * 1))[j]? = some (.int .i64 x.init) := by rw [htk, List.getElem?_replicate, if_pos hj]
              rw [List.getElem?_take] at h1
              split at h1
              · have hn' : n = x.init := by
                  rw [htl] at hn
                  unfold VX.openL at hn
                  rw [← hkn, List.getElem?_replicate, if_pos hj] at hn
                  exact (Option.some.inj hn).symm
                subst hn'
                simp only [World.cell?, hg5, Nat.zero_add]
                simpa using h1
              · cases h1) hown' hback
            have hB6 : Below W1.heap.size W1 w6 := by
              refine (hB1k.trans (hB5.mono (by omega))).trans (hback.kept.below (by omega) (fun k hk => ?_))
              rcases hk with hk | hk
              · exact (hA6.own.lt k hk).1
              · exact (hown'.lt k hk).1
            refine ⟨⟨i + 1, us ++ [t], by go_num, by omega, ?_, hP, hB6⟩, by simp [intOf]; omega⟩
            show (us ++ [t]).map GX.l = _
            rw [List.map_append, hul.out, List.take_add_one, hx]
            simp [htl]
      · have he : i = len := by omega
        subst he
        go_wp2
        go_returns
        obtain ⟨a, c, rfl, hO⟩ := hA3.done
        have h := hul.out
        rw [List.take_of_length_le (by omega)] at h
        exact ⟨a, c, us, rfl, by rw [h, hop], hO.wide (by omega), hB1.trans (hB13.mono (by omega))⟩
  · have hop := hopen' h0
    clear hsmall hopen hopen'
    go_enter Tryz.func7, Tryz.ntmps7
    go_wp2_with fail
    go_loopw [3, 4] (fun v3 v4 wr => v3 = .slice (some ⟨W1.heap.size, 0, none⟩) 0 0 ∧ v4 = .int .i64 0 ∧ Below W1.heap.size W1 wr) (fun _ v4 _ => 0)
    case atStart => exact ⟨rfl, rfl, hB2⟩
    case round =>
      obtain ⟨rfl, rfl, hB⟩ := hrel
      have hzB := hB.size
      have b0 := below_cell hB a0 hz
      have b1 := below_cell hB a1 hz
      have b2 := below_cell hB a2 hz
      have b3 := below_cell hB a3 hz
      go_wp2_with fail
      go_at_call 28
      refine (hS.out _ hB).mono ?_
      rintro e w3 ⟨rfl, hB3⟩
      go_wp2
      go_returns
      refine ⟨some ⟨W1.heap.size, 0, none⟩, 0, [], rfl, by rw [hop]; rfl, ⟨fun i k hk => by simp at hk, fun i k hk => by simp at hk, fun i j x y hx => by simp at hx⟩, hB1.trans ((hB.trans (hB3.mono hzB)).mono (by omega))⟩
end Go.Proofs.YtaajdoipjalgmaaGreatDoor
