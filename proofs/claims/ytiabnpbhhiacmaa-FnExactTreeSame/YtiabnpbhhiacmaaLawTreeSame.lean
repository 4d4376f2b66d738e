/-
  At every two programs the program's TreeSame answers as the specification's and writes into no argument, whatever memory the call starts in.
-/
import Derived.Test.YtiabnpbhhiacmaaSameH
import Derived.Test.YtiabnpbhhiacmaaProgD
import Derived.Test.YtiabnpbhhiacmaaRows
import Derived.ChangeMaps5
import Derived.Deep.RegionHeld3
import Derived.OpenShut
import Derived.ChangeOld
import Derived.Lib.SmallJoins
namespace Go.Proofs.Ytiabnpbhhiacmaa
open Go.ChangeShapes Go.WideShapes Go.ChangeAt Go.RowKit Go.Joins
set_option linter.unusedSimpArgs false
set_option linter.unusedVariables false

namespace FnExactTreeSame
theorem boxP {A : World} {b : Nat} {p : PX} (h : PX.At A b p) : A.cell? ⟨b, 0, none⟩ = some (.slice p.vbase p.vars.length p.vcap) ∧ A.cell? ⟨b, 1, none⟩ = some (.slice p.cbase p.chans.length p.ccap) ∧ A.cell? ⟨b, 2, none⟩ = some (.slice p.nbase p.locks.length p.ncap) ∧ A.cell? ⟨b, 3, none⟩ = some (.slice p.tbase p.tasks.length p.tcap) := ⟨h.c0, h.c1, h.c2, h.c3⟩
def two (p q r : PX) : Prop := r = p ∨ r = q
set_option maxRecDepth 10000 in
set_option maxHeartbeats 8000000 in
theorem walk (p q : PX) (w : World) (hW : p.Wide) (hL : PX.Lies (fun b => b < w.heap.size) w p) (hW' : q.Wide) (hU : PX.Lies (fun b => b < w.heap.size) w q) :
    Calls Try.prog 8 #[p.val, q.val] w fun e w' => e = .returned (.bool true) ∧ Below w.heap.size w w' := by
  obtain ⟨W1, hW1⟩ : ∃ W1, w.alloc (.cells #[.slice p.vbase p.vars.length p.vcap, .slice p.cbase p.chans.length p.ccap, .slice p.nbase p.locks.length p.ncap, .slice p.tbase p.tasks.length p.tcap] 42) = W1 := ⟨_, rfl⟩
  obtain ⟨W2, hW2⟩ : ∃ W2, W1.alloc (.cells #[.slice q.vbase q.vars.length q.vcap, .slice q.cbase q.chans.length q.ccap, .slice q.nbase q.locks.length q.ncap, .slice q.tbase q.tasks.length q.tcap] 42) = W2 := ⟨_, rfl⟩
  have hs1 : w.heap.size + 1 = W1.heap.size := by rw [← hW1]; simp
  have hs2 : W1.heap.size + 1 = W2.heap.size := by rw [← hW2]; simp
  have hB1 : Below w.heap.size w W1 := by rw [← hW1]; exact (Below.refl _ w).alloc (Nat.le_refl _) _
  have hB2 : Below w.heap.size w W2 := by rw [← hW2]; exact hB1.alloc (by omega) _
  have hC : PX.At W2 w.heap.size p := by
    have h := PX.At.new w p 42
    rw [hW1] at h
    rw [← hW2]
    exact h.below (n := W1.heap.size) ((Below.refl _ _).alloc (Nat.le_refl _) _) (by omega)
  have hD : PX.At W2 W1.heap.size q := by rw [← hW2]; exact PX.At.new W1 q _
  have hL2 := hL.under hB2 (fun b hb => hb)
  have hU2 := hU.under hB2 (fun b hb => hb)
  have hlt : ∀ b, b < w.heap.size → b < W2.heap.size := fun b hb => by omega
  obtain ⟨c0, c1, c2, c3⟩ := boxP hC
  obtain ⟨d0, d1, d2, d3⟩ := boxP hD
  go_enter Try.func8, Try.ntmps8
  go_wp2_with fail
  go_at_call 18
  refine (PX.sz p hW _ W2 hlt hL2 1048576 (by omega) (by omega)).mono ?_
  rintro e w3 ⟨rfl, hB3⟩
  clear c0 c1 c2 c3 d0 d1 d2 d3 hW1 hW2
  by_cases htp : p.tot ≤ 1048576
  case neg =>
    rw [subI_no (by omega)]
    go_wp2
    go_returns
    exact ⟨rfl, hB2.trans (hB3.mono (by omega))⟩
  rw [subI_yes (by omega)]
  obtain ⟨c0, c1, c2, c3⟩ := boxP (hC.below hB3 (by omega))
  obtain ⟨d0, d1, d2, d3⟩ := boxP (hD.below hB3 (by omega))
  go_wp2_with fail
  all_goals first | (exfalso; omega) | skip
  go_at_call 18
  refine (PX.sz q hW' _ w3 (fun b hb => by have := hB3.size; omega) (hU2.under hB3 hlt) (1048576 - p.tot) (by omega) (by omega)).mono ?_
  rintro e w4 ⟨rfl, hB4⟩
  clear c0 c1 c2 c3 d0 d1 d2 d3
  have hX4 := bstep hB3 hB4
  by_cases htq : (q.tot : Int) ≤ 1048576 - p.tot
  case neg =>
    rw [subI_no (by omega)]
    go_wp2
    go_returns
    exact ⟨rfl, hB2.trans (hX4.mono (by omega))⟩
  rw [subI_yes (by omega)]
  have htq' : q.tot ≤ 1048576 := by omega
  have HTO : Hid (∀ (r : PX) (x : World), two p q r → Below W2.heap.size W2 x → Calls Try.prog 20 #[r.val] x fun e w' => ∃ s : PX, e = .returned s.val ∧ Copy r s w' ∧ Below x.heap.size x w') := by
    rintro r x (rfl | rfl) hx
    · exact PX.copy _ (PX.small htp) _ W2 hlt hL2 x hx
    · exact PX.copy _ (PX.small htq') _ W2 hlt hU2 x hx
  have hPP : two p q p := .inl rfl
  have hPQ : two p q q := .inr rfl
  have HSP : Hid (∀ (p' q' : PX) (x : World), Copy p p' x → Copy q q' x → Calls Try.prog 30 #[p'.val, q'.val] x fun e w' => e = .returned (.bool (p.sameB q)) ∧ Below x.heap.size x w') := fun p' q' x h1 h2 => h1.spec h2 htp htq'
  obtain ⟨res, hres⟩ : ∃ b, p.sameB q = b := ⟨_, rfl⟩
  obtain ⟨c0, c1, c2, c3⟩ := boxP (hC.below hX4 (by omega))
  obtain ⟨d0, d1, d2, d3⟩ := boxP (hD.below hX4 (by omega))
  clear hL hU hL2 hU2 hB3 hB4 hW hW'
  go_wp2_with fail
  all_goals first | (exfalso; omega) | skip
  have hXd : Below W2.heap.size W2 w4.drew := hX4.trans ((Below.refl _ w4).drew.mono (by have := hX4.size; omega))
  go_cut [6] (fun v wx => v = .bool res ∧ Below W2.heap.size W2 wx)
  case first =>
    go_region_held3 (fun w' => w'.cell? ⟨w.heap.size, 0, none⟩ = some (.slice p.vbase p.vars.length p.vcap) ∧ w'.cell? ⟨w.heap.size, 1, none⟩ = some (.slice p.cbase p.chans.length p.ccap) ∧ w'.cell? ⟨w.heap.size, 2, none⟩ = some (.slice p.nbase p.locks.length p.ncap) ∧ w'.cell? ⟨w.heap.size, 3, none⟩ = some (.slice p.tbase p.tasks.length p.tcap) ∧ w'.cell? ⟨W1.heap.size, 0, none⟩ = some (.slice q.vbase q.vars.length q.vcap) ∧ w'.cell? ⟨W1.heap.size, 1, none⟩ = some (.slice q.cbase q.chans.length q.ccap) ∧ w'.cell? ⟨W1.heap.size, 2, none⟩ = some (.slice q.nbase q.locks.length q.ncap) ∧ w'.cell? ⟨W1.heap.size, 3, none⟩ = some (.slice q.tbase q.tasks.length q.tcap)) (simp [*, go_sem, World.cell?_alloc_some, World.cell?_setCell_far, apart1, apart2, apart3, apart4, apart5, apart6]) (first | (go_at_call 20; refine (HTO.out _ _ (by first | exact hPP | exact hPQ) (by assumption)).mono ?_; rintro e wn ⟨sn, rfl, hcn, hbn⟩; (try have hco := Copy.below (by assumption) hbn); (have hxn := bstep (by assumption : Below W2.heap.size W2 _) hbn); (obtain ⟨k0, k1, k2, k3⟩ := boxP (hC.below hxn (by omega))); (obtain ⟨l0, l1, l2, l3⟩ := boxP (hD.below hxn (by omega)))) | (go_at_call 30; refine (HSP.out _ _ _ (by assumption) (by assumption)).mono ?_; rintro e wm ⟨rfl, hbm⟩; rw [hres]; (have hxm := bstep (by assumption : Below W2.heap.size W2 _) hbm); (obtain ⟨m0, m1, m2, m3⟩ := boxP (hC.below hxm (by omega))); (obtain ⟨n0, n1, n2, n3⟩ := boxP (hD.below hxm (by omega)))))
    all_goals
      go_wp2_with fail
      go_meet
      case rel => exact ⟨rfl, hxm⟩
  case rest =>
    obtain ⟨hv, hX5⟩ := hcut
    subst hv
    rename World => w5
    have hz5 := hX5.size
    clear c0 c1 c2 c3 d0 d1 d2 d3 hXd hX4
    obtain ⟨c0, c1, c2, c3⟩ := boxP (hC.below hX5 (by omega))
    obtain ⟨d0, d1, d2, d3⟩ := boxP (hD.below hX5 (by omega))
    go_wp2_with fail
    go_at_call 20
    refine (HTO.out _ _ hPP hX5).mono ?_
    rintro e w6 ⟨s0, rfl, hc0, hb6⟩
    have hX6 := bstep hX5 hb6
    clear c0 c1 c2 c3 d0 d1 d2 d3 hb6
    obtain ⟨W7, hW7⟩ : ∃ W7, w6.alloc (.cells #[.slice s0.vbase s0.vars.length s0.vcap, .slice s0.cbase s0.chans.length s0.ccap, .slice s0.nbase s0.locks.length s0.ncap, .slice s0.tbase s0.tasks.length s0.tcap] 49) = W7 := ⟨_, rfl⟩
    have hB7 : Below w6.heap.size w6 W7 := by rw [← hW7]; exact (Below.refl _ _).alloc (Nat.le_refl _) _
    have hs7 : w6.heap.size + 1 = W7.heap.size := by rw [← hW7]; simp
    have hE : PX.At W7 w6.heap.size s0 := by rw [← hW7]; exact PX.At.new w6 s0 _
    have hX7 := bstep hX6 hB7
    replace hc0 := hc0.below hB7
    obtain ⟨c0, c1, c2, c3⟩ := boxP (hC.below hX7 (by omega))
    obtain ⟨d0, d1, d2, d3⟩ := boxP (hD.below hX7 (by omega))
    go_wp2_with fail
    go_at_call 20
    refine (HTO.out _ _ hPQ hX7).mono ?_
    rintro e w8 ⟨s1, rfl, hc1, hb8⟩
    have hX8 := bstep hX7 hb8
    have hE8 := hE.below hb8 (by omega)
    have hz8 := hb8.size
    replace hc0 := hc0.below hb8
    clear c0 c1 c2 c3 d0 d1 d2 d3 hb8 hW7 hE
    obtain ⟨W9, hW9⟩ : ∃ W9, w8.alloc (.cells #[.slice s1.vbase s1.vars.length s1.vcap, .slice s1.cbase s1.chans.length s1.ccap, .slice s1.nbase s1.locks.length s1.ncap, .slice s1.tbase s1.tasks.length s1.tcap] 49) = W9 := ⟨_, rfl⟩
    have hB9 : Below w8.heap.size w8 W9 := by rw [← hW9]; exact (Below.refl _ _).alloc (Nat.le_refl _) _
    have hs9 : w8.heap.size + 1 = W9.heap.size := by rw [← hW9]; simp
    have hG : PX.At W9 w8.heap.size s1 := by rw [← hW9]; exact PX.At.new w8 s1 _
    have hE9 := hE8.below hB9 (by omega)
    have hX9 := bstep hX8 hB9
    replace hc0 := hc0.below hB9
    replace hc1 := hc1.below hB9
    obtain ⟨e0, e1, e2, e3⟩ := boxP hE9
    obtain ⟨g0, g1, g2, g3⟩ := boxP hG
    go_wp2_with fail
    go_at_call 31
    refine (hc0.impl hc1 htp htq').mono ?_
    rintro e w10 ⟨rfl, hb10⟩
    rw [hres]
    have hX10 := bstep hX9 hb10
    have hE10 := hE9.below hb10 (by omega)
    have hG10 := hG.below hb10 (by omega)
    have hz10 := hb10.size
    replace hc0 := hc0.below hb10
    replace hc1 := hc1.below hb10
    clear e0 e1 e2 e3 g0 g1 g2 g3 hW9 hb10 hE8 hE9 hG hB9 hB7 hX9 hX8 hX7 hX6 HSP
    have hK0 : Hid (∀ (r s : PX) (x : World), Copy p s x → Copy p r x → Calls Try.prog 22 #[s.val, r.val] x fun e w' => e = .returned (.bool true) ∧ Below x.heap.size x w') := fun r s x h1 h2 => h1.eq h2 htp
    have hK1 : Hid (∀ (r s : PX) (x : World), Copy q s x → Copy q r x → Calls Try.prog 22 #[s.val, r.val] x fun e w' => e = .returned (.bool true) ∧ Below x.heap.size x w') := fun r s x h1 h2 => h1.eq h2 htq'
    obtain ⟨c0, c1, c2, c3⟩ := boxP (hC.below hX10 (by omega))
    obtain ⟨e0, e1, e2, e3⟩ := boxP hE10
    go_wp2_with fail
    have hXd : Below W2.heap.size W2 w10.drew := hX10.trans ((Below.refl _ w10).drew.mono (by have := hX10.size; omega))
    have hcd := hc0.drew
    have hEd : PX.At w10.drew w6.heap.size s0 := ⟨hE10.c0, hE10.c1, hE10.c2, hE10.c3⟩
    have hzd : w10.drew.heap.size = w10.heap.size := rfl
    go_cut [39] (fun v wx => v = .bool false ∧ Below w10.heap.size w10 wx)
    case first =>
      go_region_held3 (fun w' => w'.cell? ⟨w.heap.size, 0, none⟩ = some (.slice p.vbase p.vars.length p.vcap) ∧ w'.cell? ⟨w.heap.size, 1, none⟩ = some (.slice p.cbase p.chans.length p.ccap) ∧ w'.cell? ⟨w.heap.size, 2, none⟩ = some (.slice p.nbase p.locks.length p.ncap) ∧ w'.cell? ⟨w.heap.size, 3, none⟩ = some (.slice p.tbase p.tasks.length p.tcap) ∧ w'.cell? ⟨w6.heap.size, 0, none⟩ = some (.slice s0.vbase s0.vars.length s0.vcap) ∧ w'.cell? ⟨w6.heap.size, 1, none⟩ = some (.slice s0.cbase s0.chans.length s0.ccap) ∧ w'.cell? ⟨w6.heap.size, 2, none⟩ = some (.slice s0.nbase s0.locks.length s0.ncap) ∧ w'.cell? ⟨w6.heap.size, 3, none⟩ = some (.slice s0.tbase s0.tasks.length s0.tcap)) (simp [*, go_sem, World.cell?_alloc_some, World.cell?_setCell_far, apart1, apart2, apart3, apart4, apart5, apart6]) (first | (go_at_call 20; refine (HTO.out _ _ hPP hXd).mono ?_; rintro e wn ⟨sn, rfl, hcn, hbn⟩; (have hco := hcd.below hbn); (have hxn := bstep hXd hbn); (obtain ⟨k0, k1, k2, k3⟩ := boxP (hC.below hxn (by omega))); (obtain ⟨l0, l1, l2, l3⟩ := boxP (hEd.below hbn (by rw [hzd]; omega)))) | (go_at_call 22; refine (hK0.out _ _ _ hco hcn).mono ?_; rintro e wm ⟨rfl, hbm⟩; (have hxm := bstep hxn hbm); (obtain ⟨m0, m1, m2, m3⟩ := boxP (hC.below hxm (by omega))); (obtain ⟨n0, n1, n2, n3⟩ := boxP ((hEd.below hbn (by rw [hzd]; omega)).below hbm (by have := hbn.size; rw [hzd] at this; omega)))))
      all_goals
        go_wp2_with fail
        go_meet
        case rel => exact ⟨rfl, bstep (((Below.refl _ w10).drew).trans (hbn.mono (by rw [hzd]; omega))) hbm⟩
    case rest =>
      obtain ⟨hv, hb11⟩ := hcut
      subst hv
      rename World => w11
      have hX11 := bstep hX10 hb11
      have hG11 := hG10.below hb11 (by omega)
      have hc11 := hc1.below hb11
      have hz11 := hb11.size
      clear c0 c1 c2 c3 e0 e1 e2 e3 hXd hcd hEd hzd
      obtain ⟨d0, d1, d2, d3⟩ := boxP (hD.below hX11 (by omega))
      obtain ⟨g0, g1, g2, g3⟩ := boxP hG11
      go_wp2_with fail
      have hXd : Below W2.heap.size W2 w11.drew := hX11.trans ((Below.refl _ w11).drew.mono (by have := hX11.size; omega))
      have hcd := hc11.drew
      have hGd : PX.At w11.drew w8.heap.size s1 := ⟨hG11.c0, hG11.c1, hG11.c2, hG11.c3⟩
      have hzd : w11.drew.heap.size = w11.heap.size := rfl
      go_cut [44] (fun v wx => v = .bool false ∧ Below W2.heap.size W2 wx)
      case first =>
        go_region_held3 (fun w' => w'.cell? ⟨W1.heap.size, 0, none⟩ = some (.slice q.vbase q.vars.length q.vcap) ∧ w'.cell? ⟨W1.heap.size, 1, none⟩ = some (.slice q.cbase q.chans.length q.ccap) ∧ w'.cell? ⟨W1.heap.size, 2, none⟩ = some (.slice q.nbase q.locks.length q.ncap) ∧ w'.cell? ⟨W1.heap.size, 3, none⟩ = some (.slice q.tbase q.tasks.length q.tcap) ∧ w'.cell? ⟨w8.heap.size, 0, none⟩ = some (.slice s1.vbase s1.vars.length s1.vcap) ∧ w'.cell? ⟨w8.heap.size, 1, none⟩ = some (.slice s1.cbase s1.chans.length s1.ccap) ∧ w'.cell? ⟨w8.heap.size, 2, none⟩ = some (.slice s1.nbase s1.locks.length s1.ncap) ∧ w'.cell? ⟨w8.heap.size, 3, none⟩ = some (.slice s1.tbase s1.tasks.length s1.tcap)) (simp [*, go_sem, World.cell?_alloc_some, World.cell?_setCell_far, apart1, apart2, apart3, apart4, apart5, apart6]) (first | (go_at_call 20; refine (HTO.out _ _ hPQ hXd).mono ?_; rintro e wn ⟨sn, rfl, hcn, hbn⟩; (have hco := hcd.below hbn); (have hxn := bstep hXd hbn); (obtain ⟨k0, k1, k2, k3⟩ := boxP (hD.below hxn (by omega))); (obtain ⟨l0, l1, l2, l3⟩ := boxP (hGd.below hbn (by rw [hzd]; omega)))) | (go_at_call 22; refine (hK1.out _ _ _ hco hcn).mono ?_; rintro e wm ⟨rfl, hbm⟩; (have hxm := bstep hxn hbm); (obtain ⟨m0, m1, m2, m3⟩ := boxP (hD.below hxm (by omega))); (obtain ⟨n0, n1, n2, n3⟩ := boxP ((hGd.below hbn (by rw [hzd]; omega)).below hbm (by have := hbn.size; rw [hzd] at this; omega)))))
        all_goals
          go_wp2_with fail
          go_meet
          case rel => exact ⟨rfl, hxm⟩
      case rest =>
        obtain ⟨hv, hX12⟩ := hcut
        subst hv
        go_wp2
        go_returns
        exact ⟨rfl, hB2.trans (hX12.mono (by omega))⟩
theorem own : ownKnob Try.prog.godebug = none := by kernel_rfl
theorem laidOut : laidOutB Try.prog = true := by kernel_rfl
set_option maxRecDepth 100000 in
theorem lifted (os : Os) (started : os.Started) (H : Type) (enc : TypeId × Value → H) :
    ReturnsInHanded {} Try.checked os 8 .any (Rows.fnExactTreeSameSpec.pre6 enc Try.prog Try.f8 Rows.fnExactTreeSameRow.domain false) (Rows.fnExactTreeSameSpec.post enc Try.prog Try.f8 false true false false) := by
  refine returnsInHanded_of_change (C := Try.checked) own started (by kernel_rfl) Try.func8
    (ChangeSpec.witness6 (enc := enc) (C := Try.checked) false ⟨#[], #[.agg #[.slice none 0 0, .slice none 0 0, .slice none 0 0, .slice none 0 0], .agg #[.slice none 0 0, .slice none 0 0, .slice none 0 0, .slice none 0 0]], []⟩ 8 (by kernel_rfl) (by kernel_rfl) (by kernel_rfl) (by kernel_rfl)) ?_
  intro W base args ds gs before hval0 hW hcnd _
  have hval : ∀ (j : Nat) t v, Try.f8.params[j]? = some t → args[j]? = some v → Value.okWide Try.prog W .any base t v := hval0
  have hW' := hW
  obtain ⟨p, q, hA0, hV, rfl, hfz, hnd⟩ := hW
  have hA : DataW.TrodAll enc Try.prog W 0 (fun _ => true) true Try.f8.params.toList args.toList ds p := hA0
  rw [Try.params8] at hA hval
  obtain ⟨v0, vs0, d0, ds0, p0, q0, hargs, rfl, rfl, h0, r0⟩ := trodAll_cons hA
  obtain ⟨v1, vs1, d1, ds1, p1, q1, rfl, rfl, rfl, h1, r1⟩ := trodAll_cons r0
  obtain ⟨rfl, rfl, rfl⟩ := trodAll_nil r1
  obtain rfl : args = #[v0, v1] := by cases args; simp_all
  obtain ⟨rfl, rfl⟩ := trodVars_none hV
  have k0 := h0
  have lt0 : ∀ x ∈ p0, x.block < W.heap.size := by obtain ⟨m, hm⟩ := k0; exact DataW.trod_lt m _ _ _ hm
  obtain ⟨a0, e0, wd0, ly0⟩ : ∃ t : PX, v0 = t.val ∧ t.Wide ∧ PX.Lies (fun b => b < W.heap.size) W t := by
    obtain ⟨cs, rfl, _⟩ := okWide_struct Try.underlying42 (hval 0 42 v0 rfl rfl)
    obtain ⟨m, hm⟩ := h0
    obtain ⟨t, h1, h2, h3⟩ := readP m _ _ hm
    refine ⟨t, ?_, h2, h3⟩
    obtain ⟨l⟩ := cs
    have h4 : l = _ := h1
    rw [h4]
  subst e0
  have k1 := h1
  have lt1 : ∀ x ∈ p1, x.block < W.heap.size := by obtain ⟨m, hm⟩ := k1; exact DataW.trod_lt m _ _ _ hm
  obtain ⟨a1, e1, wd1, ly1⟩ : ∃ t : PX, v1 = t.val ∧ t.Wide ∧ PX.Lies (fun b => b < W.heap.size) W t := by
    obtain ⟨cs, rfl, _⟩ := okWide_struct Try.underlying42 (hval 1 42 v1 rfl rfl)
    obtain ⟨m, hm⟩ := h1
    obtain ⟨t, h1, h2, h3⟩ := readP m _ _ hm
    refine ⟨t, ?_, h2, h3⟩
    obtain ⟨l⟩ := cs
    have h4 : l = _ := h1
    rw [h4]
  subst e1
  clear hA0 hval0
  refine (walk a0 a1 W wd0 ly0 wd1 ly1).mono fun e W' ⟨he, bel⟩ => ?_
  subst he
  exact ⟨_, rfl, _, _, _, [], _, [], hW', trodAll_mk1 (shut_bool Try.underlying4 _), (trodAll_cons_mk (Below.trod laidOut (by kernel_rfl) (of_decide_eq_true (by kernel_rfl)) k0 bel lt0) (trodAll_cons_mk (Below.trod laidOut (by kernel_rfl) (of_decide_eq_true (by kernel_rfl)) k1 bel lt1) trodAll_mk0)), rfl, bel.frame _, fun h => by cases h⟩
theorem over : Rows.fnExactTreeSameRow.holds Try.pinned (OpenSpec.ofChange Rows.fnExactTreeSameSpec) :=
  OpenClaim.holds_of_wide 8 Try.f8 rfl rfl rfl rfl rfl rfl rfl ⟨rfl, rfl, rfl, rfl, rfl⟩ rfl rfl rfl rfl rfl (by kernel_rfl) Try.func8 (by kernel_rfl)
    (of_decide_eq_true (by kernel_rfl)) (by unfold Func.isWrapper; first | (rw [if_pos (by decide +kernel)]; kernel_rfl) | (rw [if_neg (by decide +kernel)]; exact ⟨rfl, rfl⟩))
    (fun os started H enc _ => lifted os started H enc)
end FnExactTreeSame
theorem treeSame_holds : Rows.FnExactTreeSameSaid := FnExactTreeSame.over
#print axioms treeSame_holds
end Go.Proofs.Ytiabnpbhhiacmaa
