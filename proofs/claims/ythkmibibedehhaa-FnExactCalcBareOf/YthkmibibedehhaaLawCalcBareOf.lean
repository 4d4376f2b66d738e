/-
  At every program, every number and every list of words the program's CalcBareOf answers as the specification's and writes into no argument, whatever memory the call starts in.
-/
import Derived.Test.YthkmibibedehhaaBareA
import Derived.Test.YthkmibibedehhaaOkQ
import Derived.Test.YthkmibibedehhaaOkD
import Derived.Test.YthkmibibedehhaaProgD
import Derived.Test.YthkmibibedehhaaRows
import Derived.ChangeMaps5
import Derived.Deep.RegionHeld3
import Derived.OpenShut
import Derived.ChangeOld
import Derived.Lib.SmallJoins
namespace Go.Proofs.Ythkmibibedehhaa
open Go.ChangeShapes Go.WideShapes Go.ChangeAt Go.RowKit Go.Joins
set_option linter.unusedSimpArgs false
set_option linter.unusedVariables false

namespace FnExactCalcBareOf
theorem boxP {A : World} {b : Nat} {p : PX} (h : PX.At A b p) : A.cell? ⟨b, 0, none⟩ = some (.slice p.vbase p.vars.length p.vcap) ∧ A.cell? ⟨b, 1, none⟩ = some (.slice p.cbase p.chans.length p.ccap) ∧ A.cell? ⟨b, 2, none⟩ = some (.slice p.nbase p.locks.length p.ncap) ∧ A.cell? ⟨b, 3, none⟩ = some (.slice p.tbase p.tasks.length p.tcap) := ⟨h.c0, h.c1, h.c2, h.c3⟩
set_option maxRecDepth 10000 in
set_option maxHeartbeats 4000000 in
theorem walk (p : PX) (v : Int) (ha : Option Addr) (hc : Nat) (ks : List ByteArray) (w : World) (hW : p.Wide) (hL : PX.Lies (fun b => b < w.heap.size) w p) (hkl : ks.length ≤ maxLen) (hkr : NRow (fun b => b < w.heap.size) w ha ks) (hkw : ∀ (i : Nat) (k : ByteArray), ks[i]? = some k → k.size ≤ maxLen) :
    Calls Try.prog 3 #[p.val, .int .i64 v, .slice ha ks.length hc] w fun e w' => e = .returned (.bool true) ∧ Below w.heap.size w w' := by
  have hB1 : Below w.heap.size w (w.alloc (.cells #[.slice p.vbase p.vars.length p.vcap, .slice p.cbase p.chans.length p.ccap, .slice p.nbase p.locks.length p.ncap, .slice p.tbase p.tasks.length p.tcap] 27)) := (Below.refl _ w).alloc (Nat.le_refl _) _
  go_enter Try.func3, Try.ntmps3
  go_wp2_with fail
  all_goals first | (exfalso; omega) | skip
  go_at_call 4
  obtain ⟨W1, hW1⟩ : ∃ W1, w.alloc (.cells #[.slice p.vbase p.vars.length p.vcap, .slice p.cbase p.chans.length p.ccap, .slice p.nbase p.locks.length p.ncap, .slice p.tbase p.tasks.length p.tcap] 27) = W1 := ⟨_, rfl⟩
  have hs1 : w.heap.size + 1 = W1.heap.size := by rw [← hW1]; simp
  have hb1 : PX.At W1 w.heap.size p := by rw [← hW1]; exact PX.At.new w p _
  rw [hW1] at hB1 ⊢
  clear hW1
  have hlt : ∀ b, b < w.heap.size → b < W1.heap.size := fun b hb => by omega
  have hL1 := hL.under hB1 (fun b hb => hb)
  have hk1 := hkr.under hB1 (fun b hb => hb)
  refine (PX.sz p hW _ W1 hlt hL1 1048576 (by omega) (by omega)).mono ?_
  rintro e w2 ⟨rfl, hB2⟩
  have hb2 := hb1.below hB2 (by omega)
  have hB2' := hB1.trans (hB2.mono hB1.size)
  have hL2 := hL1.under hB2 hlt
  have hk2 := hk1.under hB2 hlt
  have hz2 := hB2.size
  by_cases htot : p.tot ≤ 1048576
  case neg =>
    rw [subI_no (by omega)]
    go_wp2
    go_returns
    exact ⟨rfl, hB2'⟩
  rw [subI_yes (by omega)]
  have hsz := szN ks ha hc _ w2 (fun b hb => by omega) hk2 hkl hkw (1048576 - (p.tot : Int)) (by omega) (by omega)
  go_wp2_with fail
  all_goals first | (exfalso; omega) | skip
  go_at_call 5
  refine hsz.mono ?_
  clear hsz
  rintro e x2 ⟨rfl, hC2⟩
  replace hb2 := hb2.below hC2 (by omega)
  replace hB2' := hB2'.trans (hC2.mono hB2'.size)
  replace hL2 := hL2.under hC2 (fun b hb => by omega)
  replace hk2 := hk2.under hC2 (fun b hb => by omega)
  have hy2 := hC2.size
  by_cases hto : ks.length + sumOf ByteArray.size ks ≤ 1048576 - p.tot
  case neg =>
    rw [subI_no (by omega)]
    go_wp2
    go_returns
    exact ⟨rfl, hB2'⟩
  rw [subI_yes (by omega)]
  have hm := PX.small htot
  have hkn : ks.length ≤ 1048577 := by omega
  obtain ⟨c0, c1, c2, c3⟩ := boxP hb2
  go_wp2_with fail
  all_goals first | (exfalso; omega) | skip
  go_at_call 7
  refine (PX.to p hm _ x2 (fun b hb => by omega) hL2).mono ?_
  rintro e w3 ⟨q0, rfl, hS0, hL0, hB3⟩
  have hb3 := hb2.below hB3 (by omega)
  have hB3' := hB2'.trans (hB3.mono hB2'.size)
  have hz3 := hB3.size
  have hk3 := hk2.under hB3 (fun b hb => by omega)
  clear c0 c1 c2 c3
  go_wp2_with fail
  go_at_call 8
  refine (toN ks ha hc _ w3 (fun b hb => by omega) hk3 hkn).mono ?_
  rintro e x3 ⟨rfl, hN0, hC3⟩
  replace hb3 := hb3.below hC3 (by omega)
  replace hB3' := hB3'.trans (hC3.mono hB3'.size)
  replace hk3 := hk3.under hC3 (fun b hb => by omega)
  replace hL0 := hL0.bound.under hC3 (fun b hb => hb)
  have hL3 := (hL2.under hB3 (fun b hb => by omega)).under hC3 (fun b hb => by omega)
  have hy3 := hC3.size
  have hg3 : w3.heap.size < x3.heap.size ∨ ks = [] := by
    cases hks : ks with
    | nil => exact .inr rfl
    | cons k r =>
      obtain ⟨b, o, h1, h2, h3⟩ := hN0 0 k (by rw [hks]; rfl)
      have h4 := World.block_lt_of_cell? x3 _ h3
      exact .inl (by rw [h2] at h4; exact h4)
  have hN0' : NRow (fun b => b < x3.heap.size) x3 (some ⟨w3.heap.size, 0, none⟩) ks := hN0.mono (fun b hb h => ⟨h, rfl⟩)
  obtain ⟨okv, hokv⟩ : ∃ okv, p.bareB v ks = okv := ⟨_, rfl⟩
  have hspec := PX.specBare q0 v ks (some ⟨w3.heap.size, 0, none⟩) ks.length _ x3 (fun b hb => by first | exact hb | omega) (by have := hm.vl; rw [hS0.v]; omega) (VX.Row.mono hL0.v (fun b _ h => ⟨h, rfl⟩)) hN0' hkn
  rw [show q0.bareB v ks = okv from by rw [← hokv]; unfold PX.bareB; rw [hS0.v]] at hspec
  go_wp2_with fail
  go_at_call 6
  refine hspec.mono ?_
  clear hspec hN0 hN0' hg3
  rintro e w4 ⟨rfl, hB4⟩
  have hb4 := hb3.below hB4 (by omega)
  have hB4' := hB3'.trans (hB4.mono hB3'.size)
  have hz4 := hB4.size
  have hL4 := hL3.under hB4 (fun b hb => by omega)
  have hk4 := hk3.under hB4 (fun b hb => by omega)
  obtain ⟨c0, c1, c2, c3⟩ := boxP hb4
  go_wp2_with fail
  go_at_call 7
  refine (PX.to p hm _ w4 (fun b hb => by omega) hL4).mono ?_
  rintro e w5 ⟨q1, rfl, hS1, hL1', hB5⟩
  have hb5 := hb4.below hB5 (by omega)
  have hB5' := hB4'.trans (hB5.mono hB4'.size)
  have hz5 := hB5.size
  have hL5 := hL4.under hB5 (fun b hb => by omega)
  have hk5 := hk4.under hB5 (fun b hb => by omega)
  have hm1 : q1.Small := PX.small (by rw [(PX.same_ok hm hS1).2]; omega)
  clear c0 c1 c2 c3
  obtain ⟨W6, hW6⟩ : ∃ W6, w5.alloc (.cells #[.slice q1.vbase q1.vars.length q1.vcap, .slice q1.cbase q1.chans.length q1.ccap, .slice q1.nbase q1.locks.length q1.ncap, .slice q1.tbase q1.tasks.length q1.tcap] 35) = W6 := ⟨_, rfl⟩
  have hs6 : w5.heap.size + 1 = W6.heap.size := by rw [← hW6]; simp
  have hB6 : Below w5.heap.size w5 W6 := by rw [← hW6]; exact (Below.refl _ _).alloc (Nat.le_refl _) _
  have hx6 : PX.At W6 w5.heap.size q1 := by rw [← hW6]; exact PX.At.new w5 q1 _
  have hL16 := hL1'.bound.under hB6 (fun b hb => hb)
  have hk6 := hk5.under hB6 (fun b hb => by omega)
  have hb6 := hb5.below hB6 (by omega)
  have htn := toN ks ha hc _ W6 (fun b hb => by omega) hk6 hkn
  go_wp2_with fail
  go_at_call 8
  clear hW6
  refine htn.mono ?_
  clear htn
  rintro e x6 ⟨rfl, hN1, hC6⟩
  have hy6 := hC6.size
  have hb7 := hb6.below hC6 (by omega)
  have hx7 := hx6.below hC6 (by omega)
  have hL17 := hL16.under hC6 (fun b hb => by omega)
  have hk7 := hk6.under hC6 (fun b hb => by omega)
  have hL7 := (hL5.under hB6 (fun b hb => by omega)).under hC6 (fun b hb => by omega)
  have hN1' : NRow (fun b => b < x6.heap.size) x6 (some ⟨W6.heap.size, 0, none⟩) ks := hN1.mono (fun b hb h => ⟨h, rfl⟩)
  have himpl := PX.implBare q1 v ks (some ⟨W6.heap.size, 0, none⟩) ks.length (fun b => b < x6.heap.size) x6 (fun b hb => hb) (by have := hm.vl; rw [hS1.v]; omega) (VX.Row.mono hL17.v (fun b _ h => ⟨h, rfl⟩)) hN1' hkn
  rw [show q1.bareB v ks = okv from by rw [← hokv]; unfold PX.bareB; rw [hS1.v]] at himpl
  obtain ⟨d0, d1, d2, d3⟩ := boxP hx7
  have hB7' := ((hB5'.trans (hB6.mono hB5'.size)).trans (hC6.mono (by omega)))
  clear hB2 hB3 hB4 hB5 hB6 hC2 hC3 hC6 hb1 hb2 hb3 hb4 hb5 hb6 hx6 hL hL1 hL2 hL3 hL4 hL5 hL16 hL0 hL1' hB1 hB2' hB3' hB4' hB5' hS0 hlt hk1 hk2 hk3 hk4 hk5 hk6 hkr hN1
  go_wp2_with fail
  go_at_call 9
  refine himpl.mono ?_
  clear himpl d0 d1 d2 d3
  rintro e w7 ⟨rfl, hB7⟩
  have hz7 := hB7.size
  replace hb7 := hb7.below hB7 (by omega)
  replace hx7 := hx7.below hB7 (by omega)
  replace hL17 := hL17.under hB7 (fun b hb => by omega)
  replace hL7 := hL7.under hB7 (fun b hb => by omega)
  replace hk7 := hk7.under hB7 (fun b hb => by omega)
  have hN7 : NRow (fun b => b < x6.heap.size) w7 (some ⟨W6.heap.size, 0, none⟩) ks := hN1'.under hB7 (fun b hb => hb)
  replace hB7' := hB7'.trans (hB7.mono (by omega))
  clear hN1' hokv
  obtain ⟨c0, c1, c2, c3⟩ := boxP hb7
  obtain ⟨d0, d1, d2, d3⟩ := boxP hx7
  go_wp2_with fail
  have hzd : w7.drew.heap.size = w7.heap.size := rfl
  have hb7d : PX.At w7.drew w.heap.size p := ⟨hb7.c0, hb7.c1, hb7.c2, hb7.c3⟩
  have hx7d : PX.At w7.drew w5.heap.size q1 := ⟨hx7.c0, hx7.c1, hx7.c2, hx7.c3⟩
  have hL17d := hL17.mono (B := w7.drew) (ok' := fun b => b < w7.heap.size) (fun b hb h => ⟨h, rfl⟩)
  have hto' := PX.to p hm (fun b => b < w.heap.size) w7.drew (fun b hb => by rw [hzd]; omega) (hL7.mono (fun b hb _ => ⟨hb, rfl⟩))
  go_region_held3 (fun w' => w'.cell? ⟨w5.heap.size, 0, none⟩ = some (.slice q1.vbase q1.vars.length q1.vcap) ∧ w'.cell? ⟨w5.heap.size, 1, none⟩ = some (.slice q1.cbase q1.chans.length q1.ccap) ∧ w'.cell? ⟨w5.heap.size, 2, none⟩ = some (.slice q1.nbase q1.locks.length q1.ncap) ∧ w'.cell? ⟨w5.heap.size, 3, none⟩ = some (.slice q1.tbase q1.tasks.length q1.tcap) ∧ w'.cell? ⟨w.heap.size, 0, none⟩ = some (.slice p.vbase p.vars.length p.vcap) ∧ w'.cell? ⟨w.heap.size, 1, none⟩ = some (.slice p.cbase p.chans.length p.ccap) ∧ w'.cell? ⟨w.heap.size, 2, none⟩ = some (.slice p.nbase p.locks.length p.ncap) ∧ w'.cell? ⟨w.heap.size, 3, none⟩ = some (.slice p.tbase p.tasks.length p.tcap)) (simp [*, go_sem, World.cell?_alloc_some, World.cell?_setCell_far, apart1, apart2, apart3, apart4, apart5, apart6]) (first | (go_at_call 7; refine hto'.mono ?_; rintro e w8 ⟨q2, rfl, hS2, hL28, hB8⟩; (have hz8 := hB8.size); (obtain ⟨k0, k1, k2, k3⟩ := boxP (hb7d.below hB8 (by rw [hzd]; omega))); (obtain ⟨l0, l1, l2, l3⟩ := boxP (hx7d.below hB8 (by rw [hzd]; omega))); (have heq := PX.eq q1 q2 hm1 (hS1.join hS2) _ w8 (fun b hb => hb) (hL17d.under hB8 (fun b hb => by rw [hzd]; omega)).bound hL28.bound)) | (go_at_call 10; refine heq.mono ?_; rintro e w9 ⟨rfl, hB9⟩; (obtain ⟨kk0, kk1, kk2, kk3⟩ := boxP (((hb7d.below hB8 (by rw [hzd]; omega))).below hB9 (by omega))); (obtain ⟨ll0, ll1, ll2, ll3⟩ := boxP (((hx7d.below hB8 (by rw [hzd]; omega))).below hB9 (by omega)))))
  have hB79 : Below w7.heap.size w7 w9 := (((Below.refl _ w7).drew).trans (hB8.mono (by rw [hzd]; omega))).trans (hB9.mono (by omega))
  have hz9 := hB79.size
  have hB9' := hB7'.trans (hB79.mono (by omega))
  have hk9 := hk7.under hB79 (fun b hb => by omega)
  have hN9 : NRow (fun b => b < w9.heap.size) w9 (some ⟨W6.heap.size, 0, none⟩) ks := (hN7.under hB79 (fun b hb => by omega)).mono (fun b hb h => ⟨h, rfl⟩)
  have ht9 := toN ks ha hc _ w9 (fun b hb => by omega) hk9 hkn
  go_wp2_with fail
  go_at_call 8
  refine ht9.mono ?_
  clear ht9
  rintro e x9 ⟨rfl, hN2, hC9⟩
  have hy9 := hC9.size
  have heq9 := eqN ks (some ⟨W6.heap.size, 0, none⟩) (some ⟨w9.heap.size, 0, none⟩) ks.length ks.length (fun b => b < x9.heap.size) x9 (fun b hb => hb) ((hN9.under hC9 (fun b hb => hb)).mono (fun b hb h => ⟨h, rfl⟩)) (hN2.mono (fun b hb h => ⟨h, rfl⟩)) hkn
  go_wp2_with fail
  go_at_call 11
  refine heq9.mono ?_
  rintro e y9 ⟨rfl, hD9⟩
  go_wp2
  go_returns
  exact ⟨rfl, (hB9'.trans (hC9.mono (by omega))).trans (hD9.mono (by omega))⟩
theorem own : ownKnob Try.prog.godebug = none := by kernel_rfl
theorem laidOut : laidOutB Try.prog = true := by kernel_rfl
set_option maxRecDepth 100000 in
theorem lifted (os : Os) (started : os.Started) (H : Type) (enc : TypeId × Value → H) :
    ReturnsInHanded {} Try.checked os 3 .any (Rows.fnExactCalcBareOfSpec.pre6 enc Try.prog Try.f3 Rows.fnExactCalcBareOfRow.domain false) (Rows.fnExactCalcBareOfSpec.post enc Try.prog Try.f3 false true false false) := by
  refine returnsInHanded_of_change (C := Try.checked) own started (by kernel_rfl) Try.func3
    (ChangeSpec.witness6 (enc := enc) (C := Try.checked) false ⟨#[], #[.agg #[.slice none 0 0, .slice none 0 0, .slice none 0 0, .slice none 0 0], .int .i64 0, .slice none 0 0], []⟩ 8 (by kernel_rfl) (by kernel_rfl) (by kernel_rfl) (by kernel_rfl)) ?_
  intro W base args ds gs before hval0 hW hcnd _
  have hval : ∀ (j : Nat) t v, Try.f3.params[j]? = some t → args[j]? = some v → Value.okWide Try.prog W .any base t v := hval0
  have hW' := hW
  obtain ⟨p, q, hA0, hV, rfl, hfz, hnd⟩ := hW
  have hA : DataW.TrodAll enc Try.prog W 0 (fun _ => true) true Try.f3.params.toList args.toList ds p := hA0
  rw [Try.params3] at hA hval
  obtain ⟨v0, vs0, d0, ds0, p0, q0, hargs, rfl, rfl, h0, r0⟩ := trodAll_cons hA
  obtain ⟨v1, vs1, d1, ds1, p1, q1, rfl, rfl, rfl, h1, r1⟩ := trodAll_cons r0
  obtain ⟨v2, vs2, d2, ds2, p2, q2, rfl, rfl, rfl, h2, r2⟩ := trodAll_cons r1
  obtain ⟨rfl, rfl, rfl⟩ := trodAll_nil r2
  obtain rfl : args = #[v0, v1, v2] := by cases args; simp_all
  obtain ⟨rfl, rfl⟩ := trodVars_none hV
  have k0 := h0
  have lt0 : ∀ x ∈ p0, x.block < W.heap.size := by obtain ⟨m, hm⟩ := k0; exact DataW.trod_lt m _ _ _ hm
  obtain ⟨a0, e0, wd0, ly0⟩ : ∃ t : PX, v0 = t.val ∧ t.Wide ∧ PX.Lies (fun b => b < W.heap.size) W t := by
    obtain ⟨cs, rfl, _⟩ := okWide_struct Try.underlying27 (hval 0 27 v0 rfl rfl)
    obtain ⟨m, hm⟩ := h0
    obtain ⟨t, h1, h2, h3⟩ := readP m _ _ hm
    refine ⟨t, ?_, h2, h3⟩
    obtain ⟨l⟩ := cs
    have h4 : l = _ := h1
    rw [h4]
  subst e0
  have k1 := h1
  have lt1 : ∀ x ∈ p1, x.block < W.heap.size := by obtain ⟨m, hm⟩ := k1; exact DataW.trod_lt m _ _ _ hm
  obtain ⟨a1, rfl, wa1⟩ : ∃ a : Int, v1 = .int .i64 a ∧ (Lit.int .i64 a).wf = true := by
    obtain ⟨a, rfl, _, _, wa⟩ := open_int Try.underlying3 (hval 1 3 v1 rfl rfl) h1
    exact ⟨a, rfl, wa⟩
  have k2 := h2
  have lt2 : ∀ x ∈ p2, x.block < W.heap.size := by obtain ⟨m, hm⟩ := k2; exact DataW.trod_lt m _ _ _ hm
  obtain ⟨b2, len2, bap2, rfl⟩ := okWide_slice Try.underlying24 (hval 2 24 v2 rfl rfl)
  obtain ⟨a2, cap2, ks2, e2, wl2, wr2, wk2⟩ : ∃ (a : Option Addr) (cap : Nat) (ks : List ByteArray), Value.slice b2 len2 bap2 = .slice a ks.length cap ∧ ks.length ≤ maxLen ∧ NRow (fun b => b < W.heap.size) W a ks ∧ ∀ (i : Nat) (k : ByteArray), ks[i]? = some k → k.size ≤ maxLen := by
    obtain ⟨m, hm⟩ := h2
    exact readsN m _ _ hm
  cases e2
  clear hA0 hval0
  refine (walk a0 a1 b2 bap2 ks2 W wd0 ly0 wl2 wr2 wk2).mono fun e W' ⟨he, bel⟩ => ?_
  subst he
  exact ⟨_, rfl, _, _, _, [], _, [], hW', trodAll_mk1 (shut_bool Try.underlying4 _), (trodAll_cons_mk (Below.trod laidOut (by kernel_rfl) (of_decide_eq_true (by kernel_rfl)) k0 bel lt0) (trodAll_cons_mk (Below.trod laidOut (by kernel_rfl) (of_decide_eq_true (by kernel_rfl)) k1 bel lt1) (trodAll_cons_mk (Below.trod laidOut (by kernel_rfl) (of_decide_eq_true (by kernel_rfl)) k2 bel lt2) trodAll_mk0))), rfl, bel.frame _, fun h => by cases h⟩
theorem over : Rows.fnExactCalcBareOfRow.holds Try.pinned (OpenSpec.ofChange Rows.fnExactCalcBareOfSpec) :=
  OpenClaim.holds_of_wide 3 Try.f3 rfl rfl rfl rfl rfl rfl rfl ⟨rfl, rfl, rfl, rfl, rfl⟩ rfl rfl rfl rfl rfl (by kernel_rfl) Try.func3 (by kernel_rfl)
    (of_decide_eq_true (by kernel_rfl)) (by unfold Func.isWrapper; first | (rw [if_pos (by decide +kernel)]; kernel_rfl) | (rw [if_neg (by decide +kernel)]; exact ⟨rfl, rfl⟩))
    (fun os started H enc _ => lifted os started H enc)
end FnExactCalcBareOf
theorem calcBareOf_holds : Rows.FnExactCalcBareOfSaid := FnExactCalcBareOf.over
#print axioms calcBareOf_holds
end Go.Proofs.Ythkmibibedehhaa
