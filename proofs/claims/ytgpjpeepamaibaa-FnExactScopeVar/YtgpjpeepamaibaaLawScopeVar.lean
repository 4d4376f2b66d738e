/-
  At every program and every word the program's ScopeVar answers as the specification's and writes into no argument, whatever memory the call starts in.
-/
import Derived.Test.YtgpjpeepamaibaaScopeC
import Derived.Test.YtgpjpeepamaibaaOkQ
import Derived.Test.YtgpjpeepamaibaaOkD
import Derived.Test.YtgpjpeepamaibaaProgD
import Derived.Test.YtgpjpeepamaibaaRows
import Derived.ChangeMaps5
import Derived.Deep.RegionHeld3
import Derived.OpenShut
import Derived.ChangeOld
import Derived.Lib.SmallJoins
namespace Go.Proofs.Ytgpjpeepamaibaa
open Go.ChangeShapes Go.WideShapes Go.ChangeAt Go.RowKit Go.Joins
set_option linter.unusedSimpArgs false
set_option linter.unusedVariables false

namespace FnExactScopeVar
theorem boxP {A : World} {b : Nat} {p : PX} (h : PX.At A b p) : A.cell? ⟨b, 0, none⟩ = some (.slice p.vbase p.vars.length p.vcap) ∧ A.cell? ⟨b, 1, none⟩ = some (.slice p.cbase p.chans.length p.ccap) ∧ A.cell? ⟨b, 2, none⟩ = some (.slice p.nbase p.locks.length p.ncap) ∧ A.cell? ⟨b, 3, none⟩ = some (.slice p.tbase p.tasks.length p.tcap) := ⟨h.c0, h.c1, h.c2, h.c3⟩
set_option maxRecDepth 10000 in
set_option maxHeartbeats 4000000 in
theorem walk (p : PX) (s : ByteArray) (w : World) (hW : p.Wide) (hL : PX.Lies (fun b => b < w.heap.size) w p) (hsw : s.size ≤ maxLen) :
    Calls Try.prog 4 #[p.val, .string s] w fun e w' => e = .returned (.bool true) ∧ Below w.heap.size w w' := by
  have hB1 : Below w.heap.size w (w.alloc (.cells #[.slice p.vbase p.vars.length p.vcap, .slice p.cbase p.chans.length p.ccap, .slice p.nbase p.locks.length p.ncap, .slice p.tbase p.tasks.length p.tcap] 35)) := (Below.refl _ w).alloc (Nat.le_refl _) _
  by_cases hs : s.size ≤ 1048576
  case neg =>
    go_enter Try.func4, Try.ntmps4
    go_wp2_with fail
    all_goals first | (exfalso; omega) | skip
    go_returns
    exact ⟨rfl, hB1⟩
  go_enter Try.func4, Try.ntmps4
  go_wp2_with fail
  all_goals first | (exfalso; omega) | skip
  go_at_call 15
  obtain ⟨W1, hW1⟩ : ∃ W1, w.alloc (.cells #[.slice p.vbase p.vars.length p.vcap, .slice p.cbase p.chans.length p.ccap, .slice p.nbase p.locks.length p.ncap, .slice p.tbase p.tasks.length p.tcap] 35) = W1 := ⟨_, rfl⟩
  have hs1 : W1.heap.size = w.heap.size + 1 := by rw [← hW1]; simp
  have hb1 : PX.At W1 w.heap.size p := by rw [← hW1]; exact PX.At.new w p _
  rw [hW1] at hB1 ⊢
  clear hW1
  have hlt : ∀ b, b < w.heap.size → b < W1.heap.size := fun b hb => by omega
  have hL1 := hL.under hB1 (fun b hb => hb)
  refine (PX.sz p hW _ W1 hlt hL1 1048576 (by omega) (by omega)).mono ?_
  rintro e w2 ⟨rfl, hB2⟩
  have hb2 := hb1.below hB2 (by omega)
  have hB2' := hB1.trans (hB2.mono hB1.size)
  have hL2 := hL1.under hB2 hlt
  have hz2 := hB2.size
  by_cases htot : p.tot ≤ 1048576
  · rw [subI_yes (by omega)]
    have hm := PX.small htot
    have hN := PX.names htot
    obtain ⟨c0, c1, c2, c3⟩ := boxP hb2
    go_wp2_with fail
    all_goals first | (exfalso; omega) | skip
    go_at_call 17
    refine (PX.to p hm _ w2 (fun b hb => by omega) hL2).mono ?_
    rintro e w3 ⟨q0, rfl, hS0, hL0, hB3⟩
    have hb3 := hb2.below hB3 (by omega)
    have hB3' := hB2'.trans (hB3.mono hB2'.size)
    have hz3 := hB3.size
    clear c0 c1 c2 c3
    go_wp2_with fail
    go_at_call 16
    obtain ⟨okv, hokv⟩ : ∃ okv, firstOf (p.vars.map VX.name) s = okv := ⟨_, rfl⟩
    have hspec := PX.specVar q0 s _ w3 (fun b hb => hb) hL0.bound.v (by have := hm.vl; rw [hS0.v]; omega)
    rw [show firstOf (q0.vars.map VX.name) s = okv from by rw [← hokv, hS0.v]] at hspec
    refine hspec.mono ?_
    clear hspec
    rintro e w4 ⟨rfl, hB4⟩
    have hb4 := hb3.below hB4 (by omega)
    have hB4' := hB3'.trans (hB4.mono hB3'.size)
    have hz4 := hB4.size
    have hL4 := ((hL2.under hB3 (fun b hb => by omega)).under hB4 (fun b hb => by omega))
    obtain ⟨c0, c1, c2, c3⟩ := boxP hb4
    go_wp2_with fail
    go_at_call 17
    refine (PX.to p hm _ w4 (fun b hb => by omega) hL4).mono ?_
    rintro e w5 ⟨q1, rfl, hS1, hL1', hB5⟩
    obtain ⟨r1, z1⟩ := PX.same_ok hm hS1
    have hb5 := hb4.below hB5 (by omega)
    have hB5' := hB4'.trans (hB5.mono hB4'.size)
    have hz5 := hB5.size
    have hL5 := hL4.under hB5 (fun b hb => by omega)
    have hm1 : q1.Small := PX.small (by omega)
    clear c0 c1 c2 c3
    go_wp2_with fail
    go_at_call 18
    obtain ⟨W6, hW6⟩ : ∃ W6, w5.alloc (.cells #[.slice q1.vbase q1.vars.length q1.vcap, .slice q1.cbase q1.chans.length q1.ccap, .slice q1.nbase q1.locks.length q1.ncap, .slice q1.tbase q1.tasks.length q1.tcap] 42) = W6 := ⟨_, rfl⟩
    have hs6 : W6.heap.size = w5.heap.size + 1 := by rw [← hW6]; simp
    have hB6 : Below w5.heap.size w5 W6 := by rw [← hW6]; exact (Below.refl _ _).alloc (Nat.le_refl _) _
    have hx6 : PX.At W6 w5.heap.size q1 := by rw [← hW6]; exact PX.At.new w5 q1 _
    rw [hW6]
    clear hW6
    have hL16 := hL1'.bound.under hB6 (fun b hb => hb)
    have himpl := PX.implVar q1 s hs _ W6 (fun b hb => by omega) hL16.v (by have := hm.vl; rw [hS1.v]; omega) (fun i k hk => by rw [hS1.v] at hk; exact (hN.v i k hk).1)
    rw [show firstOf (q1.vars.map VX.name) s = okv from by rw [← hokv, hS1.v]] at himpl
    refine himpl.mono ?_
    clear himpl
    rintro e w7 ⟨rfl, hB7⟩
    have hz7 := hB7.size
    have hb7 := (hb5.below hB6 (by omega)).below hB7 (by omega)
    have hx7 := hx6.below hB7 (by omega)
    have hL7 := (hL5.under hB6 (fun b hb => by omega)).under hB7 (fun b hb => by omega)
    have hL17 := hL16.under hB7 (fun b hb => by omega)
    have hB7' := (hB5'.trans (hB6.mono hB5'.size)).trans (hB7.mono (by omega))
    obtain ⟨c0, c1, c2, c3⟩ := boxP hb7
    obtain ⟨d0, d1, d2, d3⟩ := boxP hx7
    clear hB2 hB3 hB4 hB5 hB6 hB7 hb1 hb2 hb3 hb4 hb5 hx6 hL hL1 hL2 hL4 hL5 hL16 hL0 hL1' hB1 hB2' hB3' hB4' hB5' hokv hS0 r1 z1 hlt
    go_wp2_with fail
    have hzd : w7.drew.heap.size = w7.heap.size := rfl
    have hb7d : PX.At w7.drew w.heap.size p := ⟨hb7.c0, hb7.c1, hb7.c2, hb7.c3⟩
    have hx7d : PX.At w7.drew w5.heap.size q1 := ⟨hx7.c0, hx7.c1, hx7.c2, hx7.c3⟩
    have hL17d := hL17.mono (B := w7.drew) (ok' := fun b => b < w7.heap.size) (fun b hb h => ⟨h, rfl⟩)
    have hto := PX.to p hm (fun b => b < w.heap.size) w7.drew (fun b hb => by rw [hzd]; omega) (hL7.mono (fun b hb _ => ⟨hb, rfl⟩))
    go_region_held3 (fun w' => w'.cell? ⟨w5.heap.size, 0, none⟩ = some (.slice q1.vbase q1.vars.length q1.vcap) ∧ w'.cell? ⟨w5.heap.size, 1, none⟩ = some (.slice q1.cbase q1.chans.length q1.ccap) ∧ w'.cell? ⟨w5.heap.size, 2, none⟩ = some (.slice q1.nbase q1.locks.length q1.ncap) ∧ w'.cell? ⟨w5.heap.size, 3, none⟩ = some (.slice q1.tbase q1.tasks.length q1.tcap) ∧ w'.cell? ⟨w.heap.size, 0, none⟩ = some (.slice p.vbase p.vars.length p.vcap) ∧ w'.cell? ⟨w.heap.size, 1, none⟩ = some (.slice p.cbase p.chans.length p.ccap) ∧ w'.cell? ⟨w.heap.size, 2, none⟩ = some (.slice p.nbase p.locks.length p.ncap) ∧ w'.cell? ⟨w.heap.size, 3, none⟩ = some (.slice p.tbase p.tasks.length p.tcap)) (simp [*, go_sem, World.cell?_alloc_some, World.cell?_setCell_far, apart1, apart2, apart3, apart4, apart5, apart6]) (first | (go_at_call 17; refine hto.mono ?_; rintro e w8 ⟨q2, rfl, hS2, hL28, hB8⟩; (have hz8 := hB8.size); (obtain ⟨k0, k1, k2, k3⟩ := boxP (hb7d.below hB8 (by rw [hzd]; omega))); (obtain ⟨l0, l1, l2, l3⟩ := boxP (hx7d.below hB8 (by rw [hzd]; omega))); (have heq := PX.eq q1 q2 hm1 (hS1.join hS2) _ w8 (fun b hb => hb) (hL17d.under hB8 (fun b hb => by rw [hzd]; omega)).bound hL28.bound)) | (go_at_call 19; refine heq.mono ?_; rintro e w9 ⟨rfl, hB9⟩; (obtain ⟨kk0, kk1, kk2, kk3⟩ := boxP (((hb7d.below hB8 (by rw [hzd]; omega))).below hB9 (by omega))); (obtain ⟨ll0, ll1, ll2, ll3⟩ := boxP (((hx7d.below hB8 (by rw [hzd]; omega))).below hB9 (by omega)))))
    go_wp2
    go_returns
    refine ⟨rfl, hB7'.trans ?_⟩
    exact (((Below.refl _ w7).drew).trans (hB8.mono (by rw [hzd]; omega))).trans (hB9.mono (by omega))
  · rw [subI_no (by omega)]
    go_wp2
    go_returns
    exact ⟨rfl, hB2'⟩
theorem own : ownKnob Try.prog.godebug = none := by kernel_rfl
theorem laidOut : laidOutB Try.prog = true := by kernel_rfl
set_option maxRecDepth 100000 in
theorem lifted (os : Os) (started : os.Started) (H : Type) (enc : TypeId × Value → H) :
    ReturnsInHanded {} Try.checked os 4 .any (Rows.fnExactScopeVarSpec.pre6 enc Try.prog Try.f4 Rows.fnExactScopeVarRow.domain false) (Rows.fnExactScopeVarSpec.post enc Try.prog Try.f4 false true false false) := by
  refine returnsInHanded_of_change (C := Try.checked) own started (by kernel_rfl) Try.func4
    (ChangeSpec.witness6 (enc := enc) (C := Try.checked) false ⟨#[], #[.agg #[.slice none 0 0, .slice none 0 0, .slice none 0 0, .slice none 0 0], .string ByteArray.empty], []⟩ 8 (by kernel_rfl) (by kernel_rfl) (by kernel_rfl) (by kernel_rfl)) ?_
  intro W base args ds gs before hval0 hW hcnd _
  have hval : ∀ (j : Nat) t v, Try.f4.params[j]? = some t → args[j]? = some v → Value.okWide Try.prog W .any base t v := hval0
  have hW' := hW
  obtain ⟨p, q, hA0, hV, rfl, hfz, hnd⟩ := hW
  have hA : DataW.TrodAll enc Try.prog W 0 (fun _ => true) true Try.f4.params.toList args.toList ds p := hA0
  rw [Try.params4] at hA hval
  obtain ⟨v0, vs0, d0, ds0, p0, q0, hargs, rfl, rfl, h0, r0⟩ := trodAll_cons hA
  obtain ⟨v1, vs1, d1, ds1, p1, q1, rfl, rfl, rfl, h1, r1⟩ := trodAll_cons r0
  obtain ⟨rfl, rfl, rfl⟩ := trodAll_nil r1
  obtain rfl : args = #[v0, v1] := by cases args; simp_all
  obtain ⟨rfl, rfl⟩ := trodVars_none hV
  have k0 := h0
  have lt0 : ∀ x ∈ p0, x.block < W.heap.size := by obtain ⟨m, hm⟩ := k0; exact DataW.trod_lt m _ _ _ hm
  obtain ⟨a0, e0, wd0, ly0⟩ : ∃ t : PX, v0 = t.val ∧ t.Wide ∧ PX.Lies (fun b => b < W.heap.size) W t := by
    obtain ⟨cs, rfl, _⟩ := okWide_struct Try.underlying35 (hval 0 35 v0 rfl rfl)
    obtain ⟨m, hm⟩ := h0
    obtain ⟨t, h1, h2, h3⟩ := readP m _ _ hm
    refine ⟨t, ?_, h2, h3⟩
    obtain ⟨l⟩ := cs
    have h4 : l = _ := h1
    rw [h4]
  subst e0
  have k1 := h1
  have lt1 : ∀ x ∈ p1, x.block < W.heap.size := by obtain ⟨m, hm⟩ := k1; exact DataW.trod_lt m _ _ _ hm
  obtain ⟨a1, rfl, _, _, wa1⟩ := Go.ChangeMaps.open_string Try.underlying9 (hval 1 9 v1 rfl rfl) h1
  clear hA0 hval0
  refine (walk a0 a1 W wd0 ly0 wa1).mono fun e W' ⟨he, bel⟩ => ?_
  subst he
  exact ⟨_, rfl, _, _, _, [], _, [], hW', trodAll_mk1 (shut_bool Try.underlying4 _), (trodAll_cons_mk (Below.trod laidOut (by kernel_rfl) (of_decide_eq_true (by kernel_rfl)) k0 bel lt0) (trodAll_cons_mk (Below.trod laidOut (by kernel_rfl) (of_decide_eq_true (by kernel_rfl)) k1 bel lt1) trodAll_mk0)), rfl, bel.frame _, fun h => by cases h⟩
theorem over : Rows.fnExactScopeVarRow.holds Try.pinned (OpenSpec.ofChange Rows.fnExactScopeVarSpec) :=
  OpenClaim.holds_of_wide 4 Try.f4 rfl rfl rfl rfl rfl rfl rfl ⟨rfl, rfl, rfl, rfl, rfl⟩ rfl rfl rfl rfl rfl (by kernel_rfl) Try.func4 (by kernel_rfl)
    (of_decide_eq_true (by kernel_rfl)) (by unfold Func.isWrapper; first | (rw [if_pos (by decide +kernel)]; kernel_rfl) | (rw [if_neg (by decide +kernel)]; exact ⟨rfl, rfl⟩))
    (fun os started H enc _ => lifted os started H enc)
end FnExactScopeVar
theorem scopeVar_holds : Rows.FnExactScopeVarSaid := FnExactScopeVar.over
#print axioms scopeVar_holds
end Go.Proofs.Ytgpjpeepamaibaa
