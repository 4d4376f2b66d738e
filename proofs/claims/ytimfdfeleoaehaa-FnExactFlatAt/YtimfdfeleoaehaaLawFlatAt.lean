/-
  At every code and place the program's FlatAt answers as the specification's and writes into no argument, whatever memory the call starts in.
-/
import Derived.Test.YtimfdfeleoaehaaFlatD
import Derived.Test.YtimfdfeleoaehaaRows
import Derived.ChangeMaps5
import Derived.OpenShut
import Derived.ChangeOld
import Derived.Lib.SmallJoins
namespace Go.Proofs.Ytimfdfeleoaehaa
open Go.ChangeShapes Go.WideShapes Go.ChangeAt Go.RowKit Go.Joins
set_option linter.unusedSimpArgs false
set_option linter.unusedVariables false

namespace FnExactFlatAt
open Go.Shelf
set_option maxRecDepth 10000 in
set_option maxHeartbeats 4000000 in
theorem walk (a : Option Addr) (c : Nat) (ks : List IX) (p : Int) (w : World) (hlen : ks.length ≤ maxLen) (hR : IX.Row (fun b => b < w.heap.size) w a ks) (hL : ∀ (i : Nat) (k : IX), ks[i]? = some k → WideS k.s ∧ LiesS (fun b => b < w.heap.size) w k.s) :
    Calls Try.prog 5 #[.slice a ks.length c, .int .i64 p] w fun e w' => e = .returned (.bool true) ∧ Below w.heap.size w w' := by
  have hsz := IX.szs ks a c (fun b => b < w.heap.size) w (fun b hb => hb) hR hlen hL 1048576 (by omega) (by omega)
  have hL2 : ∀ (i : Nat) (k : IX), ks[i]? = some k → LiesS (fun b => b < w.heap.size) w k.s := fun i k hk => (hL i k hk).2
  go_enter Try.func5, Try.ntmps5
  go_wp2_with fail
  go_at_call 15
  refine hsz.mono ?_
  clear hsz
  rintro e w1 ⟨rfl, hb1⟩
  by_cases hT : ks.length + sumI ks ≤ 1048576
  · rw [subI_yes (by omega)]
    have hto := copiedI (c := c) hT hR hL2
    have hsm : Hid (∀ (i : Nat) (k : IX), ks[i]? = some k → SmallS k.s) := fun i k hk => SX.small _ k.s (Nat.le_refl _) (by have := sumI_get hk; omega)
    have hO1 : Below w.heap.size w w1 := hb1
    clear hL hL2 hR
    go_wp2_with fail
    all_goals first | (exfalso; omega) | skip
    have hz1 := hb1.size
    go_at_call 17
    refine (hto _ hO1).mono ?_
    rintro e w2 ⟨us, rfl, hSu, hRu, hLu, hlu, hb2⟩
    have hz2 := hb2.size
    have hO2 : Below w.heap.size w w2 := hO1.trans (hb2.mono hO1.size)
    go_wp2_with fail
    go_at_call 19
    refine (specFlatAt us _ _ p (fun b => b < w2.heap.size) w2 (fun b hb => hb) hRu hlu hLu).mono ?_
    rintro e w3 ⟨hr1, hb3⟩
    obtain ⟨r1, rfl, hr1'⟩ := hr1
    have hv1 : RetAt ks ks.length p (.returned (.int .i64 r1)) := by
      have h := retAt_alike hSu hsm.out us.length p (.returned (.int .i64 r1)) ⟨r1, rfl, hr1'⟩
      rw [hSu.1] at h
      exact h
    replace hv1 : Hid (RetAt ks ks.length p (.returned (.int .i64 r1))) := hv1
    clear hr1' 
    have hz3 := hb3.size
    have hO3 : Below w.heap.size w w3 := hO2.trans (hb3.mono hO2.size)
    clear hRu hLu hSu
    go_wp2_with fail
    go_at_call 17
    refine (hto _ hO3).mono ?_
    rintro e w4 ⟨xs, rfl, hSx, hRx, hLx, hlx, hb4⟩
    have hz4 := hb4.size
    have hO4 : Below w.heap.size w w4 := hO3.trans (hb4.mono hO3.size)
    have hM4 : InMem w4 (some ⟨w3.heap.size, 0, none⟩) xs := ⟨hRx, hLx⟩
    go_wp2_with fail
    go_at_call 20
    refine (implFlatAt xs _ _ p (fun b => b < w4.heap.size) w4 (fun b hb => hb) hRx hlx hLx).mono ?_
    rintro e w5 ⟨hr2, hb5⟩
    obtain ⟨r2, rfl, hr2'⟩ := hr2
    have hv2 : RetAt ks ks.length p (.returned (.int .i64 r2)) := by
      have h := retAt_alike hSx hsm.out xs.length p (.returned (.int .i64 r2)) ⟨r2, rfl, hr2'⟩
      rw [hSx.1] at h
      exact h
    clear hr2'
    obtain rfl : r1 = r2 := hv1.out.one hv2
    clear hv2
    have hz5 := hb5.size
    have hO5 : Below w.heap.size w w5 := hO4.trans (hb5.mono hO4.size)
    have hM5 := hM4.on hb5
    clear hRx hLx
    go_wp2_with fail
    all_goals first | (exfalso; omega) | skip
    go_at_call 17
    refine (hto _ hO5).mono ?_
    rintro e w6 ⟨ys, rfl, hSy, hRy, hLy, hly, hb6⟩
    have hz6 := hb6.size
    have hO6 : Below w.heap.size w w6 := hO5.trans (hb6.mono hO5.size)
    have hM6 := hM5.on hb6
    go_wp2_with fail
    go_at_call 10
    refine (equalI hM6.row hRy hlx hM6.kid hLy (hSx.join hSy)).mono ?_
    rintro e w7 ⟨rfl, hb7⟩
    have hO7 : Below w.heap.size w w7 := hO6.trans (hb7.mono hO6.size)
    go_wp2_with fail
    go_returns
    exact ⟨rfl, hO7⟩
  · rw [subI_no (by omega)]
    go_wp2
    go_returns
    exact ⟨rfl, hb1⟩
theorem own : ownKnob Try.prog.godebug = none := by kernel_rfl
theorem laidOut : laidOutB Try.prog = true := by kernel_rfl
set_option maxRecDepth 100000 in
theorem lifted (os : Os) (started : os.Started) (H : Type) (enc : TypeId × Value → H) :
    ReturnsInHanded {} Try.checked os 5 .any (Rows.fnExactFlatAtSpec.pre6 enc Try.prog Try.f5 Rows.fnExactFlatAtRow.domain false) (Rows.fnExactFlatAtSpec.post enc Try.prog Try.f5 false true false false) := by
  refine returnsInHanded_of_change (C := Try.checked) own started (by kernel_rfl) Try.func5
    (ChangeSpec.witness6 (enc := enc) (C := Try.checked) false ⟨#[], #[.slice none 0 0, .int .i64 0], []⟩ 8 (by kernel_rfl) (by kernel_rfl) (by kernel_rfl) (by kernel_rfl)) ?_
  intro W base args ds gs before hval0 hW hcnd _
  have hval : ∀ (j : Nat) t v, Try.f5.params[j]? = some t → args[j]? = some v → Value.okWide Try.prog W .any base t v := hval0
  have hW' := hW
  obtain ⟨p, q, hA0, hV, rfl, hfz, hnd⟩ := hW
  have hA : DataW.TrodAll enc Try.prog W 0 (fun _ => true) true Try.f5.params.toList args.toList ds p := hA0
  rw [Try.params5] at hA hval
  obtain ⟨v0, vs0, d0, ds0, p0, q0, hargs, rfl, rfl, h0, r0⟩ := trodAll_cons hA
  obtain ⟨v1, vs1, d1, ds1, p1, q1, rfl, rfl, rfl, h1, r1⟩ := trodAll_cons r0
  obtain ⟨rfl, rfl, rfl⟩ := trodAll_nil r1
  obtain rfl : args = #[v0, v1] := by cases args; simp_all
  obtain ⟨rfl, rfl⟩ := trodVars_none hV
  have k0 := h0
  have lt0 : ∀ x ∈ p0, x.block < W.heap.size := by obtain ⟨m, hm⟩ := k0; exact DataW.trod_lt m _ _ _ hm
  obtain ⟨b0, len0, bap0, rfl⟩ := okWide_slice Try.underlying33 (hval 0 33 v0 rfl rfl)
  obtain ⟨a0, cap0, ks0, e0, wl0, wr0, wk0⟩ : ∃ (a : Option Addr) (cap : Nat) (ks : List IX), Value.slice b0 len0 bap0 = .slice a ks.length cap ∧ ks.length ≤ maxLen ∧ IX.Row (fun b => b < W.heap.size) W a ks ∧ ∀ (i : Nat) (k : IX), ks[i]? = some k → WideS k.s ∧ LiesS (fun b => b < W.heap.size) W k.s := by
    obtain ⟨m, hm⟩ := h0
    exact readsI m _ _ hm
  cases e0
  have k1 := h1
  have lt1 : ∀ x ∈ p1, x.block < W.heap.size := by obtain ⟨m, hm⟩ := k1; exact DataW.trod_lt m _ _ _ hm
  obtain ⟨a1, rfl, wa1⟩ : ∃ a : Int, v1 = .int .i64 a ∧ (Lit.int .i64 a).wf = true := by
    obtain ⟨a, rfl, _, _, wa⟩ := open_int Try.underlying3 (hval 1 3 v1 rfl rfl) h1
    exact ⟨a, rfl, wa⟩
  clear hA0 hval0
  refine (walk b0 bap0 ks0 a1 W wl0 wr0 wk0).mono fun e W' ⟨he, bel⟩ => ?_
  subst he
  exact ⟨_, rfl, _, _, _, [], _, [], hW', trodAll_mk1 (shut_bool Try.underlying4 _), (trodAll_cons_mk (Below.trod laidOut (by kernel_rfl) (of_decide_eq_true (by kernel_rfl)) k0 bel lt0) (trodAll_cons_mk (Below.trod laidOut (by kernel_rfl) (of_decide_eq_true (by kernel_rfl)) k1 bel lt1) trodAll_mk0)), rfl, bel.frame _, fun h => by cases h⟩
theorem over : Rows.fnExactFlatAtRow.holds Try.pinned (OpenSpec.ofChange Rows.fnExactFlatAtSpec) :=
  OpenClaim.holds_of_wide 5 Try.f5 rfl rfl rfl rfl rfl rfl rfl ⟨rfl, rfl, rfl, rfl, rfl⟩ rfl rfl rfl rfl rfl (by kernel_rfl) Try.func5 (by kernel_rfl)
    (of_decide_eq_true (by kernel_rfl)) (by unfold Func.isWrapper; first | (rw [if_pos (by decide +kernel)]; kernel_rfl) | (rw [if_neg (by decide +kernel)]; exact ⟨rfl, rfl⟩))
    (fun os started H enc _ => lifted os started H enc)
end FnExactFlatAt
theorem flatAt_holds : Rows.FnExactFlatAtSaid := FnExactFlatAt.over
#print axioms flatAt_holds
end Go.Proofs.Ytimfdfeleoaehaa
