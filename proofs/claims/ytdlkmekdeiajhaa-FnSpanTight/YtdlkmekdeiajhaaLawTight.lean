/-
  For every slice of bytes: both ends of the range that is reckoned with the two drawn ranges are reckoned with some of their ends, as the law's Go text says; no condition.
-/
import Derived.Test.YtdlkmekdeiajhaaKitE
import Derived.Test.YtdlkmekdeiajhaaSpanF
import Derived.Deep.DeepCutAuto
import Derived.LoopTactic
import Derived.OpenShut
import Derived.ChangeOld
import Derived.Lib.SmallJoins
namespace Go.Proofs.Ytdlkmekdeiajhaa
open Go.ChangeShapes Go.WideShapes Go.ChangeAt Go.RowKit Go.Joins
set_option linter.unusedSimpArgs false
set_option linter.unusedVariables false


namespace FnSpanTight
theorem fourIs (p q r s : Int) : (fourLo p q r s = p ∨ fourLo p q r s = q ∨ fourLo p q r s = r ∨ fourLo p q r s = s) ∧ (fourHi p q r s = p ∨ fourHi p q r s = q ∨ fourHi p q r s = r ∨ fourHi p q r s = s) := by
  unfold fourLo fourHi mnI mxI
  constructor <;> omega
def xs (a b c d : Int) (i : Nat) : Int := if i = 0 then wrap64 (a * c) else if i = 1 then wrap64 (a * d) else if i = 2 then wrap64 (b * c) else wrap64 (b * d)
def Ends (z p q r s : Int) : Prop := z = p ∨ z = q ∨ z = r ∨ z = s
theorem tightMul (a b c d : Int) : ∃ (P : Bool) (u1 u2 : Int), Hid (∀ w : World, Calls Try.prog 11 #[.agg #[.int .i64 a, .int .i64 b], .agg #[.int .i64 c, .int .i64 d]] w fun e w' => e = .returned (.tuple #[.agg #[.int .i64 u1, .int .i64 u2], .bool P]) ∧ Below w.heap.size w w') ∧ Hid (∀ w : World, Calls Try.prog 13 #[.agg #[.int .i64 a, .int .i64 b], .agg #[.int .i64 c, .int .i64 d]] w fun e w' => e = .returned (.tuple #[.agg #[.int .i64 u1, .int .i64 u2], .bool P]) ∧ Below w.heap.size w w') ∧ Hid (P = true → Ends u1 (wrap64 (a * c)) (wrap64 (a * d)) (wrap64 (b * c)) (wrap64 (b * d)) ∧ Ends u2 (wrap64 (a * c)) (wrap64 (a * d)) (wrap64 (b * c)) (wrap64 (b * d))) := by
  refine ⟨_, _, _, fun w => implMul a b c d w, fun w => specMul a b c d w, fun h => ?_⟩
  rw [h]
  exact fourIs _ _ _ _
theorem tightAdd (a b c d : Int) : ∃ (P : Bool) (u1 u2 : Int), Hid (∀ w : World, Calls Try.prog 9 #[.agg #[.int .i64 a, .int .i64 b], .agg #[.int .i64 c, .int .i64 d]] w fun e w' => e = .returned (.tuple #[.agg #[.int .i64 u1, .int .i64 u2], .bool P]) ∧ Below w.heap.size w w') ∧ Hid (P = true → u1 = wrap64 (a + c) ∧ u2 = wrap64 (b + d)) := by
  refine ⟨_, _, _, fun w => implAdd a b c d w, fun h => ?_⟩
  rw [h]
  exact ⟨rfl, rfl⟩
theorem tightSub (a b c d : Int) : ∃ (P : Bool) (u1 u2 : Int), Hid (∀ w : World, Calls Try.prog 10 #[.agg #[.int .i64 a, .int .i64 b], .agg #[.int .i64 c, .int .i64 d]] w fun e w' => e = .returned (.tuple #[.agg #[.int .i64 u1, .int .i64 u2], .bool P]) ∧ Below w.heap.size w w') ∧ Hid (P = true → u1 = wrap64 (a - d) ∧ u2 = wrap64 (b - c)) := by
  refine ⟨_, _, _, fun w => implSub a b c d w, fun h => ?_⟩
  rw [h]
  exact ⟨rfl, rfl⟩
theorem early (s0 : Option Addr) (len0 cap0 : Nat) (w : World) (h : 1048576 < len0) :
    Calls Try.prog 6 #[.slice s0 len0 cap0] w fun e w' => e = .returned (.bool true) ∧ Below w.heap.size w w' := by
  have d0 : decide ((1048576 : Int) < (len0 : Int)) = true := by simp; omega
  go_enter Try.func6, Try.ntmps6
  go_wp2
  first | go_returns | (refine bodyPost_ret (by simp [results, Try.results6, go_sem, *]; try rfl) rfl ?_)
  exact ⟨rfl, Below.refl _ _⟩
set_option maxRecDepth 10000 in
set_option maxHeartbeats 4000000 in
theorem main (s0 : Option Addr) (len0 cap0 : Nat) (w : World) (r0 : Row w.heap.size w s0 len0) (c0 : len0 ≤ cap0) (m0 : cap0 ≤ maxLen) (h0 : len0 ≤ 1048576) :
    Calls Try.prog 6 #[.slice s0 len0 cap0] w fun e w' => e = .returned (.bool true) ∧ Below w.heap.size w w' := by
  have R0 : Hid (Row w.heap.size w s0 len0) := r0
  clear r0
  have d0 : decide ((1048576 : Int) < (len0 : Int)) = false := by simp; omega
  go_enter Try.func6, Try.ntmps6
  go_wp2_with fail
  go_at_call 8
  refine (drawSpanMul s0 len0 cap0 w R0.out c0 m0).mono ?_
  rintro e w1 ⟨a, b, c, d, rfl, ha0, ha1, hb0, hb1, hc0, hc1, hd0, hd1, hB1⟩
  have hA := (Box.new w1 a b 24).alloc (.cells #[.int .i64 (c), .int .i64 (d)] 24)
  have hD := Box.new (w1.alloc (.cells #[.int .i64 (a), .int .i64 (b)] 24)) c d 24
  simp only [World.size_alloc] at hD
  have hBl : Below w.heap.size w ((w1.alloc (.cells #[.int .i64 (a), .int .i64 (b)] 24)).alloc (.cells #[.int .i64 (c), .int .i64 (d)] 24)) := balloc (balloc hB1 _) _
  clear hB1
  have hA0 := hA.c0; have hA1 := hA.c1; have hAz := hA.lt; have hD0 := hD.c0; have hD1 := hD.c1; have hDz := hD.lt
  obtain ⟨P1, u1, u2, H1, H1', K1⟩ := tightMul a b c d
  obtain ⟨P2, u3, u4, H2, K2⟩ := tightAdd a b c d
  obtain ⟨P3, u5, u6, H3, K3⟩ := tightSub a b c d
  go_wp2_with fail
  go_at_call 11
  refine (H1.out _).mono ?_
  rintro e w2 ⟨rfl, hB2⟩
  replace hA := hA.via (by go_grown) hB2; replace hA0 := hA.c0; replace hA1 := hA.c1; replace hAz := hA.lt; replace hD := hD.via (by go_grown) hB2; replace hD0 := hD.c0; replace hD1 := hD.c1; replace hDz := hD.lt; replace hBl := bvia hBl (by go_grown) hB2
  clear hB2
  go_wp2_with fail
  go_at_call 13
  refine (H1'.out _).mono ?_
  rintro e w3 ⟨rfl, hB3⟩
  have hM := (Box.new w2 u1 u2 24).below hB3
  have hM0 := hM.c0; have hM1 := hM.c1; have hMz := hM.lt
  replace hA := hA.via (by go_grown) hB3; replace hA0 := hA.c0; replace hA1 := hA.c1; replace hAz := hA.lt; replace hD := hD.via (by go_grown) hB3; replace hD0 := hD.c0; replace hD1 := hD.c1; replace hDz := hD.lt; replace hBl := bvia hBl (by go_grown) hB3
  clear hB3
  go_wp2_with fail
  go_at_call 9
  refine (H2.out _).mono ?_
  rintro e w4 ⟨rfl, hB4⟩
  replace hA := hA.via (by go_grown) hB4; replace hA0 := hA.c0; replace hA1 := hA.c1; replace hAz := hA.lt; replace hD := hD.via (by go_grown) hB4; replace hD0 := hD.c0; replace hD1 := hD.c1; replace hDz := hD.lt; replace hM := hM.via (by go_grown) hB4; replace hM0 := hM.c0; replace hM1 := hM.c1; replace hMz := hM.lt; replace hBl := bvia hBl (by go_grown) hB4
  clear hB4
  go_wp2_with fail
  go_at_call 10
  refine (H3.out _).mono ?_
  rintro e w5 ⟨rfl, hB5⟩
  have hS := (Box.new w4 u3 u4 24).below hB5
  have hS0 := hS.c0; have hS1 := hS.c1; have hSz := hS.lt
  replace hA := hA.via (by go_grown) hB5; replace hA0 := hA.c0; replace hA1 := hA.c1; replace hAz := hA.lt; replace hD := hD.via (by go_grown) hB5; replace hD0 := hD.c0; replace hD1 := hD.c1; replace hDz := hD.lt; replace hM := hM.via (by go_grown) hB5; replace hM0 := hM.c0; replace hM1 := hM.c1; replace hMz := hM.lt; replace hBl := bvia hBl (by go_grown) hB5
  clear hB5
  have hT := Box.new w5 u5 u6 24
  have hT0 := hT.c0; have hT1 := hT.c1; have hTz := hT.lt
  replace hA := hA.alloc (.cells #[.int .i64 (u5), .int .i64 (u6)] 24); replace hA0 := hA.c0; replace hA1 := hA.c1; replace hAz := hA.lt; replace hD := hD.alloc (.cells #[.int .i64 (u5), .int .i64 (u6)] 24); replace hD0 := hD.c0; replace hD1 := hD.c1; replace hDz := hD.lt; replace hM := hM.alloc (.cells #[.int .i64 (u5), .int .i64 (u6)] 24); replace hM0 := hM.c0; replace hM1 := hM.c1; replace hMz := hM.lt; replace hS := hS.alloc (.cells #[.int .i64 (u5), .int .i64 (u6)] 24); replace hS0 := hS.c0; replace hS1 := hS.c1; replace hSz := hS.lt; replace hBl := balloc hBl (.cells #[.int .i64 (u5), .int .i64 (u6)] 24)
  go_wp2_with fail
  replace hA := hA.alloc (.cells #[.int .i64 (wrap64 (a * c)), .int .i64 (wrap64 (a * d)), .int .i64 (wrap64 (b * c)), .int .i64 (wrap64 (b * d))] 3); replace hA0 := hA.c0; replace hA1 := hA.c1; replace hAz := hA.lt; replace hD := hD.alloc (.cells #[.int .i64 (wrap64 (a * c)), .int .i64 (wrap64 (a * d)), .int .i64 (wrap64 (b * c)), .int .i64 (wrap64 (b * d))] 3); replace hD0 := hD.c0; replace hD1 := hD.c1; replace hDz := hD.lt; replace hM := hM.alloc (.cells #[.int .i64 (wrap64 (a * c)), .int .i64 (wrap64 (a * d)), .int .i64 (wrap64 (b * c)), .int .i64 (wrap64 (b * d))] 3); replace hM0 := hM.c0; replace hM1 := hM.c1; replace hMz := hM.lt; replace hS := hS.alloc (.cells #[.int .i64 (wrap64 (a * c)), .int .i64 (wrap64 (a * d)), .int .i64 (wrap64 (b * c)), .int .i64 (wrap64 (b * d))] 3); replace hS0 := hS.c0; replace hS1 := hS.c1; replace hSz := hS.lt; replace hT := hT.alloc (.cells #[.int .i64 (wrap64 (a * c)), .int .i64 (wrap64 (a * d)), .int .i64 (wrap64 (b * c)), .int .i64 (wrap64 (b * d))] 3); replace hT0 := hT.c0; replace hT1 := hT.c1; replace hTz := hT.lt; replace hBl := balloc hBl (.cells #[.int .i64 (wrap64 (a * c)), .int .i64 (wrap64 (a * d)), .int .i64 (wrap64 (b * c)), .int .i64 (wrap64 (b * d))] 3)
  have hL : Hid (∀ i, i < 4 → (((w5.alloc (.cells #[.int .i64 (u5), .int .i64 (u6)] 24)).alloc (.cells #[.int .i64 (wrap64 (a * c)), .int .i64 (wrap64 (a * d)), .int .i64 (wrap64 (b * c)), .int .i64 (wrap64 (b * d))] 3)).cell? ⟨w5.heap.size + 1, i, none⟩ = some (.int .i64 (xs a b c d i)))) := fun i hi => by
    have h : i = 0 ∨ i = 1 ∨ i = 2 ∨ i = 3 := by omega
    rcases h with rfl | rfl | rfl | rfl <;> simp [go_sem, xs]
  have E2 : Hid (P2 = true → (u3 == a + c) = true ∧ (u4 == b + d) = true) := fun h => by
    obtain ⟨e1, e2⟩ := K2.out h
    rw [e1, e2]; unfold wrap64
    constructor <;> simp <;> omega
  have E3 : Hid (P3 = true → (u5 == a - d) = true ∧ (u6 == b - c) = true) := fun h => by
    obtain ⟨e1, e2⟩ := K3.out h
    rw [e1, e2]; unfold wrap64
    constructor <;> simp <;> omega
  go_loopw [14, 15, 16] (fun vl vh vi wr => ∃ (k : Nat) (lo hi : Bool), k ≤ 4 ∧ vi = .int .i64 k ∧ vl = .bool lo ∧ vh = .bool hi ∧ Hid (∀ j, j < k → u1 = xs a b c d j → lo = true) ∧ Hid (∀ j, j < k → u2 = xs a b c d j → hi = true) ∧ Box w1.heap.size a b wr ∧ Box (w1.heap.size + 1) c d wr ∧ Box w2.heap.size u1 u2 wr ∧ Box w4.heap.size u3 u4 wr ∧ Box w5.heap.size u5 u6 wr ∧ Below w.heap.size w wr ∧ Hid (∀ i, i < 4 → wr.cell? ⟨w5.heap.size + 1, i, none⟩ = some (.int .i64 (xs a b c d i)))) (fun _ _ vi _ => 4 - (intOf vi).toNat)
  case atStart => exact ⟨0, false, false, by omega, rfl, rfl, rfl, fun j hj => by omega, fun j hj => by omega, hA, hD, hM, hS, hT, hBl, hL⟩
  case round =>
    clear hA hD hM hS hT hBl hL hA0 hA1 hAz hD0 hD1 hDz hM0 hM1 hMz hS0 hS1 hSz hT0 hT1 hTz
    obtain ⟨k, lo, hi, hk, rfl, rfl, rfl, L1, L2, hA, hD, hM, hS, hT, hBl, hL⟩ := hrel
    have hA0 := hA.c0; have hA1 := hA.c1; have hAz := hA.lt; have hD0 := hD.c0; have hD1 := hD.c1; have hDz := hD.lt; have hM0 := hM.c0; have hM1 := hM.c1; have hMz := hM.lt; have hS0 := hS.c0; have hS1 := hS.c1; have hSz := hS.lt; have hT0 := hT.c0; have hT1 := hT.c1; have hTz := hT.lt
    cases P1
    · by_cases hlt : k < 4
      · have hkI : (k : Int) < 4 := by omega
        cases P2 <;> cases P3
        all_goals
          (try obtain ⟨hu3, hu4⟩ := E2.out rfl)
          (try obtain ⟨hu5, hu6⟩ := E3.out rfl)
          go_wp2_with fail
          all_goals
            first | go_returns | (refine bodyPost_ret (by simp [results, Try.results6, go_sem, *]; try rfl) rfl ?_)
            refine ⟨ret_bool (by first | rfl | (simp; done)), hBl⟩
      · have hkI : ¬ (k : Int) < 4 := by omega
        cases P2 <;> cases P3
        all_goals
          (try obtain ⟨hu3, hu4⟩ := E2.out rfl)
          (try obtain ⟨hu5, hu6⟩ := E3.out rfl)
          go_wp2_with fail
          all_goals
            first | go_returns | (refine bodyPost_ret (by simp [results, Try.results6, go_sem, *]; try rfl) rfl ?_)
            refine ⟨ret_bool (by first | rfl | (simp; done)), hBl⟩
    · by_cases hlt : k < 4
      · have hkI : (k : Int) < 4 := by omega
        have hcell := hL.out k hlt
        cases lo <;> cases hi
        all_goals
          go_wp2_with fail
          go_quiet (fail)
          go_wp2_with fail
          go_quiet (fail)
          go_wp2_with fail
          go_roundw
          case rel =>
            refine ⟨k + 1, _, _, by omega, by go_num, rfl, rfl, fun j hj h => ?_, fun j hj h => ?_, hA.below (below_drewN (Below.refl _ _) _), hD.below (below_drewN (Below.refl _ _) _), hM.below (below_drewN (Below.refl _ _) _), hS.below (below_drewN (Below.refl _ _) _), hT.below (below_drewN (Below.refl _ _) _), bstep hBl (below_drewN (Below.refl _ _) _), fun i hi => cell_later (below_drewN (Below.refl _ _) _) (hL.out i hi)⟩
            · rcases Nat.lt_or_eq_of_le (Nat.le_of_lt_succ hj) with hj' | rfl
              · first | rfl | (have := L1.out j hj' h; cases this)
              · first | rfl | simp [h]
            · rcases Nat.lt_or_eq_of_le (Nat.le_of_lt_succ hj) with hj' | rfl
              · first | rfl | (have := L2.out j hj' h; cases this)
              · first | rfl | simp [h]
          case measure => simp [intOf]; omega
      · have hkI : ¬ (k : Int) < 4 := by omega
        have hk4 : k = 4 := by omega
        obtain ⟨x1, x2⟩ := K1.out rfl
        have hlo : lo = true := by
          subst hk4
          rcases x1 with h | h | h | h
          · exact L1.out 0 (by omega) (by simpa [xs] using h)
          · exact L1.out 1 (by omega) (by simpa [xs] using h)
          · exact L1.out 2 (by omega) (by simpa [xs] using h)
          · exact L1.out 3 (by omega) (by simpa [xs] using h)
        have hhi : hi = true := by
          subst hk4
          rcases x2 with h | h | h | h
          · exact L2.out 0 (by omega) (by simpa [xs] using h)
          · exact L2.out 1 (by omega) (by simpa [xs] using h)
          · exact L2.out 2 (by omega) (by simpa [xs] using h)
          · exact L2.out 3 (by omega) (by simpa [xs] using h)
        clear x1 x2 hk4
        subst hlo hhi
        cases P2 <;> cases P3
        all_goals
          (try obtain ⟨hu3, hu4⟩ := E2.out rfl)
          (try obtain ⟨hu5, hu6⟩ := E3.out rfl)
          go_wp2_with fail
          all_goals
            first | go_returns | (refine bodyPost_ret (by simp [results, Try.results6, go_sem, *]; try rfl) rfl ?_)
            refine ⟨ret_bool (by first | rfl | (simp; done)), hBl⟩
theorem walk (s0 : Option Addr) (len0 cap0 : Nat) (w : World) (r0 : Row w.heap.size w s0 len0) (c0 : len0 ≤ cap0) (m0 : cap0 ≤ maxLen) :
    Calls Try.prog 6 #[.slice s0 len0 cap0] w fun e w' => e = .returned (.bool true) ∧ Below w.heap.size w w' := by
  by_cases h : 1048576 < len0
  · exact early s0 len0 cap0 w h
  · exact main s0 len0 cap0 w r0 c0 m0 (by omega)
theorem own : ownKnob Try.prog.godebug = none := by kernel_rfl
theorem laidOut : laidOutB Try.prog = true := by kernel_rfl
set_option maxRecDepth 100000 in
theorem lifted (os : Os) (started : os.Started) (H : Type) (enc : TypeId × Value → H) :
    ReturnsInHanded {} Try.checked os 6 .any (Rows.fnSpanTightSpec.pre6 enc Try.prog Try.f6 Rows.fnSpanTightRow.domain false) (Rows.fnSpanTightSpec.post enc Try.prog Try.f6 false true false false) := by
  refine returnsInHanded_of_change (C := Try.checked) own started (by kernel_rfl) Try.func6
    (ChangeSpec.witness6 (enc := enc) (C := Try.checked) false ⟨#[], #[.slice none 0 0], []⟩ 8 (by kernel_rfl) (by kernel_rfl) (by kernel_rfl) (by kernel_rfl)) ?_
  intro W base args ds gs before hval0 hW hcnd _
  have hval : ∀ (j : Nat) t v, Try.f6.params[j]? = some t → args[j]? = some v → Value.okWide Try.prog W .any base t v := hval0
  have hW' := hW
  obtain ⟨p, q, hA0, hV, rfl, hfz, hnd⟩ := hW
  have hA : DataW.TrodAll enc Try.prog W 0 (fun _ => true) true Try.f6.params.toList args.toList ds p := hA0
  rw [Try.params6] at hA hval
  obtain ⟨v0, vs0, d0, ds0, p0, q0, hargs, rfl, rfl, h0, r0⟩ := trodAll_cons hA
  obtain ⟨rfl, rfl, rfl⟩ := trodAll_nil r0
  obtain rfl : args = #[v0] := by cases args; simp_all
  obtain ⟨rfl, rfl⟩ := trodVars_none hV
  have k0 := h0
  have lt0 : ∀ x ∈ p0, x.block < W.heap.size := by obtain ⟨m, hm⟩ := k0; exact DataW.trod_lt m _ _ _ hm
  obtain ⟨a0, len0, cap0, rfl⟩ := okWide_slice Try.underlying22 (hval 0 22 v0 rfl rfl)
  have w0 := rowOf (elemT := 5) Try.underlying22 Try.underlying5 (by kernel_rfl) h0
  clear hA0 hval0
  refine (walk a0 len0 cap0 W w0.1 w0.2.1 w0.2.2).mono fun e W' ⟨he, bel⟩ => ?_
  subst he
  exact ⟨_, rfl, _, _, _, [], _, [], hW', trodAll_mk1 (shut_bool Try.underlying4 _), (trodAll_cons_mk (Below.trod laidOut (by kernel_rfl) (of_decide_eq_true (by kernel_rfl)) k0 bel lt0) trodAll_mk0), rfl, bel.frame _, fun h => by cases h⟩
theorem over : Rows.fnSpanTightRow.holds Try.pinned (OpenSpec.ofChange Rows.fnSpanTightSpec) :=
  OpenClaim.holds_of_wide 6 Try.f6 rfl rfl rfl rfl rfl rfl rfl ⟨rfl, rfl, rfl, rfl, rfl⟩ rfl rfl rfl rfl rfl (by kernel_rfl) Try.func6 (by kernel_rfl)
    (of_decide_eq_true (by kernel_rfl)) (by unfold Func.isWrapper; first | (rw [if_pos (by decide +kernel)]; kernel_rfl) | (rw [if_neg (by decide +kernel)]; exact ⟨rfl, rfl⟩))
    (fun os started H enc _ => lifted os started H enc)
end FnSpanTight
theorem lawSpanTight_holds : Rows.FnSpanTightSaid := FnSpanTight.over
#print axioms lawSpanTight_holds
end Go.Proofs.Ytdlkmekdeiajhaa
