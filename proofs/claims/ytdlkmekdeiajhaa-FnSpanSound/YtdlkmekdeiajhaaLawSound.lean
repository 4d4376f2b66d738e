/-
  For every two slices of bytes: what is reckoned with any numbers of the two drawn ranges is in the range that is reckoned with them, if one is told, and where none is told some of it is too great or divides by nought, as the law's Go text says; no condition.
-/
import Derived.Test.YtdlkmekdeiajhaaKitE
import Derived.Test.YtdlkmekdeiajhaaSpanG
import Derived.Deep.DeepCutAuto
import Derived.Deep.RegionWith
import Derived.LoopTactic
import Derived.OpenShut
import Derived.ChangeOld
import Derived.Lib.SmallJoins
namespace Go.Proofs.Ytdlkmekdeiajhaa
open Go.ChangeShapes Go.WideShapes Go.ChangeAt Go.RowKit Go.Joins
set_option linter.unusedSimpArgs false
set_option linter.unusedVariables false


theorem has_of (lo hi x : Int) (h1 : lo ≤ x) (h2 : x ≤ hi) : hasB lo hi x = true := (hasB_iff lo hi x).2 ⟨h1, h2⟩
theorem soundAdd (a b c d : Int) : ∃ (P : Bool) (z1 z2 : Int), Hid (∀ w : World, Calls Try.prog 9 #[.agg #[.int .i64 a, .int .i64 b], .agg #[.int .i64 c, .int .i64 d]] w fun e w' => e = .returned (.tuple #[.agg #[.int .i64 z1, .int .i64 z2], .bool P]) ∧ Below w.heap.size w w') ∧
    Hid ((okB a b && okB c d) = false → P = false) ∧ Hid ((okB a b && okB c d) = true → P = (decide (-1000000 ≤ a + c) && decide (b + d ≤ 1000000)) ∧ (P = true → okB z1 z2 = true ∧ ∀ m n, a ≤ m → m ≤ b → c ≤ n → n ≤ d → hasB z1 z2 (m + n) = true)) := by
  refine ⟨_, _, _, fun w => implAdd a b c d w, fun h => by rw [h]; rfl, fun h => ?_⟩
  have h1 : okB a b = true := by cases e : okB a b <;> simp_all
  have h2 : okB c d = true := by cases e : okB c d <;> simp_all
  have j1 := (okB_iff _ _).1 h1
  have j2 := (okB_iff _ _).1 h2
  have e1 : wrap64 (a + c) = a + c := wrap_small _ (by omega) (by omega)
  have e2 : wrap64 (b + d) = b + d := wrap_small _ (by omega) (by omega)
  rw [h, e1, e2]
  refine ⟨?_, fun hP => ?_⟩
  · simp only [Bool.true_and, okB]; rw [Bool.eq_iff_iff]; simp; omega
  · simp only [Bool.true_and] at hP ⊢
    rw [hP]
    exact ⟨hP, fun m n k1 k2 k3 k4 => has_of _ _ _ (show a + c ≤ m + n by omega) (show m + n ≤ b + d by omega)⟩
theorem soundSub (a b c d : Int) : ∃ (P : Bool) (z1 z2 : Int), Hid (∀ w : World, Calls Try.prog 10 #[.agg #[.int .i64 a, .int .i64 b], .agg #[.int .i64 c, .int .i64 d]] w fun e w' => e = .returned (.tuple #[.agg #[.int .i64 z1, .int .i64 z2], .bool P]) ∧ Below w.heap.size w w') ∧
    Hid ((okB a b && okB c d) = false → P = false) ∧ Hid ((okB a b && okB c d) = true → (P = true → okB z1 z2 = true ∧ ∀ m n, a ≤ m → m ≤ b → c ≤ n → n ≤ d → hasB z1 z2 (m - n) = true)) := by
  refine ⟨_, _, _, fun w => implSub a b c d w, fun h => by rw [h]; rfl, fun h => ?_⟩
  have h1 : okB a b = true := by cases e : okB a b <;> simp_all
  have h2 : okB c d = true := by cases e : okB c d <;> simp_all
  have j1 := (okB_iff _ _).1 h1
  have j2 := (okB_iff _ _).1 h2
  have e1 : wrap64 (a - d) = a - d := wrap_small _ (by omega) (by omega)
  have e2 : wrap64 (b - c) = b - c := wrap_small _ (by omega) (by omega)
  rw [h, e1, e2]
  intro hP
  simp only [Bool.true_and] at hP ⊢
  rw [hP]
  exact ⟨hP, fun m n k1 k2 k3 k4 => has_of _ _ _ (show a - d ≤ m - n by omega) (show m - n ≤ b - c by omega)⟩
theorem soundMul (a b c d : Int) : ∃ (P : Bool) (z1 z2 : Int), Hid (∀ w : World, Calls Try.prog 11 #[.agg #[.int .i64 a, .int .i64 b], .agg #[.int .i64 c, .int .i64 d]] w fun e w' => e = .returned (.tuple #[.agg #[.int .i64 z1, .int .i64 z2], .bool P]) ∧ Below w.heap.size w w') ∧ Hid (∀ w : World, Calls Try.prog 13 #[.agg #[.int .i64 a, .int .i64 b], .agg #[.int .i64 c, .int .i64 d]] w fun e w' => e = .returned (.tuple #[.agg #[.int .i64 z1, .int .i64 z2], .bool P]) ∧ Below w.heap.size w w') ∧
    Hid ((okB a b && okB c d) = false → P = false) ∧ Hid ((okB a b && okB c d) = true → (P = true → okB z1 z2 = true ∧ ∀ m n, a ≤ m → m ≤ b → c ≤ n → n ≤ d → hasB z1 z2 (m * n) = true)) := by
  refine ⟨_, _, _, fun w => implMul a b c d w, fun w => specMul a b c d w, fun h => by rw [h]; rfl, fun h => ?_⟩
  have h1 : okB a b = true := by cases e : okB a b <;> simp_all
  have h2 : okB c d = true := by cases e : okB c d <;> simp_all
  rw [h]
  intro hP
  simp only [Bool.true_and] at hP ⊢
  rw [hP]
  exact ⟨hP, fun m n k1 k2 k3 k4 => has_of _ _ _ (mul_in a b c d m n h1 h2 k1 k2 k3 k4).1 (mul_in a b c d m n h1 h2 k1 k2 k3 k4).2⟩
theorem soundDiv (a b c d : Int) : ∃ (P : Bool) (z1 z2 : Int), Hid (∀ w : World, Calls Try.prog 12 #[.agg #[.int .i64 a, .int .i64 b], .agg #[.int .i64 c, .int .i64 d]] w fun e w' => e = .returned (.tuple #[.agg #[.int .i64 z1, .int .i64 z2], .bool P]) ∧ Below w.heap.size w w') ∧ Hid (∀ w : World, Calls Try.prog 14 #[.agg #[.int .i64 a, .int .i64 b], .agg #[.int .i64 c, .int .i64 d]] w fun e w' => e = .returned (.tuple #[.agg #[.int .i64 z1, .int .i64 z2], .bool P]) ∧ Below w.heap.size w w') ∧
    Hid ((okB a b && okB c d) = false → P = false) ∧ Hid ((okB a b && okB c d) = true → P = (!hasB c d 0) ∧ (P = true → okB z1 z2 = true ∧ ∀ m n, a ≤ m → m ≤ b → c ≤ n → n ≤ d → ¬ n = 0 ∧ hasB z1 z2 (m.tdiv n) = true)) := by
  refine ⟨_, _, _, fun w => implDiv a b c d w, fun w => specDiv a b c d w, fun h => by rw [h]; rfl, fun h => ?_⟩
  have h1 : okB a b = true := by cases e : okB a b <;> simp_all
  have h2 : okB c d = true := by cases e : okB c d <;> simp_all
  rw [h]
  cases hz : hasB c d 0
  · have hP := div_ok a b c d h1 h2 hz
    have hz' := (hasB_not _ _ _).1 hz
    rw [hP]
    exact ⟨rfl, fun _ => ⟨hP, fun m n k1 k2 k3 k4 => ⟨by omega, has_of _ _ _ (div_in a b c d m n h1 h2 hz k1 k2 k3 k4).1 (div_in a b c d m n h1 h2 hz k1 k2 k3 k4).2⟩⟩⟩
  · exact ⟨rfl, fun h => by cases h⟩
theorem frac (v D : Int) (h0 : 0 ≤ v) (h1 : v ≤ 255) (h2 : 0 ≤ D) : 0 ≤ v * D ∧ v * D ≤ 255 * D := ⟨Int.mul_nonneg h0 h2, Int.mul_le_mul_of_nonneg_right h1 h2⟩

namespace FnSpanSound
set_option maxRecDepth 10000 in
theorem early (s0 : Option Addr) (len0 cap0 : Nat) (s1 : Option Addr) (len1 cap1 : Nat) (w : World) (h : 1048576 < len0 ∨ 1048576 < len1) :
    Calls Try.prog 3 #[.slice s0 len0 cap0, .slice s1 len1 cap1] w fun e w' => e = .returned (.bool true) ∧ Below w.heap.size w w' := by
  by_cases h0 : 1048576 < len0
  · have d0 : decide ((1048576 : Int) < (len0 : Int)) = true := by simp; omega
    go_enter Try.func3, Try.ntmps3
    go_wp2
    first | go_returns | (refine bodyPost_ret (by simp [results, Try.results3, go_sem, *]; try rfl) rfl ?_)
    exact ⟨rfl, Below.refl _ _⟩
  · have h1 : 1048576 < len1 := by omega
    have d0 : decide ((1048576 : Int) < (len0 : Int)) = false := by simp; omega
    have d1 : decide ((1048576 : Int) < (len1 : Int)) = true := by simp; omega
    go_enter Try.func3, Try.ntmps3
    go_wp2
    first | go_returns | (refine bodyPost_ret (by simp [results, Try.results3, go_sem, *]; try rfl) rfl ?_)
    exact ⟨rfl, Below.refl _ _⟩
set_option maxRecDepth 10000 in
set_option maxHeartbeats 60000000 in
theorem main (s0 : Option Addr) (len0 cap0 : Nat) (s1 : Option Addr) (len1 cap1 : Nat) (w : World) (r0 : Row w.heap.size w s0 len0) (c0 : len0 ≤ cap0) (m0 : cap0 ≤ maxLen) (r1 : Row w.heap.size w s1 len1) (c1 : len1 ≤ cap1) (m1 : cap1 ≤ maxLen) (h0 : len0 ≤ 1048576) (h1 : len1 ≤ 1048576) :
    Calls Try.prog 3 #[.slice s0 len0 cap0, .slice s1 len1 cap1] w fun e w' => e = .returned (.bool true) ∧ Below w.heap.size w w' := by
  have R0 : Hid (Row w.heap.size w s0 len0) := r0
  have R1 : Hid (Row w.heap.size w s1 len1) := r1
  clear r0 r1
  have d0 : decide ((1048576 : Int) < (len0 : Int)) = false := by simp; omega
  have d1 : decide ((1048576 : Int) < (len1 : Int)) = false := by simp; omega
  go_enter Try.func3, Try.ntmps3
  go_wp2_with fail
  go_at_call 8
  refine (drawSpanMul s0 len0 cap0 w R0.out c0 m0).mono ?_
  rintro e w1 ⟨a, b, c, d, rfl, ha0, ha1, hb0, hb1, hc0, hc1, hd0, hd1, hB1⟩
  have hA := (Box.new w1 a b 24).alloc (.cells #[.int .i64 (c), .int .i64 (d)] 24)
  have hD := Box.new (w1.alloc (.cells #[.int .i64 (a), .int .i64 (b)] 24)) c d 24
  simp only [World.size_alloc] at hD
  have hBl : Below w.heap.size w ((w1.alloc (.cells #[.int .i64 (a), .int .i64 (b)] 24)).alloc (.cells #[.int .i64 (c), .int .i64 (d)] 24)) := balloc (balloc hB1 _) _
  clear hB1
  have hA0 := hA.c0; have hA1 := hA.c1; have hAz := hA.lt; have hD0 := hD.c0; have hD1 := hD.c1; have hDz := hD.lt
  obtain ⟨P1, z1, z2, H1, N1, K1⟩ := soundAdd a b c d
  obtain ⟨P2, z3, z4, H2, N2, K2⟩ := soundSub a b c d
  obtain ⟨P3, z5, z6, H3, H3', N3, K3⟩ := soundMul a b c d
  obtain ⟨P4, z7, z8, H4, H4', N4, K4⟩ := soundDiv a b c d
  go_wp2_with fail
  go_at_call 9
  refine (H1.out _).mono ?_
  rintro e w2 ⟨rfl, hB2⟩
  replace hA := hA.via (by go_grown) hB2; replace hA0 := hA.c0; replace hA1 := hA.c1; replace hAz := hA.lt; replace hD := hD.via (by go_grown) hB2; replace hD0 := hD.c0; replace hD1 := hD.c1; replace hDz := hD.lt; replace hBl := bvia hBl (by go_grown) hB2
  clear hB2
  go_wp2_with fail
  go_at_call 10
  refine (H2.out _).mono ?_
  rintro e w3 ⟨rfl, hB3⟩
  have hS := (Box.new w2 z1 z2 24).below hB3
  have hS0 := hS.c0; have hS1 := hS.c1; have hSz := hS.lt
  replace hA := hA.via (by go_grown) hB3; replace hA0 := hA.c0; replace hA1 := hA.c1; replace hAz := hA.lt; replace hD := hD.via (by go_grown) hB3; replace hD0 := hD.c0; replace hD1 := hD.c1; replace hDz := hD.lt; replace hBl := bvia hBl (by go_grown) hB3
  clear hB3
  go_wp2_with fail
  go_at_call 11
  refine (H3.out _).mono ?_
  rintro e w4 ⟨rfl, hB4⟩
  have hU := (Box.new w3 z3 z4 24).below hB4
  have hU0 := hU.c0; have hU1 := hU.c1; have hUz := hU.lt
  replace hA := hA.via (by go_grown) hB4; replace hA0 := hA.c0; replace hA1 := hA.c1; replace hAz := hA.lt; replace hD := hD.via (by go_grown) hB4; replace hD0 := hD.c0; replace hD1 := hD.c1; replace hDz := hD.lt; replace hS := hS.via (by go_grown) hB4; replace hS0 := hS.c0; replace hS1 := hS.c1; replace hSz := hS.lt; replace hBl := bvia hBl (by go_grown) hB4
  clear hB4
  go_wp2_with fail
  go_at_call 12
  refine (H4.out _).mono ?_
  rintro e w5 ⟨rfl, hB5⟩
  have hM := (Box.new w4 z5 z6 24).below hB5
  have hM0 := hM.c0; have hM1 := hM.c1; have hMz := hM.lt
  replace hA := hA.via (by go_grown) hB5; replace hA0 := hA.c0; replace hA1 := hA.c1; replace hAz := hA.lt; replace hD := hD.via (by go_grown) hB5; replace hD0 := hD.c0; replace hD1 := hD.c1; replace hDz := hD.lt; replace hS := hS.via (by go_grown) hB5; replace hS0 := hS.c0; replace hS1 := hS.c1; replace hSz := hS.lt; replace hU := hU.via (by go_grown) hB5; replace hU0 := hU.c0; replace hU1 := hU.c1; replace hUz := hU.lt; replace hBl := bvia hBl (by go_grown) hB5
  clear hB5
  go_wp2_with fail
  go_at_call 13
  refine (H3'.out _).mono ?_
  rintro e w6 ⟨rfl, hB6⟩
  have hV := (Box.new w5 z7 z8 24).below hB6
  have hV0 := hV.c0; have hV1 := hV.c1; have hVz := hV.lt
  replace hA := hA.via (by go_grown) hB6; replace hA0 := hA.c0; replace hA1 := hA.c1; replace hAz := hA.lt; replace hD := hD.via (by go_grown) hB6; replace hD0 := hD.c0; replace hD1 := hD.c1; replace hDz := hD.lt; replace hS := hS.via (by go_grown) hB6; replace hS0 := hS.c0; replace hS1 := hS.c1; replace hSz := hS.lt; replace hU := hU.via (by go_grown) hB6; replace hU0 := hU.c0; replace hU1 := hU.c1; replace hUz := hU.lt; replace hM := hM.via (by go_grown) hB6; replace hM0 := hM.c0; replace hM1 := hM.c1; replace hMz := hM.lt; replace hBl := bvia hBl (by go_grown) hB6
  clear hB6
  go_wp2_with fail
  go_at_call 14
  refine (H4'.out _).mono ?_
  rintro e w7 ⟨rfl, hB7⟩
  have hX := (Box.new w6 z5 z6 24).below hB7
  have hX0 := hX.c0; have hX1 := hX.c1; have hXz := hX.lt
  replace hA := hA.via (by go_grown) hB7; replace hA0 := hA.c0; replace hA1 := hA.c1; replace hAz := hA.lt; replace hD := hD.via (by go_grown) hB7; replace hD0 := hD.c0; replace hD1 := hD.c1; replace hDz := hD.lt; replace hS := hS.via (by go_grown) hB7; replace hS0 := hS.c0; replace hS1 := hS.c1; replace hSz := hS.lt; replace hU := hU.via (by go_grown) hB7; replace hU0 := hU.c0; replace hU1 := hU.c1; replace hUz := hU.lt; replace hM := hM.via (by go_grown) hB7; replace hM0 := hM.c0; replace hM1 := hM.c1; replace hMz := hM.lt; replace hV := hV.via (by go_grown) hB7; replace hV0 := hV.c0; replace hV1 := hV.c1; replace hVz := hV.lt; replace hBl := bvia hBl (by go_grown) hB7
  clear hB7 H1 H2 H3 H3' H4 H4'
  have hY := Box.new w7 z7 z8 24
  have hY0 := hY.c0; have hY1 := hY.c1; have hYz := hY.lt
  replace hA := hA.alloc (.cells #[.int .i64 (z7), .int .i64 (z8)] 24); replace hA0 := hA.c0; replace hA1 := hA.c1; replace hAz := hA.lt; replace hD := hD.alloc (.cells #[.int .i64 (z7), .int .i64 (z8)] 24); replace hD0 := hD.c0; replace hD1 := hD.c1; replace hDz := hD.lt; replace hS := hS.alloc (.cells #[.int .i64 (z7), .int .i64 (z8)] 24); replace hS0 := hS.c0; replace hS1 := hS.c1; replace hSz := hS.lt; replace hU := hU.alloc (.cells #[.int .i64 (z7), .int .i64 (z8)] 24); replace hU0 := hU.c0; replace hU1 := hU.c1; replace hUz := hU.lt; replace hM := hM.alloc (.cells #[.int .i64 (z7), .int .i64 (z8)] 24); replace hM0 := hM.c0; replace hM1 := hM.c1; replace hMz := hM.lt; replace hV := hV.alloc (.cells #[.int .i64 (z7), .int .i64 (z8)] 24); replace hV0 := hV.c0; replace hV1 := hV.c1; replace hVz := hV.lt; replace hX := hX.alloc (.cells #[.int .i64 (z7), .int .i64 (z8)] 24); replace hX0 := hX.c0; replace hX1 := hX.c1; replace hXz := hX.lt; replace hBl := balloc hBl (.cells #[.int .i64 (z7), .int .i64 (z8)] 24)
  cases hO : okB a b && okB c d
  · obtain rfl := N1.out hO
    obtain rfl := N2.out hO
    obtain rfl := N3.out hO
    obtain rfl := N4.out hO
    cases h3 : okB a b <;> cases h4 : okB c d
    case true.true => simp [h3, h4] at hO
    all_goals
      go_wp2_with (first | (go_at_call 15; refine (specOk _ _ _).mono ?_; rintro e wn ⟨rfl, hb⟩; (replace hBl := bvia hBl (by go_grown) hb); (replace hA := hA.via (by go_grown) hb); (replace hA0 := hA.c0); (replace hA1 := hA.c1); (replace hAz := hA.lt); (replace hD := hD.via (by go_grown) hb); (replace hD0 := hD.c0); (replace hD1 := hD.c1); (replace hDz := hD.lt); (replace hS := hS.via (by go_grown) hb); (replace hS0 := hS.c0); (replace hS1 := hS.c1); (replace hSz := hS.lt); (replace hU := hU.via (by go_grown) hb); (replace hU0 := hU.c0); (replace hU1 := hU.c1); (replace hUz := hU.lt); (replace hM := hM.via (by go_grown) hb); (replace hM0 := hM.c0); (replace hM1 := hM.c1); (replace hMz := hM.lt); (replace hV := hV.via (by go_grown) hb); (replace hV0 := hV.c0); (replace hV1 := hV.c1); (replace hVz := hV.lt); (clear hb)) | (go_at_call 16; refine (implHas _ _ _ _).mono ?_; rintro e wn ⟨rfl, hb⟩; (replace hBl := bvia hBl (by go_grown) hb); (replace hA := hA.via (by go_grown) hb); (replace hA0 := hA.c0); (replace hA1 := hA.c1); (replace hAz := hA.lt); (replace hD := hD.via (by go_grown) hb); (replace hD0 := hD.c0); (replace hD1 := hD.c1); (replace hDz := hD.lt); (replace hS := hS.via (by go_grown) hb); (replace hS0 := hS.c0); (replace hS1 := hS.c1); (replace hSz := hS.lt); (replace hU := hU.via (by go_grown) hb); (replace hU0 := hU.c0); (replace hU1 := hU.c1); (replace hUz := hU.lt); (replace hM := hM.via (by go_grown) hb); (replace hM0 := hM.c0); (replace hM1 := hM.c1); (replace hMz := hM.lt); (replace hV := hV.via (by go_grown) hb); (replace hV0 := hV.c0); (replace hV1 := hV.c1); (replace hVz := hV.lt); (clear hb)))
      all_goals
        first | go_returns | (refine bodyPost_ret (by simp [results, Try.results3, go_sem, *]; try rfl) rfl ?_)
        refine ⟨ret_bool (by first | rfl | (simp; done)), hBl⟩
  have h3 : okB a b = true := by cases e : okB a b <;> simp_all
  have h4 : okB c d = true := by cases e : okB c d <;> simp_all
  have h3' := (okB_iff a b).1 h3
  have h4' := (okB_iff c d).1 h4
  have E1 := K1.out hO
  have E2 := K2.out hO
  have E3 := K3.out hO
  have E4 := K4.out hO
  have F1 : Hid (P1 = (decide (-1000000 ≤ a + c) && decide (b + d ≤ 1000000)) ∧ (P1 = true → okB z1 z2 = true ∧ ∀ m n, a ≤ m → m ≤ b → c ≤ n → n ≤ d → hasB z1 z2 (m + n) = true)) := E1
  have F2 : Hid (P2 = true → okB z3 z4 = true ∧ ∀ m n, a ≤ m → m ≤ b → c ≤ n → n ≤ d → hasB z3 z4 (m - n) = true) := E2
  have F3 : Hid (P3 = true → okB z5 z6 = true ∧ ∀ m n, a ≤ m → m ≤ b → c ≤ n → n ≤ d → hasB z5 z6 (m * n) = true) := E3
  have F4 : Hid (P4 = (!hasB c d 0) ∧ (P4 = true → okB z7 z8 = true ∧ ∀ m n, a ≤ m → m ≤ b → c ≤ n → n ≤ d → ¬ n = 0 ∧ hasB z7 z8 (m.tdiv n) = true)) := E4
  clear E1 E2 E3 E4 K1 K2 K3 K4 N1 N2 N3 N4 hO
  go_wp2_with (first | (go_at_call 15; refine (specOk _ _ _).mono ?_; rintro e wn ⟨rfl, hb⟩; (replace hBl := bvia hBl (by go_grown) hb); (replace hA := hA.via (by go_grown) hb); (replace hA0 := hA.c0); (replace hA1 := hA.c1); (replace hAz := hA.lt); (replace hD := hD.via (by go_grown) hb); (replace hD0 := hD.c0); (replace hD1 := hD.c1); (replace hDz := hD.lt); (replace hS := hS.via (by go_grown) hb); (replace hS0 := hS.c0); (replace hS1 := hS.c1); (replace hSz := hS.lt); (replace hU := hU.via (by go_grown) hb); (replace hU0 := hU.c0); (replace hU1 := hU.c1); (replace hUz := hU.lt); (replace hM := hM.via (by go_grown) hb); (replace hM0 := hM.c0); (replace hM1 := hM.c1); (replace hMz := hM.lt); (replace hV := hV.via (by go_grown) hb); (replace hV0 := hV.c0); (replace hV1 := hV.c1); (replace hVz := hV.lt); (clear hb)) | (go_at_call 16; refine (implHas _ _ _ _).mono ?_; rintro e wn ⟨rfl, hb⟩; (replace hBl := bvia hBl (by go_grown) hb); (replace hA := hA.via (by go_grown) hb); (replace hA0 := hA.c0); (replace hA1 := hA.c1); (replace hAz := hA.lt); (replace hD := hD.via (by go_grown) hb); (replace hD0 := hD.c0); (replace hD1 := hD.c1); (replace hDz := hD.lt); (replace hS := hS.via (by go_grown) hb); (replace hS0 := hS.c0); (replace hS1 := hS.c1); (replace hSz := hS.lt); (replace hU := hU.via (by go_grown) hb); (replace hU0 := hU.c0); (replace hU1 := hU.c1); (replace hUz := hU.lt); (replace hM := hM.via (by go_grown) hb); (replace hM0 := hM.c0); (replace hM1 := hM.c1); (replace hMz := hM.lt); (replace hV := hV.via (by go_grown) hb); (replace hV0 := hV.c0); (replace hV1 := hV.c1); (replace hVz := hV.lt); (clear hb)))
  clear hX hX0 hX1 hXz hY hY0 hY1 hYz
  have hlm : len1 ≤ 1048576 := h1
  go_loopw [19] (fun vi wr => ∃ i : Nat, i ≤ 12 ∧ vi = .int .i64 i ∧ Box w1.heap.size a b wr ∧ Box (w1.heap.size + 1) c d wr ∧ Box w2.heap.size z1 z2 wr ∧ Box w3.heap.size z3 z4 wr ∧ Box w4.heap.size z5 z6 wr ∧ Box w5.heap.size z7 z8 wr ∧ Below w.heap.size w wr) (fun vi _ => 12 - (intOf vi).toNat)
  case atStart => exact ⟨0, by omega, rfl, hA, hD, hS, hU, hM, hV, hBl⟩
  case round =>
    clear hA hA0 hA1 hAz hD hD0 hD1 hDz hS hS0 hS1 hSz hU hU0 hU1 hUz hM hM0 hM1 hMz hV hV0 hV1 hVz hBl
    obtain ⟨i, hi, rfl, hA, hD, hS, hU, hM, hV, hBl⟩ := hrel
    have hA0 := hA.c0; have hA1 := hA.c1; have hAz := hA.lt; have hD0 := hD.c0; have hD1 := hD.c1; have hDz := hD.lt; have hS0 := hS.c0; have hS1 := hS.c1; have hSz := hS.lt; have hU0 := hU.c0; have hU1 := hU.c1; have hUz := hU.lt; have hM0 := hM.c0; have hM1 := hM.c1; have hMz := hM.lt; have hV0 := hV.c0; have hV1 := hV.c1; have hVz := hV.lt
    by_cases hlt : i < 12
    · have hltI : (i : Int) < 12 := by omega
      go_upto_if 122 with fail
      go_cut [20, 21] (fun vn vk wx => ∃ n k : Int, vn = .int .i64 n ∧ vk = .int .i64 k ∧ a ≤ n ∧ n ≤ b ∧ c ≤ k ∧ k ≤ d ∧ Box w1.heap.size a b wx ∧ Box (w1.heap.size + 1) c d wx ∧ Box w2.heap.size z1 z2 wx ∧ Box w3.heap.size z3 z4 wx ∧ Box w4.heap.size z5 z6 wx ∧ Box w5.heap.size z7 z8 wx ∧ Below w.heap.size w wx)
      case first =>
        by_cases hl : i < len1
        · have hlI : (i : Int) < (len1 : Int) := by omega
          rcases R1.out with hz | ⟨sb, so, rfl, hsb, hrow⟩
          · omega
          obtain ⟨v, hv, hv0, hv1⟩ := hrow i hl
          obtain ⟨u, hu, hu0, hu1⟩ := hrow (len1 - 1 - i) (by omega)
          clear hrow
          have hv' := cell_later hBl hv
          have hu' : wr.cell? ⟨sb, so + ((len1 : Int) - 1 - (i : Int)).toNat, none⟩ = some (.int .u8 u) := by
            have e : ((len1 : Int) - 1 - (i : Int)).toNat = len1 - 1 - i := by omega
            rw [e]; exact cell_later hBl hu
          have hu'' := cell_later hBl hu
          clear hv hu
          have f1 := frac v (b - a) hv0 hv1 (by omega)
          have f2 := frac u (d - c) hu0 hu1 (by omega)
          have g1 : 0 ≤ v * (b - a) := f1.1
          have g2 : v * (b - a) ≤ 600000000 := by omega
          have g3 : 0 ≤ u * (d - c) := f2.1
          have g4 : u * (d - c) ≤ 600000000 := by omega
          have hx0 : 0 ≤ (len1 : Int) - 1 - (i : Int) := by omega
          have hx1 : (len1 : Int) - 1 - (i : Int) < (len1 : Int) := by omega
          go_wp2_with fail
          go_quiet (fail)
          go_wp2_with fail
          go_quiet (fail)
          go_wp2_with fail
          go_meet
          have g5 : v * (b - a) ≤ 255 * (b - a) := f1.2
          have g6 : u * (d - c) ≤ 255 * (d - c) := f2.2
          generalize v * (b - a) = pv at *
          generalize u * (d - c) = pu at *
          exact ⟨_, _, rfl, rfl, by omega, by omega, by omega, by omega, hA.below (below_drewN (below_drewN (Below.refl _ _) _) _), hD.below (below_drewN (below_drewN (Below.refl _ _) _) _), hS.below (below_drewN (below_drewN (Below.refl _ _) _) _), hU.below (below_drewN (below_drewN (Below.refl _ _) _) _), hM.below (below_drewN (below_drewN (Below.refl _ _) _) _), hV.below (below_drewN (below_drewN (Below.refl _ _) _) _), bstep hBl (below_drewN (below_drewN (Below.refl _ _) _) _)⟩
        · have hlI : ¬ (i : Int) < (len1 : Int) := by omega
          go_wp2_with fail
          go_meet
          exact ⟨a, c, rfl, rfl, by omega, by omega, by omega, by omega, hA, hD, hS, hU, hM, hV, hBl⟩
      case rest =>
        clear hA hA0 hA1 hAz hD hD0 hD1 hDz hS hS0 hS1 hSz hU hU0 hU1 hUz hM hM0 hM1 hMz hV hV0 hV1 hVz hBl
        obtain ⟨n, k, rfl, rfl, hn0, hn1, hk0, hk1, hA, hD, hS, hU, hM, hV, hBl⟩ := hcut
        have hA0 := hA.c0; have hA1 := hA.c1; have hAz := hA.lt; have hD0 := hD.c0; have hD1 := hD.c1; have hDz := hD.lt; have hS0 := hS.c0; have hS1 := hS.c1; have hSz := hS.lt; have hU0 := hU.c0; have hU1 := hU.c1; have hUz := hU.lt; have hM0 := hM.c0; have hM1 := hM.c1; have hMz := hM.lt; have hV0 := hV.c0; have hV1 := hV.c1; have hVz := hV.lt
        go_upto_if 159 with fail
        go_cut [20] (fun vn wx => ∃ n' : Int, vn = .int .i64 n' ∧ a ≤ n' ∧ n' ≤ b ∧ wx = wc)
        case first =>
          by_cases h4m : (i : Int) % 4 = 3
          · have h4b : ((i : Int) % 4 == 3) = true := by simp [h4m]
            go_wp2_with fail
            go_meet
            exact ⟨b, rfl, by omega, by omega, rfl⟩
          · have h4b : ((i : Int) % 4 == 3) = false := by simp [h4m]
            go_wp2_with fail
            go_meet
            exact ⟨n, rfl, hn0, hn1, rfl⟩
        case rest =>
          clear hn0 hn1
          obtain ⟨m, rfl, hm0, hm1, rfl⟩ := hcut
          go_upto_region 24 with fail
          go_cut [219] (fun t wx => t = .bool false ∧ Box w1.heap.size a b wx ∧ Box (w1.heap.size + 1) c d wx ∧ Box w2.heap.size z1 z2 wx ∧ Box w3.heap.size z3 z4 wx ∧ Box w4.heap.size z5 z6 wx ∧ Box w5.heap.size z7 z8 wx ∧ Below w.heap.size w wx)
          case first => as_aux_lemma =>
            have e1 : hasB a b m = true := has_of _ _ _ hm0 hm1
            have e2 : hasB c d k = true := has_of _ _ _ hk0 hk1
            have ms := mul_small m k (by omega) (by omega) (by omega) (by omega)
            have v1 : IntKind.i64.wrap (m * k) = m * k := by rw [IntKind.wrap_i64]; omega
            have v2 : wrap64 (m * k) = m * k := by unfold wrap64; omega
            have v3 : IntKind.i64.wrap (m + k) = m + k := by rw [IntKind.wrap_i64]; omega
            have v4 : IntKind.i64.wrap (m - k) = m - k := by rw [IntKind.wrap_i64]; omega
            clear ms
            clear R0 R1 d0 d1 ha0 ha1 hb0 hb1 hc0 hc1 hd0 hd1 h0 h1 hlm c0 m0 c1 m1 hlt hltI hi
            refine wp_region_held_drew (S := (fun w' => w'.cell? ⟨w1.heap.size, 0, none⟩ = some (.int .i64 (a)) ∧ w'.cell? ⟨w1.heap.size, 1, none⟩ = some (.int .i64 (b)) ∧ w'.cell? ⟨w1.heap.size + 1, 0, none⟩ = some (.int .i64 (c)) ∧ w'.cell? ⟨w1.heap.size + 1, 1, none⟩ = some (.int .i64 (d)) ∧ w'.cell? ⟨w2.heap.size, 0, none⟩ = some (.int .i64 (z1)) ∧ w'.cell? ⟨w2.heap.size, 1, none⟩ = some (.int .i64 (z2)) ∧ w'.cell? ⟨w3.heap.size, 0, none⟩ = some (.int .i64 (z3)) ∧ w'.cell? ⟨w3.heap.size, 1, none⟩ = some (.int .i64 (z4)) ∧ w'.cell? ⟨w4.heap.size, 0, none⟩ = some (.int .i64 (z5)) ∧ w'.cell? ⟨w4.heap.size, 1, none⟩ = some (.int .i64 (z6)) ∧ w'.cell? ⟨w5.heap.size, 0, none⟩ = some (.int .i64 (z7)) ∧ w'.cell? ⟨w5.heap.size, 1, none⟩ = some (.int .i64 (z8)))) (by kernel_rfl) ?_ (fun hHeld => ?_)
            · (simp [*, go_sem, World.cell?_alloc_some, World.cell?_setCell_far, apart1, apart2, apart3, apart4, apart5, apart6])
            refine wpAnyH_take (i := 0) (oi := { dst := some 162, op := Op.load 24 (Operand.tmp 5), type := 24, pos := "laws.go:37", after := #[], guard := none }) (v := ?_) rfl (by kernel_rfl) (by kernel_rfl) (by kernel_rfl) (fun _ _ _ h => h) (Or.inl ⟨by rfl, ?_⟩) (by assumption) ?_
            rotate_left
            · (intro w hSw; (try dsimp only at hSw); go_simp; (try with_reducible rfl))
            try simp only [Act.put, List.setIfInBounds_toArray, List.set_cons_zero, List.set_cons_succ]
            refine wpAnyH_take (i := 1) (oi := { dst := some 163, op := Op.move (Operand.tmp 20), type := 3, pos := "laws.go:37", after := #[], guard := none }) (v := ?_) rfl (by kernel_rfl) (by kernel_rfl) (by kernel_rfl) (fun _ _ _ h => h) (Or.inl ⟨by rfl, ?_⟩) (by assumption) ?_
            rotate_left
            · (intro w hSw; (try dsimp only at hSw); go_simp; (try with_reducible rfl))
            try simp only [Act.put, List.setIfInBounds_toArray, List.set_cons_zero, List.set_cons_succ]
            refine wpAnyH_ready (rs := [2]) (by kernel_rfl) (by simp) ?_
            refine AllReadyH.cons (o := { dst := some 164, op := Op.call { callee := Callee.value (Operand.func 16), args := #[Operand.tmp 162, Operand.tmp 163], argTypes := #[24, 3] }, type := 4, pos := "laws.go:37", after := #[{ on := 0, ground := Ground.data }, { on := 1, ground := Ground.data }], guard := none }) rfl (fun K hK => ?_) AllReadyH.nil
            go_simp
            (go_at_call 16; refine (implHas _ _ _ _).mono ?_; rintro e wn ⟨rfl, hb⟩; (replace hBl := bvia hBl (by go_grown) hb); (replace hA := hA.via (by go_grown) hb); (replace hA0 := hA.c0); (replace hA1 := hA.c1); (replace hAz := hA.lt); (replace hD := hD.via (by go_grown) hb); (replace hD0 := hD.c0); (replace hD1 := hD.c1); (replace hDz := hD.lt); (replace hS := hS.via (by go_grown) hb); (replace hS0 := hS.c0); (replace hS1 := hS.c1); (replace hSz := hS.lt); (replace hU := hU.via (by go_grown) hb); (replace hU0 := hU.c0); (replace hU1 := hU.c1); (replace hUz := hU.lt); (replace hM := hM.via (by go_grown) hb); (replace hM0 := hM.c0); (replace hM1 := hM.c1); (replace hMz := hM.lt); (replace hV := hV.via (by go_grown) hb); (replace hV0 := hV.c0); (replace hV1 := hV.c1); (replace hVz := hV.lt); (clear hb))
            (try go_wp2_with fail)
            refine hK.out _ _ ?_ (fun hHeld => ?_)
            · (simp [*, go_sem, World.cell?_alloc_some, World.cell?_setCell_far, apart1, apart2, apart3, apart4, apart5, apart6])
            clear hK K
            try simp only [Act.put, List.setIfInBounds_toArray, List.set_cons_zero, List.set_cons_succ]
            refine wpAnyH_take (i := 3) (oi := { dst := some 165, op := Op.unOp UnOp.not 4 (Operand.tmp 164), type := 4, pos := "laws.go:37", after := #[{ on := 2, ground := Ground.data }], guard := none }) (v := ?_) rfl (by kernel_rfl) (by kernel_rfl) (by kernel_rfl) (fun _ _ _ h => h) (Or.inl ⟨by rfl, ?_⟩) (by assumption) ?_
            rotate_left
            · (intro w hSw; (try dsimp only at hSw); go_simp; (try with_reducible rfl))
            try simp only [Act.put, List.setIfInBounds_toArray, List.set_cons_zero, List.set_cons_succ]
            refine wpAnyH_take (i := 4) (oi := { dst := some 166, op := Op.move (Operand.tmp 165), type := 4, pos := "laws.go:37", after := #[{ on := 3, ground := Ground.data }, { on := 2, ground := Ground.chain }], guard := none }) (v := ?_) rfl (by kernel_rfl) (by kernel_rfl) (by kernel_rfl) (fun _ _ _ h => h) (Or.inl ⟨by rfl, ?_⟩) (by assumption) ?_
            rotate_left
            · (intro w hSw; (try dsimp only at hSw); go_simp; (try with_reducible rfl))
            try simp only [Act.put, List.setIfInBounds_toArray, List.set_cons_zero, List.set_cons_succ]
            refine wpAnyH_take (i := 5) (oi := { dst := some 167, op := Op.load 24 (Operand.tmp 6), type := 24, pos := "laws.go:37", after := #[{ on := 4, ground := Ground.guard }], guard := some (4, false) }) (v := ?_) rfl (by kernel_rfl) (by kernel_rfl) (by kernel_rfl) (fun _ _ _ h => h) (Or.inl ⟨by rfl, ?_⟩) (by assumption) ?_
            rotate_left
            · (intro w hSw; (try dsimp only at hSw); go_simp; (try with_reducible rfl))
            try simp only [Act.put, List.setIfInBounds_toArray, List.set_cons_zero, List.set_cons_succ]
            refine wpAnyH_take (i := 6) (oi := { dst := some 168, op := Op.move (Operand.tmp 21), type := 3, pos := "laws.go:37", after := #[{ on := 4, ground := Ground.guard }], guard := some (4, false) }) (v := ?_) rfl (by kernel_rfl) (by kernel_rfl) (by kernel_rfl) (fun _ _ _ h => h) (Or.inl ⟨by rfl, ?_⟩) (by assumption) ?_
            rotate_left
            · (intro w hSw; (try dsimp only at hSw); go_simp; (try with_reducible rfl))
            try simp only [Act.put, List.setIfInBounds_toArray, List.set_cons_zero, List.set_cons_succ]
            refine wpAnyH_ready (rs := [7]) (by kernel_rfl) (by simp) ?_
            refine AllReadyH.cons (o := { dst := some 169, op := Op.call { callee := Callee.value (Operand.func 16), args := #[Operand.tmp 167, Operand.tmp 168], argTypes := #[24, 3] }, type := 4, pos := "laws.go:37", after := #[{ on := 5, ground := Ground.data }, { on := 6, ground := Ground.data }, { on := 4, ground := Ground.chain }, { on := 4, ground := Ground.guard }], guard := some (4, false) }) rfl (fun K hK => ?_) AllReadyH.nil
            go_simp
            (go_at_call 16; refine (implHas _ _ _ _).mono ?_; rintro e wn ⟨rfl, hb⟩; (replace hBl := bvia hBl (by go_grown) hb); (replace hA := hA.via (by go_grown) hb); (replace hA0 := hA.c0); (replace hA1 := hA.c1); (replace hAz := hA.lt); (replace hD := hD.via (by go_grown) hb); (replace hD0 := hD.c0); (replace hD1 := hD.c1); (replace hDz := hD.lt); (replace hS := hS.via (by go_grown) hb); (replace hS0 := hS.c0); (replace hS1 := hS.c1); (replace hSz := hS.lt); (replace hU := hU.via (by go_grown) hb); (replace hU0 := hU.c0); (replace hU1 := hU.c1); (replace hUz := hU.lt); (replace hM := hM.via (by go_grown) hb); (replace hM0 := hM.c0); (replace hM1 := hM.c1); (replace hMz := hM.lt); (replace hV := hV.via (by go_grown) hb); (replace hV0 := hV.c0); (replace hV1 := hV.c1); (replace hVz := hV.lt); (clear hb))
            (try go_wp2_with fail)
            refine hK.out _ _ ?_ (fun hHeld => ?_)
            · (simp [*, go_sem, World.cell?_alloc_some, World.cell?_setCell_far, apart1, apart2, apart3, apart4, apart5, apart6])
            clear hK K
            try simp only [Act.put, List.setIfInBounds_toArray, List.set_cons_zero, List.set_cons_succ]
            refine wpAnyH_take (i := 8) (oi := { dst := some 170, op := Op.unOp UnOp.not 4 (Operand.tmp 169), type := 4, pos := "laws.go:37", after := #[{ on := 7, ground := Ground.data }, { on := 4, ground := Ground.guard }], guard := some (4, false) }) (v := ?_) rfl (by kernel_rfl) (by kernel_rfl) (by kernel_rfl) (fun _ _ _ h => h) (Or.inl ⟨by rfl, ?_⟩) (by assumption) ?_
            rotate_left
            · (intro w hSw; (try dsimp only at hSw); go_simp; (try with_reducible rfl))
            try simp only [Act.put, List.setIfInBounds_toArray, List.set_cons_zero, List.set_cons_succ]
            refine wpAnyH_take (i := 9) (oi := { dst := some 171, op := Op.pick (Operand.tmp 166) (Operand.const (Value.bool true)) (Operand.tmp 170), type := 4, pos := "laws.go:37", after := #[{ on := 4, ground := Ground.data }, { on := 8, ground := Ground.data }], guard := none }) (v := ?_) rfl (by kernel_rfl) (by kernel_rfl) (by kernel_rfl) (fun _ _ _ h => h) (Or.inl ⟨by rfl, ?_⟩) (by assumption) ?_
            rotate_left
            · (intro w hSw; (try dsimp only at hSw); go_simp; (try with_reducible rfl))
            try simp only [Act.put, List.setIfInBounds_toArray, List.set_cons_zero, List.set_cons_succ]
            refine wpAnyH_take (i := 10) (oi := { dst := some 172, op := Op.move (Operand.tmp 171), type := 4, pos := "laws.go:37", after := #[{ on := 9, ground := Ground.data }, { on := 7, ground := Ground.chain }], guard := none }) (v := ?_) rfl (by kernel_rfl) (by kernel_rfl) (by kernel_rfl) (fun _ _ _ h => h) (Or.inl ⟨by rfl, ?_⟩) (by assumption) ?_
            rotate_left
            · (intro w hSw; (try dsimp only at hSw); go_simp; (try with_reducible rfl))
            try simp only [Act.put, List.setIfInBounds_toArray, List.set_cons_zero, List.set_cons_succ]
            refine wpAnyH_take (i := 11) (oi := { dst := some 173, op := Op.move (Operand.tmp 8), type := 4, pos := "laws.go:37", after := #[{ on := 10, ground := Ground.guard }], guard := some (10, false) }) (v := ?_) rfl (by kernel_rfl) (by kernel_rfl) (by kernel_rfl) (fun _ _ _ h => h) (Or.inl ⟨by rfl, ?_⟩) (by assumption) ?_
            rotate_left
            · (intro w hSw; (try dsimp only at hSw); go_simp; (try with_reducible rfl))
            try simp only [Act.put, List.setIfInBounds_toArray, List.set_cons_zero, List.set_cons_succ]
            refine wpAnyH_take (i := 12) (oi := { dst := some 174, op := Op.move (Operand.tmp 173), type := 4, pos := "laws.go:37", after := #[{ on := 11, ground := Ground.data }, { on := 10, ground := Ground.chain }, { on := 10, ground := Ground.guard }], guard := some (10, false) }) (v := ?_) rfl (by kernel_rfl) (by kernel_rfl) (by kernel_rfl) (fun _ _ _ h => h) (Or.inl ⟨by rfl, ?_⟩) (by assumption) ?_
            rotate_left
            · (intro w hSw; (try dsimp only at hSw); go_simp; (try with_reducible rfl))
            try simp only [Act.put, List.setIfInBounds_toArray, List.set_cons_zero, List.set_cons_succ]
            cases P1
            · as_aux_lemma =>
                refine wpAnyH_take (i := 13) (oi := { dst := some 175, op := Op.load 24 (Operand.tmp 7), type := 24, pos := "laws.go:37", after := #[{ on := 12, ground := Ground.guard }], guard := some (12, true) }) (v := _) rfl (by kernel_rfl) (by kernel_rfl) (by kernel_rfl) (fun _ _ _ h => h) (Or.inr ⟨by rfl, rfl⟩) (by assumption) ?_
                try simp only [Act.put, List.setIfInBounds_toArray, List.set_cons_zero, List.set_cons_succ]
                refine wpAnyH_take (i := 14) (oi := { dst := some 176, op := Op.move (Operand.tmp 20), type := 3, pos := "laws.go:37", after := #[{ on := 12, ground := Ground.guard }], guard := some (12, true) }) (v := _) rfl (by kernel_rfl) (by kernel_rfl) (by kernel_rfl) (fun _ _ _ h => h) (Or.inr ⟨by rfl, rfl⟩) (by assumption) ?_
                try simp only [Act.put, List.setIfInBounds_toArray, List.set_cons_zero, List.set_cons_succ]
                refine wpAnyH_take (i := 15) (oi := { dst := some 177, op := Op.move (Operand.tmp 21), type := 3, pos := "laws.go:37", after := #[{ on := 12, ground := Ground.guard }], guard := some (12, true) }) (v := _) rfl (by kernel_rfl) (by kernel_rfl) (by kernel_rfl) (fun _ _ _ h => h) (Or.inr ⟨by rfl, rfl⟩) (by assumption) ?_
                try simp only [Act.put, List.setIfInBounds_toArray, List.set_cons_zero, List.set_cons_succ]
                refine wpAnyH_take (i := 16) (oi := { dst := some 178, op := Op.binOp BinOp.add 3 (Operand.tmp 176) (Operand.tmp 177) 3, type := 3, pos := "laws.go:37", after := #[{ on := 14, ground := Ground.data }, { on := 15, ground := Ground.data }, { on := 12, ground := Ground.guard }], guard := some (12, true) }) (v := _) rfl (by kernel_rfl) (by kernel_rfl) (by kernel_rfl) (fun _ _ _ h => h) (Or.inr ⟨by rfl, rfl⟩) (by assumption) ?_
                try simp only [Act.put, List.setIfInBounds_toArray, List.set_cons_zero, List.set_cons_succ]
                refine wpAnyH_take (i := 17) (oi := { dst := some 179, op := Op.call { callee := Callee.value (Operand.func 16), args := #[Operand.tmp 175, Operand.tmp 178], argTypes := #[24, 3] }, type := 4, pos := "laws.go:37", after := #[{ on := 13, ground := Ground.data }, { on := 16, ground := Ground.data }, { on := 12, ground := Ground.chain }, { on := 12, ground := Ground.guard }], guard := some (12, true) }) (v := _) rfl (by kernel_rfl) (by kernel_rfl) (by kernel_rfl) (fun _ _ _ h => h) (Or.inr ⟨by rfl, rfl⟩) (by assumption) ?_
                try simp only [Act.put, List.setIfInBounds_toArray, List.set_cons_zero, List.set_cons_succ]
                refine wpAnyH_take (i := 18) (oi := { dst := some 180, op := Op.unOp UnOp.not 4 (Operand.tmp 179), type := 4, pos := "laws.go:37", after := #[{ on := 17, ground := Ground.data }, { on := 12, ground := Ground.guard }], guard := some (12, true) }) (v := _) rfl (by kernel_rfl) (by kernel_rfl) (by kernel_rfl) (fun _ _ _ h => h) (Or.inr ⟨by rfl, rfl⟩) (by assumption) ?_
                try simp only [Act.put, List.setIfInBounds_toArray, List.set_cons_zero, List.set_cons_succ]
                refine wpAnyH_take (i := 19) (oi := { dst := some 181, op := Op.pick (Operand.tmp 174) (Operand.tmp 180) (Operand.const (Value.bool false)), type := 4, pos := "laws.go:37", after := #[{ on := 12, ground := Ground.data }, { on := 18, ground := Ground.data }, { on := 10, ground := Ground.guard }], guard := some (10, false) }) (v := ?_) rfl (by kernel_rfl) (by kernel_rfl) (by kernel_rfl) (fun _ _ _ h => h) (Or.inl ⟨by rfl, ?_⟩) (by assumption) ?_
                rotate_left
                · (intro w hSw; (try dsimp only at hSw); go_simp; (try with_reducible rfl))
                try simp only [Act.put, List.setIfInBounds_toArray, List.set_cons_zero, List.set_cons_succ]
                refine wpAnyH_take (i := 20) (oi := { dst := some 182, op := Op.pick (Operand.tmp 172) (Operand.const (Value.bool true)) (Operand.tmp 181), type := 4, pos := "laws.go:37", after := #[{ on := 10, ground := Ground.data }, { on := 19, ground := Ground.data }], guard := none }) (v := ?_) rfl (by kernel_rfl) (by kernel_rfl) (by kernel_rfl) (fun _ _ _ h => h) (Or.inl ⟨by rfl, ?_⟩) (by assumption) ?_
                rotate_left
                · (intro w hSw; (try dsimp only at hSw); go_simp; (try with_reducible rfl))
                try simp only [Act.put, List.setIfInBounds_toArray, List.set_cons_zero, List.set_cons_succ]
                refine wpAnyH_take (i := 21) (oi := { dst := some 183, op := Op.move (Operand.tmp 182), type := 4, pos := "laws.go:37", after := #[{ on := 20, ground := Ground.data }, { on := 17, ground := Ground.chain }], guard := none }) (v := ?_) rfl (by kernel_rfl) (by kernel_rfl) (by kernel_rfl) (fun _ _ _ h => h) (Or.inl ⟨by rfl, ?_⟩) (by assumption) ?_
                rotate_left
                · (intro w hSw; (try dsimp only at hSw); go_simp; (try with_reducible rfl))
                try simp only [Act.put, List.setIfInBounds_toArray, List.set_cons_zero, List.set_cons_succ]
                refine wpAnyH_take (i := 22) (oi := { dst := some 184, op := Op.move (Operand.tmp 10), type := 4, pos := "laws.go:37", after := #[{ on := 21, ground := Ground.guard }], guard := some (21, false) }) (v := ?_) rfl (by kernel_rfl) (by kernel_rfl) (by kernel_rfl) (fun _ _ _ h => h) (Or.inl ⟨by rfl, ?_⟩) (by assumption) ?_
                rotate_left
                · (intro w hSw; (try dsimp only at hSw); go_simp; (try with_reducible rfl))
                try simp only [Act.put, List.setIfInBounds_toArray, List.set_cons_zero, List.set_cons_succ]
                refine wpAnyH_take (i := 23) (oi := { dst := some 185, op := Op.move (Operand.tmp 184), type := 4, pos := "laws.go:37", after := #[{ on := 22, ground := Ground.data }, { on := 21, ground := Ground.chain }, { on := 21, ground := Ground.guard }], guard := some (21, false) }) (v := ?_) rfl (by kernel_rfl) (by kernel_rfl) (by kernel_rfl) (fun _ _ _ h => h) (Or.inl ⟨by rfl, ?_⟩) (by assumption) ?_
                rotate_left
                · (intro w hSw; (try dsimp only at hSw); go_simp; (try with_reducible rfl))
                try simp only [Act.put, List.setIfInBounds_toArray, List.set_cons_zero, List.set_cons_succ]
                cases P2
                · as_aux_lemma =>
                    refine wpAnyH_take (i := 24) (oi := { dst := some 186, op := Op.load 24 (Operand.tmp 9), type := 24, pos := "laws.go:37", after := #[{ on := 23, ground := Ground.guard }], guard := some (23, true) }) (v := _) rfl (by kernel_rfl) (by kernel_rfl) (by kernel_rfl) (fun _ _ _ h => h) (Or.inr ⟨by rfl, rfl⟩) (by assumption) ?_
                    try simp only [Act.put, List.setIfInBounds_toArray, List.set_cons_zero, List.set_cons_succ]
                    refine wpAnyH_take (i := 25) (oi := { dst := some 187, op := Op.move (Operand.tmp 20), type := 3, pos := "laws.go:37", after := #[{ on := 23, ground := Ground.guard }], guard := some (23, true) }) (v := _) rfl (by kernel_rfl) (by kernel_rfl) (by kernel_rfl) (fun _ _ _ h => h) (Or.inr ⟨by rfl, rfl⟩) (by assumption) ?_
                    try simp only [Act.put, List.setIfInBounds_toArray, List.set_cons_zero, List.set_cons_succ]
                    refine wpAnyH_take (i := 26) (oi := { dst := some 188, op := Op.move (Operand.tmp 21), type := 3, pos := "laws.go:37", after := #[{ on := 23, ground := Ground.guard }], guard := some (23, true) }) (v := _) rfl (by kernel_rfl) (by kernel_rfl) (by kernel_rfl) (fun _ _ _ h => h) (Or.inr ⟨by rfl, rfl⟩) (by assumption) ?_
                    try simp only [Act.put, List.setIfInBounds_toArray, List.set_cons_zero, List.set_cons_succ]
                    refine wpAnyH_take (i := 27) (oi := { dst := some 189, op := Op.binOp BinOp.sub 3 (Operand.tmp 187) (Operand.tmp 188) 3, type := 3, pos := "laws.go:37", after := #[{ on := 25, ground := Ground.data }, { on := 26, ground := Ground.data }, { on := 23, ground := Ground.guard }], guard := some (23, true) }) (v := _) rfl (by kernel_rfl) (by kernel_rfl) (by kernel_rfl) (fun _ _ _ h => h) (Or.inr ⟨by rfl, rfl⟩) (by assumption) ?_
                    try simp only [Act.put, List.setIfInBounds_toArray, List.set_cons_zero, List.set_cons_succ]
                    refine wpAnyH_take (i := 28) (oi := { dst := some 190, op := Op.call { callee := Callee.value (Operand.func 16), args := #[Operand.tmp 186, Operand.tmp 189], argTypes := #[24, 3] }, type := 4, pos := "laws.go:37", after := #[{ on := 24, ground := Ground.data }, { on := 27, ground := Ground.data }, { on := 23, ground := Ground.chain }, { on := 23, ground := Ground.guard }], guard := some (23, true) }) (v := _) rfl (by kernel_rfl) (by kernel_rfl) (by kernel_rfl) (fun _ _ _ h => h) (Or.inr ⟨by rfl, rfl⟩) (by assumption) ?_
                    try simp only [Act.put, List.setIfInBounds_toArray, List.set_cons_zero, List.set_cons_succ]
                    refine wpAnyH_take (i := 29) (oi := { dst := some 191, op := Op.unOp UnOp.not 4 (Operand.tmp 190), type := 4, pos := "laws.go:37", after := #[{ on := 28, ground := Ground.data }, { on := 23, ground := Ground.guard }], guard := some (23, true) }) (v := _) rfl (by kernel_rfl) (by kernel_rfl) (by kernel_rfl) (fun _ _ _ h => h) (Or.inr ⟨by rfl, rfl⟩) (by assumption) ?_
                    try simp only [Act.put, List.setIfInBounds_toArray, List.set_cons_zero, List.set_cons_succ]
                    refine wpAnyH_take (i := 30) (oi := { dst := some 192, op := Op.pick (Operand.tmp 185) (Operand.tmp 191) (Operand.const (Value.bool false)), type := 4, pos := "laws.go:37", after := #[{ on := 23, ground := Ground.data }, { on := 29, ground := Ground.data }, { on := 21, ground := Ground.guard }], guard := some (21, false) }) (v := ?_) rfl (by kernel_rfl) (by kernel_rfl) (by kernel_rfl) (fun _ _ _ h => h) (Or.inl ⟨by rfl, ?_⟩) (by assumption) ?_
                    rotate_left
                    · (intro w hSw; (try dsimp only at hSw); go_simp; (try with_reducible rfl))
                    try simp only [Act.put, List.setIfInBounds_toArray, List.set_cons_zero, List.set_cons_succ]
                    refine wpAnyH_take (i := 31) (oi := { dst := some 193, op := Op.pick (Operand.tmp 183) (Operand.const (Value.bool true)) (Operand.tmp 192), type := 4, pos := "laws.go:37", after := #[{ on := 21, ground := Ground.data }, { on := 30, ground := Ground.data }], guard := none }) (v := ?_) rfl (by kernel_rfl) (by kernel_rfl) (by kernel_rfl) (fun _ _ _ h => h) (Or.inl ⟨by rfl, ?_⟩) (by assumption) ?_
                    rotate_left
                    · (intro w hSw; (try dsimp only at hSw); go_simp; (try with_reducible rfl))
                    try simp only [Act.put, List.setIfInBounds_toArray, List.set_cons_zero, List.set_cons_succ]
                    refine wpAnyH_take (i := 32) (oi := { dst := some 194, op := Op.move (Operand.tmp 193), type := 4, pos := "laws.go:37", after := #[{ on := 31, ground := Ground.data }, { on := 28, ground := Ground.chain }], guard := none }) (v := ?_) rfl (by kernel_rfl) (by kernel_rfl) (by kernel_rfl) (fun _ _ _ h => h) (Or.inl ⟨by rfl, ?_⟩) (by assumption) ?_
                    rotate_left
                    · (intro w hSw; (try dsimp only at hSw); go_simp; (try with_reducible rfl))
                    try simp only [Act.put, List.setIfInBounds_toArray, List.set_cons_zero, List.set_cons_succ]
                    refine wpAnyH_take (i := 33) (oi := { dst := some 195, op := Op.move (Operand.tmp 12), type := 4, pos := "laws.go:37", after := #[{ on := 32, ground := Ground.guard }], guard := some (32, false) }) (v := ?_) rfl (by kernel_rfl) (by kernel_rfl) (by kernel_rfl) (fun _ _ _ h => h) (Or.inl ⟨by rfl, ?_⟩) (by assumption) ?_
                    rotate_left
                    · (intro w hSw; (try dsimp only at hSw); go_simp; (try with_reducible rfl))
                    try simp only [Act.put, List.setIfInBounds_toArray, List.set_cons_zero, List.set_cons_succ]
                    refine wpAnyH_take (i := 34) (oi := { dst := some 196, op := Op.move (Operand.tmp 195), type := 4, pos := "laws.go:37", after := #[{ on := 33, ground := Ground.data }, { on := 32, ground := Ground.chain }, { on := 32, ground := Ground.guard }], guard := some (32, false) }) (v := ?_) rfl (by kernel_rfl) (by kernel_rfl) (by kernel_rfl) (fun _ _ _ h => h) (Or.inl ⟨by rfl, ?_⟩) (by assumption) ?_
                    rotate_left
                    · (intro w hSw; (try dsimp only at hSw); go_simp; (try with_reducible rfl))
                    try simp only [Act.put, List.setIfInBounds_toArray, List.set_cons_zero, List.set_cons_succ]
                    cases P3
                    · as_aux_lemma =>
                        refine wpAnyH_take (i := 35) (oi := { dst := some 197, op := Op.load 24 (Operand.tmp 11), type := 24, pos := "laws.go:37", after := #[{ on := 34, ground := Ground.guard }], guard := some (34, true) }) (v := _) rfl (by kernel_rfl) (by kernel_rfl) (by kernel_rfl) (fun _ _ _ h => h) (Or.inr ⟨by rfl, rfl⟩) (by assumption) ?_
                        try simp only [Act.put, List.setIfInBounds_toArray, List.set_cons_zero, List.set_cons_succ]
                        refine wpAnyH_take (i := 36) (oi := { dst := some 198, op := Op.move (Operand.tmp 20), type := 3, pos := "laws.go:37", after := #[{ on := 34, ground := Ground.guard }], guard := some (34, true) }) (v := _) rfl (by kernel_rfl) (by kernel_rfl) (by kernel_rfl) (fun _ _ _ h => h) (Or.inr ⟨by rfl, rfl⟩) (by assumption) ?_
                        try simp only [Act.put, List.setIfInBounds_toArray, List.set_cons_zero, List.set_cons_succ]
                        refine wpAnyH_take (i := 37) (oi := { dst := some 199, op := Op.move (Operand.tmp 21), type := 3, pos := "laws.go:37", after := #[{ on := 34, ground := Ground.guard }], guard := some (34, true) }) (v := _) rfl (by kernel_rfl) (by kernel_rfl) (by kernel_rfl) (fun _ _ _ h => h) (Or.inr ⟨by rfl, rfl⟩) (by assumption) ?_
                        try simp only [Act.put, List.setIfInBounds_toArray, List.set_cons_zero, List.set_cons_succ]
                        refine wpAnyH_take (i := 38) (oi := { dst := some 200, op := Op.binOp BinOp.mul 3 (Operand.tmp 198) (Operand.tmp 199) 3, type := 3, pos := "laws.go:37", after := #[{ on := 36, ground := Ground.data }, { on := 37, ground := Ground.data }, { on := 34, ground := Ground.guard }], guard := some (34, true) }) (v := _) rfl (by kernel_rfl) (by kernel_rfl) (by kernel_rfl) (fun _ _ _ h => h) (Or.inr ⟨by rfl, rfl⟩) (by assumption) ?_
                        try simp only [Act.put, List.setIfInBounds_toArray, List.set_cons_zero, List.set_cons_succ]
                        refine wpAnyH_take (i := 39) (oi := { dst := some 201, op := Op.call { callee := Callee.value (Operand.func 16), args := #[Operand.tmp 197, Operand.tmp 200], argTypes := #[24, 3] }, type := 4, pos := "laws.go:37", after := #[{ on := 35, ground := Ground.data }, { on := 38, ground := Ground.data }, { on := 34, ground := Ground.chain }, { on := 34, ground := Ground.guard }], guard := some (34, true) }) (v := _) rfl (by kernel_rfl) (by kernel_rfl) (by kernel_rfl) (fun _ _ _ h => h) (Or.inr ⟨by rfl, rfl⟩) (by assumption) ?_
                        try simp only [Act.put, List.setIfInBounds_toArray, List.set_cons_zero, List.set_cons_succ]
                        refine wpAnyH_take (i := 40) (oi := { dst := some 202, op := Op.unOp UnOp.not 4 (Operand.tmp 201), type := 4, pos := "laws.go:37", after := #[{ on := 39, ground := Ground.data }, { on := 34, ground := Ground.guard }], guard := some (34, true) }) (v := _) rfl (by kernel_rfl) (by kernel_rfl) (by kernel_rfl) (fun _ _ _ h => h) (Or.inr ⟨by rfl, rfl⟩) (by assumption) ?_
                        try simp only [Act.put, List.setIfInBounds_toArray, List.set_cons_zero, List.set_cons_succ]
                        refine wpAnyH_take (i := 41) (oi := { dst := some 203, op := Op.pick (Operand.tmp 196) (Operand.tmp 202) (Operand.const (Value.bool false)), type := 4, pos := "laws.go:37", after := #[{ on := 34, ground := Ground.data }, { on := 40, ground := Ground.data }, { on := 32, ground := Ground.guard }], guard := some (32, false) }) (v := ?_) rfl (by kernel_rfl) (by kernel_rfl) (by kernel_rfl) (fun _ _ _ h => h) (Or.inl ⟨by rfl, ?_⟩) (by assumption) ?_
                        rotate_left
                        · (intro w hSw; (try dsimp only at hSw); go_simp; (try with_reducible rfl))
                        try simp only [Act.put, List.setIfInBounds_toArray, List.set_cons_zero, List.set_cons_succ]
                        refine wpAnyH_take (i := 42) (oi := { dst := some 204, op := Op.pick (Operand.tmp 194) (Operand.const (Value.bool true)) (Operand.tmp 203), type := 4, pos := "laws.go:37", after := #[{ on := 32, ground := Ground.data }, { on := 41, ground := Ground.data }], guard := none }) (v := ?_) rfl (by kernel_rfl) (by kernel_rfl) (by kernel_rfl) (fun _ _ _ h => h) (Or.inl ⟨by rfl, ?_⟩) (by assumption) ?_
                        rotate_left
                        · (intro w hSw; (try dsimp only at hSw); go_simp; (try with_reducible rfl))
                        try simp only [Act.put, List.setIfInBounds_toArray, List.set_cons_zero, List.set_cons_succ]
                        refine wpAnyH_take (i := 43) (oi := { dst := some 205, op := Op.move (Operand.tmp 204), type := 4, pos := "laws.go:37", after := #[{ on := 42, ground := Ground.data }, { on := 39, ground := Ground.chain }], guard := none }) (v := ?_) rfl (by kernel_rfl) (by kernel_rfl) (by kernel_rfl) (fun _ _ _ h => h) (Or.inl ⟨by rfl, ?_⟩) (by assumption) ?_
                        rotate_left
                        · (intro w hSw; (try dsimp only at hSw); go_simp; (try with_reducible rfl))
                        try simp only [Act.put, List.setIfInBounds_toArray, List.set_cons_zero, List.set_cons_succ]
                        refine wpAnyH_take (i := 44) (oi := { dst := some 206, op := Op.move (Operand.tmp 14), type := 4, pos := "laws.go:37", after := #[{ on := 43, ground := Ground.guard }], guard := some (43, false) }) (v := ?_) rfl (by kernel_rfl) (by kernel_rfl) (by kernel_rfl) (fun _ _ _ h => h) (Or.inl ⟨by rfl, ?_⟩) (by assumption) ?_
                        rotate_left
                        · (intro w hSw; (try dsimp only at hSw); go_simp; (try with_reducible rfl))
                        try simp only [Act.put, List.setIfInBounds_toArray, List.set_cons_zero, List.set_cons_succ]
                        refine wpAnyH_take (i := 45) (oi := { dst := some 207, op := Op.move (Operand.tmp 206), type := 4, pos := "laws.go:37", after := #[{ on := 44, ground := Ground.data }, { on := 43, ground := Ground.chain }, { on := 43, ground := Ground.guard }], guard := some (43, false) }) (v := ?_) rfl (by kernel_rfl) (by kernel_rfl) (by kernel_rfl) (fun _ _ _ h => h) (Or.inl ⟨by rfl, ?_⟩) (by assumption) ?_
                        rotate_left
                        · (intro w hSw; (try dsimp only at hSw); go_simp; (try with_reducible rfl))
                        try simp only [Act.put, List.setIfInBounds_toArray, List.set_cons_zero, List.set_cons_succ]
                        cases P4
                        · as_aux_lemma =>
                            refine wpAnyH_take (i := 46) (oi := { dst := some 208, op := Op.move (Operand.tmp 21), type := 3, pos := "laws.go:37", after := #[{ on := 45, ground := Ground.guard }], guard := some (45, true) }) (v := _) rfl (by kernel_rfl) (by kernel_rfl) (by kernel_rfl) (fun _ _ _ h => h) (Or.inr ⟨by rfl, rfl⟩) (by assumption) ?_
                            try simp only [Act.put, List.setIfInBounds_toArray, List.set_cons_zero, List.set_cons_succ]
                            refine wpAnyH_take (i := 47) (oi := { dst := some 209, op := Op.binOp BinOp.eql 3 (Operand.tmp 208) (Operand.const (Value.int IntKind.i64 0)) 3, type := 4, pos := "laws.go:37", after := #[{ on := 46, ground := Ground.data }, { on := 45, ground := Ground.guard }], guard := some (45, true) }) (v := _) rfl (by kernel_rfl) (by kernel_rfl) (by kernel_rfl) (fun _ _ _ h => h) (Or.inr ⟨by rfl, rfl⟩) (by assumption) ?_
                            try simp only [Act.put, List.setIfInBounds_toArray, List.set_cons_zero, List.set_cons_succ]
                            refine wpAnyH_take (i := 48) (oi := { dst := some 210, op := Op.move (Operand.tmp 209), type := 4, pos := "laws.go:37", after := #[{ on := 47, ground := Ground.data }, { on := 45, ground := Ground.chain }, { on := 45, ground := Ground.guard }], guard := some (45, true) }) (v := _) rfl (by kernel_rfl) (by kernel_rfl) (by kernel_rfl) (fun _ _ _ h => h) (Or.inr ⟨by rfl, rfl⟩) (by assumption) ?_
                            try simp only [Act.put, List.setIfInBounds_toArray, List.set_cons_zero, List.set_cons_succ]
                            refine wpAnyH_take (i := 49) (oi := { dst := some 211, op := Op.load 24 (Operand.tmp 13), type := 24, pos := "laws.go:37", after := #[{ on := 48, ground := Ground.guard }], guard := some (48, false) }) (v := _) rfl (by kernel_rfl) (by kernel_rfl) (by kernel_rfl) (fun _ _ _ h => h) (Or.inr ⟨by rfl, rfl⟩) (by assumption) ?_
                            try simp only [Act.put, List.setIfInBounds_toArray, List.set_cons_zero, List.set_cons_succ]
                            refine wpAnyH_take (i := 50) (oi := { dst := some 212, op := Op.move (Operand.tmp 20), type := 3, pos := "laws.go:37", after := #[{ on := 48, ground := Ground.guard }], guard := some (48, false) }) (v := _) rfl (by kernel_rfl) (by kernel_rfl) (by kernel_rfl) (fun _ _ _ h => h) (Or.inr ⟨by rfl, rfl⟩) (by assumption) ?_
                            try simp only [Act.put, List.setIfInBounds_toArray, List.set_cons_zero, List.set_cons_succ]
                            refine wpAnyH_take (i := 51) (oi := { dst := some 213, op := Op.move (Operand.tmp 21), type := 3, pos := "laws.go:37", after := #[{ on := 48, ground := Ground.guard }], guard := some (48, false) }) (v := _) rfl (by kernel_rfl) (by kernel_rfl) (by kernel_rfl) (fun _ _ _ h => h) (Or.inr ⟨by rfl, rfl⟩) (by assumption) ?_
                            try simp only [Act.put, List.setIfInBounds_toArray, List.set_cons_zero, List.set_cons_succ]
                            refine wpAnyH_take (i := 52) (oi := { dst := some 214, op := Op.binOp BinOp.quo 3 (Operand.tmp 212) (Operand.tmp 213) 3, type := 3, pos := "laws.go:37", after := #[{ on := 50, ground := Ground.data }, { on := 51, ground := Ground.data }, { on := 48, ground := Ground.guard }], guard := some (48, false) }) (v := _) rfl (by kernel_rfl) (by kernel_rfl) (by kernel_rfl) (fun _ _ _ h => h) (Or.inr ⟨by rfl, rfl⟩) (by assumption) ?_
                            try simp only [Act.put, List.setIfInBounds_toArray, List.set_cons_zero, List.set_cons_succ]
                            refine wpAnyH_take (i := 53) (oi := { dst := some 215, op := Op.call { callee := Callee.value (Operand.func 16), args := #[Operand.tmp 211, Operand.tmp 214], argTypes := #[24, 3] }, type := 4, pos := "laws.go:37", after := #[{ on := 49, ground := Ground.data }, { on := 52, ground := Ground.data }, { on := 48, ground := Ground.chain }, { on := 48, ground := Ground.guard }], guard := some (48, false) }) (v := _) rfl (by kernel_rfl) (by kernel_rfl) (by kernel_rfl) (fun _ _ _ h => h) (Or.inr ⟨by rfl, rfl⟩) (by assumption) ?_
                            try simp only [Act.put, List.setIfInBounds_toArray, List.set_cons_zero, List.set_cons_succ]
                            refine wpAnyH_take (i := 54) (oi := { dst := some 216, op := Op.unOp UnOp.not 4 (Operand.tmp 215), type := 4, pos := "laws.go:37", after := #[{ on := 53, ground := Ground.data }, { on := 48, ground := Ground.guard }], guard := some (48, false) }) (v := _) rfl (by kernel_rfl) (by kernel_rfl) (by kernel_rfl) (fun _ _ _ h => h) (Or.inr ⟨by rfl, rfl⟩) (by assumption) ?_
                            try simp only [Act.put, List.setIfInBounds_toArray, List.set_cons_zero, List.set_cons_succ]
                            refine wpAnyH_take (i := 55) (oi := { dst := some 217, op := Op.pick (Operand.tmp 210) (Operand.const (Value.bool true)) (Operand.tmp 216), type := 4, pos := "laws.go:37", after := #[{ on := 48, ground := Ground.data }, { on := 54, ground := Ground.data }, { on := 45, ground := Ground.guard }], guard := some (45, true) }) (v := _) rfl (by kernel_rfl) (by kernel_rfl) (by kernel_rfl) (fun _ _ _ h => h) (Or.inr ⟨by rfl, rfl⟩) (by assumption) ?_
                            try simp only [Act.put, List.setIfInBounds_toArray, List.set_cons_zero, List.set_cons_succ]
                            refine wpAnyH_take (i := 56) (oi := { dst := some 218, op := Op.pick (Operand.tmp 207) (Operand.tmp 217) (Operand.const (Value.bool false)), type := 4, pos := "laws.go:37", after := #[{ on := 45, ground := Ground.data }, { on := 55, ground := Ground.data }, { on := 43, ground := Ground.guard }], guard := some (43, false) }) (v := ?_) rfl (by kernel_rfl) (by kernel_rfl) (by kernel_rfl) (fun _ _ _ h => h) (Or.inl ⟨by rfl, ?_⟩) (by assumption) ?_
                            rotate_left
                            · (intro w hSw; (try dsimp only at hSw); go_simp; (try with_reducible rfl))
                            try simp only [Act.put, List.setIfInBounds_toArray, List.set_cons_zero, List.set_cons_succ]
                            refine wpAnyH_take (i := 57) (oi := { dst := some 219, op := Op.pick (Operand.tmp 205) (Operand.const (Value.bool true)) (Operand.tmp 218), type := 4, pos := "laws.go:37", after := #[{ on := 43, ground := Ground.data }, { on := 56, ground := Ground.data }], guard := none }) (v := ?_) rfl (by kernel_rfl) (by kernel_rfl) (by kernel_rfl) (fun _ _ _ h => h) (Or.inl ⟨by rfl, ?_⟩) (by assumption) ?_
                            rotate_left
                            · (intro w hSw; (try dsimp only at hSw); go_simp; (try with_reducible rfl))
                            try simp only [Act.put, List.setIfInBounds_toArray, List.set_cons_zero, List.set_cons_succ]
                            refine wpAnyH_done (by kernel_rfl) ?_ _
                            go_wp2_with fail
                            go_meet
                            exact ⟨rfl, hA, hD, hS, hU, hM, hV, hBl⟩
                        · as_aux_lemma =>
                            obtain ⟨o4, q4⟩ := F4.out.2 rfl
                            obtain ⟨kn, r4⟩ := q4 m k hm0 hm1 hk0 hk1
                            have ds := div_small m k (by omega) (by omega) kn
                            have v5 : IntKind.i64.wrap (m.tdiv k) = m.tdiv k := by rw [IntKind.wrap_i64]; omega
                            have v6 : wrap64 (m.tdiv k) = m.tdiv k := by unfold wrap64; omega
                            have kb : (k == 0) = false := by simp [kn]
                            clear q4 ds
                            refine wpAnyH_take (i := 46) (oi := { dst := some 208, op := Op.move (Operand.tmp 21), type := 3, pos := "laws.go:37", after := #[{ on := 45, ground := Ground.guard }], guard := some (45, true) }) (v := ?_) rfl (by kernel_rfl) (by kernel_rfl) (by kernel_rfl) (fun _ _ _ h => h) (Or.inl ⟨by rfl, ?_⟩) (by assumption) ?_
                            rotate_left
                            · (intro w hSw; (try dsimp only at hSw); go_simp; (try with_reducible rfl))
                            try simp only [Act.put, List.setIfInBounds_toArray, List.set_cons_zero, List.set_cons_succ]
                            refine wpAnyH_take (i := 47) (oi := { dst := some 209, op := Op.binOp BinOp.eql 3 (Operand.tmp 208) (Operand.const (Value.int IntKind.i64 0)) 3, type := 4, pos := "laws.go:37", after := #[{ on := 46, ground := Ground.data }, { on := 45, ground := Ground.guard }], guard := some (45, true) }) (v := ?_) rfl (by kernel_rfl) (by kernel_rfl) (by kernel_rfl) (fun _ _ _ h => h) (Or.inl ⟨by rfl, ?_⟩) (by assumption) ?_
                            rotate_left
                            · (intro w hSw; (try dsimp only at hSw); go_simp; (try with_reducible rfl))
                            try simp only [Act.put, List.setIfInBounds_toArray, List.set_cons_zero, List.set_cons_succ]
                            refine wpAnyH_take (i := 48) (oi := { dst := some 210, op := Op.move (Operand.tmp 209), type := 4, pos := "laws.go:37", after := #[{ on := 47, ground := Ground.data }, { on := 45, ground := Ground.chain }, { on := 45, ground := Ground.guard }], guard := some (45, true) }) (v := ?_) rfl (by kernel_rfl) (by kernel_rfl) (by kernel_rfl) (fun _ _ _ h => h) (Or.inl ⟨by rfl, ?_⟩) (by assumption) ?_
                            rotate_left
                            · (intro w hSw; (try dsimp only at hSw); go_simp; (try with_reducible rfl))
                            try simp only [Act.put, List.setIfInBounds_toArray, List.set_cons_zero, List.set_cons_succ]
                            refine wpAnyH_take (i := 49) (oi := { dst := some 211, op := Op.load 24 (Operand.tmp 13), type := 24, pos := "laws.go:37", after := #[{ on := 48, ground := Ground.guard }], guard := some (48, false) }) (v := ?_) rfl (by kernel_rfl) (by kernel_rfl) (by kernel_rfl) (fun _ _ _ h => h) (Or.inl ⟨by rfl, ?_⟩) (by assumption) ?_
                            rotate_left
                            · (intro w hSw; (try dsimp only at hSw); go_simp; (try with_reducible rfl))
                            try simp only [Act.put, List.setIfInBounds_toArray, List.set_cons_zero, List.set_cons_succ]
                            refine wpAnyH_take (i := 50) (oi := { dst := some 212, op := Op.move (Operand.tmp 20), type := 3, pos := "laws.go:37", after := #[{ on := 48, ground := Ground.guard }], guard := some (48, false) }) (v := ?_) rfl (by kernel_rfl) (by kernel_rfl) (by kernel_rfl) (fun _ _ _ h => h) (Or.inl ⟨by rfl, ?_⟩) (by assumption) ?_
                            rotate_left
                            · (intro w hSw; (try dsimp only at hSw); go_simp; (try with_reducible rfl))
                            try simp only [Act.put, List.setIfInBounds_toArray, List.set_cons_zero, List.set_cons_succ]
                            refine wpAnyH_take (i := 51) (oi := { dst := some 213, op := Op.move (Operand.tmp 21), type := 3, pos := "laws.go:37", after := #[{ on := 48, ground := Ground.guard }], guard := some (48, false) }) (v := ?_) rfl (by kernel_rfl) (by kernel_rfl) (by kernel_rfl) (fun _ _ _ h => h) (Or.inl ⟨by rfl, ?_⟩) (by assumption) ?_
                            rotate_left
                            · (intro w hSw; (try dsimp only at hSw); go_simp; (try with_reducible rfl))
                            try simp only [Act.put, List.setIfInBounds_toArray, List.set_cons_zero, List.set_cons_succ]
                            refine wpAnyH_take (i := 52) (oi := { dst := some 214, op := Op.binOp BinOp.quo 3 (Operand.tmp 212) (Operand.tmp 213) 3, type := 3, pos := "laws.go:37", after := #[{ on := 50, ground := Ground.data }, { on := 51, ground := Ground.data }, { on := 48, ground := Ground.guard }], guard := some (48, false) }) (v := ?_) rfl (by kernel_rfl) (by kernel_rfl) (by kernel_rfl) (fun _ _ _ h => h) (Or.inl ⟨by rfl, ?_⟩) (by assumption) ?_
                            rotate_left
                            · (intro w hSw; (try dsimp only at hSw); go_simp; (try with_reducible rfl))
                            try simp only [Act.put, List.setIfInBounds_toArray, List.set_cons_zero, List.set_cons_succ]
                            refine wpAnyH_ready (rs := [53]) (by kernel_rfl) (by simp) ?_
                            refine AllReadyH.cons (o := { dst := some 215, op := Op.call { callee := Callee.value (Operand.func 16), args := #[Operand.tmp 211, Operand.tmp 214], argTypes := #[24, 3] }, type := 4, pos := "laws.go:37", after := #[{ on := 49, ground := Ground.data }, { on := 52, ground := Ground.data }, { on := 48, ground := Ground.chain }, { on := 48, ground := Ground.guard }], guard := some (48, false) }) rfl (fun K hK => ?_) AllReadyH.nil
                            go_simp
                            (go_at_call 16; refine (implHas _ _ _ _).mono ?_; rintro e wn ⟨rfl, hb⟩; (replace hBl := bvia hBl (by go_grown) hb); (replace hA := hA.via (by go_grown) hb); (replace hA0 := hA.c0); (replace hA1 := hA.c1); (replace hAz := hA.lt); (replace hD := hD.via (by go_grown) hb); (replace hD0 := hD.c0); (replace hD1 := hD.c1); (replace hDz := hD.lt); (replace hS := hS.via (by go_grown) hb); (replace hS0 := hS.c0); (replace hS1 := hS.c1); (replace hSz := hS.lt); (replace hU := hU.via (by go_grown) hb); (replace hU0 := hU.c0); (replace hU1 := hU.c1); (replace hUz := hU.lt); (replace hM := hM.via (by go_grown) hb); (replace hM0 := hM.c0); (replace hM1 := hM.c1); (replace hMz := hM.lt); (replace hV := hV.via (by go_grown) hb); (replace hV0 := hV.c0); (replace hV1 := hV.c1); (replace hVz := hV.lt); (clear hb))
                            (try go_wp2_with fail)
                            refine hK.out _ _ ?_ (fun hHeld => ?_)
                            · (simp [*, go_sem, World.cell?_alloc_some, World.cell?_setCell_far, apart1, apart2, apart3, apart4, apart5, apart6])
                            clear hK K
                            try simp only [Act.put, List.setIfInBounds_toArray, List.set_cons_zero, List.set_cons_succ]
                            refine wpAnyH_take (i := 54) (oi := { dst := some 216, op := Op.unOp UnOp.not 4 (Operand.tmp 215), type := 4, pos := "laws.go:37", after := #[{ on := 53, ground := Ground.data }, { on := 48, ground := Ground.guard }], guard := some (48, false) }) (v := ?_) rfl (by kernel_rfl) (by kernel_rfl) (by kernel_rfl) (fun _ _ _ h => h) (Or.inl ⟨by rfl, ?_⟩) (by assumption) ?_
                            rotate_left
                            · (intro w hSw; (try dsimp only at hSw); go_simp; (try with_reducible rfl))
                            try simp only [Act.put, List.setIfInBounds_toArray, List.set_cons_zero, List.set_cons_succ]
                            refine wpAnyH_take (i := 55) (oi := { dst := some 217, op := Op.pick (Operand.tmp 210) (Operand.const (Value.bool true)) (Operand.tmp 216), type := 4, pos := "laws.go:37", after := #[{ on := 48, ground := Ground.data }, { on := 54, ground := Ground.data }, { on := 45, ground := Ground.guard }], guard := some (45, true) }) (v := ?_) rfl (by kernel_rfl) (by kernel_rfl) (by kernel_rfl) (fun _ _ _ h => h) (Or.inl ⟨by rfl, ?_⟩) (by assumption) ?_
                            rotate_left
                            · (intro w hSw; (try dsimp only at hSw); go_simp; (try with_reducible rfl))
                            try simp only [Act.put, List.setIfInBounds_toArray, List.set_cons_zero, List.set_cons_succ]
                            refine wpAnyH_take (i := 56) (oi := { dst := some 218, op := Op.pick (Operand.tmp 207) (Operand.tmp 217) (Operand.const (Value.bool false)), type := 4, pos := "laws.go:37", after := #[{ on := 45, ground := Ground.data }, { on := 55, ground := Ground.data }, { on := 43, ground := Ground.guard }], guard := some (43, false) }) (v := ?_) rfl (by kernel_rfl) (by kernel_rfl) (by kernel_rfl) (fun _ _ _ h => h) (Or.inl ⟨by rfl, ?_⟩) (by assumption) ?_
                            rotate_left
                            · (intro w hSw; (try dsimp only at hSw); go_simp; (try with_reducible rfl))
                            try simp only [Act.put, List.setIfInBounds_toArray, List.set_cons_zero, List.set_cons_succ]
                            refine wpAnyH_take (i := 57) (oi := { dst := some 219, op := Op.pick (Operand.tmp 205) (Operand.const (Value.bool true)) (Operand.tmp 218), type := 4, pos := "laws.go:37", after := #[{ on := 43, ground := Ground.data }, { on := 56, ground := Ground.data }], guard := none }) (v := ?_) rfl (by kernel_rfl) (by kernel_rfl) (by kernel_rfl) (fun _ _ _ h => h) (Or.inl ⟨by rfl, ?_⟩) (by assumption) ?_
                            rotate_left
                            · (intro w hSw; (try dsimp only at hSw); go_simp; (try with_reducible rfl))
                            try simp only [Act.put, List.setIfInBounds_toArray, List.set_cons_zero, List.set_cons_succ]
                            refine wpAnyH_done (by kernel_rfl) ?_ _
                            go_wp2_with fail
                            go_meet
                            exact ⟨rfl, hA, hD, hS, hU, hM, hV, hBl⟩
                    · as_aux_lemma =>
                        obtain ⟨o3, q3⟩ := F3.out rfl
                        have r3 := q3 m k hm0 hm1 hk0 hk1
                        clear q3
                        refine wpAnyH_take (i := 35) (oi := { dst := some 197, op := Op.load 24 (Operand.tmp 11), type := 24, pos := "laws.go:37", after := #[{ on := 34, ground := Ground.guard }], guard := some (34, true) }) (v := ?_) rfl (by kernel_rfl) (by kernel_rfl) (by kernel_rfl) (fun _ _ _ h => h) (Or.inl ⟨by rfl, ?_⟩) (by assumption) ?_
                        rotate_left
                        · (intro w hSw; (try dsimp only at hSw); go_simp; (try with_reducible rfl))
                        try simp only [Act.put, List.setIfInBounds_toArray, List.set_cons_zero, List.set_cons_succ]
                        refine wpAnyH_take (i := 36) (oi := { dst := some 198, op := Op.move (Operand.tmp 20), type := 3, pos := "laws.go:37", after := #[{ on := 34, ground := Ground.guard }], guard := some (34, true) }) (v := ?_) rfl (by kernel_rfl) (by kernel_rfl) (by kernel_rfl) (fun _ _ _ h => h) (Or.inl ⟨by rfl, ?_⟩) (by assumption) ?_
                        rotate_left
                        · (intro w hSw; (try dsimp only at hSw); go_simp; (try with_reducible rfl))
                        try simp only [Act.put, List.setIfInBounds_toArray, List.set_cons_zero, List.set_cons_succ]
                        refine wpAnyH_take (i := 37) (oi := { dst := some 199, op := Op.move (Operand.tmp 21), type := 3, pos := "laws.go:37", after := #[{ on := 34, ground := Ground.guard }], guard := some (34, true) }) (v := ?_) rfl (by kernel_rfl) (by kernel_rfl) (by kernel_rfl) (fun _ _ _ h => h) (Or.inl ⟨by rfl, ?_⟩) (by assumption) ?_
                        rotate_left
                        · (intro w hSw; (try dsimp only at hSw); go_simp; (try with_reducible rfl))
                        try simp only [Act.put, List.setIfInBounds_toArray, List.set_cons_zero, List.set_cons_succ]
                        refine wpAnyH_take (i := 38) (oi := { dst := some 200, op := Op.binOp BinOp.mul 3 (Operand.tmp 198) (Operand.tmp 199) 3, type := 3, pos := "laws.go:37", after := #[{ on := 36, ground := Ground.data }, { on := 37, ground := Ground.data }, { on := 34, ground := Ground.guard }], guard := some (34, true) }) (v := ?_) rfl (by kernel_rfl) (by kernel_rfl) (by kernel_rfl) (fun _ _ _ h => h) (Or.inl ⟨by rfl, ?_⟩) (by assumption) ?_
                        rotate_left
                        · (intro w hSw; (try dsimp only at hSw); go_simp; (try with_reducible rfl))
                        try simp only [Act.put, List.setIfInBounds_toArray, List.set_cons_zero, List.set_cons_succ]
                        refine wpAnyH_ready (rs := [39]) (by kernel_rfl) (by simp) ?_
                        refine AllReadyH.cons (o := { dst := some 201, op := Op.call { callee := Callee.value (Operand.func 16), args := #[Operand.tmp 197, Operand.tmp 200], argTypes := #[24, 3] }, type := 4, pos := "laws.go:37", after := #[{ on := 35, ground := Ground.data }, { on := 38, ground := Ground.data }, { on := 34, ground := Ground.chain }, { on := 34, ground := Ground.guard }], guard := some (34, true) }) rfl (fun K hK => ?_) AllReadyH.nil
                        go_simp
                        (go_at_call 16; refine (implHas _ _ _ _).mono ?_; rintro e wn ⟨rfl, hb⟩; (replace hBl := bvia hBl (by go_grown) hb); (replace hA := hA.via (by go_grown) hb); (replace hA0 := hA.c0); (replace hA1 := hA.c1); (replace hAz := hA.lt); (replace hD := hD.via (by go_grown) hb); (replace hD0 := hD.c0); (replace hD1 := hD.c1); (replace hDz := hD.lt); (replace hS := hS.via (by go_grown) hb); (replace hS0 := hS.c0); (replace hS1 := hS.c1); (replace hSz := hS.lt); (replace hU := hU.via (by go_grown) hb); (replace hU0 := hU.c0); (replace hU1 := hU.c1); (replace hUz := hU.lt); (replace hM := hM.via (by go_grown) hb); (replace hM0 := hM.c0); (replace hM1 := hM.c1); (replace hMz := hM.lt); (replace hV := hV.via (by go_grown) hb); (replace hV0 := hV.c0); (replace hV1 := hV.c1); (replace hVz := hV.lt); (clear hb))
                        (try go_wp2_with fail)
                        refine hK.out _ _ ?_ (fun hHeld => ?_)
                        · (simp [*, go_sem, World.cell?_alloc_some, World.cell?_setCell_far, apart1, apart2, apart3, apart4, apart5, apart6])
                        clear hK K
                        try simp only [Act.put, List.setIfInBounds_toArray, List.set_cons_zero, List.set_cons_succ]
                        refine wpAnyH_take (i := 40) (oi := { dst := some 202, op := Op.unOp UnOp.not 4 (Operand.tmp 201), type := 4, pos := "laws.go:37", after := #[{ on := 39, ground := Ground.data }, { on := 34, ground := Ground.guard }], guard := some (34, true) }) (v := ?_) rfl (by kernel_rfl) (by kernel_rfl) (by kernel_rfl) (fun _ _ _ h => h) (Or.inl ⟨by rfl, ?_⟩) (by assumption) ?_
                        rotate_left
                        · (intro w hSw; (try dsimp only at hSw); go_simp; (try with_reducible rfl))
                        try simp only [Act.put, List.setIfInBounds_toArray, List.set_cons_zero, List.set_cons_succ]
                        refine wpAnyH_take (i := 41) (oi := { dst := some 203, op := Op.pick (Operand.tmp 196) (Operand.tmp 202) (Operand.const (Value.bool false)), type := 4, pos := "laws.go:37", after := #[{ on := 34, ground := Ground.data }, { on := 40, ground := Ground.data }, { on := 32, ground := Ground.guard }], guard := some (32, false) }) (v := ?_) rfl (by kernel_rfl) (by kernel_rfl) (by kernel_rfl) (fun _ _ _ h => h) (Or.inl ⟨by rfl, ?_⟩) (by assumption) ?_
                        rotate_left
                        · (intro w hSw; (try dsimp only at hSw); go_simp; (try with_reducible rfl))
                        try simp only [Act.put, List.setIfInBounds_toArray, List.set_cons_zero, List.set_cons_succ]
                        refine wpAnyH_take (i := 42) (oi := { dst := some 204, op := Op.pick (Operand.tmp 194) (Operand.const (Value.bool true)) (Operand.tmp 203), type := 4, pos := "laws.go:37", after := #[{ on := 32, ground := Ground.data }, { on := 41, ground := Ground.data }], guard := none }) (v := ?_) rfl (by kernel_rfl) (by kernel_rfl) (by kernel_rfl) (fun _ _ _ h => h) (Or.inl ⟨by rfl, ?_⟩) (by assumption) ?_
                        rotate_left
                        · (intro w hSw; (try dsimp only at hSw); go_simp; (try with_reducible rfl))
                        try simp only [Act.put, List.setIfInBounds_toArray, List.set_cons_zero, List.set_cons_succ]
                        refine wpAnyH_take (i := 43) (oi := { dst := some 205, op := Op.move (Operand.tmp 204), type := 4, pos := "laws.go:37", after := #[{ on := 42, ground := Ground.data }, { on := 39, ground := Ground.chain }], guard := none }) (v := ?_) rfl (by kernel_rfl) (by kernel_rfl) (by kernel_rfl) (fun _ _ _ h => h) (Or.inl ⟨by rfl, ?_⟩) (by assumption) ?_
                        rotate_left
                        · (intro w hSw; (try dsimp only at hSw); go_simp; (try with_reducible rfl))
                        try simp only [Act.put, List.setIfInBounds_toArray, List.set_cons_zero, List.set_cons_succ]
                        refine wpAnyH_take (i := 44) (oi := { dst := some 206, op := Op.move (Operand.tmp 14), type := 4, pos := "laws.go:37", after := #[{ on := 43, ground := Ground.guard }], guard := some (43, false) }) (v := ?_) rfl (by kernel_rfl) (by kernel_rfl) (by kernel_rfl) (fun _ _ _ h => h) (Or.inl ⟨by rfl, ?_⟩) (by assumption) ?_
                        rotate_left
                        · (intro w hSw; (try dsimp only at hSw); go_simp; (try with_reducible rfl))
                        try simp only [Act.put, List.setIfInBounds_toArray, List.set_cons_zero, List.set_cons_succ]
                        refine wpAnyH_take (i := 45) (oi := { dst := some 207, op := Op.move (Operand.tmp 206), type := 4, pos := "laws.go:37", after := #[{ on := 44, ground := Ground.data }, { on := 43, ground := Ground.chain }, { on := 43, ground := Ground.guard }], guard := some (43, false) }) (v := ?_) rfl (by kernel_rfl) (by kernel_rfl) (by kernel_rfl) (fun _ _ _ h => h) (Or.inl ⟨by rfl, ?_⟩) (by assumption) ?_
                        rotate_left
                        · (intro w hSw; (try dsimp only at hSw); go_simp; (try with_reducible rfl))
                        try simp only [Act.put, List.setIfInBounds_toArray, List.set_cons_zero, List.set_cons_succ]
                        cases P4
                        · as_aux_lemma =>
                            refine wpAnyH_take (i := 46) (oi := { dst := some 208, op := Op.move (Operand.tmp 21), type := 3, pos := "laws.go:37", after := #[{ on := 45, ground := Ground.guard }], guard := some (45, true) }) (v := _) rfl (by kernel_rfl) (by kernel_rfl) (by kernel_rfl) (fun _ _ _ h => h) (Or.inr ⟨by rfl, rfl⟩) (by assumption) ?_
                            try simp only [Act.put, List.setIfInBounds_toArray, List.set_cons_zero, List.set_cons_succ]
                            refine wpAnyH_take (i := 47) (oi := { dst := some 209, op := Op.binOp BinOp.eql 3 (Operand.tmp 208) (Operand.const (Value.int IntKind.i64 0)) 3, type := 4, pos := "laws.go:37", after := #[{ on := 46, ground := Ground.data }, { on := 45, ground := Ground.guard }], guard := some (45, true) }) (v := _) rfl (by kernel_rfl) (by kernel_rfl) (by kernel_rfl) (fun _ _ _ h => h) (Or.inr ⟨by rfl, rfl⟩) (by assumption) ?_
                            try simp only [Act.put, List.setIfInBounds_toArray, List.set_cons_zero, List.set_cons_succ]
                            refine wpAnyH_take (i := 48) (oi := { dst := some 210, op := Op.move (Operand.tmp 209), type := 4, pos := "laws.go:37", after := #[{ on := 47, ground := Ground.data }, { on := 45, ground := Ground.chain }, { on := 45, ground := Ground.guard }], guard := some (45, true) }) (v := _) rfl (by kernel_rfl) (by kernel_rfl) (by kernel_rfl) (fun _ _ _ h => h) (Or.inr ⟨by rfl, rfl⟩) (by assumption) ?_
                            try simp only [Act.put, List.setIfInBounds_toArray, List.set_cons_zero, List.set_cons_succ]
                            refine wpAnyH_take (i := 49) (oi := { dst := some 211, op := Op.load 24 (Operand.tmp 13), type := 24, pos := "laws.go:37", after := #[{ on := 48, ground := Ground.guard }], guard := some (48, false) }) (v := _) rfl (by kernel_rfl) (by kernel_rfl) (by kernel_rfl) (fun _ _ _ h => h) (Or.inr ⟨by rfl, rfl⟩) (by assumption) ?_
                            try simp only [Act.put, List.setIfInBounds_toArray, List.set_cons_zero, List.set_cons_succ]
                            refine wpAnyH_take (i := 50) (oi := { dst := some 212, op := Op.move (Operand.tmp 20), type := 3, pos := "laws.go:37", after := #[{ on := 48, ground := Ground.guard }], guard := some (48, false) }) (v := _) rfl (by kernel_rfl) (by kernel_rfl) (by kernel_rfl) (fun _ _ _ h => h) (Or.inr ⟨by rfl, rfl⟩) (by assumption) ?_
                            try simp only [Act.put, List.setIfInBounds_toArray, List.set_cons_zero, List.set_cons_succ]
                            refine wpAnyH_take (i := 51) (oi := { dst := some 213, op := Op.move (Operand.tmp 21), type := 3, pos := "laws.go:37", after := #[{ on := 48, ground := Ground.guard }], guard := some (48, false) }) (v := _) rfl (by kernel_rfl) (by kernel_rfl) (by kernel_rfl) (fun _ _ _ h => h) (Or.inr ⟨by rfl, rfl⟩) (by assumption) ?_
                            try simp only [Act.put, List.setIfInBounds_toArray, List.set_cons_zero, List.set_cons_succ]
                            refine wpAnyH_take (i := 52) (oi := { dst := some 214, op := Op.binOp BinOp.quo 3 (Operand.tmp 212) (Operand.tmp 213) 3, type := 3, pos := "laws.go:37", after := #[{ on := 50, ground := Ground.data }, { on := 51, ground := Ground.data }, { on := 48, ground := Ground.guard }], guard := some (48, false) }) (v := _) rfl (by kernel_rfl) (by kernel_rfl) (by kernel_rfl) (fun _ _ _ h => h) (Or.inr ⟨by rfl, rfl⟩) (by assumption) ?_
                            try simp only [Act.put, List.setIfInBounds_toArray, List.set_cons_zero, List.set_cons_succ]
                            refine wpAnyH_take (i := 53) (oi := { dst := some 215, op := Op.call { callee := Callee.value (Operand.func 16), args := #[Operand.tmp 211, Operand.tmp 214], argTypes := #[24, 3] }, type := 4, pos := "laws.go:37", after := #[{ on := 49, ground := Ground.data }, { on := 52, ground := Ground.data }, { on := 48, ground := Ground.chain }, { on := 48, ground := Ground.guard }], guard := some (48, false) }) (v := _) rfl (by kernel_rfl) (by kernel_rfl) (by kernel_rfl) (fun _ _ _ h => h) (Or.inr ⟨by rfl, rfl⟩) (by assumption) ?_
                            try simp only [Act.put, List.setIfInBounds_toArray, List.set_cons_zero, List.set_cons_succ]
                            refine wpAnyH_take (i := 54) (oi := { dst := some 216, op := Op.unOp UnOp.not 4 (Operand.tmp 215), type := 4, pos := "laws.go:37", after := #[{ on := 53, ground := Ground.data }, { on := 48, ground := Ground.guard }], guard := some (48, false) }) (v := _) rfl (by kernel_rfl) (by kernel_rfl) (by kernel_rfl) (fun _ _ _ h => h) (Or.inr ⟨by rfl, rfl⟩) (by assumption) ?_
                            try simp only [Act.put, List.setIfInBounds_toArray, List.set_cons_zero, List.set_cons_succ]
                            refine wpAnyH_take (i := 55) (oi := { dst := some 217, op := Op.pick (Operand.tmp 210) (Operand.const (Value.bool true)) (Operand.tmp 216), type := 4, pos := "laws.go:37", after := #[{ on := 48, ground := Ground.data }, { on := 54, ground := Ground.data }, { on := 45, ground := Ground.guard }], guard := some (45, true) }) (v := _) rfl (by kernel_rfl) (by kernel_rfl) (by kernel_rfl) (fun _ _ _ h => h) (Or.inr ⟨by rfl, rfl⟩) (by assumption) ?_
                            try simp only [Act.put, List.setIfInBounds_toArray, List.set_cons_zero, List.set_cons_succ]
                            refine wpAnyH_take (i := 56) (oi := { dst := some 218, op := Op.pick (Operand.tmp 207) (Operand.tmp 217) (Operand.const (Value.bool false)), type := 4, pos := "laws.go:37", after := #[{ on := 45, ground := Ground.data }, { on := 55, ground := Ground.data }, { on := 43, ground := Ground.guard }], guard := some (43, false) }) (v := ?_) rfl (by kernel_rfl) (by kernel_rfl) (by kernel_rfl) (fun _ _ _ h => h) (Or.inl ⟨by rfl, ?_⟩) (by assumption) ?_
                            rotate_left
                            · (intro w hSw; (try dsimp only at hSw); go_simp; (try with_reducible rfl))
                            try simp only [Act.put, List.setIfInBounds_toArray, List.set_cons_zero, List.set_cons_succ]
                            refine wpAnyH_take (i := 57) (oi := { dst := some 219, op := Op.pick (Operand.tmp 205) (Operand.const (Value.bool true)) (Operand.tmp 218), type := 4, pos := "laws.go:37", after := #[{ on := 43, ground := Ground.data }, { on := 56, ground := Ground.data }], guard := none }) (v := ?_) rfl (by kernel_rfl) (by kernel_rfl) (by kernel_rfl) (fun _ _ _ h => h) (Or.inl ⟨by rfl, ?_⟩) (by assumption) ?_
                            rotate_left
                            · (intro w hSw; (try dsimp only at hSw); go_simp; (try with_reducible rfl))
                            try simp only [Act.put, List.setIfInBounds_toArray, List.set_cons_zero, List.set_cons_succ]
                            refine wpAnyH_done (by kernel_rfl) ?_ _
                            go_wp2_with fail
                            go_meet
                            exact ⟨rfl, hA, hD, hS, hU, hM, hV, hBl⟩
                        · as_aux_lemma =>
                            obtain ⟨o4, q4⟩ := F4.out.2 rfl
                            obtain ⟨kn, r4⟩ := q4 m k hm0 hm1 hk0 hk1
                            have ds := div_small m k (by omega) (by omega) kn
                            have v5 : IntKind.i64.wrap (m.tdiv k) = m.tdiv k := by rw [IntKind.wrap_i64]; omega
                            have v6 : wrap64 (m.tdiv k) = m.tdiv k := by unfold wrap64; omega
                            have kb : (k == 0) = false := by simp [kn]
                            clear q4 ds
                            refine wpAnyH_take (i := 46) (oi := { dst := some 208, op := Op.move (Operand.tmp 21), type := 3, pos := "laws.go:37", after := #[{ on := 45, ground := Ground.guard }], guard := some (45, true) }) (v := ?_) rfl (by kernel_rfl) (by kernel_rfl) (by kernel_rfl) (fun _ _ _ h => h) (Or.inl ⟨by rfl, ?_⟩) (by assumption) ?_
                            rotate_left
                            · (intro w hSw; (try dsimp only at hSw); go_simp; (try with_reducible rfl))
                            try simp only [Act.put, List.setIfInBounds_toArray, List.set_cons_zero, List.set_cons_succ]
                            refine wpAnyH_take (i := 47) (oi := { dst := some 209, op := Op.binOp BinOp.eql 3 (Operand.tmp 208) (Operand.const (Value.int IntKind.i64 0)) 3, type := 4, pos := "laws.go:37", after := #[{ on := 46, ground := Ground.data }, { on := 45, ground := Ground.guard }], guard := some (45, true) }) (v := ?_) rfl (by kernel_rfl) (by kernel_rfl) (by kernel_rfl) (fun _ _ _ h => h) (Or.inl ⟨by rfl, ?_⟩) (by assumption) ?_
                            rotate_left
                            · (intro w hSw; (try dsimp only at hSw); go_simp; (try with_reducible rfl))
                            try simp only [Act.put, List.setIfInBounds_toArray, List.set_cons_zero, List.set_cons_succ]
                            refine wpAnyH_take (i := 48) (oi := { dst := some 210, op := Op.move (Operand.tmp 209), type := 4, pos := "laws.go:37", after := #[{ on := 47, ground := Ground.data }, { on := 45, ground := Ground.chain }, { on := 45, ground := Ground.guard }], guard := some (45, true) }) (v := ?_) rfl (by kernel_rfl) (by kernel_rfl) (by kernel_rfl) (fun _ _ _ h => h) (Or.inl ⟨by rfl, ?_⟩) (by assumption) ?_
                            rotate_left
                            · (intro w hSw; (try dsimp only at hSw); go_simp; (try with_reducible rfl))
                            try simp only [Act.put, List.setIfInBounds_toArray, List.set_cons_zero, List.set_cons_succ]
                            refine wpAnyH_take (i := 49) (oi := { dst := some 211, op := Op.load 24 (Operand.tmp 13), type := 24, pos := "laws.go:37", after := #[{ on := 48, ground := Ground.guard }], guard := some (48, false) }) (v := ?_) rfl (by kernel_rfl) (by kernel_rfl) (by kernel_rfl) (fun _ _ _ h => h) (Or.inl ⟨by rfl, ?_⟩) (by assumption) ?_
                            rotate_left
                            · (intro w hSw; (try dsimp only at hSw); go_simp; (try with_reducible rfl))
                            try simp only [Act.put, List.setIfInBounds_toArray, List.set_cons_zero, List.set_cons_succ]
                            refine wpAnyH_take (i := 50) (oi := { dst := some 212, op := Op.move (Operand.tmp 20), type := 3, pos := "laws.go:37", after := #[{ on := 48, ground := Ground.guard }], guard := some (48, false) }) (v := ?_) rfl (by kernel_rfl) (by kernel_rfl) (by kernel_rfl) (fun _ _ _ h => h) (Or.inl ⟨by rfl, ?_⟩) (by assumption) ?_
                            rotate_left
                            · (intro w hSw; (try dsimp only at hSw); go_simp; (try with_reducible rfl))
                            try simp only [Act.put, List.setIfInBounds_toArray, List.set_cons_zero, List.set_cons_succ]
                            refine wpAnyH_take (i := 51) (oi := { dst := some 213, op := Op.move (Operand.tmp 21), type := 3, pos := "laws.go:37", after := #[{ on := 48, ground := Ground.guard }], guard := some (48, false) }) (v := ?_) rfl (by kernel_rfl) (by kernel_rfl) (by kernel_rfl) (fun _ _ _ h => h) (Or.inl ⟨by rfl, ?_⟩) (by assumption) ?_
                            rotate_left
                            · (intro w hSw; (try dsimp only at hSw); go_simp; (try with_reducible rfl))
                            try simp only [Act.put, List.setIfInBounds_toArray, List.set_cons_zero, List.set_cons_succ]
                            refine wpAnyH_take (i := 52) (oi := { dst := some 214, op := Op.binOp BinOp.quo 3 (Operand.tmp 212) (Operand.tmp 213) 3, type := 3, pos := "laws.go:37", after := #[{ on := 50, ground := Ground.data }, { on := 51, ground := Ground.data }, { on := 48, ground := Ground.guard }], guard := some (48, false) }) (v := ?_) rfl (by kernel_rfl) (by kernel_rfl) (by kernel_rfl) (fun _ _ _ h => h) (Or.inl ⟨by rfl, ?_⟩) (by assumption) ?_
                            rotate_left
                            · (intro w hSw; (try dsimp only at hSw); go_simp; (try with_reducible rfl))
                            try simp only [Act.put, List.setIfInBounds_toArray, List.set_cons_zero, List.set_cons_succ]
                            refine wpAnyH_ready (rs := [53]) (by kernel_rfl) (by simp) ?_
                            refine AllReadyH.cons (o := { dst := some 215, op := Op.call { callee := Callee.value (Operand.func 16), args := #[Operand.tmp 211, Operand.tmp 214], argTypes := #[24, 3] }, type := 4, pos := "laws.go:37", after := #[{ on := 49, ground := Ground.data }, { on := 52, ground := Ground.data }, { on := 48, ground := Ground.chain }, { on := 48, ground := Ground.guard }], guard := some (48, false) }) rfl (fun K hK => ?_) AllReadyH.nil
                            go_simp
                            (go_at_call 16; refine (implHas _ _ _ _).mono ?_; rintro e wn ⟨rfl, hb⟩; (replace hBl := bvia hBl (by go_grown) hb); (replace hA := hA.via (by go_grown) hb); (replace hA0 := hA.c0); (replace hA1 := hA.c1); (replace hAz := hA.lt); (replace hD := hD.via (by go_grown) hb); (replace hD0 := hD.c0); (replace hD1 := hD.c1); (replace hDz := hD.lt); (replace hS := hS.via (by go_grown) hb); (replace hS0 := hS.c0); (replace hS1 := hS.c1); (replace hSz := hS.lt); (replace hU := hU.via (by go_grown) hb); (replace hU0 := hU.c0); (replace hU1 := hU.c1); (replace hUz := hU.lt); (replace hM := hM.via (by go_grown) hb); (replace hM0 := hM.c0); (replace hM1 := hM.c1); (replace hMz := hM.lt); (replace hV := hV.via (by go_grown) hb); (replace hV0 := hV.c0); (replace hV1 := hV.c1); (replace hVz := hV.lt); (clear hb))
                            (try go_wp2_with fail)
                            refine hK.out _ _ ?_ (fun hHeld => ?_)
                            · (simp [*, go_sem, World.cell?_alloc_some, World.cell?_setCell_far, apart1, apart2, apart3, apart4, apart5, apart6])
                            clear hK K
                            try simp only [Act.put, List.setIfInBounds_toArray, List.set_cons_zero, List.set_cons_succ]
                            refine wpAnyH_take (i := 54) (oi := { dst := some 216, op := Op.unOp UnOp.not 4 (Operand.tmp 215), type := 4, pos := "laws.go:37", after := #[{ on := 53, ground := Ground.data }, { on := 48, ground := Ground.guard }], guard := some (48, false) }) (v := ?_) rfl (by kernel_rfl) (by kernel_rfl) (by kernel_rfl) (fun _ _ _ h => h) (Or.inl ⟨by rfl, ?_⟩) (by assumption) ?_
                            rotate_left
                            · (intro w hSw; (try dsimp only at hSw); go_simp; (try with_reducible rfl))
                            try simp only [Act.put, List.setIfInBounds_toArray, List.set_cons_zero, List.set_cons_succ]
                            refine wpAnyH_take (i := 55) (oi := { dst := some 217, op := Op.pick (Operand.tmp 210) (Operand.const (Value.bool true)) (Operand.tmp 216), type := 4, pos := "laws.go:37", after := #[{ on := 48, ground := Ground.data }, { on := 54, ground := Ground.data }, { on := 45, ground := Ground.guard }], guard := some (45, true) }) (v := ?_) rfl (by kernel_rfl) (by kernel_rfl) (by kernel_rfl) (fun _ _ _ h => h) (Or.inl ⟨by rfl, ?_⟩) (by assumption) ?_
                            rotate_left
                            · (intro w hSw; (try dsimp only at hSw); go_simp; (try with_reducible rfl))
                            try simp only [Act.put, List.setIfInBounds_toArray, List.set_cons_zero, List.set_cons_succ]
                            refine wpAnyH_take (i := 56) (oi := { dst := some 218, op := Op.pick (Operand.tmp 207) (Operand.tmp 217) (Operand.const (Value.bool false)), type := 4, pos := "laws.go:37", after := #[{ on := 45, ground := Ground.data }, { on := 55, ground := Ground.data }, { on := 43, ground := Ground.guard }], guard := some (43, false) }) (v := ?_) rfl (by kernel_rfl) (by kernel_rfl) (by kernel_rfl) (fun _ _ _ h => h) (Or.inl ⟨by rfl, ?_⟩) (by assumption) ?_
                            rotate_left
                            · (intro w hSw; (try dsimp only at hSw); go_simp; (try with_reducible rfl))
                            try simp only [Act.put, List.setIfInBounds_toArray, List.set_cons_zero, List.set_cons_succ]
                            refine wpAnyH_take (i := 57) (oi := { dst := some 219, op := Op.pick (Operand.tmp 205) (Operand.const (Value.bool true)) (Operand.tmp 218), type := 4, pos := "laws.go:37", after := #[{ on := 43, ground := Ground.data }, { on := 56, ground := Ground.data }], guard := none }) (v := ?_) rfl (by kernel_rfl) (by kernel_rfl) (by kernel_rfl) (fun _ _ _ h => h) (Or.inl ⟨by rfl, ?_⟩) (by assumption) ?_
                            rotate_left
                            · (intro w hSw; (try dsimp only at hSw); go_simp; (try with_reducible rfl))
                            try simp only [Act.put, List.setIfInBounds_toArray, List.set_cons_zero, List.set_cons_succ]
                            refine wpAnyH_done (by kernel_rfl) ?_ _
                            go_wp2_with fail
                            go_meet
                            exact ⟨rfl, hA, hD, hS, hU, hM, hV, hBl⟩
                · as_aux_lemma =>
                    obtain ⟨o2, q2⟩ := F2.out rfl
                    have r2 := q2 m k hm0 hm1 hk0 hk1
                    clear q2
                    refine wpAnyH_take (i := 24) (oi := { dst := some 186, op := Op.load 24 (Operand.tmp 9), type := 24, pos := "laws.go:37", after := #[{ on := 23, ground := Ground.guard }], guard := some (23, true) }) (v := ?_) rfl (by kernel_rfl) (by kernel_rfl) (by kernel_rfl) (fun _ _ _ h => h) (Or.inl ⟨by rfl, ?_⟩) (by assumption) ?_
                    rotate_left
                    · (intro w hSw; (try dsimp only at hSw); go_simp; (try with_reducible rfl))
                    try simp only [Act.put, List.setIfInBounds_toArray, List.set_cons_zero, List.set_cons_succ]
                    refine wpAnyH_take (i := 25) (oi := { dst := some 187, op := Op.move (Operand.tmp 20), type := 3, pos := "laws.go:37", after := #[{ on := 23, ground := Ground.guard }], guard := some (23, true) }) (v := ?_) rfl (by kernel_rfl) (by kernel_rfl) (by kernel_rfl) (fun _ _ _ h => h) (Or.inl ⟨by rfl, ?_⟩) (by assumption) ?_
                    rotate_left
                    · (intro w hSw; (try dsimp only at hSw); go_simp; (try with_reducible rfl))
                    try simp only [Act.put, List.setIfInBounds_toArray, List.set_cons_zero, List.set_cons_succ]
                    refine wpAnyH_take (i := 26) (oi := { dst := some 188, op := Op.move (Operand.tmp 21), type := 3, pos := "laws.go:37", after := #[{ on := 23, ground := Ground.guard }], guard := some (23, true) }) (v := ?_) rfl (by kernel_rfl) (by kernel_rfl) (by kernel_rfl) (fun _ _ _ h => h) (Or.inl ⟨by rfl, ?_⟩) (by assumption) ?_
                    rotate_left
                    · (intro w hSw; (try dsimp only at hSw); go_simp; (try with_reducible rfl))
                    try simp only [Act.put, List.setIfInBounds_toArray, List.set_cons_zero, List.set_cons_succ]
                    refine wpAnyH_take (i := 27) (oi := { dst := some 189, op := Op.binOp BinOp.sub 3 (Operand.tmp 187) (Operand.tmp 188) 3, type := 3, pos := "laws.go:37", after := #[{ on := 25, ground := Ground.data }, { on := 26, ground := Ground.data }, { on := 23, ground := Ground.guard }], guard := some (23, true) }) (v := ?_) rfl (by kernel_rfl) (by kernel_rfl) (by kernel_rfl) (fun _ _ _ h => h) (Or.inl ⟨by rfl, ?_⟩) (by assumption) ?_
                    rotate_left
                    · (intro w hSw; (try dsimp only at hSw); go_simp; (try with_reducible rfl))
                    try simp only [Act.put, List.setIfInBounds_toArray, List.set_cons_zero, List.set_cons_succ]
                    refine wpAnyH_ready (rs := [28]) (by kernel_rfl) (by simp) ?_
                    refine AllReadyH.cons (o := { dst := some 190, op := Op.call { callee := Callee.value (Operand.func 16), args := #[Operand.tmp 186, Operand.tmp 189], argTypes := #[24, 3] }, type := 4, pos := "laws.go:37", after := #[{ on := 24, ground := Ground.data }, { on := 27, ground := Ground.data }, { on := 23, ground := Ground.chain }, { on := 23, ground := Ground.guard }], guard := some (23, true) }) rfl (fun K hK => ?_) AllReadyH.nil
                    go_simp
                    (go_at_call 16; refine (implHas _ _ _ _).mono ?_; rintro e wn ⟨rfl, hb⟩; (replace hBl := bvia hBl (by go_grown) hb); (replace hA := hA.via (by go_grown) hb); (replace hA0 := hA.c0); (replace hA1 := hA.c1); (replace hAz := hA.lt); (replace hD := hD.via (by go_grown) hb); (replace hD0 := hD.c0); (replace hD1 := hD.c1); (replace hDz := hD.lt); (replace hS := hS.via (by go_grown) hb); (replace hS0 := hS.c0); (replace hS1 := hS.c1); (replace hSz := hS.lt); (replace hU := hU.via (by go_grown) hb); (replace hU0 := hU.c0); (replace hU1 := hU.c1); (replace hUz := hU.lt); (replace hM := hM.via (by go_grown) hb); (replace hM0 := hM.c0); (replace hM1 := hM.c1); (replace hMz := hM.lt); (replace hV := hV.via (by go_grown) hb); (replace hV0 := hV.c0); (replace hV1 := hV.c1); (replace hVz := hV.lt); (clear hb))
                    (try go_wp2_with fail)
                    refine hK.out _ _ ?_ (fun hHeld => ?_)
                    · (simp [*, go_sem, World.cell?_alloc_some, World.cell?_setCell_far, apart1, apart2, apart3, apart4, apart5, apart6])
                    clear hK K
                    try simp only [Act.put, List.setIfInBounds_toArray, List.set_cons_zero, List.set_cons_succ]
                    refine wpAnyH_take (i := 29) (oi := { dst := some 191, op := Op.unOp UnOp.not 4 (Operand.tmp 190), type := 4, pos := "laws.go:37", after := #[{ on := 28, ground := Ground.data }, { on := 23, ground := Ground.guard }], guard := some (23, true) }) (v := ?_) rfl (by kernel_rfl) (by kernel_rfl) (by kernel_rfl) (fun _ _ _ h => h) (Or.inl ⟨by rfl, ?_⟩) (by assumption) ?_
                    rotate_left
                    · (intro w hSw; (try dsimp only at hSw); go_simp; (try with_reducible rfl))
                    try simp only [Act.put, List.setIfInBounds_toArray, List.set_cons_zero, List.set_cons_succ]
                    refine wpAnyH_take (i := 30) (oi := { dst := some 192, op := Op.pick (Operand.tmp 185) (Operand.tmp 191) (Operand.const (Value.bool false)), type := 4, pos := "laws.go:37", after := #[{ on := 23, ground := Ground.data }, { on := 29, ground := Ground.data }, { on := 21, ground := Ground.guard }], guard := some (21, false) }) (v := ?_) rfl (by kernel_rfl) (by kernel_rfl) (by kernel_rfl) (fun _ _ _ h => h) (Or.inl ⟨by rfl, ?_⟩) (by assumption) ?_
                    rotate_left
                    · (intro w hSw; (try dsimp only at hSw); go_simp; (try with_reducible rfl))
                    try simp only [Act.put, List.setIfInBounds_toArray, List.set_cons_zero, List.set_cons_succ]
                    refine wpAnyH_take (i := 31) (oi := { dst := some 193, op := Op.pick (Operand.tmp 183) (Operand.const (Value.bool true)) (Operand.tmp 192), type := 4, pos := "laws.go:37", after := #[{ on := 21, ground := Ground.data }, { on := 30, ground := Ground.data }], guard := none }) (v := ?_) rfl (by kernel_rfl) (by kernel_rfl) (by kernel_rfl) (fun _ _ _ h => h) (Or.inl ⟨by rfl, ?_⟩) (by assumption) ?_
                    rotate_left
                    · (intro w hSw; (try dsimp only at hSw); go_simp; (try with_reducible rfl))
                    try simp only [Act.put, List.setIfInBounds_toArray, List.set_cons_zero, List.set_cons_succ]
                    refine wpAnyH_take (i := 32) (oi := { dst := some 194, op := Op.move (Operand.tmp 193), type := 4, pos := "laws.go:37", after := #[{ on := 31, ground := Ground.data }, { on := 28, ground := Ground.chain }], guard := none }) (v := ?_) rfl (by kernel_rfl) (by kernel_rfl) (by kernel_rfl) (fun _ _ _ h => h) (Or.inl ⟨by rfl, ?_⟩) (by assumption) ?_
                    rotate_left
                    · (intro w hSw; (try dsimp only at hSw); go_simp; (try with_reducible rfl))
                    try simp only [Act.put, List.setIfInBounds_toArray, List.set_cons_zero, List.set_cons_succ]
                    refine wpAnyH_take (i := 33) (oi := { dst := some 195, op := Op.move (Operand.tmp 12), type := 4, pos := "laws.go:37", after := #[{ on := 32, ground := Ground.guard }], guard := some (32, false) }) (v := ?_) rfl (by kernel_rfl) (by kernel_rfl) (by kernel_rfl) (fun _ _ _ h => h) (Or.inl ⟨by rfl, ?_⟩) (by assumption) ?_
                    rotate_left
                    · (intro w hSw; (try dsimp only at hSw); go_simp; (try with_reducible rfl))
                    try simp only [Act.put, List.setIfInBounds_toArray, List.set_cons_zero, List.set_cons_succ]
                    refine wpAnyH_take (i := 34) (oi := { dst := some 196, op := Op.move (Operand.tmp 195), type := 4, pos := "laws.go:37", after := #[{ on := 33, ground := Ground.data }, { on := 32, ground := Ground.chain }, { on := 32, ground := Ground.guard }], guard := some (32, false) }) (v := ?_) rfl (by kernel_rfl) (by kernel_rfl) (by kernel_rfl) (fun _ _ _ h => h) (Or.inl ⟨by rfl, ?_⟩) (by assumption) ?_
                    rotate_left
                    · (intro w hSw; (try dsimp only at hSw); go_simp; (try with_reducible rfl))
                    try simp only [Act.put, List.setIfInBounds_toArray, List.set_cons_zero, List.set_cons_succ]
                    cases P3
                    · as_aux_lemma =>
                        refine wpAnyH_take (i := 35) (oi := { dst := some 197, op := Op.load 24 (Operand.tmp 11), type := 24, pos := "laws.go:37", after := #[{ on := 34, ground := Ground.guard }], guard := some (34, true) }) (v := _) rfl (by kernel_rfl) (by kernel_rfl) (by kernel_rfl) (fun _ _ _ h => h) (Or.inr ⟨by rfl, rfl⟩) (by assumption) ?_
                        try simp only [Act.put, List.setIfInBounds_toArray, List.set_cons_zero, List.set_cons_succ]
                        refine wpAnyH_take (i := 36) (oi := { dst := some 198, op := Op.move (Operand.tmp 20), type := 3, pos := "laws.go:37", after := #[{ on := 34, ground := Ground.guard }], guard := some (34, true) }) (v := _) rfl (by kernel_rfl) (by kernel_rfl) (by kernel_rfl) (fun _ _ _ h => h) (Or.inr ⟨by rfl, rfl⟩) (by assumption) ?_
                        try simp only [Act.put, List.setIfInBounds_toArray, List.set_cons_zero, List.set_cons_succ]
                        refine wpAnyH_take (i := 37) (oi := { dst := some 199, op := Op.move (Operand.tmp 21), type := 3, pos := "laws.go:37", after := #[{ on := 34, ground := Ground.guard }], guard := some (34, true) }) (v := _) rfl (by kernel_rfl) (by kernel_rfl) (by kernel_rfl) (fun _ _ _ h => h) (Or.inr ⟨by rfl, rfl⟩) (by assumption) ?_
                        try simp only [Act.put, List.setIfInBounds_toArray, List.set_cons_zero, List.set_cons_succ]
                        refine wpAnyH_take (i := 38) (oi := { dst := some 200, op := Op.binOp BinOp.mul 3 (Operand.tmp 198) (Operand.tmp 199) 3, type := 3, pos := "laws.go:37", after := #[{ on := 36, ground := Ground.data }, { on := 37, ground := Ground.data }, { on := 34, ground := Ground.guard }], guard := some (34, true) }) (v := _) rfl (by kernel_rfl) (by kernel_rfl) (by kernel_rfl) (fun _ _ _ h => h) (Or.inr ⟨by rfl, rfl⟩) (by assumption) ?_
                        try simp only [Act.put, List.setIfInBounds_toArray, List.set_cons_zero, List.set_cons_succ]
                        refine wpAnyH_take (i := 39) (oi := { dst := some 201, op := Op.call { callee := Callee.value (Operand.func 16), args := #[Operand.tmp 197, Operand.tmp 200], argTypes := #[24, 3] }, type := 4, pos := "laws.go:37", after := #[{ on := 35, ground := Ground.data }, { on := 38, ground := Ground.data }, { on := 34, ground := Ground.chain }, { on := 34, ground := Ground.guard }], guard := some (34, true) }) (v := _) rfl (by kernel_rfl) (by kernel_rfl) (by kernel_rfl) (fun _ _ _ h => h) (Or.inr ⟨by rfl, rfl⟩) (by assumption) ?_
                        try simp only [Act.put, List.setIfInBounds_toArray, List.set_cons_zero, List.set_cons_succ]
                        refine wpAnyH_take (i := 40) (oi := { dst := some 202, op := Op.unOp UnOp.not 4 (Operand.tmp 201), type := 4, pos := "laws.go:37", after := #[{ on := 39, ground := Ground.data }, { on := 34, ground := Ground.guard }], guard := some (34, true) }) (v := _) rfl (by kernel_rfl) (by kernel_rfl) (by kernel_rfl) (fun _ _ _ h => h) (Or.inr ⟨by rfl, rfl⟩) (by assumption) ?_
                        try simp only [Act.put, List.setIfInBounds_toArray, List.set_cons_zero, List.set_cons_succ]
                        refine wpAnyH_take (i := 41) (oi := { dst := some 203, op := Op.pick (Operand.tmp 196) (Operand.tmp 202) (Operand.const (Value.bool false)), type := 4, pos := "laws.go:37", after := #[{ on := 34, ground := Ground.data }, { on := 40, ground := Ground.data }, { on := 32, ground := Ground.guard }], guard := some (32, false) }) (v := ?_) rfl (by kernel_rfl) (by kernel_rfl) (by kernel_rfl) (fun _ _ _ h => h) (Or.inl ⟨by rfl, ?_⟩) (by assumption) ?_
                        rotate_left
                        · (intro w hSw; (try dsimp only at hSw); go_simp; (try with_reducible rfl))
                        try simp only [Act.put, List.setIfInBounds_toArray, List.set_cons_zero, List.set_cons_succ]
                        refine wpAnyH_take (i := 42) (oi := { dst := some 204, op := Op.pick (Operand.tmp 194) (Operand.const (Value.bool true)) (Operand.tmp 203), type := 4, pos := "laws.go:37", after := #[{ on := 32, ground := Ground.data }, { on := 41, ground := Ground.data }], guard := none }) (v := ?_) rfl (by kernel_rfl) (by kernel_rfl) (by kernel_rfl) (fun _ _ _ h => h) (Or.inl ⟨by rfl, ?_⟩) (by assumption) ?_
                        rotate_left
                        · (intro w hSw; (try dsimp only at hSw); go_simp; (try with_reducible rfl))
                        try simp only [Act.put, List.setIfInBounds_toArray, List.set_cons_zero, List.set_cons_succ]
                        refine wpAnyH_take (i := 43) (oi := { dst := some 205, op := Op.move (Operand.tmp 204), type := 4, pos := "laws.go:37", after := #[{ on := 42, ground := Ground.data }, { on := 39, ground := Ground.chain }], guard := none }) (v := ?_) rfl (by kernel_rfl) (by kernel_rfl) (by kernel_rfl) (fun _ _ _ h => h) (Or.inl ⟨by rfl, ?_⟩) (by assumption) ?_
                        rotate_left
                        · (intro w hSw; (try dsimp only at hSw); go_simp; (try with_reducible rfl))
                        try simp only [Act.put, List.setIfInBounds_toArray, List.set_cons_zero, List.set_cons_succ]
                        refine wpAnyH_take (i := 44) (oi := { dst := some 206, op := Op.move (Operand.tmp 14), type := 4, pos := "laws.go:37", after := #[{ on := 43, ground := Ground.guard }], guard := some (43, false) }) (v := ?_) rfl (by kernel_rfl) (by kernel_rfl) (by kernel_rfl) (fun _ _ _ h => h) (Or.inl ⟨by rfl, ?_⟩) (by assumption) ?_
                        rotate_left
                        · (intro w hSw; (try dsimp only at hSw); go_simp; (try with_reducible rfl))
                        try simp only [Act.put, List.setIfInBounds_toArray, List.set_cons_zero, List.set_cons_succ]
                        refine wpAnyH_take (i := 45) (oi := { dst := some 207, op := Op.move (Operand.tmp 206), type := 4, pos := "laws.go:37", after := #[{ on := 44, ground := Ground.data }, { on := 43, ground := Ground.chain }, { on := 43, ground := Ground.guard }], guard := some (43, false) }) (v := ?_) rfl (by kernel_rfl) (by kernel_rfl) (by kernel_rfl) (fun _ _ _ h => h) (Or.inl ⟨by rfl, ?_⟩) (by assumption) ?_
                        rotate_left
                        · (intro w hSw; (try dsimp only at hSw); go_simp; (try with_reducible rfl))
                        try simp only [Act.put, List.setIfInBounds_toArray, List.set_cons_zero, List.set_cons_succ]
                        cases P4
                        · as_aux_lemma =>
                            refine wpAnyH_take (i := 46) (oi := { dst := some 208, op := Op.move (Operand.tmp 21), type := 3, pos := "laws.go:37", after := #[{ on := 45, ground := Ground.guard }], guard := some (45, true) }) (v := _) rfl (by kernel_rfl) (by kernel_rfl) (by kernel_rfl) (fun _ _ _ h => h) (Or.inr ⟨by rfl, rfl⟩) (by assumption) ?_
                            try simp only [Act.put, List.setIfInBounds_toArray, List.set_cons_zero, List.set_cons_succ]
                            refine wpAnyH_take (i := 47) (oi := { dst := some 209, op := Op.binOp BinOp.eql 3 (Operand.tmp 208) (Operand.const (Value.int IntKind.i64 0)) 3, type := 4, pos := "laws.go:37", after := #[{ on := 46, ground := Ground.data }, { on := 45, ground := Ground.guard }], guard := some (45, true) }) (v := _) rfl (by kernel_rfl) (by kernel_rfl) (by kernel_rfl) (fun _ _ _ h => h) (Or.inr ⟨by rfl, rfl⟩) (by assumption) ?_
                            try simp only [Act.put, List.setIfInBounds_toArray, List.set_cons_zero, List.set_cons_succ]
                            refine wpAnyH_take (i := 48) (oi := { dst := some 210, op := Op.move (Operand.tmp 209), type := 4, pos := "laws.go:37", after := #[{ on := 47, ground := Ground.data }, { on := 45, ground := Ground.chain }, { on := 45, ground := Ground.guard }], guard := some (45, true) }) (v := _) rfl (by kernel_rfl) (by kernel_rfl) (by kernel_rfl) (fun _ _ _ h => h) (Or.inr ⟨by rfl, rfl⟩) (by assumption) ?_
                            try simp only [Act.put, List.setIfInBounds_toArray, List.set_cons_zero, List.set_cons_succ]
                            refine wpAnyH_take (i := 49) (oi := { dst := some 211, op := Op.load 24 (Operand.tmp 13), type := 24, pos := "laws.go:37", after := #[{ on := 48, ground := Ground.guard }], guard := some (48, false) }) (v := _) rfl (by kernel_rfl) (by kernel_rfl) (by kernel_rfl) (fun _ _ _ h => h) (Or.inr ⟨by rfl, rfl⟩) (by assumption) ?_
                            try simp only [Act.put, List.setIfInBounds_toArray, List.set_cons_zero, List.set_cons_succ]
                            refine wpAnyH_take (i := 50) (oi := { dst := some 212, op := Op.move (Operand.tmp 20), type := 3, pos := "laws.go:37", after := #[{ on := 48, ground := Ground.guard }], guard := some (48, false) }) (v := _) rfl (by kernel_rfl) (by kernel_rfl) (by kernel_rfl) (fun _ _ _ h => h) (Or.inr ⟨by rfl, rfl⟩) (by assumption) ?_
                            try simp only [Act.put, List.setIfInBounds_toArray, List.set_cons_zero, List.set_cons_succ]
                            refine wpAnyH_take (i := 51) (oi := { dst := some 213, op := Op.move (Operand.tmp 21), type := 3, pos := "laws.go:37", after := #[{ on := 48, ground := Ground.guard }], guard := some (48, false) }) (v := _) rfl (by kernel_rfl) (by kernel_rfl) (by kernel_rfl) (fun _ _ _ h => h) (Or.inr ⟨by rfl, rfl⟩) (by assumption) ?_
                            try simp only [Act.put, List.setIfInBounds_toArray, List.set_cons_zero, List.set_cons_succ]
                            refine wpAnyH_take (i := 52) (oi := { dst := some 214, op := Op.binOp BinOp.quo 3 (Operand.tmp 212) (Operand.tmp 213) 3, type := 3, pos := "laws.go:37", after := #[{ on := 50, ground := Ground.data }, { on := 51, ground := Ground.data }, { on := 48, ground := Ground.guard }], guard := some (48, false) }) (v := _) rfl (by kernel_rfl) (by kernel_rfl) (by kernel_rfl) (fun _ _ _ h => h) (Or.inr ⟨by rfl, rfl⟩) (by assumption) ?_
                            try simp only [Act.put, List.setIfInBounds_toArray, List.set_cons_zero, List.set_cons_succ]
                            refine wpAnyH_take (i := 53) (oi := { dst := some 215, op := Op.call { callee := Callee.value (Operand.func 16), args := #[Operand.tmp 211, Operand.tmp 214], argTypes := #[24, 3] }, type := 4, pos := "laws.go:37", after := #[{ on := 49, ground := Ground.data }, { on := 52, ground := Ground.data }, { on := 48, ground := Ground.chain }, { on := 48, ground := Ground.guard }], guard := some (48, false) }) (v := _) rfl (by kernel_rfl) (by kernel_rfl) (by kernel_rfl) (fun _ _ _ h => h) (Or.inr ⟨by rfl, rfl⟩) (by assumption) ?_
                            try simp only [Act.put, List.setIfInBounds_toArray, List.set_cons_zero, List.set_cons_succ]
                            refine wpAnyH_take (i := 54) (oi := { dst := some 216, op := Op.unOp UnOp.not 4 (Operand.tmp 215), type := 4, pos := "laws.go:37", after := #[{ on := 53, ground := Ground.data }, { on := 48, ground := Ground.guard }], guard := some (48, false) }) (v := _) rfl (by kernel_rfl) (by kernel_rfl) (by kernel_rfl) (fun _ _ _ h => h) (Or.inr ⟨by rfl, rfl⟩) (by assumption) ?_
                            try simp only [Act.put, List.setIfInBounds_toArray, List.set_cons_zero, List.set_cons_succ]
                            refine wpAnyH_take (i := 55) (oi := { dst := some 217, op := Op.pick (Operand.tmp 210) (Operand.const (Value.bool true)) (Operand.tmp 216), type := 4, pos := "laws.go:37", after := #[{ on := 48, ground := Ground.data }, { on := 54, ground := Ground.data }, { on := 45, ground := Ground.guard }], guard := some (45, true) }) (v := _) rfl (by kernel_rfl) (by kernel_rfl) (by kernel_rfl) (fun _ _ _ h => h) (Or.inr ⟨by rfl, rfl⟩) (by assumption) ?_
                            try simp only [Act.put, List.setIfInBounds_toArray, List.set_cons_zero, List.set_cons_succ]
                            refine wpAnyH_take (i := 56) (oi := { dst := some 218, op := Op.pick (Operand.tmp 207) (Operand.tmp 217) (Operand.const (Value.bool false)), type := 4, pos := "laws.go:37", after := #[{ on := 45, ground := Ground.data }, { on := 55, ground := Ground.data }, { on := 43, ground := Ground.guard }], guard := some (43, false) }) (v := ?_) rfl (by kernel_rfl) (by kernel_rfl) (by kernel_rfl) (fun _ _ _ h => h) (Or.inl ⟨by rfl, ?_⟩) (by assumption) ?_
                            rotate_left
                            · (intro w hSw; (try dsimp only at hSw); go_simp; (try with_reducible rfl))
                            try simp only [Act.put, List.setIfInBounds_toArray, List.set_cons_zero, List.set_cons_succ]
                            refine wpAnyH_take (i := 57) (oi := { dst := some 219, op := Op.pick (Operand.tmp 205) (Operand.const (Value.bool true)) (Operand.tmp 218), type := 4, pos := "laws.go:37", after := #[{ on := 43, ground := Ground.data }, { on := 56, ground := Ground.data }], guard := none }) (v := ?_) rfl (by kernel_rfl) (by kernel_rfl) (by kernel_rfl) (fun _ _ _ h => h) (Or.inl ⟨by rfl, ?_⟩) (by assumption) ?_
                            rotate_left
                            · (intro w hSw; (try dsimp only at hSw); go_simp; (try with_reducible rfl))
                            try simp only [Act.put, List.setIfInBounds_toArray, List.set_cons_zero, List.set_cons_succ]
                            refine wpAnyH_done (by kernel_rfl) ?_ _
                            go_wp2_with fail
                            go_meet
                            exact ⟨rfl, hA, hD, hS, hU, hM, hV, hBl⟩
                        · as_aux_lemma =>
                            obtain ⟨o4, q4⟩ := F4.out.2 rfl
                            obtain ⟨kn, r4⟩ := q4 m k hm0 hm1 hk0 hk1
                            have ds := div_small m k (by omega) (by omega) kn
                            have v5 : IntKind.i64.wrap (m.tdiv k) = m.tdiv k := by rw [IntKind.wrap_i64]; omega
                            have v6 : wrap64 (m.tdiv k) = m.tdiv k := by unfold wrap64; omega
                            have kb : (k == 0) = false := by simp [kn]
                            clear q4 ds
                            refine wpAnyH_take (i := 46) (oi := { dst := some 208, op := Op.move (Operand.tmp 21), type := 3, pos := "laws.go:37", after := #[{ on := 45, ground := Ground.guard }], guard := some (45, true) }) (v := ?_) rfl (by kernel_rfl) (by kernel_rfl) (by kernel_rfl) (fun _ _ _ h => h) (Or.inl ⟨by rfl, ?_⟩) (by assumption) ?_
                            rotate_left
                            · (intro w hSw; (try dsimp only at hSw); go_simp; (try with_reducible rfl))
                            try simp only [Act.put, List.setIfInBounds_toArray, List.set_cons_zero, List.set_cons_succ]
                            refine wpAnyH_take (i := 47) (oi := { dst := some 209, op := Op.binOp BinOp.eql 3 (Operand.tmp 208) (Operand.const (Value.int IntKind.i64 0)) 3, type := 4, pos := "laws.go:37", after := #[{ on := 46, ground := Ground.data }, { on := 45, ground := Ground.guard }], guard := some (45, true) }) (v := ?_) rfl (by kernel_rfl) (by kernel_rfl) (by kernel_rfl) (fun _ _ _ h => h) (Or.inl ⟨by rfl, ?_⟩) (by assumption) ?_
                            rotate_left
                            · (intro w hSw; (try dsimp only at hSw); go_simp; (try with_reducible rfl))
                            try simp only [Act.put, List.setIfInBounds_toArray, List.set_cons_zero, List.set_cons_succ]
                            refine wpAnyH_take (i := 48) (oi := { dst := some 210, op := Op.move (Operand.tmp 209), type := 4, pos := "laws.go:37", after := #[{ on := 47, ground := Ground.data }, { on := 45, ground := Ground.chain }, { on := 45, ground := Ground.guard }], guard := some (45, true) }) (v := ?_) rfl (by kernel_rfl) (by kernel_rfl) (by kernel_rfl) (fun _ _ _ h => h) (Or.inl ⟨by rfl, ?_⟩) (by assumption) ?_
                            rotate_left
                            · (intro w hSw; (try dsimp only at hSw); go_simp; (try with_reducible rfl))
                            try simp only [Act.put, List.setIfInBounds_toArray, List.set_cons_zero, List.set_cons_succ]
                            refine wpAnyH_take (i := 49) (oi := { dst := some 211, op := Op.load 24 (Operand.tmp 13), type := 24, pos := "laws.go:37", after := #[{ on := 48, ground := Ground.guard }], guard := some (48, false) }) (v := ?_) rfl (by kernel_rfl) (by kernel_rfl) (by kernel_rfl) (fun _ _ _ h => h) (Or.inl ⟨by rfl, ?_⟩) (by assumption) ?_
                            rotate_left
                            · (intro w hSw; (try dsimp only at hSw); go_simp; (try with_reducible rfl))
                            try simp only [Act.put, List.setIfInBounds_toArray, List.set_cons_zero, List.set_cons_succ]
                            refine wpAnyH_take (i := 50) (oi := { dst := some 212, op := Op.move (Operand.tmp 20), type := 3, pos := "laws.go:37", after := #[{ on := 48, ground := Ground.guard }], guard := some (48, false) }) (v := ?_) rfl (by kernel_rfl) (by kernel_rfl) (by kernel_rfl) (fun _ _ _ h => h) (Or.inl ⟨by rfl, ?_⟩) (by assumption) ?_
                            rotate_left
                            · (intro w hSw; (try dsimp only at hSw); go_simp; (try with_reducible rfl))
                            try simp only [Act.put, List.setIfInBounds_toArray, List.set_cons_zero, List.set_cons_succ]
                            refine wpAnyH_take (i := 51) (oi := { dst := some 213, op := Op.move (Operand.tmp 21), type := 3, pos := "laws.go:37", after := #[{ on := 48, ground := Ground.guard }], guard := some (48, false) }) (v := ?_) rfl (by kernel_rfl) (by kernel_rfl) (by kernel_rfl) (fun _ _ _ h => h) (Or.inl ⟨by rfl, ?_⟩) (by assumption) ?_
                            rotate_left
                            · (intro w hSw; (try dsimp only at hSw); go_simp; (try with_reducible rfl))
                            try simp only [Act.put, List.setIfInBounds_toArray, List.set_cons_zero, List.set_cons_succ]
                            refine wpAnyH_take (i := 52) (oi := { dst := some 214, op := Op.binOp BinOp.quo 3 (Operand.tmp 212) (Operand.tmp 213) 3, type := 3, pos := "laws.go:37", after := #[{ on := 50, ground := Ground.data }, { on := 51, ground := Ground.data }, { on := 48, ground := Ground.guard }], guard := some (48, false) }) (v := ?_) rfl (by kernel_rfl) (by kernel_rfl) (by kernel_rfl) (fun _ _ _ h => h) (Or.inl ⟨by rfl, ?_⟩) (by assumption) ?_
                            rotate_left
                            · (intro w hSw; (try dsimp only at hSw); go_simp; (try with_reducible rfl))
                            try simp only [Act.put, List.setIfInBounds_toArray, List.set_cons_zero, List.set_cons_succ]
                            refine wpAnyH_ready (rs := [53]) (by kernel_rfl) (by simp) ?_
                            refine AllReadyH.cons (o := { dst := some 215, op := Op.call { callee := Callee.value (Operand.func 16), args := #[Operand.tmp 211, Operand.tmp 214], argTypes := #[24, 3] }, type := 4, pos := "laws.go:37", after := #[{ on := 49, ground := Ground.data }, { on := 52, ground := Ground.data }, { on := 48, ground := Ground.chain }, { on := 48, ground := Ground.guard }], guard := some (48, false) }) rfl (fun K hK => ?_) AllReadyH.nil
                            go_simp
                            (go_at_call 16; refine (implHas _ _ _ _).mono ?_; rintro e wn ⟨rfl, hb⟩; (replace hBl := bvia hBl (by go_grown) hb); (replace hA := hA.via (by go_grown) hb); (replace hA0 := hA.c0); (replace hA1 := hA.c1); (replace hAz := hA.lt); (replace hD := hD.via (by go_grown) hb); (replace hD0 := hD.c0); (replace hD1 := hD.c1); (replace hDz := hD.lt); (replace hS := hS.via (by go_grown) hb); (replace hS0 := hS.c0); (replace hS1 := hS.c1); (replace hSz := hS.lt); (replace hU := hU.via (by go_grown) hb); (replace hU0 := hU.c0); (replace hU1 := hU.c1); (replace hUz := hU.lt); (replace hM := hM.via (by go_grown) hb); (replace hM0 := hM.c0); (replace hM1 := hM.c1); (replace hMz := hM.lt); (replace hV := hV.via (by go_grown) hb); (replace hV0 := hV.c0); (replace hV1 := hV.c1); (replace hVz := hV.lt); (clear hb))
                            (try go_wp2_with fail)
                            refine hK.out _ _ ?_ (fun hHeld => ?_)
                            · (simp [*, go_sem, World.cell?_alloc_some, World.cell?_setCell_far, apart1, apart2, apart3, apart4, apart5, apart6])
                            clear hK K
                            try simp only [Act.put, List.setIfInBounds_toArray, List.set_cons_zero, List.set_cons_succ]
                            refine wpAnyH_take (i := 54) (oi := { dst := some 216, op := Op.unOp UnOp.not 4 (Operand.tmp 215), type := 4, pos := "laws.go:37", after := #[{ on := 53, ground := Ground.data }, { on := 48, ground := Ground.guard }], guard := some (48, false) }) (v := ?_) rfl (by kernel_rfl) (by kernel_rfl) (by kernel_rfl) (fun _ _ _ h => h) (Or.inl ⟨by rfl, ?_⟩) (by assumption) ?_
                            rotate_left
                            · (intro w hSw; (try dsimp only at hSw); go_simp; (try with_reducible rfl))
                            try simp only [Act.put, List.setIfInBounds_toArray, List.set_cons_zero, List.set_cons_succ]
                            refine wpAnyH_take (i := 55) (oi := { dst := some 217, op := Op.pick (Operand.tmp 210) (Operand.const (Value.bool true)) (Operand.tmp 216), type := 4, pos := "laws.go:37", after := #[{ on := 48, ground := Ground.data }, { on := 54, ground := Ground.data }, { on := 45, ground := Ground.guard }], guard := some (45, true) }) (v := ?_) rfl (by kernel_rfl) (by kernel_rfl) (by kernel_rfl) (fun _ _ _ h => h) (Or.inl ⟨by rfl, ?_⟩) (by assumption) ?_
                            rotate_left
                            · (intro w hSw; (try dsimp only at hSw); go_simp; (try with_reducible rfl))
                            try simp only [Act.put, List.setIfInBounds_toArray, List.set_cons_zero, List.set_cons_succ]
                            refine wpAnyH_take (i := 56) (oi := { dst := some 218, op := Op.pick (Operand.tmp 207) (Operand.tmp 217) (Operand.const (Value.bool false)), type := 4, pos := "laws.go:37", after := #[{ on := 45, ground := Ground.data }, { on := 55, ground := Ground.data }, { on := 43, ground := Ground.guard }], guard := some (43, false) }) (v := ?_) rfl (by kernel_rfl) (by kernel_rfl) (by kernel_rfl) (fun _ _ _ h => h) (Or.inl ⟨by rfl, ?_⟩) (by assumption) ?_
                            rotate_left
                            · (intro w hSw; (try dsimp only at hSw); go_simp; (try with_reducible rfl))
                            try simp only [Act.put, List.setIfInBounds_toArray, List.set_cons_zero, List.set_cons_succ]
                            refine wpAnyH_take (i := 57) (oi := { dst := some 219, op := Op.pick (Operand.tmp 205) (Operand.const (Value.bool true)) (Operand.tmp 218), type := 4, pos := "laws.go:37", after := #[{ on := 43, ground := Ground.data }, { on := 56, ground := Ground.data }], guard := none }) (v := ?_) rfl (by kernel_rfl) (by kernel_rfl) (by kernel_rfl) (fun _ _ _ h => h) (Or.inl ⟨by rfl, ?_⟩) (by assumption) ?_
                            rotate_left
                            · (intro w hSw; (try dsimp only at hSw); go_simp; (try with_reducible rfl))
                            try simp only [Act.put, List.setIfInBounds_toArray, List.set_cons_zero, List.set_cons_succ]
                            refine wpAnyH_done (by kernel_rfl) ?_ _
                            go_wp2_with fail
                            go_meet
                            exact ⟨rfl, hA, hD, hS, hU, hM, hV, hBl⟩
                    · as_aux_lemma =>
                        obtain ⟨o3, q3⟩ := F3.out rfl
                        have r3 := q3 m k hm0 hm1 hk0 hk1
                        clear q3
                        refine wpAnyH_take (i := 35) (oi := { dst := some 197, op := Op.load 24 (Operand.tmp 11), type := 24, pos := "laws.go:37", after := #[{ on := 34, ground := Ground.guard }], guard := some (34, true) }) (v := ?_) rfl (by kernel_rfl) (by kernel_rfl) (by kernel_rfl) (fun _ _ _ h => h) (Or.inl ⟨by rfl, ?_⟩) (by assumption) ?_
                        rotate_left
                        · (intro w hSw; (try dsimp only at hSw); go_simp; (try with_reducible rfl))
                        try simp only [Act.put, List.setIfInBounds_toArray, List.set_cons_zero, List.set_cons_succ]
                        refine wpAnyH_take (i := 36) (oi := { dst := some 198, op := Op.move (Operand.tmp 20), type := 3, pos := "laws.go:37", after := #[{ on := 34, ground := Ground.guard }], guard := some (34, true) }) (v := ?_) rfl (by kernel_rfl) (by kernel_rfl) (by kernel_rfl) (fun _ _ _ h => h) (Or.inl ⟨by rfl, ?_⟩) (by assumption) ?_
                        rotate_left
                        · (intro w hSw; (try dsimp only at hSw); go_simp; (try with_reducible rfl))
                        try simp only [Act.put, List.setIfInBounds_toArray, List.set_cons_zero, List.set_cons_succ]
                        refine wpAnyH_take (i := 37) (oi := { dst := some 199, op := Op.move (Operand.tmp 21), type := 3, pos := "laws.go:37", after := #[{ on := 34, ground := Ground.guard }], guard := some (34, true) }) (v := ?_) rfl (by kernel_rfl) (by kernel_rfl) (by kernel_rfl) (fun _ _ _ h => h) (Or.inl ⟨by rfl, ?_⟩) (by assumption) ?_
                        rotate_left
                        · (intro w hSw; (try dsimp only at hSw); go_simp; (try with_reducible rfl))
                        try simp only [Act.put, List.setIfInBounds_toArray, List.set_cons_zero, List.set_cons_succ]
                        refine wpAnyH_take (i := 38) (oi := { dst := some 200, op := Op.binOp BinOp.mul 3 (Operand.tmp 198) (Operand.tmp 199) 3, type := 3, pos := "laws.go:37", after := #[{ on := 36, ground := Ground.data }, { on := 37, ground := Ground.data }, { on := 34, ground := Ground.guard }], guard := some (34, true) }) (v := ?_) rfl (by kernel_rfl) (by kernel_rfl) (by kernel_rfl) (fun _ _ _ h => h) (Or.inl ⟨by rfl, ?_⟩) (by assumption) ?_
                        rotate_left
                        · (intro w hSw; (try dsimp only at hSw); go_simp; (try with_reducible rfl))
                        try simp only [Act.put, List.setIfInBounds_toArray, List.set_cons_zero, List.set_cons_succ]
                        refine wpAnyH_ready (rs := [39]) (by kernel_rfl) (by simp) ?_
                        refine AllReadyH.cons (o := { dst := some 201, op := Op.call { callee := Callee.value (Operand.func 16), args := #[Operand.tmp 197, Operand.tmp 200], argTypes := #[24, 3] }, type := 4, pos := "laws.go:37", after := #[{ on := 35, ground := Ground.data }, { on := 38, ground := Ground.data }, { on := 34, ground := Ground.chain }, { on := 34, ground := Ground.guard }], guard := some (34, true) }) rfl (fun K hK => ?_) AllReadyH.nil
                        go_simp
                        (go_at_call 16; refine (implHas _ _ _ _).mono ?_; rintro e wn ⟨rfl, hb⟩; (replace hBl := bvia hBl (by go_grown) hb); (replace hA := hA.via (by go_grown) hb); (replace hA0 := hA.c0); (replace hA1 := hA.c1); (replace hAz := hA.lt); (replace hD := hD.via (by go_grown) hb); (replace hD0 := hD.c0); (replace hD1 := hD.c1); (replace hDz := hD.lt); (replace hS := hS.via (by go_grown) hb); (replace hS0 := hS.c0); (replace hS1 := hS.c1); (replace hSz := hS.lt); (replace hU := hU.via (by go_grown) hb); (replace hU0 := hU.c0); (replace hU1 := hU.c1); (replace hUz := hU.lt); (replace hM := hM.via (by go_grown) hb); (replace hM0 := hM.c0); (replace hM1 := hM.c1); (replace hMz := hM.lt); (replace hV := hV.via (by go_grown) hb); (replace hV0 := hV.c0); (replace hV1 := hV.c1); (replace hVz := hV.lt); (clear hb))
                        (try go_wp2_with fail)
                        refine hK.out _ _ ?_ (fun hHeld => ?_)
                        · (simp [*, go_sem, World.cell?_alloc_some, World.cell?_setCell_far, apart1, apart2, apart3, apart4, apart5, apart6])
                        clear hK K
                        try simp only [Act.put, List.setIfInBounds_toArray, List.set_cons_zero, List.set_cons_succ]
                        refine wpAnyH_take (i := 40) (oi := { dst := some 202, op := Op.unOp UnOp.not 4 (Operand.tmp 201), type := 4, pos := "laws.go:37", after := #[{ on := 39, ground := Ground.data }, { on := 34, ground := Ground.guard }], guard := some (34, true) }) (v := ?_) rfl (by kernel_rfl) (by kernel_rfl) (by kernel_rfl) (fun _ _ _ h => h) (Or.inl ⟨by rfl, ?_⟩) (by assumption) ?_
                        rotate_left
                        · (intro w hSw; (try dsimp only at hSw); go_simp; (try with_reducible rfl))
                        try simp only [Act.put, List.setIfInBounds_toArray, List.set_cons_zero, List.set_cons_succ]
                        refine wpAnyH_take (i := 41) (oi := { dst := some 203, op := Op.pick (Operand.tmp 196) (Operand.tmp 202) (Operand.const (Value.bool false)), type := 4, pos := "laws.go:37", after := #[{ on := 34, ground := Ground.data }, { on := 40, ground := Ground.data }, { on := 32, ground := Ground.guard }], guard := some (32, false) }) (v := ?_) rfl (by kernel_rfl) (by kernel_rfl) (by kernel_rfl) (fun _ _ _ h => h) (Or.inl ⟨by rfl, ?_⟩) (by assumption) ?_
                        rotate_left
                        · (intro w hSw; (try dsimp only at hSw); go_simp; (try with_reducible rfl))
                        try simp only [Act.put, List.setIfInBounds_toArray, List.set_cons_zero, List.set_cons_succ]
                        refine wpAnyH_take (i := 42) (oi := { dst := some 204, op := Op.pick (Operand.tmp 194) (Operand.const (Value.bool true)) (Operand.tmp 203), type := 4, pos := "laws.go:37", after := #[{ on := 32, ground := Ground.data }, { on := 41, ground := Ground.data }], guard := none }) (v := ?_) rfl (by kernel_rfl) (by kernel_rfl) (by kernel_rfl) (fun _ _ _ h => h) (Or.inl ⟨by rfl, ?_⟩) (by assumption) ?_
                        rotate_left
                        · (intro w hSw; (try dsimp only at hSw); go_simp; (try with_reducible rfl))
                        try simp only [Act.put, List.setIfInBounds_toArray, List.set_cons_zero, List.set_cons_succ]
                        refine wpAnyH_take (i := 43) (oi := { dst := some 205, op := Op.move (Operand.tmp 204), type := 4, pos := "laws.go:37", after := #[{ on := 42, ground := Ground.data }, { on := 39, ground := Ground.chain }], guard := none }) (v := ?_) rfl (by kernel_rfl) (by kernel_rfl) (by kernel_rfl) (fun _ _ _ h => h) (Or.inl ⟨by rfl, ?_⟩) (by assumption) ?_
                        rotate_left
                        · (intro w hSw; (try dsimp only at hSw); go_simp; (try with_reducible rfl))
                        try simp only [Act.put, List.setIfInBounds_toArray, List.set_cons_zero, List.set_cons_succ]
                        refine wpAnyH_take (i := 44) (oi := { dst := some 206, op := Op.move (Operand.tmp 14), type := 4, pos := "laws.go:37", after := #[{ on := 43, ground := Ground.guard }], guard := some (43, false) }) (v := ?_) rfl (by kernel_rfl) (by kernel_rfl) (by kernel_rfl) (fun _ _ _ h => h) (Or.inl ⟨by rfl, ?_⟩) (by assumption) ?_
                        rotate_left
                        · (intro w hSw; (try dsimp only at hSw); go_simp; (try with_reducible rfl))
                        try simp only [Act.put, List.setIfInBounds_toArray, List.set_cons_zero, List.set_cons_succ]
                        refine wpAnyH_take (i := 45) (oi := { dst := some 207, op := Op.move (Operand.tmp 206), type := 4, pos := "laws.go:37", after := #[{ on := 44, ground := Ground.data }, { on := 43, ground := Ground.chain }, { on := 43, ground := Ground.guard }], guard := some (43, false) }) (v := ?_) rfl (by kernel_rfl) (by kernel_rfl) (by kernel_rfl) (fun _ _ _ h => h) (Or.inl ⟨by rfl, ?_⟩) (by assumption) ?_
                        rotate_left
                        · (intro w hSw; (try dsimp only at hSw); go_simp; (try with_reducible rfl))
                        try simp only [Act.put, List.setIfInBounds_toArray, List.set_cons_zero, List.set_cons_succ]
                        cases P4
                        · as_aux_lemma =>
                            refine wpAnyH_take (i := 46) (oi := { dst := some 208, op := Op.move (Operand.tmp 21), type := 3, pos := "laws.go:37", after := #[{ on := 45, ground := Ground.guard }], guard := some (45, true) }) (v := _) rfl (by kernel_rfl) (by kernel_rfl) (by kernel_rfl) (fun _ _ _ h => h) (Or.inr ⟨by rfl, rfl⟩) (by assumption) ?_
                            try simp only [Act.put, List.setIfInBounds_toArray, List.set_cons_zero, List.set_cons_succ]
                            refine wpAnyH_take (i := 47) (oi := { dst := some 209, op := Op.binOp BinOp.eql 3 (Operand.tmp 208) (Operand.const (Value.int IntKind.i64 0)) 3, type := 4, pos := "laws.go:37", after := #[{ on := 46, ground := Ground.data }, { on := 45, ground := Ground.guard }], guard := some (45, true) }) (v := _) rfl (by kernel_rfl) (by kernel_rfl) (by kernel_rfl) (fun _ _ _ h => h) (Or.inr ⟨by rfl, rfl⟩) (by assumption) ?_
                            try simp only [Act.put, List.setIfInBounds_toArray, List.set_cons_zero, List.set_cons_succ]
                            refine wpAnyH_take (i := 48) (oi := { dst := some 210, op := Op.move (Operand.tmp 209), type := 4, pos := "laws.go:37", after := #[{ on := 47, ground := Ground.data }, { on := 45, ground := Ground.chain }, { on := 45, ground := Ground.guard }], guard := some (45, true) }) (v := _) rfl (by kernel_rfl) (by kernel_rfl) (by kernel_rfl) (fun _ _ _ h => h) (Or.inr ⟨by rfl, rfl⟩) (by assumption) ?_
                            try simp only [Act.put, List.setIfInBounds_toArray, List.set_cons_zero, List.set_cons_succ]
                            refine wpAnyH_take (i := 49) (oi := { dst := some 211, op := Op.load 24 (Operand.tmp 13), type := 24, pos := "laws.go:37", after := #[{ on := 48, ground := Ground.guard }], guard := some (48, false) }) (v := _) rfl (by kernel_rfl) (by kernel_rfl) (by kernel_rfl) (fun _ _ _ h => h) (Or.inr ⟨by rfl, rfl⟩) (by assumption) ?_
                            try simp only [Act.put, List.setIfInBounds_toArray, List.set_cons_zero, List.set_cons_succ]
                            refine wpAnyH_take (i := 50) (oi := { dst := some 212, op := Op.move (Operand.tmp 20), type := 3, pos := "laws.go:37", after := #[{ on := 48, ground := Ground.guard }], guard := some (48, false) }) (v := _) rfl (by kernel_rfl) (by kernel_rfl) (by kernel_rfl) (fun _ _ _ h => h) (Or.inr ⟨by rfl, rfl⟩) (by assumption) ?_
                            try simp only [Act.put, List.setIfInBounds_toArray, List.set_cons_zero, List.set_cons_succ]
                            refine wpAnyH_take (i := 51) (oi := { dst := some 213, op := Op.move (Operand.tmp 21), type := 3, pos := "laws.go:37", after := #[{ on := 48, ground := Ground.guard }], guard := some (48, false) }) (v := _) rfl (by kernel_rfl) (by kernel_rfl) (by kernel_rfl) (fun _ _ _ h => h) (Or.inr ⟨by rfl, rfl⟩) (by assumption) ?_
                            try simp only [Act.put, List.setIfInBounds_toArray, List.set_cons_zero, List.set_cons_succ]
                            refine wpAnyH_take (i := 52) (oi := { dst := some 214, op := Op.binOp BinOp.quo 3 (Operand.tmp 212) (Operand.tmp 213) 3, type := 3, pos := "laws.go:37", after := #[{ on := 50, ground := Ground.data }, { on := 51, ground := Ground.data }, { on := 48, ground := Ground.guard }], guard := some (48, false) }) (v := _) rfl (by kernel_rfl) (by kernel_rfl) (by kernel_rfl) (fun _ _ _ h => h) (Or.inr ⟨by rfl, rfl⟩) (by assumption) ?_
                            try simp only [Act.put, List.setIfInBounds_toArray, List.set_cons_zero, List.set_cons_succ]
                            refine wpAnyH_take (i := 53) (oi := { dst := some 215, op := Op.call { callee := Callee.value (Operand.func 16), args := #[Operand.tmp 211, Operand.tmp 214], argTypes := #[24, 3] }, type := 4, pos := "laws.go:37", after := #[{ on := 49, ground := Ground.data }, { on := 52, ground := Ground.data }, { on := 48, ground := Ground.chain }, { on := 48, ground := Ground.guard }], guard := some (48, false) }) (v := _) rfl (by kernel_rfl) (by kernel_rfl) (by kernel_rfl) (fun _ _ _ h => h) (Or.inr ⟨by rfl, rfl⟩) (by assumption) ?_
                            try simp only [Act.put, List.setIfInBounds_toArray, List.set_cons_zero, List.set_cons_succ]
                            refine wpAnyH_take (i := 54) (oi := { dst := some 216, op := Op.unOp UnOp.not 4 (Operand.tmp 215), type := 4, pos := "laws.go:37", after := #[{ on := 53, ground := Ground.data }, { on := 48, ground := Ground.guard }], guard := some (48, false) }) (v := _) rfl (by kernel_rfl) (by kernel_rfl) (by kernel_rfl) (fun _ _ _ h => h) (Or.inr ⟨by rfl, rfl⟩) (by assumption) ?_
                            try simp only [Act.put, List.setIfInBounds_toArray, List.set_cons_zero, List.set_cons_succ]
                            refine wpAnyH_take (i := 55) (oi := { dst := some 217, op := Op.pick (Operand.tmp 210) (Operand.const (Value.bool true)) (Operand.tmp 216), type := 4, pos := "laws.go:37", after := #[{ on := 48, ground := Ground.data }, { on := 54, ground := Ground.data }, { on := 45, ground := Ground.guard }], guard := some (45, true) }) (v := _) rfl (by kernel_rfl) (by kernel_rfl) (by kernel_rfl) (fun _ _ _ h => h) (Or.inr ⟨by rfl, rfl⟩) (by assumption) ?_
                            try simp only [Act.put, List.setIfInBounds_toArray, List.set_cons_zero, List.set_cons_succ]
                            refine wpAnyH_take (i := 56) (oi := { dst := some 218, op := Op.pick (Operand.tmp 207) (Operand.tmp 217) (Operand.const (Value.bool false)), type := 4, pos := "laws.go:37", after := #[{ on := 45, ground := Ground.data }, { on := 55, ground := Ground.data }, { on := 43, ground := Ground.guard }], guard := some (43, false) }) (v := ?_) rfl (by kernel_rfl) (by kernel_rfl) (by kernel_rfl) (fun _ _ _ h => h) (Or.inl ⟨by rfl, ?_⟩) (by assumption) ?_
                            rotate_left
                            · (intro w hSw; (try dsimp only at hSw); go_simp; (try with_reducible rfl))
                            try simp only [Act.put, List.setIfInBounds_toArray, List.set_cons_zero, List.set_cons_succ]
                            refine wpAnyH_take (i := 57) (oi := { dst := some 219, op := Op.pick (Operand.tmp 205) (Operand.const (Value.bool true)) (Operand.tmp 218), type := 4, pos := "laws.go:37", after := #[{ on := 43, ground := Ground.data }, { on := 56, ground := Ground.data }], guard := none }) (v := ?_) rfl (by kernel_rfl) (by kernel_rfl) (by kernel_rfl) (fun _ _ _ h => h) (Or.inl ⟨by rfl, ?_⟩) (by assumption) ?_
                            rotate_left
                            · (intro w hSw; (try dsimp only at hSw); go_simp; (try with_reducible rfl))
                            try simp only [Act.put, List.setIfInBounds_toArray, List.set_cons_zero, List.set_cons_succ]
                            refine wpAnyH_done (by kernel_rfl) ?_ _
                            go_wp2_with fail
                            go_meet
                            exact ⟨rfl, hA, hD, hS, hU, hM, hV, hBl⟩
                        · as_aux_lemma =>
                            obtain ⟨o4, q4⟩ := F4.out.2 rfl
                            obtain ⟨kn, r4⟩ := q4 m k hm0 hm1 hk0 hk1
                            have ds := div_small m k (by omega) (by omega) kn
                            have v5 : IntKind.i64.wrap (m.tdiv k) = m.tdiv k := by rw [IntKind.wrap_i64]; omega
                            have v6 : wrap64 (m.tdiv k) = m.tdiv k := by unfold wrap64; omega
                            have kb : (k == 0) = false := by simp [kn]
                            clear q4 ds
                            refine wpAnyH_take (i := 46) (oi := { dst := some 208, op := Op.move (Operand.tmp 21), type := 3, pos := "laws.go:37", after := #[{ on := 45, ground := Ground.guard }], guard := some (45, true) }) (v := ?_) rfl (by kernel_rfl) (by kernel_rfl) (by kernel_rfl) (fun _ _ _ h => h) (Or.inl ⟨by rfl, ?_⟩) (by assumption) ?_
                            rotate_left
                            · (intro w hSw; (try dsimp only at hSw); go_simp; (try with_reducible rfl))
                            try simp only [Act.put, List.setIfInBounds_toArray, List.set_cons_zero, List.set_cons_succ]
                            refine wpAnyH_take (i := 47) (oi := { dst := some 209, op := Op.binOp BinOp.eql 3 (Operand.tmp 208) (Operand.const (Value.int IntKind.i64 0)) 3, type := 4, pos := "laws.go:37", after := #[{ on := 46, ground := Ground.data }, { on := 45, ground := Ground.guard }], guard := some (45, true) }) (v := ?_) rfl (by kernel_rfl) (by kernel_rfl) (by kernel_rfl) (fun _ _ _ h => h) (Or.inl ⟨by rfl, ?_⟩) (by assumption) ?_
                            rotate_left
                            · (intro w hSw; (try dsimp only at hSw); go_simp; (try with_reducible rfl))
                            try simp only [Act.put, List.setIfInBounds_toArray, List.set_cons_zero, List.set_cons_succ]
                            refine wpAnyH_take (i := 48) (oi := { dst := some 210, op := Op.move (Operand.tmp 209), type := 4, pos := "laws.go:37", after := #[{ on := 47, ground := Ground.data }, { on := 45, ground := Ground.chain }, { on := 45, ground := Ground.guard }], guard := some (45, true) }) (v := ?_) rfl (by kernel_rfl) (by kernel_rfl) (by kernel_rfl) (fun _ _ _ h => h) (Or.inl ⟨by rfl, ?_⟩) (by assumption) ?_
                            rotate_left
                            · (intro w hSw; (try dsimp only at hSw); go_simp; (try with_reducible rfl))
                            try simp only [Act.put, List.setIfInBounds_toArray, List.set_cons_zero, List.set_cons_succ]
                            refine wpAnyH_take (i := 49) (oi := { dst := some 211, op := Op.load 24 (Operand.tmp 13), type := 24, pos := "laws.go:37", after := #[{ on := 48, ground := Ground.guard }], guard := some (48, false) }) (v := ?_) rfl (by kernel_rfl) (by kernel_rfl) (by kernel_rfl) (fun _ _ _ h => h) (Or.inl ⟨by rfl, ?_⟩) (by assumption) ?_
                            rotate_left
                            · (intro w hSw; (try dsimp only at hSw); go_simp; (try with_reducible rfl))
                            try simp only [Act.put, List.setIfInBounds_toArray, List.set_cons_zero, List.set_cons_succ]
                            refine wpAnyH_take (i := 50) (oi := { dst := some 212, op := Op.move (Operand.tmp 20), type := 3, pos := "laws.go:37", after := #[{ on := 48, ground := Ground.guard }], guard := some (48, false) }) (v := ?_) rfl (by kernel_rfl) (by kernel_rfl) (by kernel_rfl) (fun _ _ _ h => h) (Or.inl ⟨by rfl, ?_⟩) (by assumption) ?_
                            rotate_left
                            · (intro w hSw; (try dsimp only at hSw); go_simp; (try with_reducible rfl))
                            try simp only [Act.put, List.setIfInBounds_toArray, List.set_cons_zero, List.set_cons_succ]
                            refine wpAnyH_take (i := 51) (oi := { dst := some 213, op := Op.move (Operand.tmp 21), type := 3, pos := "laws.go:37", after := #[{ on := 48, ground := Ground.guard }], guard := some (48, false) }) (v := ?_) rfl (by kernel_rfl) (by kernel_rfl) (by kernel_rfl) (fun _ _ _ h => h) (Or.inl ⟨by rfl, ?_⟩) (by assumption) ?_
                            rotate_left
                            · (intro w hSw; (try dsimp only at hSw); go_simp; (try with_reducible rfl))
                            try simp only [Act.put, List.setIfInBounds_toArray, List.set_cons_zero, List.set_cons_succ]
                            refine wpAnyH_take (i := 52) (oi := { dst := some 214, op := Op.binOp BinOp.quo 3 (Operand.tmp 212) (Operand.tmp 213) 3, type := 3, pos := "laws.go:37", after := #[{ on := 50, ground := Ground.data }, { on := 51, ground := Ground.data }, { on := 48, ground := Ground.guard }], guard := some (48, false) }) (v := ?_) rfl (by kernel_rfl) (by kernel_rfl) (by kernel_rfl) (fun _ _ _ h => h) (Or.inl ⟨by rfl, ?_⟩) (by assumption) ?_
                            rotate_left
                            · (intro w hSw; (try dsimp only at hSw); go_simp; (try with_reducible rfl))
                            try simp only [Act.put, List.setIfInBounds_toArray, List.set_cons_zero, List.set_cons_succ]
                            refine wpAnyH_ready (rs := [53]) (by kernel_rfl) (by simp) ?_
                            refine AllReadyH.cons (o := { dst := some 215, op := Op.call { callee := Callee.value (Operand.func 16), args := #[Operand.tmp 211, Operand.tmp 214], argTypes := #[24, 3] }, type := 4, pos := "laws.go:37", after := #[{ on := 49, ground := Ground.data }, { on := 52, ground := Ground.data }, { on := 48, ground := Ground.chain }, { on := 48, ground := Ground.guard }], guard := some (48, false) }) rfl (fun K hK => ?_) AllReadyH.nil
                            go_simp
                            (go_at_call 16; refine (implHas _ _ _ _).mono ?_; rintro e wn ⟨rfl, hb⟩; (replace hBl := bvia hBl (by go_grown) hb); (replace hA := hA.via (by go_grown) hb); (replace hA0 := hA.c0); (replace hA1 := hA.c1); (replace hAz := hA.lt); (replace hD := hD.via (by go_grown) hb); (replace hD0 := hD.c0); (replace hD1 := hD.c1); (replace hDz := hD.lt); (replace hS := hS.via (by go_grown) hb); (replace hS0 := hS.c0); (replace hS1 := hS.c1); (replace hSz := hS.lt); (replace hU := hU.via (by go_grown) hb); (replace hU0 := hU.c0); (replace hU1 := hU.c1); (replace hUz := hU.lt); (replace hM := hM.via (by go_grown) hb); (replace hM0 := hM.c0); (replace hM1 := hM.c1); (replace hMz := hM.lt); (replace hV := hV.via (by go_grown) hb); (replace hV0 := hV.c0); (replace hV1 := hV.c1); (replace hVz := hV.lt); (clear hb))
                            (try go_wp2_with fail)
                            refine hK.out _ _ ?_ (fun hHeld => ?_)
                            · (simp [*, go_sem, World.cell?_alloc_some, World.cell?_setCell_far, apart1, apart2, apart3, apart4, apart5, apart6])
                            clear hK K
                            try simp only [Act.put, List.setIfInBounds_toArray, List.set_cons_zero, List.set_cons_succ]
                            refine wpAnyH_take (i := 54) (oi := { dst := some 216, op := Op.unOp UnOp.not 4 (Operand.tmp 215), type := 4, pos := "laws.go:37", after := #[{ on := 53, ground := Ground.data }, { on := 48, ground := Ground.guard }], guard := some (48, false) }) (v := ?_) rfl (by kernel_rfl) (by kernel_rfl) (by kernel_rfl) (fun _ _ _ h => h) (Or.inl ⟨by rfl, ?_⟩) (by assumption) ?_
                            rotate_left
                            · (intro w hSw; (try dsimp only at hSw); go_simp; (try with_reducible rfl))
                            try simp only [Act.put, List.setIfInBounds_toArray, List.set_cons_zero, List.set_cons_succ]
                            refine wpAnyH_take (i := 55) (oi := { dst := some 217, op := Op.pick (Operand.tmp 210) (Operand.const (Value.bool true)) (Operand.tmp 216), type := 4, pos := "laws.go:37", after := #[{ on := 48, ground := Ground.data }, { on := 54, ground := Ground.data }, { on := 45, ground := Ground.guard }], guard := some (45, true) }) (v := ?_) rfl (by kernel_rfl) (by kernel_rfl) (by kernel_rfl) (fun _ _ _ h => h) (Or.inl ⟨by rfl, ?_⟩) (by assumption) ?_
                            rotate_left
                            · (intro w hSw; (try dsimp only at hSw); go_simp; (try with_reducible rfl))
                            try simp only [Act.put, List.setIfInBounds_toArray, List.set_cons_zero, List.set_cons_succ]
                            refine wpAnyH_take (i := 56) (oi := { dst := some 218, op := Op.pick (Operand.tmp 207) (Operand.tmp 217) (Operand.const (Value.bool false)), type := 4, pos := "laws.go:37", after := #[{ on := 45, ground := Ground.data }, { on := 55, ground := Ground.data }, { on := 43, ground := Ground.guard }], guard := some (43, false) }) (v := ?_) rfl (by kernel_rfl) (by kernel_rfl) (by kernel_rfl) (fun _ _ _ h => h) (Or.inl ⟨by rfl, ?_⟩) (by assumption) ?_
                            rotate_left
                            · (intro w hSw; (try dsimp only at hSw); go_simp; (try with_reducible rfl))
                            try simp only [Act.put, List.setIfInBounds_toArray, List.set_cons_zero, List.set_cons_succ]
                            refine wpAnyH_take (i := 57) (oi := { dst := some 219, op := Op.pick (Operand.tmp 205) (Operand.const (Value.bool true)) (Operand.tmp 218), type := 4, pos := "laws.go:37", after := #[{ on := 43, ground := Ground.data }, { on := 56, ground := Ground.data }], guard := none }) (v := ?_) rfl (by kernel_rfl) (by kernel_rfl) (by kernel_rfl) (fun _ _ _ h => h) (Or.inl ⟨by rfl, ?_⟩) (by assumption) ?_
                            rotate_left
                            · (intro w hSw; (try dsimp only at hSw); go_simp; (try with_reducible rfl))
                            try simp only [Act.put, List.setIfInBounds_toArray, List.set_cons_zero, List.set_cons_succ]
                            refine wpAnyH_done (by kernel_rfl) ?_ _
                            go_wp2_with fail
                            go_meet
                            exact ⟨rfl, hA, hD, hS, hU, hM, hV, hBl⟩
            · as_aux_lemma =>
                obtain ⟨o1, q1⟩ := F1.out.2 rfl
                have r1 := q1 m k hm0 hm1 hk0 hk1
                clear q1
                refine wpAnyH_take (i := 13) (oi := { dst := some 175, op := Op.load 24 (Operand.tmp 7), type := 24, pos := "laws.go:37", after := #[{ on := 12, ground := Ground.guard }], guard := some (12, true) }) (v := ?_) rfl (by kernel_rfl) (by kernel_rfl) (by kernel_rfl) (fun _ _ _ h => h) (Or.inl ⟨by rfl, ?_⟩) (by assumption) ?_
                rotate_left
                · (intro w hSw; (try dsimp only at hSw); go_simp; (try with_reducible rfl))
                try simp only [Act.put, List.setIfInBounds_toArray, List.set_cons_zero, List.set_cons_succ]
                refine wpAnyH_take (i := 14) (oi := { dst := some 176, op := Op.move (Operand.tmp 20), type := 3, pos := "laws.go:37", after := #[{ on := 12, ground := Ground.guard }], guard := some (12, true) }) (v := ?_) rfl (by kernel_rfl) (by kernel_rfl) (by kernel_rfl) (fun _ _ _ h => h) (Or.inl ⟨by rfl, ?_⟩) (by assumption) ?_
                rotate_left
                · (intro w hSw; (try dsimp only at hSw); go_simp; (try with_reducible rfl))
                try simp only [Act.put, List.setIfInBounds_toArray, List.set_cons_zero, List.set_cons_succ]
                refine wpAnyH_take (i := 15) (oi := { dst := some 177, op := Op.move (Operand.tmp 21), type := 3, pos := "laws.go:37", after := #[{ on := 12, ground := Ground.guard }], guard := some (12, true) }) (v := ?_) rfl (by kernel_rfl) (by kernel_rfl) (by kernel_rfl) (fun _ _ _ h => h) (Or.inl ⟨by rfl, ?_⟩) (by assumption) ?_
                rotate_left
                · (intro w hSw; (try dsimp only at hSw); go_simp; (try with_reducible rfl))
                try simp only [Act.put, List.setIfInBounds_toArray, List.set_cons_zero, List.set_cons_succ]
                refine wpAnyH_take (i := 16) (oi := { dst := some 178, op := Op.binOp BinOp.add 3 (Operand.tmp 176) (Operand.tmp 177) 3, type := 3, pos := "laws.go:37", after := #[{ on := 14, ground := Ground.data }, { on := 15, ground := Ground.data }, { on := 12, ground := Ground.guard }], guard := some (12, true) }) (v := ?_) rfl (by kernel_rfl) (by kernel_rfl) (by kernel_rfl) (fun _ _ _ h => h) (Or.inl ⟨by rfl, ?_⟩) (by assumption) ?_
                rotate_left
                · (intro w hSw; (try dsimp only at hSw); go_simp; (try with_reducible rfl))
                try simp only [Act.put, List.setIfInBounds_toArray, List.set_cons_zero, List.set_cons_succ]
                refine wpAnyH_ready (rs := [17]) (by kernel_rfl) (by simp) ?_
                refine AllReadyH.cons (o := { dst := some 179, op := Op.call { callee := Callee.value (Operand.func 16), args := #[Operand.tmp 175, Operand.tmp 178], argTypes := #[24, 3] }, type := 4, pos := "laws.go:37", after := #[{ on := 13, ground := Ground.data }, { on := 16, ground := Ground.data }, { on := 12, ground := Ground.chain }, { on := 12, ground := Ground.guard }], guard := some (12, true) }) rfl (fun K hK => ?_) AllReadyH.nil
                go_simp
                (go_at_call 16; refine (implHas _ _ _ _).mono ?_; rintro e wn ⟨rfl, hb⟩; (replace hBl := bvia hBl (by go_grown) hb); (replace hA := hA.via (by go_grown) hb); (replace hA0 := hA.c0); (replace hA1 := hA.c1); (replace hAz := hA.lt); (replace hD := hD.via (by go_grown) hb); (replace hD0 := hD.c0); (replace hD1 := hD.c1); (replace hDz := hD.lt); (replace hS := hS.via (by go_grown) hb); (replace hS0 := hS.c0); (replace hS1 := hS.c1); (replace hSz := hS.lt); (replace hU := hU.via (by go_grown) hb); (replace hU0 := hU.c0); (replace hU1 := hU.c1); (replace hUz := hU.lt); (replace hM := hM.via (by go_grown) hb); (replace hM0 := hM.c0); (replace hM1 := hM.c1); (replace hMz := hM.lt); (replace hV := hV.via (by go_grown) hb); (replace hV0 := hV.c0); (replace hV1 := hV.c1); (replace hVz := hV.lt); (clear hb))
                (try go_wp2_with fail)
                refine hK.out _ _ ?_ (fun hHeld => ?_)
                · (simp [*, go_sem, World.cell?_alloc_some, World.cell?_setCell_far, apart1, apart2, apart3, apart4, apart5, apart6])
                clear hK K
                try simp only [Act.put, List.setIfInBounds_toArray, List.set_cons_zero, List.set_cons_succ]
                refine wpAnyH_take (i := 18) (oi := { dst := some 180, op := Op.unOp UnOp.not 4 (Operand.tmp 179), type := 4, pos := "laws.go:37", after := #[{ on := 17, ground := Ground.data }, { on := 12, ground := Ground.guard }], guard := some (12, true) }) (v := ?_) rfl (by kernel_rfl) (by kernel_rfl) (by kernel_rfl) (fun _ _ _ h => h) (Or.inl ⟨by rfl, ?_⟩) (by assumption) ?_
                rotate_left
                · (intro w hSw; (try dsimp only at hSw); go_simp; (try with_reducible rfl))
                try simp only [Act.put, List.setIfInBounds_toArray, List.set_cons_zero, List.set_cons_succ]
                refine wpAnyH_take (i := 19) (oi := { dst := some 181, op := Op.pick (Operand.tmp 174) (Operand.tmp 180) (Operand.const (Value.bool false)), type := 4, pos := "laws.go:37", after := #[{ on := 12, ground := Ground.data }, { on := 18, ground := Ground.data }, { on := 10, ground := Ground.guard }], guard := some (10, false) }) (v := ?_) rfl (by kernel_rfl) (by kernel_rfl) (by kernel_rfl) (fun _ _ _ h => h) (Or.inl ⟨by rfl, ?_⟩) (by assumption) ?_
                rotate_left
                · (intro w hSw; (try dsimp only at hSw); go_simp; (try with_reducible rfl))
                try simp only [Act.put, List.setIfInBounds_toArray, List.set_cons_zero, List.set_cons_succ]
                refine wpAnyH_take (i := 20) (oi := { dst := some 182, op := Op.pick (Operand.tmp 172) (Operand.const (Value.bool true)) (Operand.tmp 181), type := 4, pos := "laws.go:37", after := #[{ on := 10, ground := Ground.data }, { on := 19, ground := Ground.data }], guard := none }) (v := ?_) rfl (by kernel_rfl) (by kernel_rfl) (by kernel_rfl) (fun _ _ _ h => h) (Or.inl ⟨by rfl, ?_⟩) (by assumption) ?_
                rotate_left
                · (intro w hSw; (try dsimp only at hSw); go_simp; (try with_reducible rfl))
                try simp only [Act.put, List.setIfInBounds_toArray, List.set_cons_zero, List.set_cons_succ]
                refine wpAnyH_take (i := 21) (oi := { dst := some 183, op := Op.move (Operand.tmp 182), type := 4, pos := "laws.go:37", after := #[{ on := 20, ground := Ground.data }, { on := 17, ground := Ground.chain }], guard := none }) (v := ?_) rfl (by kernel_rfl) (by kernel_rfl) (by kernel_rfl) (fun _ _ _ h => h) (Or.inl ⟨by rfl, ?_⟩) (by assumption) ?_
                rotate_left
                · (intro w hSw; (try dsimp only at hSw); go_simp; (try with_reducible rfl))
                try simp only [Act.put, List.setIfInBounds_toArray, List.set_cons_zero, List.set_cons_succ]
                refine wpAnyH_take (i := 22) (oi := { dst := some 184, op := Op.move (Operand.tmp 10), type := 4, pos := "laws.go:37", after := #[{ on := 21, ground := Ground.guard }], guard := some (21, false) }) (v := ?_) rfl (by kernel_rfl) (by kernel_rfl) (by kernel_rfl) (fun _ _ _ h => h) (Or.inl ⟨by rfl, ?_⟩) (by assumption) ?_
                rotate_left
                · (intro w hSw; (try dsimp only at hSw); go_simp; (try with_reducible rfl))
                try simp only [Act.put, List.setIfInBounds_toArray, List.set_cons_zero, List.set_cons_succ]
                refine wpAnyH_take (i := 23) (oi := { dst := some 185, op := Op.move (Operand.tmp 184), type := 4, pos := "laws.go:37", after := #[{ on := 22, ground := Ground.data }, { on := 21, ground := Ground.chain }, { on := 21, ground := Ground.guard }], guard := some (21, false) }) (v := ?_) rfl (by kernel_rfl) (by kernel_rfl) (by kernel_rfl) (fun _ _ _ h => h) (Or.inl ⟨by rfl, ?_⟩) (by assumption) ?_
                rotate_left
                · (intro w hSw; (try dsimp only at hSw); go_simp; (try with_reducible rfl))
                try simp only [Act.put, List.setIfInBounds_toArray, List.set_cons_zero, List.set_cons_succ]
                cases P2
                · as_aux_lemma =>
                    refine wpAnyH_take (i := 24) (oi := { dst := some 186, op := Op.load 24 (Operand.tmp 9), type := 24, pos := "laws.go:37", after := #[{ on := 23, ground := Ground.guard }], guard := some (23, true) }) (v := _) rfl (by kernel_rfl) (by kernel_rfl) (by kernel_rfl) (fun _ _ _ h => h) (Or.inr ⟨by rfl, rfl⟩) (by assumption) ?_
                    try simp only [Act.put, List.setIfInBounds_toArray, List.set_cons_zero, List.set_cons_succ]
                    refine wpAnyH_take (i := 25) (oi := { dst := some 187, op := Op.move (Operand.tmp 20), type := 3, pos := "laws.go:37", after := #[{ on := 23, ground := Ground.guard }], guard := some (23, true) }) (v := _) rfl (by kernel_rfl) (by kernel_rfl) (by kernel_rfl) (fun _ _ _ h => h) (Or.inr ⟨by rfl, rfl⟩) (by assumption) ?_
                    try simp only [Act.put, List.setIfInBounds_toArray, List.set_cons_zero, List.set_cons_succ]
                    refine wpAnyH_take (i := 26) (oi := { dst := some 188, op := Op.move (Operand.tmp 21), type := 3, pos := "laws.go:37", after := #[{ on := 23, ground := Ground.guard }], guard := some (23, true) }) (v := _) rfl (by kernel_rfl) (by kernel_rfl) (by kernel_rfl) (fun _ _ _ h => h) (Or.inr ⟨by rfl, rfl⟩) (by assumption) ?_
                    try simp only [Act.put, List.setIfInBounds_toArray, List.set_cons_zero, List.set_cons_succ]
                    refine wpAnyH_take (i := 27) (oi := { dst := some 189, op := Op.binOp BinOp.sub 3 (Operand.tmp 187) (Operand.tmp 188) 3, type := 3, pos := "laws.go:37", after := #[{ on := 25, ground := Ground.data }, { on := 26, ground := Ground.data }, { on := 23, ground := Ground.guard }], guard := some (23, true) }) (v := _) rfl (by kernel_rfl) (by kernel_rfl) (by kernel_rfl) (fun _ _ _ h => h) (Or.inr ⟨by rfl, rfl⟩) (by assumption) ?_
                    try simp only [Act.put, List.setIfInBounds_toArray, List.set_cons_zero, List.set_cons_succ]
                    refine wpAnyH_take (i := 28) (oi := { dst := some 190, op := Op.call { callee := Callee.value (Operand.func 16), args := #[Operand.tmp 186, Operand.tmp 189], argTypes := #[24, 3] }, type := 4, pos := "laws.go:37", after := #[{ on := 24, ground := Ground.data }, { on := 27, ground := Ground.data }, { on := 23, ground := Ground.chain }, { on := 23, ground := Ground.guard }], guard := some (23, true) }) (v := _) rfl (by kernel_rfl) (by kernel_rfl) (by kernel_rfl) (fun _ _ _ h => h) (Or.inr ⟨by rfl, rfl⟩) (by assumption) ?_
                    try simp only [Act.put, List.setIfInBounds_toArray, List.set_cons_zero, List.set_cons_succ]
                    refine wpAnyH_take (i := 29) (oi := { dst := some 191, op := Op.unOp UnOp.not 4 (Operand.tmp 190), type := 4, pos := "laws.go:37", after := #[{ on := 28, ground := Ground.data }, { on := 23, ground := Ground.guard }], guard := some (23, true) }) (v := _) rfl (by kernel_rfl) (by kernel_rfl) (by kernel_rfl) (fun _ _ _ h => h) (Or.inr ⟨by rfl, rfl⟩) (by assumption) ?_
                    try simp only [Act.put, List.setIfInBounds_toArray, List.set_cons_zero, List.set_cons_succ]
                    refine wpAnyH_take (i := 30) (oi := { dst := some 192, op := Op.pick (Operand.tmp 185) (Operand.tmp 191) (Operand.const (Value.bool false)), type := 4, pos := "laws.go:37", after := #[{ on := 23, ground := Ground.data }, { on := 29, ground := Ground.data }, { on := 21, ground := Ground.guard }], guard := some (21, false) }) (v := ?_) rfl (by kernel_rfl) (by kernel_rfl) (by kernel_rfl) (fun _ _ _ h => h) (Or.inl ⟨by rfl, ?_⟩) (by assumption) ?_
                    rotate_left
                    · (intro w hSw; (try dsimp only at hSw); go_simp; (try with_reducible rfl))
                    try simp only [Act.put, List.setIfInBounds_toArray, List.set_cons_zero, List.set_cons_succ]
                    refine wpAnyH_take (i := 31) (oi := { dst := some 193, op := Op.pick (Operand.tmp 183) (Operand.const (Value.bool true)) (Operand.tmp 192), type := 4, pos := "laws.go:37", after := #[{ on := 21, ground := Ground.data }, { on := 30, ground := Ground.data }], guard := none }) (v := ?_) rfl (by kernel_rfl) (by kernel_rfl) (by kernel_rfl) (fun _ _ _ h => h) (Or.inl ⟨by rfl, ?_⟩) (by assumption) ?_
                    rotate_left
                    · (intro w hSw; (try dsimp only at hSw); go_simp; (try with_reducible rfl))
                    try simp only [Act.put, List.setIfInBounds_toArray, List.set_cons_zero, List.set_cons_succ]
                    refine wpAnyH_take (i := 32) (oi := { dst := some 194, op := Op.move (Operand.tmp 193), type := 4, pos := "laws.go:37", after := #[{ on := 31, ground := Ground.data }, { on := 28, ground := Ground.chain }], guard := none }) (v := ?_) rfl (by kernel_rfl) (by kernel_rfl) (by kernel_rfl) (fun _ _ _ h => h) (Or.inl ⟨by rfl, ?_⟩) (by assumption) ?_
                    rotate_left
                    · (intro w hSw; (try dsimp only at hSw); go_simp; (try with_reducible rfl))
                    try simp only [Act.put, List.setIfInBounds_toArray, List.set_cons_zero, List.set_cons_succ]
                    refine wpAnyH_take (i := 33) (oi := { dst := some 195, op := Op.move (Operand.tmp 12), type := 4, pos := "laws.go:37", after := #[{ on := 32, ground := Ground.guard }], guard := some (32, false) }) (v := ?_) rfl (by kernel_rfl) (by kernel_rfl) (by kernel_rfl) (fun _ _ _ h => h) (Or.inl ⟨by rfl, ?_⟩) (by assumption) ?_
                    rotate_left
                    · (intro w hSw; (try dsimp only at hSw); go_simp; (try with_reducible rfl))
                    try simp only [Act.put, List.setIfInBounds_toArray, List.set_cons_zero, List.set_cons_succ]
                    refine wpAnyH_take (i := 34) (oi := { dst := some 196, op := Op.move (Operand.tmp 195), type := 4, pos := "laws.go:37", after := #[{ on := 33, ground := Ground.data }, { on := 32, ground := Ground.chain }, { on := 32, ground := Ground.guard }], guard := some (32, false) }) (v := ?_) rfl (by kernel_rfl) (by kernel_rfl) (by kernel_rfl) (fun _ _ _ h => h) (Or.inl ⟨by rfl, ?_⟩) (by assumption) ?_
                    rotate_left
                    · (intro w hSw; (try dsimp only at hSw); go_simp; (try with_reducible rfl))
                    try simp only [Act.put, List.setIfInBounds_toArray, List.set_cons_zero, List.set_cons_succ]
                    cases P3
                    · as_aux_lemma =>
                        refine wpAnyH_take (i := 35) (oi := { dst := some 197, op := Op.load 24 (Operand.tmp 11), type := 24, pos := "laws.go:37", after := #[{ on := 34, ground := Ground.guard }], guard := some (34, true) }) (v := _) rfl (by kernel_rfl) (by kernel_rfl) (by kernel_rfl) (fun _ _ _ h => h) (Or.inr ⟨by rfl, rfl⟩) (by assumption) ?_
                        try simp only [Act.put, List.setIfInBounds_toArray, List.set_cons_zero, List.set_cons_succ]
                        refine wpAnyH_take (i := 36) (oi := { dst := some 198, op := Op.move (Operand.tmp 20), type := 3, pos := "laws.go:37", after := #[{ on := 34, ground := Ground.guard }], guard := some (34, true) }) (v := _) rfl (by kernel_rfl) (by kernel_rfl) (by kernel_rfl) (fun _ _ _ h => h) (Or.inr ⟨by rfl, rfl⟩) (by assumption) ?_
                        try simp only [Act.put, List.setIfInBounds_toArray, List.set_cons_zero, List.set_cons_succ]
                        refine wpAnyH_take (i := 37) (oi := { dst := some 199, op := Op.move (Operand.tmp 21), type := 3, pos := "laws.go:37", after := #[{ on := 34, ground := Ground.guard }], guard := some (34, true) }) (v := _) rfl (by kernel_rfl) (by kernel_rfl) (by kernel_rfl) (fun _ _ _ h => h) (Or.inr ⟨by rfl, rfl⟩) (by assumption) ?_
                        try simp only [Act.put, List.setIfInBounds_toArray, List.set_cons_zero, List.set_cons_succ]
                        refine wpAnyH_take (i := 38) (oi := { dst := some 200, op := Op.binOp BinOp.mul 3 (Operand.tmp 198) (Operand.tmp 199) 3, type := 3, pos := "laws.go:37", after := #[{ on := 36, ground := Ground.data }, { on := 37, ground := Ground.data }, { on := 34, ground := Ground.guard }], guard := some (34, true) }) (v := _) rfl (by kernel_rfl) (by kernel_rfl) (by kernel_rfl) (fun _ _ _ h => h) (Or.inr ⟨by rfl, rfl⟩) (by assumption) ?_
                        try simp only [Act.put, List.setIfInBounds_toArray, List.set_cons_zero, List.set_cons_succ]
                        refine wpAnyH_take (i := 39) (oi := { dst := some 201, op := Op.call { callee := Callee.value (Operand.func 16), args := #[Operand.tmp 197, Operand.tmp 200], argTypes := #[24, 3] }, type := 4, pos := "laws.go:37", after := #[{ on := 35, ground := Ground.data }, { on := 38, ground := Ground.data }, { on := 34, ground := Ground.chain }, { on := 34, ground := Ground.guard }], guard := some (34, true) }) (v := _) rfl (by kernel_rfl) (by kernel_rfl) (by kernel_rfl) (fun _ _ _ h => h) (Or.inr ⟨by rfl, rfl⟩) (by assumption) ?_
                        try simp only [Act.put, List.setIfInBounds_toArray, List.set_cons_zero, List.set_cons_succ]
                        refine wpAnyH_take (i := 40) (oi := { dst := some 202, op := Op.unOp UnOp.not 4 (Operand.tmp 201), type := 4, pos := "laws.go:37", after := #[{ on := 39, ground := Ground.data }, { on := 34, ground := Ground.guard }], guard := some (34, true) }) (v := _) rfl (by kernel_rfl) (by kernel_rfl) (by kernel_rfl) (fun _ _ _ h => h) (Or.inr ⟨by rfl, rfl⟩) (by assumption) ?_
                        try simp only [Act.put, List.setIfInBounds_toArray, List.set_cons_zero, List.set_cons_succ]
                        refine wpAnyH_take (i := 41) (oi := { dst := some 203, op := Op.pick (Operand.tmp 196) (Operand.tmp 202) (Operand.const (Value.bool false)), type := 4, pos := "laws.go:37", after := #[{ on := 34, ground := Ground.data }, { on := 40, ground := Ground.data }, { on := 32, ground := Ground.guard }], guard := some (32, false) }) (v := ?_) rfl (by kernel_rfl) (by kernel_rfl) (by kernel_rfl) (fun _ _ _ h => h) (Or.inl ⟨by rfl, ?_⟩) (by assumption) ?_
                        rotate_left
                        · (intro w hSw; (try dsimp only at hSw); go_simp; (try with_reducible rfl))
                        try simp only [Act.put, List.setIfInBounds_toArray, List.set_cons_zero, List.set_cons_succ]
                        refine wpAnyH_take (i := 42) (oi := { dst := some 204, op := Op.pick (Operand.tmp 194) (Operand.const (Value.bool true)) (Operand.tmp 203), type := 4, pos := "laws.go:37", after := #[{ on := 32, ground := Ground.data }, { on := 41, ground := Ground.data }], guard := none }) (v := ?_) rfl (by kernel_rfl) (by kernel_rfl) (by kernel_rfl) (fun _ _ _ h => h) (Or.inl ⟨by rfl, ?_⟩) (by assumption) ?_
                        rotate_left
                        · (intro w hSw; (try dsimp only at hSw); go_simp; (try with_reducible rfl))
                        try simp only [Act.put, List.setIfInBounds_toArray, List.set_cons_zero, List.set_cons_succ]
                        refine wpAnyH_take (i := 43) (oi := { dst := some 205, op := Op.move (Operand.tmp 204), type := 4, pos := "laws.go:37", after := #[{ on := 42, ground := Ground.data }, { on := 39, ground := Ground.chain }], guard := none }) (v := ?_) rfl (by kernel_rfl) (by kernel_rfl) (by kernel_rfl) (fun _ _ _ h => h) (Or.inl ⟨by rfl, ?_⟩) (by assumption) ?_
                        rotate_left
                        · (intro w hSw; (try dsimp only at hSw); go_simp; (try with_reducible rfl))
                        try simp only [Act.put, List.setIfInBounds_toArray, List.set_cons_zero, List.set_cons_succ]
                        refine wpAnyH_take (i := 44) (oi := { dst := some 206, op := Op.move (Operand.tmp 14), type := 4, pos := "laws.go:37", after := #[{ on := 43, ground := Ground.guard }], guard := some (43, false) }) (v := ?_) rfl (by kernel_rfl) (by kernel_rfl) (by kernel_rfl) (fun _ _ _ h => h) (Or.inl ⟨by rfl, ?_⟩) (by assumption) ?_
                        rotate_left
                        · (intro w hSw; (try dsimp only at hSw); go_simp; (try with_reducible rfl))
                        try simp only [Act.put, List.setIfInBounds_toArray, List.set_cons_zero, List.set_cons_succ]
                        refine wpAnyH_take (i := 45) (oi := { dst := some 207, op := Op.move (Operand.tmp 206), type := 4, pos := "laws.go:37", after := #[{ on := 44, ground := Ground.data }, { on := 43, ground := Ground.chain }, { on := 43, ground := Ground.guard }], guard := some (43, false) }) (v := ?_) rfl (by kernel_rfl) (by kernel_rfl) (by kernel_rfl) (fun _ _ _ h => h) (Or.inl ⟨by rfl, ?_⟩) (by assumption) ?_
                        rotate_left
                        · (intro w hSw; (try dsimp only at hSw); go_simp; (try with_reducible rfl))
                        try simp only [Act.put, List.setIfInBounds_toArray, List.set_cons_zero, List.set_cons_succ]
                        cases P4
                        · as_aux_lemma =>
                            refine wpAnyH_take (i := 46) (oi := { dst := some 208, op := Op.move (Operand.tmp 21), type := 3, pos := "laws.go:37", after := #[{ on := 45, ground := Ground.guard }], guard := some (45, true) }) (v := _) rfl (by kernel_rfl) (by kernel_rfl) (by kernel_rfl) (fun _ _ _ h => h) (Or.inr ⟨by rfl, rfl⟩) (by assumption) ?_
                            try simp only [Act.put, List.setIfInBounds_toArray, List.set_cons_zero, List.set_cons_succ]
                            refine wpAnyH_take (i := 47) (oi := { dst := some 209, op := Op.binOp BinOp.eql 3 (Operand.tmp 208) (Operand.const (Value.int IntKind.i64 0)) 3, type := 4, pos := "laws.go:37", after := #[{ on := 46, ground := Ground.data }, { on := 45, ground := Ground.guard }], guard := some (45, true) }) (v := _) rfl (by kernel_rfl) (by kernel_rfl) (by kernel_rfl) (fun _ _ _ h => h) (Or.inr ⟨by rfl, rfl⟩) (by assumption) ?_
                            try simp only [Act.put, List.setIfInBounds_toArray, List.set_cons_zero, List.set_cons_succ]
                            refine wpAnyH_take (i := 48) (oi := { dst := some 210, op := Op.move (Operand.tmp 209), type := 4, pos := "laws.go:37", after := #[{ on := 47, ground := Ground.data }, { on := 45, ground := Ground.chain }, { on := 45, ground := Ground.guard }], guard := some (45, true) }) (v := _) rfl (by kernel_rfl) (by kernel_rfl) (by kernel_rfl) (fun _ _ _ h => h) (Or.inr ⟨by rfl, rfl⟩) (by assumption) ?_
                            try simp only [Act.put, List.setIfInBounds_toArray, List.set_cons_zero, List.set_cons_succ]
                            refine wpAnyH_take (i := 49) (oi := { dst := some 211, op := Op.load 24 (Operand.tmp 13), type := 24, pos := "laws.go:37", after := #[{ on := 48, ground := Ground.guard }], guard := some (48, false) }) (v := _) rfl (by kernel_rfl) (by kernel_rfl) (by kernel_rfl) (fun _ _ _ h => h) (Or.inr ⟨by rfl, rfl⟩) (by assumption) ?_
                            try simp only [Act.put, List.setIfInBounds_toArray, List.set_cons_zero, List.set_cons_succ]
                            refine wpAnyH_take (i := 50) (oi := { dst := some 212, op := Op.move (Operand.tmp 20), type := 3, pos := "laws.go:37", after := #[{ on := 48, ground := Ground.guard }], guard := some (48, false) }) (v := _) rfl (by kernel_rfl) (by kernel_rfl) (by kernel_rfl) (fun _ _ _ h => h) (Or.inr ⟨by rfl, rfl⟩) (by assumption) ?_
                            try simp only [Act.put, List.setIfInBounds_toArray, List.set_cons_zero, List.set_cons_succ]
                            refine wpAnyH_take (i := 51) (oi := { dst := some 213, op := Op.move (Operand.tmp 21), type := 3, pos := "laws.go:37", after := #[{ on := 48, ground := Ground.guard }], guard := some (48, false) }) (v := _) rfl (by kernel_rfl) (by kernel_rfl) (by kernel_rfl) (fun _ _ _ h => h) (Or.inr ⟨by rfl, rfl⟩) (by assumption) ?_
                            try simp only [Act.put, List.setIfInBounds_toArray, List.set_cons_zero, List.set_cons_succ]
                            refine wpAnyH_take (i := 52) (oi := { dst := some 214, op := Op.binOp BinOp.quo 3 (Operand.tmp 212) (Operand.tmp 213) 3, type := 3, pos := "laws.go:37", after := #[{ on := 50, ground := Ground.data }, { on := 51, ground := Ground.data }, { on := 48, ground := Ground.guard }], guard := some (48, false) }) (v := _) rfl (by kernel_rfl) (by kernel_rfl) (by kernel_rfl) (fun _ _ _ h => h) (Or.inr ⟨by rfl, rfl⟩) (by assumption) ?_
                            try simp only [Act.put, List.setIfInBounds_toArray, List.set_cons_zero, List.set_cons_succ]
                            refine wpAnyH_take (i := 53) (oi := { dst := some 215, op := Op.call { callee := Callee.value (Operand.func 16), args := #[Operand.tmp 211, Operand.tmp 214], argTypes := #[24, 3] }, type := 4, pos := "laws.go:37", after := #[{ on := 49, ground := Ground.data }, { on := 52, ground := Ground.data }, { on := 48, ground := Ground.chain }, { on := 48, ground := Ground.guard }], guard := some (48, false) }) (v := _) rfl (by kernel_rfl) (by kernel_rfl) (by kernel_rfl) (fun _ _ _ h => h) (Or.inr ⟨by rfl, rfl⟩) (by assumption) ?_
                            try simp only [Act.put, List.setIfInBounds_toArray, List.set_cons_zero, List.set_cons_succ]
                            refine wpAnyH_take (i := 54) (oi := { dst := some 216, op := Op.unOp UnOp.not 4 (Operand.tmp 215), type := 4, pos := "laws.go:37", after := #[{ on := 53, ground := Ground.data }, { on := 48, ground := Ground.guard }], guard := some (48, false) }) (v := _) rfl (by kernel_rfl) (by kernel_rfl) (by kernel_rfl) (fun _ _ _ h => h) (Or.inr ⟨by rfl, rfl⟩) (by assumption) ?_
                            try simp only [Act.put, List.setIfInBounds_toArray, List.set_cons_zero, List.set_cons_succ]
                            refine wpAnyH_take (i := 55) (oi := { dst := some 217, op := Op.pick (Operand.tmp 210) (Operand.const (Value.bool true)) (Operand.tmp 216), type := 4, pos := "laws.go:37", after := #[{ on := 48, ground := Ground.data }, { on := 54, ground := Ground.data }, { on := 45, ground := Ground.guard }], guard := some (45, true) }) (v := _) rfl (by kernel_rfl) (by kernel_rfl) (by kernel_rfl) (fun _ _ _ h => h) (Or.inr ⟨by rfl, rfl⟩) (by assumption) ?_
                            try simp only [Act.put, List.setIfInBounds_toArray, List.set_cons_zero, List.set_cons_succ]
                            refine wpAnyH_take (i := 56) (oi := { dst := some 218, op := Op.pick (Operand.tmp 207) (Operand.tmp 217) (Operand.const (Value.bool false)), type := 4, pos := "laws.go:37", after := #[{ on := 45, ground := Ground.data }, { on := 55, ground := Ground.data }, { on := 43, ground := Ground.guard }], guard := some (43, false) }) (v := ?_) rfl (by kernel_rfl) (by kernel_rfl) (by kernel_rfl) (fun _ _ _ h => h) (Or.inl ⟨by rfl, ?_⟩) (by assumption) ?_
                            rotate_left
                            · (intro w hSw; (try dsimp only at hSw); go_simp; (try with_reducible rfl))
                            try simp only [Act.put, List.setIfInBounds_toArray, List.set_cons_zero, List.set_cons_succ]
                            refine wpAnyH_take (i := 57) (oi := { dst := some 219, op := Op.pick (Operand.tmp 205) (Operand.const (Value.bool true)) (Operand.tmp 218), type := 4, pos := "laws.go:37", after := #[{ on := 43, ground := Ground.data }, { on := 56, ground := Ground.data }], guard := none }) (v := ?_) rfl (by kernel_rfl) (by kernel_rfl) (by kernel_rfl) (fun _ _ _ h => h) (Or.inl ⟨by rfl, ?_⟩) (by assumption) ?_
                            rotate_left
                            · (intro w hSw; (try dsimp only at hSw); go_simp; (try with_reducible rfl))
                            try simp only [Act.put, List.setIfInBounds_toArray, List.set_cons_zero, List.set_cons_succ]
                            refine wpAnyH_done (by kernel_rfl) ?_ _
                            go_wp2_with fail
                            go_meet
                            exact ⟨rfl, hA, hD, hS, hU, hM, hV, hBl⟩
                        · as_aux_lemma =>
                            obtain ⟨o4, q4⟩ := F4.out.2 rfl
                            obtain ⟨kn, r4⟩ := q4 m k hm0 hm1 hk0 hk1
                            have ds := div_small m k (by omega) (by omega) kn
                            have v5 : IntKind.i64.wrap (m.tdiv k) = m.tdiv k := by rw [IntKind.wrap_i64]; omega
                            have v6 : wrap64 (m.tdiv k) = m.tdiv k := by unfold wrap64; omega
                            have kb : (k == 0) = false := by simp [kn]
                            clear q4 ds
                            refine wpAnyH_take (i := 46) (oi := { dst := some 208, op := Op.move (Operand.tmp 21), type := 3, pos := "laws.go:37", after := #[{ on := 45, ground := Ground.guard }], guard := some (45, true) }) (v := ?_) rfl (by kernel_rfl) (by kernel_rfl) (by kernel_rfl) (fun _ _ _ h => h) (Or.inl ⟨by rfl, ?_⟩) (by assumption) ?_
                            rotate_left
                            · (intro w hSw; (try dsimp only at hSw); go_simp; (try with_reducible rfl))
                            try simp only [Act.put, List.setIfInBounds_toArray, List.set_cons_zero, List.set_cons_succ]
                            refine wpAnyH_take (i := 47) (oi := { dst := some 209, op := Op.binOp BinOp.eql 3 (Operand.tmp 208) (Operand.const (Value.int IntKind.i64 0)) 3, type := 4, pos := "laws.go:37", after := #[{ on := 46, ground := Ground.data }, { on := 45, ground := Ground.guard }], guard := some (45, true) }) (v := ?_) rfl (by kernel_rfl) (by kernel_rfl) (by kernel_rfl) (fun _ _ _ h => h) (Or.inl ⟨by rfl, ?_⟩) (by assumption) ?_
                            rotate_left
                            · (intro w hSw; (try dsimp only at hSw); go_simp; (try with_reducible rfl))
                            try simp only [Act.put, List.setIfInBounds_toArray, List.set_cons_zero, List.set_cons_succ]
                            refine wpAnyH_take (i := 48) (oi := { dst := some 210, op := Op.move (Operand.tmp 209), type := 4, pos := "laws.go:37", after := #[{ on := 47, ground := Ground.data }, { on := 45, ground := Ground.chain }, { on := 45, ground := Ground.guard }], guard := some (45, true) }) (v := ?_) rfl (by kernel_rfl) (by kernel_rfl) (by kernel_rfl) (fun _ _ _ h => h) (Or.inl ⟨by rfl, ?_⟩) (by assumption) ?_
                            rotate_left
                            · (intro w hSw; (try dsimp only at hSw); go_simp; (try with_reducible rfl))
                            try simp only [Act.put, List.setIfInBounds_toArray, List.set_cons_zero, List.set_cons_succ]
                            refine wpAnyH_take (i := 49) (oi := { dst := some 211, op := Op.load 24 (Operand.tmp 13), type := 24, pos := "laws.go:37", after := #[{ on := 48, ground := Ground.guard }], guard := some (48, false) }) (v := ?_) rfl (by kernel_rfl) (by kernel_rfl) (by kernel_rfl) (fun _ _ _ h => h) (Or.inl ⟨by rfl, ?_⟩) (by assumption) ?_
                            rotate_left
                            · (intro w hSw; (try dsimp only at hSw); go_simp; (try with_reducible rfl))
                            try simp only [Act.put, List.setIfInBounds_toArray, List.set_cons_zero, List.set_cons_succ]
                            refine wpAnyH_take (i := 50) (oi := { dst := some 212, op := Op.move (Operand.tmp 20), type := 3, pos := "laws.go:37", after := #[{ on := 48, ground := Ground.guard }], guard := some (48, false) }) (v := ?_) rfl (by kernel_rfl) (by kernel_rfl) (by kernel_rfl) (fun _ _ _ h => h) (Or.inl ⟨by rfl, ?_⟩) (by assumption) ?_
                            rotate_left
                            · (intro w hSw; (try dsimp only at hSw); go_simp; (try with_reducible rfl))
                            try simp only [Act.put, List.setIfInBounds_toArray, List.set_cons_zero, List.set_cons_succ]
                            refine wpAnyH_take (i := 51) (oi := { dst := some 213, op := Op.move (Operand.tmp 21), type := 3, pos := "laws.go:37", after := #[{ on := 48, ground := Ground.guard }], guard := some (48, false) }) (v := ?_) rfl (by kernel_rfl) (by kernel_rfl) (by kernel_rfl) (fun _ _ _ h => h) (Or.inl ⟨by rfl, ?_⟩) (by assumption) ?_
                            rotate_left
                            · (intro w hSw; (try dsimp only at hSw); go_simp; (try with_reducible rfl))
                            try simp only [Act.put, List.setIfInBounds_toArray, List.set_cons_zero, List.set_cons_succ]
                            refine wpAnyH_take (i := 52) (oi := { dst := some 214, op := Op.binOp BinOp.quo 3 (Operand.tmp 212) (Operand.tmp 213) 3, type := 3, pos := "laws.go:37", after := #[{ on := 50, ground := Ground.data }, { on := 51, ground := Ground.data }, { on := 48, ground := Ground.guard }], guard := some (48, false) }) (v := ?_) rfl (by kernel_rfl) (by kernel_rfl) (by kernel_rfl) (fun _ _ _ h => h) (Or.inl ⟨by rfl, ?_⟩) (by assumption) ?_
                            rotate_left
                            · (intro w hSw; (try dsimp only at hSw); go_simp; (try with_reducible rfl))
                            try simp only [Act.put, List.setIfInBounds_toArray, List.set_cons_zero, List.set_cons_succ]
                            refine wpAnyH_ready (rs := [53]) (by kernel_rfl) (by simp) ?_
                            refine AllReadyH.cons (o := { dst := some 215, op := Op.call { callee := Callee.value (Operand.func 16), args := #[Operand.tmp 211, Operand.tmp 214], argTypes := #[24, 3] }, type := 4, pos := "laws.go:37", after := #[{ on := 49, ground := Ground.data }, { on := 52, ground := Ground.data }, { on := 48, ground := Ground.chain }, { on := 48, ground := Ground.guard }], guard := some (48, false) }) rfl (fun K hK => ?_) AllReadyH.nil
                            go_simp
                            (go_at_call 16; refine (implHas _ _ _ _).mono ?_; rintro e wn ⟨rfl, hb⟩; (replace hBl := bvia hBl (by go_grown) hb); (replace hA := hA.via (by go_grown) hb); (replace hA0 := hA.c0); (replace hA1 := hA.c1); (replace hAz := hA.lt); (replace hD := hD.via (by go_grown) hb); (replace hD0 := hD.c0); (replace hD1 := hD.c1); (replace hDz := hD.lt); (replace hS := hS.via (by go_grown) hb); (replace hS0 := hS.c0); (replace hS1 := hS.c1); (replace hSz := hS.lt); (replace hU := hU.via (by go_grown) hb); (replace hU0 := hU.c0); (replace hU1 := hU.c1); (replace hUz := hU.lt); (replace hM := hM.via (by go_grown) hb); (replace hM0 := hM.c0); (replace hM1 := hM.c1); (replace hMz := hM.lt); (replace hV := hV.via (by go_grown) hb); (replace hV0 := hV.c0); (replace hV1 := hV.c1); (replace hVz := hV.lt); (clear hb))
                            (try go_wp2_with fail)
                            refine hK.out _ _ ?_ (fun hHeld => ?_)
                            · (simp [*, go_sem, World.cell?_alloc_some, World.cell?_setCell_far, apart1, apart2, apart3, apart4, apart5, apart6])
                            clear hK K
                            try simp only [Act.put, List.setIfInBounds_toArray, List.set_cons_zero, List.set_cons_succ]
                            refine wpAnyH_take (i := 54) (oi := { dst := some 216, op := Op.unOp UnOp.not 4 (Operand.tmp 215), type := 4, pos := "laws.go:37", after := #[{ on := 53, ground := Ground.data }, { on := 48, ground := Ground.guard }], guard := some (48, false) }) (v := ?_) rfl (by kernel_rfl) (by kernel_rfl) (by kernel_rfl) (fun _ _ _ h => h) (Or.inl ⟨by rfl, ?_⟩) (by assumption) ?_
                            rotate_left
                            · (intro w hSw; (try dsimp only at hSw); go_simp; (try with_reducible rfl))
                            try simp only [Act.put, List.setIfInBounds_toArray, List.set_cons_zero, List.set_cons_succ]
                            refine wpAnyH_take (i := 55) (oi := { dst := some 217, op := Op.pick (Operand.tmp 210) (Operand.const (Value.bool true)) (Operand.tmp 216), type := 4, pos := "laws.go:37", after := #[{ on := 48, ground := Ground.data }, { on := 54, ground := Ground.data }, { on := 45, ground := Ground.guard }], guard := some (45, true) }) (v := ?_) rfl (by kernel_rfl) (by kernel_rfl) (by kernel_rfl) (fun _ _ _ h => h) (Or.inl ⟨by rfl, ?_⟩) (by assumption) ?_
                            rotate_left
                            · (intro w hSw; (try dsimp only at hSw); go_simp; (try with_reducible rfl))
                            try simp only [Act.put, List.setIfInBounds_toArray, List.set_cons_zero, List.set_cons_succ]
                            refine wpAnyH_take (i := 56) (oi := { dst := some 218, op := Op.pick (Operand.tmp 207) (Operand.tmp 217) (Operand.const (Value.bool false)), type := 4, pos := "laws.go:37", after := #[{ on := 45, ground := Ground.data }, { on := 55, ground := Ground.data }, { on := 43, ground := Ground.guard }], guard := some (43, false) }) (v := ?_) rfl (by kernel_rfl) (by kernel_rfl) (by kernel_rfl) (fun _ _ _ h => h) (Or.inl ⟨by rfl, ?_⟩) (by assumption) ?_
                            rotate_left
                            · (intro w hSw; (try dsimp only at hSw); go_simp; (try with_reducible rfl))
                            try simp only [Act.put, List.setIfInBounds_toArray, List.set_cons_zero, List.set_cons_succ]
                            refine wpAnyH_take (i := 57) (oi := { dst := some 219, op := Op.pick (Operand.tmp 205) (Operand.const (Value.bool true)) (Operand.tmp 218), type := 4, pos := "laws.go:37", after := #[{ on := 43, ground := Ground.data }, { on := 56, ground := Ground.data }], guard := none }) (v := ?_) rfl (by kernel_rfl) (by kernel_rfl) (by kernel_rfl) (fun _ _ _ h => h) (Or.inl ⟨by rfl, ?_⟩) (by assumption) ?_
                            rotate_left
                            · (intro w hSw; (try dsimp only at hSw); go_simp; (try with_reducible rfl))
                            try simp only [Act.put, List.setIfInBounds_toArray, List.set_cons_zero, List.set_cons_succ]
                            refine wpAnyH_done (by kernel_rfl) ?_ _
                            go_wp2_with fail
                            go_meet
                            exact ⟨rfl, hA, hD, hS, hU, hM, hV, hBl⟩
                    · as_aux_lemma =>
                        obtain ⟨o3, q3⟩ := F3.out rfl
                        have r3 := q3 m k hm0 hm1 hk0 hk1
                        clear q3
                        refine wpAnyH_take (i := 35) (oi := { dst := some 197, op := Op.load 24 (Operand.tmp 11), type := 24, pos := "laws.go:37", after := #[{ on := 34, ground := Ground.guard }], guard := some (34, true) }) (v := ?_) rfl (by kernel_rfl) (by kernel_rfl) (by kernel_rfl) (fun _ _ _ h => h) (Or.inl ⟨by rfl, ?_⟩) (by assumption) ?_
                        rotate_left
                        · (intro w hSw; (try dsimp only at hSw); go_simp; (try with_reducible rfl))
                        try simp only [Act.put, List.setIfInBounds_toArray, List.set_cons_zero, List.set_cons_succ]
                        refine wpAnyH_take (i := 36) (oi := { dst := some 198, op := Op.move (Operand.tmp 20), type := 3, pos := "laws.go:37", after := #[{ on := 34, ground := Ground.guard }], guard := some (34, true) }) (v := ?_) rfl (by kernel_rfl) (by kernel_rfl) (by kernel_rfl) (fun _ _ _ h => h) (Or.inl ⟨by rfl, ?_⟩) (by assumption) ?_
                        rotate_left
                        · (intro w hSw; (try dsimp only at hSw); go_simp; (try with_reducible rfl))
                        try simp only [Act.put, List.setIfInBounds_toArray, List.set_cons_zero, List.set_cons_succ]
                        refine wpAnyH_take (i := 37) (oi := { dst := some 199, op := Op.move (Operand.tmp 21), type := 3, pos := "laws.go:37", after := #[{ on := 34, ground := Ground.guard }], guard := some (34, true) }) (v := ?_) rfl (by kernel_rfl) (by kernel_rfl) (by kernel_rfl) (fun _ _ _ h => h) (Or.inl ⟨by rfl, ?_⟩) (by assumption) ?_
                        rotate_left
                        · (intro w hSw; (try dsimp only at hSw); go_simp; (try with_reducible rfl))
                        try simp only [Act.put, List.setIfInBounds_toArray, List.set_cons_zero, List.set_cons_succ]
                        refine wpAnyH_take (i := 38) (oi := { dst := some 200, op := Op.binOp BinOp.mul 3 (Operand.tmp 198) (Operand.tmp 199) 3, type := 3, pos := "laws.go:37", after := #[{ on := 36, ground := Ground.data }, { on := 37, ground := Ground.data }, { on := 34, ground := Ground.guard }], guard := some (34, true) }) (v := ?_) rfl (by kernel_rfl) (by kernel_rfl) (by kernel_rfl) (fun _ _ _ h => h) (Or.inl ⟨by rfl, ?_⟩) (by assumption) ?_
                        rotate_left
                        · (intro w hSw; (try dsimp only at hSw); go_simp; (try with_reducible rfl))
                        try simp only [Act.put, List.setIfInBounds_toArray, List.set_cons_zero, List.set_cons_succ]
                        refine wpAnyH_ready (rs := [39]) (by kernel_rfl) (by simp) ?_
                        refine AllReadyH.cons (o := { dst := some 201, op := Op.call { callee := Callee.value (Operand.func 16), args := #[Operand.tmp 197, Operand.tmp 200], argTypes := #[24, 3] }, type := 4, pos := "laws.go:37", after := #[{ on := 35, ground := Ground.data }, { on := 38, ground := Ground.data }, { on := 34, ground := Ground.chain }, { on := 34, ground := Ground.guard }], guard := some (34, true) }) rfl (fun K hK => ?_) AllReadyH.nil
                        go_simp
                        (go_at_call 16; refine (implHas _ _ _ _).mono ?_; rintro e wn ⟨rfl, hb⟩; (replace hBl := bvia hBl (by go_grown) hb); (replace hA := hA.via (by go_grown) hb); (replace hA0 := hA.c0); (replace hA1 := hA.c1); (replace hAz := hA.lt); (replace hD := hD.via (by go_grown) hb); (replace hD0 := hD.c0); (replace hD1 := hD.c1); (replace hDz := hD.lt); (replace hS := hS.via (by go_grown) hb); (replace hS0 := hS.c0); (replace hS1 := hS.c1); (replace hSz := hS.lt); (replace hU := hU.via (by go_grown) hb); (replace hU0 := hU.c0); (replace hU1 := hU.c1); (replace hUz := hU.lt); (replace hM := hM.via (by go_grown) hb); (replace hM0 := hM.c0); (replace hM1 := hM.c1); (replace hMz := hM.lt); (replace hV := hV.via (by go_grown) hb); (replace hV0 := hV.c0); (replace hV1 := hV.c1); (replace hVz := hV.lt); (clear hb))
                        (try go_wp2_with fail)
                        refine hK.out _ _ ?_ (fun hHeld => ?_)
                        · (simp [*, go_sem, World.cell?_alloc_some, World.cell?_setCell_far, apart1, apart2, apart3, apart4, apart5, apart6])
                        clear hK K
                        try simp only [Act.put, List.setIfInBounds_toArray, List.set_cons_zero, List.set_cons_succ]
                        refine wpAnyH_take (i := 40) (oi := { dst := some 202, op := Op.unOp UnOp.not 4 (Operand.tmp 201), type := 4, pos := "laws.go:37", after := #[{ on := 39, ground := Ground.data }, { on := 34, ground := Ground.guard }], guard := some (34, true) }) (v := ?_) rfl (by kernel_rfl) (by kernel_rfl) (by kernel_rfl) (fun _ _ _ h => h) (Or.inl ⟨by rfl, ?_⟩) (by assumption) ?_
                        rotate_left
                        · (intro w hSw; (try dsimp only at hSw); go_simp; (try with_reducible rfl))
                        try simp only [Act.put, List.setIfInBounds_toArray, List.set_cons_zero, List.set_cons_succ]
                        refine wpAnyH_take (i := 41) (oi := { dst := some 203, op := Op.pick (Operand.tmp 196) (Operand.tmp 202) (Operand.const (Value.bool false)), type := 4, pos := "laws.go:37", after := #[{ on := 34, ground := Ground.data }, { on := 40, ground := Ground.data }, { on := 32, ground := Ground.guard }], guard := some (32, false) }) (v := ?_) rfl (by kernel_rfl) (by kernel_rfl) (by kernel_rfl) (fun _ _ _ h => h) (Or.inl ⟨by rfl, ?_⟩) (by assumption) ?_
                        rotate_left
                        · (intro w hSw; (try dsimp only at hSw); go_simp; (try with_reducible rfl))
                        try simp only [Act.put, List.setIfInBounds_toArray, List.set_cons_zero, List.set_cons_succ]
                        refine wpAnyH_take (i := 42) (oi := { dst := some 204, op := Op.pick (Operand.tmp 194) (Operand.const (Value.bool true)) (Operand.tmp 203), type := 4, pos := "laws.go:37", after := #[{ on := 32, ground := Ground.data }, { on := 41, ground := Ground.data }], guard := none }) (v := ?_) rfl (by kernel_rfl) (by kernel_rfl) (by kernel_rfl) (fun _ _ _ h => h) (Or.inl ⟨by rfl, ?_⟩) (by assumption) ?_
                        rotate_left
                        · (intro w hSw; (try dsimp only at hSw); go_simp; (try with_reducible rfl))
                        try simp only [Act.put, List.setIfInBounds_toArray, List.set_cons_zero, List.set_cons_succ]
                        refine wpAnyH_take (i := 43) (oi := { dst := some 205, op := Op.move (Operand.tmp 204), type := 4, pos := "laws.go:37", after := #[{ on := 42, ground := Ground.data }, { on := 39, ground := Ground.chain }], guard := none }) (v := ?_) rfl (by kernel_rfl) (by kernel_rfl) (by kernel_rfl) (fun _ _ _ h => h) (Or.inl ⟨by rfl, ?_⟩) (by assumption) ?_
                        rotate_left
                        · (intro w hSw; (try dsimp only at hSw); go_simp; (try with_reducible rfl))
                        try simp only [Act.put, List.setIfInBounds_toArray, List.set_cons_zero, List.set_cons_succ]
                        refine wpAnyH_take (i := 44) (oi := { dst := some 206, op := Op.move (Operand.tmp 14), type := 4, pos := "laws.go:37", after := #[{ on := 43, ground := Ground.guard }], guard := some (43, false) }) (v := ?_) rfl (by kernel_rfl) (by kernel_rfl) (by kernel_rfl) (fun _ _ _ h => h) (Or.inl ⟨by rfl, ?_⟩) (by assumption) ?_
                        rotate_left
                        · (intro w hSw; (try dsimp only at hSw); go_simp; (try with_reducible rfl))
                        try simp only [Act.put, List.setIfInBounds_toArray, List.set_cons_zero, List.set_cons_succ]
                        refine wpAnyH_take (i := 45) (oi := { dst := some 207, op := Op.move (Operand.tmp 206), type := 4, pos := "laws.go:37", after := #[{ on := 44, ground := Ground.data }, { on := 43, ground := Ground.chain }, { on := 43, ground := Ground.guard }], guard := some (43, false) }) (v := ?_) rfl (by kernel_rfl) (by kernel_rfl) (by kernel_rfl) (fun _ _ _ h => h) (Or.inl ⟨by rfl, ?_⟩) (by assumption) ?_
                        rotate_left
                        · (intro w hSw; (try dsimp only at hSw); go_simp; (try with_reducible rfl))
                        try simp only [Act.put, List.setIfInBounds_toArray, List.set_cons_zero, List.set_cons_succ]
                        cases P4
                        · as_aux_lemma =>
                            refine wpAnyH_take (i := 46) (oi := { dst := some 208, op := Op.move (Operand.tmp 21), type := 3, pos := "laws.go:37", after := #[{ on := 45, ground := Ground.guard }], guard := some (45, true) }) (v := _) rfl (by kernel_rfl) (by kernel_rfl) (by kernel_rfl) (fun _ _ _ h => h) (Or.inr ⟨by rfl, rfl⟩) (by assumption) ?_
                            try simp only [Act.put, List.setIfInBounds_toArray, List.set_cons_zero, List.set_cons_succ]
                            refine wpAnyH_take (i := 47) (oi := { dst := some 209, op := Op.binOp BinOp.eql 3 (Operand.tmp 208) (Operand.const (Value.int IntKind.i64 0)) 3, type := 4, pos := "laws.go:37", after := #[{ on := 46, ground := Ground.data }, { on := 45, ground := Ground.guard }], guard := some (45, true) }) (v := _) rfl (by kernel_rfl) (by kernel_rfl) (by kernel_rfl) (fun _ _ _ h => h) (Or.inr ⟨by rfl, rfl⟩) (by assumption) ?_
                            try simp only [Act.put, List.setIfInBounds_toArray, List.set_cons_zero, List.set_cons_succ]
                            refine wpAnyH_take (i := 48) (oi := { dst := some 210, op := Op.move (Operand.tmp 209), type := 4, pos := "laws.go:37", after := #[{ on := 47, ground := Ground.data }, { on := 45, ground := Ground.chain }, { on := 45, ground := Ground.guard }], guard := some (45, true) }) (v := _) rfl (by kernel_rfl) (by kernel_rfl) (by kernel_rfl) (fun _ _ _ h => h) (Or.inr ⟨by rfl, rfl⟩) (by assumption) ?_
                            try simp only [Act.put, List.setIfInBounds_toArray, List.set_cons_zero, List.set_cons_succ]
                            refine wpAnyH_take (i := 49) (oi := { dst := some 211, op := Op.load 24 (Operand.tmp 13), type := 24, pos := "laws.go:37", after := #[{ on := 48, ground := Ground.guard }], guard := some (48, false) }) (v := _) rfl (by kernel_rfl) (by kernel_rfl) (by kernel_rfl) (fun _ _ _ h => h) (Or.inr ⟨by rfl, rfl⟩) (by assumption) ?_
                            try simp only [Act.put, List.setIfInBounds_toArray, List.set_cons_zero, List.set_cons_succ]
                            refine wpAnyH_take (i := 50) (oi := { dst := some 212, op := Op.move (Operand.tmp 20), type := 3, pos := "laws.go:37", after := #[{ on := 48, ground := Ground.guard }], guard := some (48, false) }) (v := _) rfl (by kernel_rfl) (by kernel_rfl) (by kernel_rfl) (fun _ _ _ h => h) (Or.inr ⟨by rfl, rfl⟩) (by assumption) ?_
                            try simp only [Act.put, List.setIfInBounds_toArray, List.set_cons_zero, List.set_cons_succ]
                            refine wpAnyH_take (i := 51) (oi := { dst := some 213, op := Op.move (Operand.tmp 21), type := 3, pos := "laws.go:37", after := #[{ on := 48, ground := Ground.guard }], guard := some (48, false) }) (v := _) rfl (by kernel_rfl) (by kernel_rfl) (by kernel_rfl) (fun _ _ _ h => h) (Or.inr ⟨by rfl, rfl⟩) (by assumption) ?_
                            try simp only [Act.put, List.setIfInBounds_toArray, List.set_cons_zero, List.set_cons_succ]
                            refine wpAnyH_take (i := 52) (oi := { dst := some 214, op := Op.binOp BinOp.quo 3 (Operand.tmp 212) (Operand.tmp 213) 3, type := 3, pos := "laws.go:37", after := #[{ on := 50, ground := Ground.data }, { on := 51, ground := Ground.data }, { on := 48, ground := Ground.guard }], guard := some (48, false) }) (v := _) rfl (by kernel_rfl) (by kernel_rfl) (by kernel_rfl) (fun _ _ _ h => h) (Or.inr ⟨by rfl, rfl⟩) (by assumption) ?_
                            try simp only [Act.put, List.setIfInBounds_toArray, List.set_cons_zero, List.set_cons_succ]
                            refine wpAnyH_take (i := 53) (oi := { dst := some 215, op := Op.call { callee := Callee.value (Operand.func 16), args := #[Operand.tmp 211, Operand.tmp 214], argTypes := #[24, 3] }, type := 4, pos := "laws.go:37", after := #[{ on := 49, ground := Ground.data }, { on := 52, ground := Ground.data }, { on := 48, ground := Ground.chain }, { on := 48, ground := Ground.guard }], guard := some (48, false) }) (v := _) rfl (by kernel_rfl) (by kernel_rfl) (by kernel_rfl) (fun _ _ _ h => h) (Or.inr ⟨by rfl, rfl⟩) (by assumption) ?_
                            try simp only [Act.put, List.setIfInBounds_toArray, List.set_cons_zero, List.set_cons_succ]
                            refine wpAnyH_take (i := 54) (oi := { dst := some 216, op := Op.unOp UnOp.not 4 (Operand.tmp 215), type := 4, pos := "laws.go:37", after := #[{ on := 53, ground := Ground.data }, { on := 48, ground := Ground.guard }], guard := some (48, false) }) (v := _) rfl (by kernel_rfl) (by kernel_rfl) (by kernel_rfl) (fun _ _ _ h => h) (Or.inr ⟨by rfl, rfl⟩) (by assumption) ?_
                            try simp only [Act.put, List.setIfInBounds_toArray, List.set_cons_zero, List.set_cons_succ]
                            refine wpAnyH_take (i := 55) (oi := { dst := some 217, op := Op.pick (Operand.tmp 210) (Operand.const (Value.bool true)) (Operand.tmp 216), type := 4, pos := "laws.go:37", after := #[{ on := 48, ground := Ground.data }, { on := 54, ground := Ground.data }, { on := 45, ground := Ground.guard }], guard := some (45, true) }) (v := _) rfl (by kernel_rfl) (by kernel_rfl) (by kernel_rfl) (fun _ _ _ h => h) (Or.inr ⟨by rfl, rfl⟩) (by assumption) ?_
                            try simp only [Act.put, List.setIfInBounds_toArray, List.set_cons_zero, List.set_cons_succ]
                            refine wpAnyH_take (i := 56) (oi := { dst := some 218, op := Op.pick (Operand.tmp 207) (Operand.tmp 217) (Operand.const (Value.bool false)), type := 4, pos := "laws.go:37", after := #[{ on := 45, ground := Ground.data }, { on := 55, ground := Ground.data }, { on := 43, ground := Ground.guard }], guard := some (43, false) }) (v := ?_) rfl (by kernel_rfl) (by kernel_rfl) (by kernel_rfl) (fun _ _ _ h => h) (Or.inl ⟨by rfl, ?_⟩) (by assumption) ?_
                            rotate_left
                            · (intro w hSw; (try dsimp only at hSw); go_simp; (try with_reducible rfl))
                            try simp only [Act.put, List.setIfInBounds_toArray, List.set_cons_zero, List.set_cons_succ]
                            refine wpAnyH_take (i := 57) (oi := { dst := some 219, op := Op.pick (Operand.tmp 205) (Operand.const (Value.bool true)) (Operand.tmp 218), type := 4, pos := "laws.go:37", after := #[{ on := 43, ground := Ground.data }, { on := 56, ground := Ground.data }], guard := none }) (v := ?_) rfl (by kernel_rfl) (by kernel_rfl) (by kernel_rfl) (fun _ _ _ h => h) (Or.inl ⟨by rfl, ?_⟩) (by assumption) ?_
                            rotate_left
                            · (intro w hSw; (try dsimp only at hSw); go_simp; (try with_reducible rfl))
                            try simp only [Act.put, List.setIfInBounds_toArray, List.set_cons_zero, List.set_cons_succ]
                            refine wpAnyH_done (by kernel_rfl) ?_ _
                            go_wp2_with fail
                            go_meet
                            exact ⟨rfl, hA, hD, hS, hU, hM, hV, hBl⟩
                        · as_aux_lemma =>
                            obtain ⟨o4, q4⟩ := F4.out.2 rfl
                            obtain ⟨kn, r4⟩ := q4 m k hm0 hm1 hk0 hk1
                            have ds := div_small m k (by omega) (by omega) kn
                            have v5 : IntKind.i64.wrap (m.tdiv k) = m.tdiv k := by rw [IntKind.wrap_i64]; omega
                            have v6 : wrap64 (m.tdiv k) = m.tdiv k := by unfold wrap64; omega
                            have kb : (k == 0) = false := by simp [kn]
                            clear q4 ds
                            refine wpAnyH_take (i := 46) (oi := { dst := some 208, op := Op.move (Operand.tmp 21), type := 3, pos := "laws.go:37", after := #[{ on := 45, ground := Ground.guard }], guard := some (45, true) }) (v := ?_) rfl (by kernel_rfl) (by kernel_rfl) (by kernel_rfl) (fun _ _ _ h => h) (Or.inl ⟨by rfl, ?_⟩) (by assumption) ?_
                            rotate_left
                            · (intro w hSw; (try dsimp only at hSw); go_simp; (try with_reducible rfl))
                            try simp only [Act.put, List.setIfInBounds_toArray, List.set_cons_zero, List.set_cons_succ]
                            refine wpAnyH_take (i := 47) (oi := { dst := some 209, op := Op.binOp BinOp.eql 3 (Operand.tmp 208) (Operand.const (Value.int IntKind.i64 0)) 3, type := 4, pos := "laws.go:37", after := #[{ on := 46, ground := Ground.data }, { on := 45, ground := Ground.guard }], guard := some (45, true) }) (v := ?_) rfl (by kernel_rfl) (by kernel_rfl) (by kernel_rfl) (fun _ _ _ h => h) (Or.inl ⟨by rfl, ?_⟩) (by assumption) ?_
                            rotate_left
                            · (intro w hSw; (try dsimp only at hSw); go_simp; (try with_reducible rfl))
                            try simp only [Act.put, List.setIfInBounds_toArray, List.set_cons_zero, List.set_cons_succ]
                            refine wpAnyH_take (i := 48) (oi := { dst := some 210, op := Op.move (Operand.tmp 209), type := 4, pos := "laws.go:37", after := #[{ on := 47, ground := Ground.data }, { on := 45, ground := Ground.chain }, { on := 45, ground := Ground.guard }], guard := some (45, true) }) (v := ?_) rfl (by kernel_rfl) (by kernel_rfl) (by kernel_rfl) (fun _ _ _ h => h) (Or.inl ⟨by rfl, ?_⟩) (by assumption) ?_
                            rotate_left
                            · (intro w hSw; (try dsimp only at hSw); go_simp; (try with_reducible rfl))
                            try simp only [Act.put, List.setIfInBounds_toArray, List.set_cons_zero, List.set_cons_succ]
                            refine wpAnyH_take (i := 49) (oi := { dst := some 211, op := Op.load 24 (Operand.tmp 13), type := 24, pos := "laws.go:37", after := #[{ on := 48, ground := Ground.guard }], guard := some (48, false) }) (v := ?_) rfl (by kernel_rfl) (by kernel_rfl) (by kernel_rfl) (fun _ _ _ h => h) (Or.inl ⟨by rfl, ?_⟩) (by assumption) ?_
                            rotate_left
                            · (intro w hSw; (try dsimp only at hSw); go_simp; (try with_reducible rfl))
                            try simp only [Act.put, List.setIfInBounds_toArray, List.set_cons_zero, List.set_cons_succ]
                            refine wpAnyH_take (i := 50) (oi := { dst := some 212, op := Op.move (Operand.tmp 20), type := 3, pos := "laws.go:37", after := #[{ on := 48, ground := Ground.guard }], guard := some (48, false) }) (v := ?_) rfl (by kernel_rfl) (by kernel_rfl) (by kernel_rfl) (fun _ _ _ h => h) (Or.inl ⟨by rfl, ?_⟩) (by assumption) ?_
                            rotate_left
                            · (intro w hSw; (try dsimp only at hSw); go_simp; (try with_reducible rfl))
                            try simp only [Act.put, List.setIfInBounds_toArray, List.set_cons_zero, List.set_cons_succ]
                            refine wpAnyH_take (i := 51) (oi := { dst := some 213, op := Op.move (Operand.tmp 21), type := 3, pos := "laws.go:37", after := #[{ on := 48, ground := Ground.guard }], guard := some (48, false) }) (v := ?_) rfl (by kernel_rfl) (by kernel_rfl) (by kernel_rfl) (fun _ _ _ h => h) (Or.inl ⟨by rfl, ?_⟩) (by assumption) ?_
                            rotate_left
                            · (intro w hSw; (try dsimp only at hSw); go_simp; (try with_reducible rfl))
                            try simp only [Act.put, List.setIfInBounds_toArray, List.set_cons_zero, List.set_cons_succ]
                            refine wpAnyH_take (i := 52) (oi := { dst := some 214, op := Op.binOp BinOp.quo 3 (Operand.tmp 212) (Operand.tmp 213) 3, type := 3, pos := "laws.go:37", after := #[{ on := 50, ground := Ground.data }, { on := 51, ground := Ground.data }, { on := 48, ground := Ground.guard }], guard := some (48, false) }) (v := ?_) rfl (by kernel_rfl) (by kernel_rfl) (by kernel_rfl) (fun _ _ _ h => h) (Or.inl ⟨by rfl, ?_⟩) (by assumption) ?_
                            rotate_left
                            · (intro w hSw; (try dsimp only at hSw); go_simp; (try with_reducible rfl))
                            try simp only [Act.put, List.setIfInBounds_toArray, List.set_cons_zero, List.set_cons_succ]
                            refine wpAnyH_ready (rs := [53]) (by kernel_rfl) (by simp) ?_
                            refine AllReadyH.cons (o := { dst := some 215, op := Op.call { callee := Callee.value (Operand.func 16), args := #[Operand.tmp 211, Operand.tmp 214], argTypes := #[24, 3] }, type := 4, pos := "laws.go:37", after := #[{ on := 49, ground := Ground.data }, { on := 52, ground := Ground.data }, { on := 48, ground := Ground.chain }, { on := 48, ground := Ground.guard }], guard := some (48, false) }) rfl (fun K hK => ?_) AllReadyH.nil
                            go_simp
                            (go_at_call 16; refine (implHas _ _ _ _).mono ?_; rintro e wn ⟨rfl, hb⟩; (replace hBl := bvia hBl (by go_grown) hb); (replace hA := hA.via (by go_grown) hb); (replace hA0 := hA.c0); (replace hA1 := hA.c1); (replace hAz := hA.lt); (replace hD := hD.via (by go_grown) hb); (replace hD0 := hD.c0); (replace hD1 := hD.c1); (replace hDz := hD.lt); (replace hS := hS.via (by go_grown) hb); (replace hS0 := hS.c0); (replace hS1 := hS.c1); (replace hSz := hS.lt); (replace hU := hU.via (by go_grown) hb); (replace hU0 := hU.c0); (replace hU1 := hU.c1); (replace hUz := hU.lt); (replace hM := hM.via (by go_grown) hb); (replace hM0 := hM.c0); (replace hM1 := hM.c1); (replace hMz := hM.lt); (replace hV := hV.via (by go_grown) hb); (replace hV0 := hV.c0); (replace hV1 := hV.c1); (replace hVz := hV.lt); (clear hb))
                            (try go_wp2_with fail)
                            refine hK.out _ _ ?_ (fun hHeld => ?_)
                            · (simp [*, go_sem, World.cell?_alloc_some, World.cell?_setCell_far, apart1, apart2, apart3, apart4, apart5, apart6])
                            clear hK K
                            try simp only [Act.put, List.setIfInBounds_toArray, List.set_cons_zero, List.set_cons_succ]
                            refine wpAnyH_take (i := 54) (oi := { dst := some 216, op := Op.unOp UnOp.not 4 (Operand.tmp 215), type := 4, pos := "laws.go:37", after := #[{ on := 53, ground := Ground.data }, { on := 48, ground := Ground.guard }], guard := some (48, false) }) (v := ?_) rfl (by kernel_rfl) (by kernel_rfl) (by kernel_rfl) (fun _ _ _ h => h) (Or.inl ⟨by rfl, ?_⟩) (by assumption) ?_
                            rotate_left
                            · (intro w hSw; (try dsimp only at hSw); go_simp; (try with_reducible rfl))
                            try simp only [Act.put, List.setIfInBounds_toArray, List.set_cons_zero, List.set_cons_succ]
                            refine wpAnyH_take (i := 55) (oi := { dst := some 217, op := Op.pick (Operand.tmp 210) (Operand.const (Value.bool true)) (Operand.tmp 216), type := 4, pos := "laws.go:37", after := #[{ on := 48, ground := Ground.data }, { on := 54, ground := Ground.data }, { on := 45, ground := Ground.guard }], guard := some (45, true) }) (v := ?_) rfl (by kernel_rfl) (by kernel_rfl) (by kernel_rfl) (fun _ _ _ h => h) (Or.inl ⟨by rfl, ?_⟩) (by assumption) ?_
                            rotate_left
                            · (intro w hSw; (try dsimp only at hSw); go_simp; (try with_reducible rfl))
                            try simp only [Act.put, List.setIfInBounds_toArray, List.set_cons_zero, List.set_cons_succ]
                            refine wpAnyH_take (i := 56) (oi := { dst := some 218, op := Op.pick (Operand.tmp 207) (Operand.tmp 217) (Operand.const (Value.bool false)), type := 4, pos := "laws.go:37", after := #[{ on := 45, ground := Ground.data }, { on := 55, ground := Ground.data }, { on := 43, ground := Ground.guard }], guard := some (43, false) }) (v := ?_) rfl (by kernel_rfl) (by kernel_rfl) (by kernel_rfl) (fun _ _ _ h => h) (Or.inl ⟨by rfl, ?_⟩) (by assumption) ?_
                            rotate_left
                            · (intro w hSw; (try dsimp only at hSw); go_simp; (try with_reducible rfl))
                            try simp only [Act.put, List.setIfInBounds_toArray, List.set_cons_zero, List.set_cons_succ]
                            refine wpAnyH_take (i := 57) (oi := { dst := some 219, op := Op.pick (Operand.tmp 205) (Operand.const (Value.bool true)) (Operand.tmp 218), type := 4, pos := "laws.go:37", after := #[{ on := 43, ground := Ground.data }, { on := 56, ground := Ground.data }], guard := none }) (v := ?_) rfl (by kernel_rfl) (by kernel_rfl) (by kernel_rfl) (fun _ _ _ h => h) (Or.inl ⟨by rfl, ?_⟩) (by assumption) ?_
                            rotate_left
                            · (intro w hSw; (try dsimp only at hSw); go_simp; (try with_reducible rfl))
                            try simp only [Act.put, List.setIfInBounds_toArray, List.set_cons_zero, List.set_cons_succ]
                            refine wpAnyH_done (by kernel_rfl) ?_ _
                            go_wp2_with fail
                            go_meet
                            exact ⟨rfl, hA, hD, hS, hU, hM, hV, hBl⟩
                · as_aux_lemma =>
                    obtain ⟨o2, q2⟩ := F2.out rfl
                    have r2 := q2 m k hm0 hm1 hk0 hk1
                    clear q2
                    refine wpAnyH_take (i := 24) (oi := { dst := some 186, op := Op.load 24 (Operand.tmp 9), type := 24, pos := "laws.go:37", after := #[{ on := 23, ground := Ground.guard }], guard := some (23, true) }) (v := ?_) rfl (by kernel_rfl) (by kernel_rfl) (by kernel_rfl) (fun _ _ _ h => h) (Or.inl ⟨by rfl, ?_⟩) (by assumption) ?_
                    rotate_left
                    · (intro w hSw; (try dsimp only at hSw); go_simp; (try with_reducible rfl))
                    try simp only [Act.put, List.setIfInBounds_toArray, List.set_cons_zero, List.set_cons_succ]
                    refine wpAnyH_take (i := 25) (oi := { dst := some 187, op := Op.move (Operand.tmp 20), type := 3, pos := "laws.go:37", after := #[{ on := 23, ground := Ground.guard }], guard := some (23, true) }) (v := ?_) rfl (by kernel_rfl) (by kernel_rfl) (by kernel_rfl) (fun _ _ _ h => h) (Or.inl ⟨by rfl, ?_⟩) (by assumption) ?_
                    rotate_left
                    · (intro w hSw; (try dsimp only at hSw); go_simp; (try with_reducible rfl))
                    try simp only [Act.put, List.setIfInBounds_toArray, List.set_cons_zero, List.set_cons_succ]
                    refine wpAnyH_take (i := 26) (oi := { dst := some 188, op := Op.move (Operand.tmp 21), type := 3, pos := "laws.go:37", after := #[{ on := 23, ground := Ground.guard }], guard := some (23, true) }) (v := ?_) rfl (by kernel_rfl) (by kernel_rfl) (by kernel_rfl) (fun _ _ _ h => h) (Or.inl ⟨by rfl, ?_⟩) (by assumption) ?_
                    rotate_left
                    · (intro w hSw; (try dsimp only at hSw); go_simp; (try with_reducible rfl))
                    try simp only [Act.put, List.setIfInBounds_toArray, List.set_cons_zero, List.set_cons_succ]
                    refine wpAnyH_take (i := 27) (oi := { dst := some 189, op := Op.binOp BinOp.sub 3 (Operand.tmp 187) (Operand.tmp 188) 3, type := 3, pos := "laws.go:37", after := #[{ on := 25, ground := Ground.data }, { on := 26, ground := Ground.data }, { on := 23, ground := Ground.guard }], guard := some (23, true) }) (v := ?_) rfl (by kernel_rfl) (by kernel_rfl) (by kernel_rfl) (fun _ _ _ h => h) (Or.inl ⟨by rfl, ?_⟩) (by assumption) ?_
                    rotate_left
                    · (intro w hSw; (try dsimp only at hSw); go_simp; (try with_reducible rfl))
                    try simp only [Act.put, List.setIfInBounds_toArray, List.set_cons_zero, List.set_cons_succ]
                    refine wpAnyH_ready (rs := [28]) (by kernel_rfl) (by simp) ?_
                    refine AllReadyH.cons (o := { dst := some 190, op := Op.call { callee := Callee.value (Operand.func 16), args := #[Operand.tmp 186, Operand.tmp 189], argTypes := #[24, 3] }, type := 4, pos := "laws.go:37", after := #[{ on := 24, ground := Ground.data }, { on := 27, ground := Ground.data }, { on := 23, ground := Ground.chain }, { on := 23, ground := Ground.guard }], guard := some (23, true) }) rfl (fun K hK => ?_) AllReadyH.nil
                    go_simp
                    (go_at_call 16; refine (implHas _ _ _ _).mono ?_; rintro e wn ⟨rfl, hb⟩; (replace hBl := bvia hBl (by go_grown) hb); (replace hA := hA.via (by go_grown) hb); (replace hA0 := hA.c0); (replace hA1 := hA.c1); (replace hAz := hA.lt); (replace hD := hD.via (by go_grown) hb); (replace hD0 := hD.c0); (replace hD1 := hD.c1); (replace hDz := hD.lt); (replace hS := hS.via (by go_grown) hb); (replace hS0 := hS.c0); (replace hS1 := hS.c1); (replace hSz := hS.lt); (replace hU := hU.via (by go_grown) hb); (replace hU0 := hU.c0); (replace hU1 := hU.c1); (replace hUz := hU.lt); (replace hM := hM.via (by go_grown) hb); (replace hM0 := hM.c0); (replace hM1 := hM.c1); (replace hMz := hM.lt); (replace hV := hV.via (by go_grown) hb); (replace hV0 := hV.c0); (replace hV1 := hV.c1); (replace hVz := hV.lt); (clear hb))
                    (try go_wp2_with fail)
                    refine hK.out _ _ ?_ (fun hHeld => ?_)
                    · (simp [*, go_sem, World.cell?_alloc_some, World.cell?_setCell_far, apart1, apart2, apart3, apart4, apart5, apart6])
                    clear hK K
                    try simp only [Act.put, List.setIfInBounds_toArray, List.set_cons_zero, List.set_cons_succ]
                    refine wpAnyH_take (i := 29) (oi := { dst := some 191, op := Op.unOp UnOp.not 4 (Operand.tmp 190), type := 4, pos := "laws.go:37", after := #[{ on := 28, ground := Ground.data }, { on := 23, ground := Ground.guard }], guard := some (23, true) }) (v := ?_) rfl (by kernel_rfl) (by kernel_rfl) (by kernel_rfl) (fun _ _ _ h => h) (Or.inl ⟨by rfl, ?_⟩) (by assumption) ?_
                    rotate_left
                    · (intro w hSw; (try dsimp only at hSw); go_simp; (try with_reducible rfl))
                    try simp only [Act.put, List.setIfInBounds_toArray, List.set_cons_zero, List.set_cons_succ]
                    refine wpAnyH_take (i := 30) (oi := { dst := some 192, op := Op.pick (Operand.tmp 185) (Operand.tmp 191) (Operand.const (Value.bool false)), type := 4, pos := "laws.go:37", after := #[{ on := 23, ground := Ground.data }, { on := 29, ground := Ground.data }, { on := 21, ground := Ground.guard }], guard := some (21, false) }) (v := ?_) rfl (by kernel_rfl) (by kernel_rfl) (by kernel_rfl) (fun _ _ _ h => h) (Or.inl ⟨by rfl, ?_⟩) (by assumption) ?_
                    rotate_left
                    · (intro w hSw; (try dsimp only at hSw); go_simp; (try with_reducible rfl))
                    try simp only [Act.put, List.setIfInBounds_toArray, List.set_cons_zero, List.set_cons_succ]
                    refine wpAnyH_take (i := 31) (oi := { dst := some 193, op := Op.pick (Operand.tmp 183) (Operand.const (Value.bool true)) (Operand.tmp 192), type := 4, pos := "laws.go:37", after := #[{ on := 21, ground := Ground.data }, { on := 30, ground := Ground.data }], guard := none }) (v := ?_) rfl (by kernel_rfl) (by kernel_rfl) (by kernel_rfl) (fun _ _ _ h => h) (Or.inl ⟨by rfl, ?_⟩) (by assumption) ?_
                    rotate_left
                    · (intro w hSw; (try dsimp only at hSw); go_simp; (try with_reducible rfl))
                    try simp only [Act.put, List.setIfInBounds_toArray, List.set_cons_zero, List.set_cons_succ]
                    refine wpAnyH_take (i := 32) (oi := { dst := some 194, op := Op.move (Operand.tmp 193), type := 4, pos := "laws.go:37", after := #[{ on := 31, ground := Ground.data }, { on := 28, ground := Ground.chain }], guard := none }) (v := ?_) rfl (by kernel_rfl) (by kernel_rfl) (by kernel_rfl) (fun _ _ _ h => h) (Or.inl ⟨by rfl, ?_⟩) (by assumption) ?_
                    rotate_left
                    · (intro w hSw; (try dsimp only at hSw); go_simp; (try with_reducible rfl))
                    try simp only [Act.put, List.setIfInBounds_toArray, List.set_cons_zero, List.set_cons_succ]
                    refine wpAnyH_take (i := 33) (oi := { dst := some 195, op := Op.move (Operand.tmp 12), type := 4, pos := "laws.go:37", after := #[{ on := 32, ground := Ground.guard }], guard := some (32, false) }) (v := ?_) rfl (by kernel_rfl) (by kernel_rfl) (by kernel_rfl) (fun _ _ _ h => h) (Or.inl ⟨by rfl, ?_⟩) (by assumption) ?_
                    rotate_left
                    · (intro w hSw; (try dsimp only at hSw); go_simp; (try with_reducible rfl))
                    try simp only [Act.put, List.setIfInBounds_toArray, List.set_cons_zero, List.set_cons_succ]
                    refine wpAnyH_take (i := 34) (oi := { dst := some 196, op := Op.move (Operand.tmp 195), type := 4, pos := "laws.go:37", after := #[{ on := 33, ground := Ground.data }, { on := 32, ground := Ground.chain }, { on := 32, ground := Ground.guard }], guard := some (32, false) }) (v := ?_) rfl (by kernel_rfl) (by kernel_rfl) (by kernel_rfl) (fun _ _ _ h => h) (Or.inl ⟨by rfl, ?_⟩) (by assumption) ?_
                    rotate_left
                    · (intro w hSw; (try dsimp only at hSw); go_simp; (try with_reducible rfl))
                    try simp only [Act.put, List.setIfInBounds_toArray, List.set_cons_zero, List.set_cons_succ]
                    cases P3
                    · as_aux_lemma =>
                        refine wpAnyH_take (i := 35) (oi := { dst := some 197, op := Op.load 24 (Operand.tmp 11), type := 24, pos := "laws.go:37", after := #[{ on := 34, ground := Ground.guard }], guard := some (34, true) }) (v := _) rfl (by kernel_rfl) (by kernel_rfl) (by kernel_rfl) (fun _ _ _ h => h) (Or.inr ⟨by rfl, rfl⟩) (by assumption) ?_
                        try simp only [Act.put, List.setIfInBounds_toArray, List.set_cons_zero, List.set_cons_succ]
                        refine wpAnyH_take (i := 36) (oi := { dst := some 198, op := Op.move (Operand.tmp 20), type := 3, pos := "laws.go:37", after := #[{ on := 34, ground := Ground.guard }], guard := some (34, true) }) (v := _) rfl (by kernel_rfl) (by kernel_rfl) (by kernel_rfl) (fun _ _ _ h => h) (Or.inr ⟨by rfl, rfl⟩) (by assumption) ?_
                        try simp only [Act.put, List.setIfInBounds_toArray, List.set_cons_zero, List.set_cons_succ]
                        refine wpAnyH_take (i := 37) (oi := { dst := some 199, op := Op.move (Operand.tmp 21), type := 3, pos := "laws.go:37", after := #[{ on := 34, ground := Ground.guard }], guard := some (34, true) }) (v := _) rfl (by kernel_rfl) (by kernel_rfl) (by kernel_rfl) (fun _ _ _ h => h) (Or.inr ⟨by rfl, rfl⟩) (by assumption) ?_
                        try simp only [Act.put, List.setIfInBounds_toArray, List.set_cons_zero, List.set_cons_succ]
                        refine wpAnyH_take (i := 38) (oi := { dst := some 200, op := Op.binOp BinOp.mul 3 (Operand.tmp 198) (Operand.tmp 199) 3, type := 3, pos := "laws.go:37", after := #[{ on := 36, ground := Ground.data }, { on := 37, ground := Ground.data }, { on := 34, ground := Ground.guard }], guard := some (34, true) }) (v := _) rfl (by kernel_rfl) (by kernel_rfl) (by kernel_rfl) (fun _ _ _ h => h) (Or.inr ⟨by rfl, rfl⟩) (by assumption) ?_
                        try simp only [Act.put, List.setIfInBounds_toArray, List.set_cons_zero, List.set_cons_succ]
                        refine wpAnyH_take (i := 39) (oi := { dst := some 201, op := Op.call { callee := Callee.value (Operand.func 16), args := #[Operand.tmp 197, Operand.tmp 200], argTypes := #[24, 3] }, type := 4, pos := "laws.go:37", after := #[{ on := 35, ground := Ground.data }, { on := 38, ground := Ground.data }, { on := 34, ground := Ground.chain }, { on := 34, ground := Ground.guard }], guard := some (34, true) }) (v := _) rfl (by kernel_rfl) (by kernel_rfl) (by kernel_rfl) (fun _ _ _ h => h) (Or.inr ⟨by rfl, rfl⟩) (by assumption) ?_
                        try simp only [Act.put, List.setIfInBounds_toArray, List.set_cons_zero, List.set_cons_succ]
                        refine wpAnyH_take (i := 40) (oi := { dst := some 202, op := Op.unOp UnOp.not 4 (Operand.tmp 201), type := 4, pos := "laws.go:37", after := #[{ on := 39, ground := Ground.data }, { on := 34, ground := Ground.guard }], guard := some (34, true) }) (v := _) rfl (by kernel_rfl) (by kernel_rfl) (by kernel_rfl) (fun _ _ _ h => h) (Or.inr ⟨by rfl, rfl⟩) (by assumption) ?_
                        try simp only [Act.put, List.setIfInBounds_toArray, List.set_cons_zero, List.set_cons_succ]
                        refine wpAnyH_take (i := 41) (oi := { dst := some 203, op := Op.pick (Operand.tmp 196) (Operand.tmp 202) (Operand.const (Value.bool false)), type := 4, pos := "laws.go:37", after := #[{ on := 34, ground := Ground.data }, { on := 40, ground := Ground.data }, { on := 32, ground := Ground.guard }], guard := some (32, false) }) (v := ?_) rfl (by kernel_rfl) (by kernel_rfl) (by kernel_rfl) (fun _ _ _ h => h) (Or.inl ⟨by rfl, ?_⟩) (by assumption) ?_
                        rotate_left
                        · (intro w hSw; (try dsimp only at hSw); go_simp; (try with_reducible rfl))
                        try simp only [Act.put, List.setIfInBounds_toArray, List.set_cons_zero, List.set_cons_succ]
                        refine wpAnyH_take (i := 42) (oi := { dst := some 204, op := Op.pick (Operand.tmp 194) (Operand.const (Value.bool true)) (Operand.tmp 203), type := 4, pos := "laws.go:37", after := #[{ on := 32, ground := Ground.data }, { on := 41, ground := Ground.data }], guard := none }) (v := ?_) rfl (by kernel_rfl) (by kernel_rfl) (by kernel_rfl) (fun _ _ _ h => h) (Or.inl ⟨by rfl, ?_⟩) (by assumption) ?_
                        rotate_left
                        · (intro w hSw; (try dsimp only at hSw); go_simp; (try with_reducible rfl))
                        try simp only [Act.put, List.setIfInBounds_toArray, List.set_cons_zero, List.set_cons_succ]
                        refine wpAnyH_take (i := 43) (oi := { dst := some 205, op := Op.move (Operand.tmp 204), type := 4, pos := "laws.go:37", after := #[{ on := 42, ground := Ground.data }, { on := 39, ground := Ground.chain }], guard := none }) (v := ?_) rfl (by kernel_rfl) (by kernel_rfl) (by kernel_rfl) (fun _ _ _ h => h) (Or.inl ⟨by rfl, ?_⟩) (by assumption) ?_
                        rotate_left
                        · (intro w hSw; (try dsimp only at hSw); go_simp; (try with_reducible rfl))
                        try simp only [Act.put, List.setIfInBounds_toArray, List.set_cons_zero, List.set_cons_succ]
                        refine wpAnyH_take (i := 44) (oi := { dst := some 206, op := Op.move (Operand.tmp 14), type := 4, pos := "laws.go:37", after := #[{ on := 43, ground := Ground.guard }], guard := some (43, false) }) (v := ?_) rfl (by kernel_rfl) (by kernel_rfl) (by kernel_rfl) (fun _ _ _ h => h) (Or.inl ⟨by rfl, ?_⟩) (by assumption) ?_
                        rotate_left
                        · (intro w hSw; (try dsimp only at hSw); go_simp; (try with_reducible rfl))
                        try simp only [Act.put, List.setIfInBounds_toArray, List.set_cons_zero, List.set_cons_succ]
                        refine wpAnyH_take (i := 45) (oi := { dst := some 207, op := Op.move (Operand.tmp 206), type := 4, pos := "laws.go:37", after := #[{ on := 44, ground := Ground.data }, { on := 43, ground := Ground.chain }, { on := 43, ground := Ground.guard }], guard := some (43, false) }) (v := ?_) rfl (by kernel_rfl) (by kernel_rfl) (by kernel_rfl) (fun _ _ _ h => h) (Or.inl ⟨by rfl, ?_⟩) (by assumption) ?_
                        rotate_left
                        · (intro w hSw; (try dsimp only at hSw); go_simp; (try with_reducible rfl))
                        try simp only [Act.put, List.setIfInBounds_toArray, List.set_cons_zero, List.set_cons_succ]
                        cases P4
                        · as_aux_lemma =>
                            refine wpAnyH_take (i := 46) (oi := { dst := some 208, op := Op.move (Operand.tmp 21), type := 3, pos := "laws.go:37", after := #[{ on := 45, ground := Ground.guard }], guard := some (45, true) }) (v := _) rfl (by kernel_rfl) (by kernel_rfl) (by kernel_rfl) (fun _ _ _ h => h) (Or.inr ⟨by rfl, rfl⟩) (by assumption) ?_
                            try simp only [Act.put, List.setIfInBounds_toArray, List.set_cons_zero, List.set_cons_succ]
                            refine wpAnyH_take (i := 47) (oi := { dst := some 209, op := Op.binOp BinOp.eql 3 (Operand.tmp 208) (Operand.const (Value.int IntKind.i64 0)) 3, type := 4, pos := "laws.go:37", after := #[{ on := 46, ground := Ground.data }, { on := 45, ground := Ground.guard }], guard := some (45, true) }) (v := _) rfl (by kernel_rfl) (by kernel_rfl) (by kernel_rfl) (fun _ _ _ h => h) (Or.inr ⟨by rfl, rfl⟩) (by assumption) ?_
                            try simp only [Act.put, List.setIfInBounds_toArray, List.set_cons_zero, List.set_cons_succ]
                            refine wpAnyH_take (i := 48) (oi := { dst := some 210, op := Op.move (Operand.tmp 209), type := 4, pos := "laws.go:37", after := #[{ on := 47, ground := Ground.data }, { on := 45, ground := Ground.chain }, { on := 45, ground := Ground.guard }], guard := some (45, true) }) (v := _) rfl (by kernel_rfl) (by kernel_rfl) (by kernel_rfl) (fun _ _ _ h => h) (Or.inr ⟨by rfl, rfl⟩) (by assumption) ?_
                            try simp only [Act.put, List.setIfInBounds_toArray, List.set_cons_zero, List.set_cons_succ]
                            refine wpAnyH_take (i := 49) (oi := { dst := some 211, op := Op.load 24 (Operand.tmp 13), type := 24, pos := "laws.go:37", after := #[{ on := 48, ground := Ground.guard }], guard := some (48, false) }) (v := _) rfl (by kernel_rfl) (by kernel_rfl) (by kernel_rfl) (fun _ _ _ h => h) (Or.inr ⟨by rfl, rfl⟩) (by assumption) ?_
                            try simp only [Act.put, List.setIfInBounds_toArray, List.set_cons_zero, List.set_cons_succ]
                            refine wpAnyH_take (i := 50) (oi := { dst := some 212, op := Op.move (Operand.tmp 20), type := 3, pos := "laws.go:37", after := #[{ on := 48, ground := Ground.guard }], guard := some (48, false) }) (v := _) rfl (by kernel_rfl) (by kernel_rfl) (by kernel_rfl) (fun _ _ _ h => h) (Or.inr ⟨by rfl, rfl⟩) (by assumption) ?_
                            try simp only [Act.put, List.setIfInBounds_toArray, List.set_cons_zero, List.set_cons_succ]
                            refine wpAnyH_take (i := 51) (oi := { dst := some 213, op := Op.move (Operand.tmp 21), type := 3, pos := "laws.go:37", after := #[{ on := 48, ground := Ground.guard }], guard := some (48, false) }) (v := _) rfl (by kernel_rfl) (by kernel_rfl) (by kernel_rfl) (fun _ _ _ h => h) (Or.inr ⟨by rfl, rfl⟩) (by assumption) ?_
                            try simp only [Act.put, List.setIfInBounds_toArray, List.set_cons_zero, List.set_cons_succ]
                            refine wpAnyH_take (i := 52) (oi := { dst := some 214, op := Op.binOp BinOp.quo 3 (Operand.tmp 212) (Operand.tmp 213) 3, type := 3, pos := "laws.go:37", after := #[{ on := 50, ground := Ground.data }, { on := 51, ground := Ground.data }, { on := 48, ground := Ground.guard }], guard := some (48, false) }) (v := _) rfl (by kernel_rfl) (by kernel_rfl) (by kernel_rfl) (fun _ _ _ h => h) (Or.inr ⟨by rfl, rfl⟩) (by assumption) ?_
                            try simp only [Act.put, List.setIfInBounds_toArray, List.set_cons_zero, List.set_cons_succ]
                            refine wpAnyH_take (i := 53) (oi := { dst := some 215, op := Op.call { callee := Callee.value (Operand.func 16), args := #[Operand.tmp 211, Operand.tmp 214], argTypes := #[24, 3] }, type := 4, pos := "laws.go:37", after := #[{ on := 49, ground := Ground.data }, { on := 52, ground := Ground.data }, { on := 48, ground := Ground.chain }, { on := 48, ground := Ground.guard }], guard := some (48, false) }) (v := _) rfl (by kernel_rfl) (by kernel_rfl) (by kernel_rfl) (fun _ _ _ h => h) (Or.inr ⟨by rfl, rfl⟩) (by assumption) ?_
                            try simp only [Act.put, List.setIfInBounds_toArray, List.set_cons_zero, List.set_cons_succ]
                            refine wpAnyH_take (i := 54) (oi := { dst := some 216, op := Op.unOp UnOp.not 4 (Operand.tmp 215), type := 4, pos := "laws.go:37", after := #[{ on := 53, ground := Ground.data }, { on := 48, ground := Ground.guard }], guard := some (48, false) }) (v := _) rfl (by kernel_rfl) (by kernel_rfl) (by kernel_rfl) (fun _ _ _ h => h) (Or.inr ⟨by rfl, rfl⟩) (by assumption) ?_
                            try simp only [Act.put, List.setIfInBounds_toArray, List.set_cons_zero, List.set_cons_succ]
                            refine wpAnyH_take (i := 55) (oi := { dst := some 217, op := Op.pick (Operand.tmp 210) (Operand.const (Value.bool true)) (Operand.tmp 216), type := 4, pos := "laws.go:37", after := #[{ on := 48, ground := Ground.data }, { on := 54, ground := Ground.data }, { on := 45, ground := Ground.guard }], guard := some (45, true) }) (v := _) rfl (by kernel_rfl) (by kernel_rfl) (by kernel_rfl) (fun _ _ _ h => h) (Or.inr ⟨by rfl, rfl⟩) (by assumption) ?_
                            try simp only [Act.put, List.setIfInBounds_toArray, List.set_cons_zero, List.set_cons_succ]
                            refine wpAnyH_take (i := 56) (oi := { dst := some 218, op := Op.pick (Operand.tmp 207) (Operand.tmp 217) (Operand.const (Value.bool false)), type := 4, pos := "laws.go:37", after := #[{ on := 45, ground := Ground.data }, { on := 55, ground := Ground.data }, { on := 43, ground := Ground.guard }], guard := some (43, false) }) (v := ?_) rfl (by kernel_rfl) (by kernel_rfl) (by kernel_rfl) (fun _ _ _ h => h) (Or.inl ⟨by rfl, ?_⟩) (by assumption) ?_
                            rotate_left
                            · (intro w hSw; (try dsimp only at hSw); go_simp; (try with_reducible rfl))
                            try simp only [Act.put, List.setIfInBounds_toArray, List.set_cons_zero, List.set_cons_succ]
                            refine wpAnyH_take (i := 57) (oi := { dst := some 219, op := Op.pick (Operand.tmp 205) (Operand.const (Value.bool true)) (Operand.tmp 218), type := 4, pos := "laws.go:37", after := #[{ on := 43, ground := Ground.data }, { on := 56, ground := Ground.data }], guard := none }) (v := ?_) rfl (by kernel_rfl) (by kernel_rfl) (by kernel_rfl) (fun _ _ _ h => h) (Or.inl ⟨by rfl, ?_⟩) (by assumption) ?_
                            rotate_left
                            · (intro w hSw; (try dsimp only at hSw); go_simp; (try with_reducible rfl))
                            try simp only [Act.put, List.setIfInBounds_toArray, List.set_cons_zero, List.set_cons_succ]
                            refine wpAnyH_done (by kernel_rfl) ?_ _
                            go_wp2_with fail
                            go_meet
                            exact ⟨rfl, hA, hD, hS, hU, hM, hV, hBl⟩
                        · as_aux_lemma =>
                            obtain ⟨o4, q4⟩ := F4.out.2 rfl
                            obtain ⟨kn, r4⟩ := q4 m k hm0 hm1 hk0 hk1
                            have ds := div_small m k (by omega) (by omega) kn
                            have v5 : IntKind.i64.wrap (m.tdiv k) = m.tdiv k := by rw [IntKind.wrap_i64]; omega
                            have v6 : wrap64 (m.tdiv k) = m.tdiv k := by unfold wrap64; omega
                            have kb : (k == 0) = false := by simp [kn]
                            clear q4 ds
                            refine wpAnyH_take (i := 46) (oi := { dst := some 208, op := Op.move (Operand.tmp 21), type := 3, pos := "laws.go:37", after := #[{ on := 45, ground := Ground.guard }], guard := some (45, true) }) (v := ?_) rfl (by kernel_rfl) (by kernel_rfl) (by kernel_rfl) (fun _ _ _ h => h) (Or.inl ⟨by rfl, ?_⟩) (by assumption) ?_
                            rotate_left
                            · (intro w hSw; (try dsimp only at hSw); go_simp; (try with_reducible rfl))
                            try simp only [Act.put, List.setIfInBounds_toArray, List.set_cons_zero, List.set_cons_succ]
                            refine wpAnyH_take (i := 47) (oi := { dst := some 209, op := Op.binOp BinOp.eql 3 (Operand.tmp 208) (Operand.const (Value.int IntKind.i64 0)) 3, type := 4, pos := "laws.go:37", after := #[{ on := 46, ground := Ground.data }, { on := 45, ground := Ground.guard }], guard := some (45, true) }) (v := ?_) rfl (by kernel_rfl) (by kernel_rfl) (by kernel_rfl) (fun _ _ _ h => h) (Or.inl ⟨by rfl, ?_⟩) (by assumption) ?_
                            rotate_left
                            · (intro w hSw; (try dsimp only at hSw); go_simp; (try with_reducible rfl))
                            try simp only [Act.put, List.setIfInBounds_toArray, List.set_cons_zero, List.set_cons_succ]
                            refine wpAnyH_take (i := 48) (oi := { dst := some 210, op := Op.move (Operand.tmp 209), type := 4, pos := "laws.go:37", after := #[{ on := 47, ground := Ground.data }, { on := 45, ground := Ground.chain }, { on := 45, ground := Ground.guard }], guard := some (45, true) }) (v := ?_) rfl (by kernel_rfl) (by kernel_rfl) (by kernel_rfl) (fun _ _ _ h => h) (Or.inl ⟨by rfl, ?_⟩) (by assumption) ?_
                            rotate_left
                            · (intro w hSw; (try dsimp only at hSw); go_simp; (try with_reducible rfl))
                            try simp only [Act.put, List.setIfInBounds_toArray, List.set_cons_zero, List.set_cons_succ]
                            refine wpAnyH_take (i := 49) (oi := { dst := some 211, op := Op.load 24 (Operand.tmp 13), type := 24, pos := "laws.go:37", after := #[{ on := 48, ground := Ground.guard }], guard := some (48, false) }) (v := ?_) rfl (by kernel_rfl) (by kernel_rfl) (by kernel_rfl) (fun _ _ _ h => h) (Or.inl ⟨by rfl, ?_⟩) (by assumption) ?_
                            rotate_left
                            · (intro w hSw; (try dsimp only at hSw); go_simp; (try with_reducible rfl))
                            try simp only [Act.put, List.setIfInBounds_toArray, List.set_cons_zero, List.set_cons_succ]
                            refine wpAnyH_take (i := 50) (oi := { dst := some 212, op := Op.move (Operand.tmp 20), type := 3, pos := "laws.go:37", after := #[{ on := 48, ground := Ground.guard }], guard := some (48, false) }) (v := ?_) rfl (by kernel_rfl) (by kernel_rfl) (by kernel_rfl) (fun _ _ _ h => h) (Or.inl ⟨by rfl, ?_⟩) (by assumption) ?_
                            rotate_left
                            · (intro w hSw; (try dsimp only at hSw); go_simp; (try with_reducible rfl))
                            try simp only [Act.put, List.setIfInBounds_toArray, List.set_cons_zero, List.set_cons_succ]
                            refine wpAnyH_take (i := 51) (oi := { dst := some 213, op := Op.move (Operand.tmp 21), type := 3, pos := "laws.go:37", after := #[{ on := 48, ground := Ground.guard }], guard := some (48, false) }) (v := ?_) rfl (by kernel_rfl) (by kernel_rfl) (by kernel_rfl) (fun _ _ _ h => h) (Or.inl ⟨by rfl, ?_⟩) (by assumption) ?_
                            rotate_left
                            · (intro w hSw; (try dsimp only at hSw); go_simp; (try with_reducible rfl))
                            try simp only [Act.put, List.setIfInBounds_toArray, List.set_cons_zero, List.set_cons_succ]
                            refine wpAnyH_take (i := 52) (oi := { dst := some 214, op := Op.binOp BinOp.quo 3 (Operand.tmp 212) (Operand.tmp 213) 3, type := 3, pos := "laws.go:37", after := #[{ on := 50, ground := Ground.data }, { on := 51, ground := Ground.data }, { on := 48, ground := Ground.guard }], guard := some (48, false) }) (v := ?_) rfl (by kernel_rfl) (by kernel_rfl) (by kernel_rfl) (fun _ _ _ h => h) (Or.inl ⟨by rfl, ?_⟩) (by assumption) ?_
                            rotate_left
                            · (intro w hSw; (try dsimp only at hSw); go_simp; (try with_reducible rfl))
                            try simp only [Act.put, List.setIfInBounds_toArray, List.set_cons_zero, List.set_cons_succ]
                            refine wpAnyH_ready (rs := [53]) (by kernel_rfl) (by simp) ?_
                            refine AllReadyH.cons (o := { dst := some 215, op := Op.call { callee := Callee.value (Operand.func 16), args := #[Operand.tmp 211, Operand.tmp 214], argTypes := #[24, 3] }, type := 4, pos := "laws.go:37", after := #[{ on := 49, ground := Ground.data }, { on := 52, ground := Ground.data }, { on := 48, ground := Ground.chain }, { on := 48, ground := Ground.guard }], guard := some (48, false) }) rfl (fun K hK => ?_) AllReadyH.nil
                            go_simp
                            (go_at_call 16; refine (implHas _ _ _ _).mono ?_; rintro e wn ⟨rfl, hb⟩; (replace hBl := bvia hBl (by go_grown) hb); (replace hA := hA.via (by go_grown) hb); (replace hA0 := hA.c0); (replace hA1 := hA.c1); (replace hAz := hA.lt); (replace hD := hD.via (by go_grown) hb); (replace hD0 := hD.c0); (replace hD1 := hD.c1); (replace hDz := hD.lt); (replace hS := hS.via (by go_grown) hb); (replace hS0 := hS.c0); (replace hS1 := hS.c1); (replace hSz := hS.lt); (replace hU := hU.via (by go_grown) hb); (replace hU0 := hU.c0); (replace hU1 := hU.c1); (replace hUz := hU.lt); (replace hM := hM.via (by go_grown) hb); (replace hM0 := hM.c0); (replace hM1 := hM.c1); (replace hMz := hM.lt); (replace hV := hV.via (by go_grown) hb); (replace hV0 := hV.c0); (replace hV1 := hV.c1); (replace hVz := hV.lt); (clear hb))
                            (try go_wp2_with fail)
                            refine hK.out _ _ ?_ (fun hHeld => ?_)
                            · (simp [*, go_sem, World.cell?_alloc_some, World.cell?_setCell_far, apart1, apart2, apart3, apart4, apart5, apart6])
                            clear hK K
                            try simp only [Act.put, List.setIfInBounds_toArray, List.set_cons_zero, List.set_cons_succ]
                            refine wpAnyH_take (i := 54) (oi := { dst := some 216, op := Op.unOp UnOp.not 4 (Operand.tmp 215), type := 4, pos := "laws.go:37", after := #[{ on := 53, ground := Ground.data }, { on := 48, ground := Ground.guard }], guard := some (48, false) }) (v := ?_) rfl (by kernel_rfl) (by kernel_rfl) (by kernel_rfl) (fun _ _ _ h => h) (Or.inl ⟨by rfl, ?_⟩) (by assumption) ?_
                            rotate_left
                            · (intro w hSw; (try dsimp only at hSw); go_simp; (try with_reducible rfl))
                            try simp only [Act.put, List.setIfInBounds_toArray, List.set_cons_zero, List.set_cons_succ]
                            refine wpAnyH_take (i := 55) (oi := { dst := some 217, op := Op.pick (Operand.tmp 210) (Operand.const (Value.bool true)) (Operand.tmp 216), type := 4, pos := "laws.go:37", after := #[{ on := 48, ground := Ground.data }, { on := 54, ground := Ground.data }, { on := 45, ground := Ground.guard }], guard := some (45, true) }) (v := ?_) rfl (by kernel_rfl) (by kernel_rfl) (by kernel_rfl) (fun _ _ _ h => h) (Or.inl ⟨by rfl, ?_⟩) (by assumption) ?_
                            rotate_left
                            · (intro w hSw; (try dsimp only at hSw); go_simp; (try with_reducible rfl))
                            try simp only [Act.put, List.setIfInBounds_toArray, List.set_cons_zero, List.set_cons_succ]
                            refine wpAnyH_take (i := 56) (oi := { dst := some 218, op := Op.pick (Operand.tmp 207) (Operand.tmp 217) (Operand.const (Value.bool false)), type := 4, pos := "laws.go:37", after := #[{ on := 45, ground := Ground.data }, { on := 55, ground := Ground.data }, { on := 43, ground := Ground.guard }], guard := some (43, false) }) (v := ?_) rfl (by kernel_rfl) (by kernel_rfl) (by kernel_rfl) (fun _ _ _ h => h) (Or.inl ⟨by rfl, ?_⟩) (by assumption) ?_
                            rotate_left
                            · (intro w hSw; (try dsimp only at hSw); go_simp; (try with_reducible rfl))
                            try simp only [Act.put, List.setIfInBounds_toArray, List.set_cons_zero, List.set_cons_succ]
                            refine wpAnyH_take (i := 57) (oi := { dst := some 219, op := Op.pick (Operand.tmp 205) (Operand.const (Value.bool true)) (Operand.tmp 218), type := 4, pos := "laws.go:37", after := #[{ on := 43, ground := Ground.data }, { on := 56, ground := Ground.data }], guard := none }) (v := ?_) rfl (by kernel_rfl) (by kernel_rfl) (by kernel_rfl) (fun _ _ _ h => h) (Or.inl ⟨by rfl, ?_⟩) (by assumption) ?_
                            rotate_left
                            · (intro w hSw; (try dsimp only at hSw); go_simp; (try with_reducible rfl))
                            try simp only [Act.put, List.setIfInBounds_toArray, List.set_cons_zero, List.set_cons_succ]
                            refine wpAnyH_done (by kernel_rfl) ?_ _
                            go_wp2_with fail
                            go_meet
                            exact ⟨rfl, hA, hD, hS, hU, hM, hV, hBl⟩
                    · as_aux_lemma =>
                        obtain ⟨o3, q3⟩ := F3.out rfl
                        have r3 := q3 m k hm0 hm1 hk0 hk1
                        clear q3
                        refine wpAnyH_take (i := 35) (oi := { dst := some 197, op := Op.load 24 (Operand.tmp 11), type := 24, pos := "laws.go:37", after := #[{ on := 34, ground := Ground.guard }], guard := some (34, true) }) (v := ?_) rfl (by kernel_rfl) (by kernel_rfl) (by kernel_rfl) (fun _ _ _ h => h) (Or.inl ⟨by rfl, ?_⟩) (by assumption) ?_
                        rotate_left
                        · (intro w hSw; (try dsimp only at hSw); go_simp; (try with_reducible rfl))
                        try simp only [Act.put, List.setIfInBounds_toArray, List.set_cons_zero, List.set_cons_succ]
                        refine wpAnyH_take (i := 36) (oi := { dst := some 198, op := Op.move (Operand.tmp 20), type := 3, pos := "laws.go:37", after := #[{ on := 34, ground := Ground.guard }], guard := some (34, true) }) (v := ?_) rfl (by kernel_rfl) (by kernel_rfl) (by kernel_rfl) (fun _ _ _ h => h) (Or.inl ⟨by rfl, ?_⟩) (by assumption) ?_
                        rotate_left
                        · (intro w hSw; (try dsimp only at hSw); go_simp; (try with_reducible rfl))
                        try simp only [Act.put, List.setIfInBounds_toArray, List.set_cons_zero, List.set_cons_succ]
                        refine wpAnyH_take (i := 37) (oi := { dst := some 199, op := Op.move (Operand.tmp 21), type := 3, pos := "laws.go:37", after := #[{ on := 34, ground := Ground.guard }], guard := some (34, true) }) (v := ?_) rfl (by kernel_rfl) (by kernel_rfl) (by kernel_rfl) (fun _ _ _ h => h) (Or.inl ⟨by rfl, ?_⟩) (by assumption) ?_
                        rotate_left
                        · (intro w hSw; (try dsimp only at hSw); go_simp; (try with_reducible rfl))
                        try simp only [Act.put, List.setIfInBounds_toArray, List.set_cons_zero, List.set_cons_succ]
                        refine wpAnyH_take (i := 38) (oi := { dst := some 200, op := Op.binOp BinOp.mul 3 (Operand.tmp 198) (Operand.tmp 199) 3, type := 3, pos := "laws.go:37", after := #[{ on := 36, ground := Ground.data }, { on := 37, ground := Ground.data }, { on := 34, ground := Ground.guard }], guard := some (34, true) }) (v := ?_) rfl (by kernel_rfl) (by kernel_rfl) (by kernel_rfl) (fun _ _ _ h => h) (Or.inl ⟨by rfl, ?_⟩) (by assumption) ?_
                        rotate_left
                        · (intro w hSw; (try dsimp only at hSw); go_simp; (try with_reducible rfl))
                        try simp only [Act.put, List.setIfInBounds_toArray, List.set_cons_zero, List.set_cons_succ]
                        refine wpAnyH_ready (rs := [39]) (by kernel_rfl) (by simp) ?_
                        refine AllReadyH.cons (o := { dst := some 201, op := Op.call { callee := Callee.value (Operand.func 16), args := #[Operand.tmp 197, Operand.tmp 200], argTypes := #[24, 3] }, type := 4, pos := "laws.go:37", after := #[{ on := 35, ground := Ground.data }, { on := 38, ground := Ground.data }, { on := 34, ground := Ground.chain }, { on := 34, ground := Ground.guard }], guard := some (34, true) }) rfl (fun K hK => ?_) AllReadyH.nil
                        go_simp
                        (go_at_call 16; refine (implHas _ _ _ _).mono ?_; rintro e wn ⟨rfl, hb⟩; (replace hBl := bvia hBl (by go_grown) hb); (replace hA := hA.via (by go_grown) hb); (replace hA0 := hA.c0); (replace hA1 := hA.c1); (replace hAz := hA.lt); (replace hD := hD.via (by go_grown) hb); (replace hD0 := hD.c0); (replace hD1 := hD.c1); (replace hDz := hD.lt); (replace hS := hS.via (by go_grown) hb); (replace hS0 := hS.c0); (replace hS1 := hS.c1); (replace hSz := hS.lt); (replace hU := hU.via (by go_grown) hb); (replace hU0 := hU.c0); (replace hU1 := hU.c1); (replace hUz := hU.lt); (replace hM := hM.via (by go_grown) hb); (replace hM0 := hM.c0); (replace hM1 := hM.c1); (replace hMz := hM.lt); (replace hV := hV.via (by go_grown) hb); (replace hV0 := hV.c0); (replace hV1 := hV.c1); (replace hVz := hV.lt); (clear hb))
                        (try go_wp2_with fail)
                        refine hK.out _ _ ?_ (fun hHeld => ?_)
                        · (simp [*, go_sem, World.cell?_alloc_some, World.cell?_setCell_far, apart1, apart2, apart3, apart4, apart5, apart6])
                        clear hK K
                        try simp only [Act.put, List.setIfInBounds_toArray, List.set_cons_zero, List.set_cons_succ]
                        refine wpAnyH_take (i := 40) (oi := { dst := some 202, op := Op.unOp UnOp.not 4 (Operand.tmp 201), type := 4, pos := "laws.go:37", after := #[{ on := 39, ground := Ground.data }, { on := 34, ground := Ground.guard }], guard := some (34, true) }) (v := ?_) rfl (by kernel_rfl) (by kernel_rfl) (by kernel_rfl) (fun _ _ _ h => h) (Or.inl ⟨by rfl, ?_⟩) (by assumption) ?_
                        rotate_left
                        · (intro w hSw; (try dsimp only at hSw); go_simp; (try with_reducible rfl))
                        try simp only [Act.put, List.setIfInBounds_toArray, List.set_cons_zero, List.set_cons_succ]
                        refine wpAnyH_take (i := 41) (oi := { dst := some 203, op := Op.pick (Operand.tmp 196) (Operand.tmp 202) (Operand.const (Value.bool false)), type := 4, pos := "laws.go:37", after := #[{ on := 34, ground := Ground.data }, { on := 40, ground := Ground.data }, { on := 32, ground := Ground.guard }], guard := some (32, false) }) (v := ?_) rfl (by kernel_rfl) (by kernel_rfl) (by kernel_rfl) (fun _ _ _ h => h) (Or.inl ⟨by rfl, ?_⟩) (by assumption) ?_
                        rotate_left
                        · (intro w hSw; (try dsimp only at hSw); go_simp; (try with_reducible rfl))
                        try simp only [Act.put, List.setIfInBounds_toArray, List.set_cons_zero, List.set_cons_succ]
                        refine wpAnyH_take (i := 42) (oi := { dst := some 204, op := Op.pick (Operand.tmp 194) (Operand.const (Value.bool true)) (Operand.tmp 203), type := 4, pos := "laws.go:37", after := #[{ on := 32, ground := Ground.data }, { on := 41, ground := Ground.data }], guard := none }) (v := ?_) rfl (by kernel_rfl) (by kernel_rfl) (by kernel_rfl) (fun _ _ _ h => h) (Or.inl ⟨by rfl, ?_⟩) (by assumption) ?_
                        rotate_left
                        · (intro w hSw; (try dsimp only at hSw); go_simp; (try with_reducible rfl))
                        try simp only [Act.put, List.setIfInBounds_toArray, List.set_cons_zero, List.set_cons_succ]
                        refine wpAnyH_take (i := 43) (oi := { dst := some 205, op := Op.move (Operand.tmp 204), type := 4, pos := "laws.go:37", after := #[{ on := 42, ground := Ground.data }, { on := 39, ground := Ground.chain }], guard := none }) (v := ?_) rfl (by kernel_rfl) (by kernel_rfl) (by kernel_rfl) (fun _ _ _ h => h) (Or.inl ⟨by rfl, ?_⟩) (by assumption) ?_
                        rotate_left
                        · (intro w hSw; (try dsimp only at hSw); go_simp; (try with_reducible rfl))
                        try simp only [Act.put, List.setIfInBounds_toArray, List.set_cons_zero, List.set_cons_succ]
                        refine wpAnyH_take (i := 44) (oi := { dst := some 206, op := Op.move (Operand.tmp 14), type := 4, pos := "laws.go:37", after := #[{ on := 43, ground := Ground.guard }], guard := some (43, false) }) (v := ?_) rfl (by kernel_rfl) (by kernel_rfl) (by kernel_rfl) (fun _ _ _ h => h) (Or.inl ⟨by rfl, ?_⟩) (by assumption) ?_
                        rotate_left
                        · (intro w hSw; (try dsimp only at hSw); go_simp; (try with_reducible rfl))
                        try simp only [Act.put, List.setIfInBounds_toArray, List.set_cons_zero, List.set_cons_succ]
                        refine wpAnyH_take (i := 45) (oi := { dst := some 207, op := Op.move (Operand.tmp 206), type := 4, pos := "laws.go:37", after := #[{ on := 44, ground := Ground.data }, { on := 43, ground := Ground.chain }, { on := 43, ground := Ground.guard }], guard := some (43, false) }) (v := ?_) rfl (by kernel_rfl) (by kernel_rfl) (by kernel_rfl) (fun _ _ _ h => h) (Or.inl ⟨by rfl, ?_⟩) (by assumption) ?_
                        rotate_left
                        · (intro w hSw; (try dsimp only at hSw); go_simp; (try with_reducible rfl))
                        try simp only [Act.put, List.setIfInBounds_toArray, List.set_cons_zero, List.set_cons_succ]
                        cases P4
                        · as_aux_lemma =>
                            refine wpAnyH_take (i := 46) (oi := { dst := some 208, op := Op.move (Operand.tmp 21), type := 3, pos := "laws.go:37", after := #[{ on := 45, ground := Ground.guard }], guard := some (45, true) }) (v := _) rfl (by kernel_rfl) (by kernel_rfl) (by kernel_rfl) (fun _ _ _ h => h) (Or.inr ⟨by rfl, rfl⟩) (by assumption) ?_
                            try simp only [Act.put, List.setIfInBounds_toArray, List.set_cons_zero, List.set_cons_succ]
                            refine wpAnyH_take (i := 47) (oi := { dst := some 209, op := Op.binOp BinOp.eql 3 (Operand.tmp 208) (Operand.const (Value.int IntKind.i64 0)) 3, type := 4, pos := "laws.go:37", after := #[{ on := 46, ground := Ground.data }, { on := 45, ground := Ground.guard }], guard := some (45, true) }) (v := _) rfl (by kernel_rfl) (by kernel_rfl) (by kernel_rfl) (fun _ _ _ h => h) (Or.inr ⟨by rfl, rfl⟩) (by assumption) ?_
                            try simp only [Act.put, List.setIfInBounds_toArray, List.set_cons_zero, List.set_cons_succ]
                            refine wpAnyH_take (i := 48) (oi := { dst := some 210, op := Op.move (Operand.tmp 209), type := 4, pos := "laws.go:37", after := #[{ on := 47, ground := Ground.data }, { on := 45, ground := Ground.chain }, { on := 45, ground := Ground.guard }], guard := some (45, true) }) (v := _) rfl (by kernel_rfl) (by kernel_rfl) (by kernel_rfl) (fun _ _ _ h => h) (Or.inr ⟨by rfl, rfl⟩) (by assumption) ?_
                            try simp only [Act.put, List.setIfInBounds_toArray, List.set_cons_zero, List.set_cons_succ]
                            refine wpAnyH_take (i := 49) (oi := { dst := some 211, op := Op.load 24 (Operand.tmp 13), type := 24, pos := "laws.go:37", after := #[{ on := 48, ground := Ground.guard }], guard := some (48, false) }) (v := _) rfl (by kernel_rfl) (by kernel_rfl) (by kernel_rfl) (fun _ _ _ h => h) (Or.inr ⟨by rfl, rfl⟩) (by assumption) ?_
                            try simp only [Act.put, List.setIfInBounds_toArray, List.set_cons_zero, List.set_cons_succ]
                            refine wpAnyH_take (i := 50) (oi := { dst := some 212, op := Op.move (Operand.tmp 20), type := 3, pos := "laws.go:37", after := #[{ on := 48, ground := Ground.guard }], guard := some (48, false) }) (v := _) rfl (by kernel_rfl) (by kernel_rfl) (by kernel_rfl) (fun _ _ _ h => h) (Or.inr ⟨by rfl, rfl⟩) (by assumption) ?_
                            try simp only [Act.put, List.setIfInBounds_toArray, List.set_cons_zero, List.set_cons_succ]
                            refine wpAnyH_take (i := 51) (oi := { dst := some 213, op := Op.move (Operand.tmp 21), type := 3, pos := "laws.go:37", after := #[{ on := 48, ground := Ground.guard }], guard := some (48, false) }) (v := _) rfl (by kernel_rfl) (by kernel_rfl) (by kernel_rfl) (fun _ _ _ h => h) (Or.inr ⟨by rfl, rfl⟩) (by assumption) ?_
                            try simp only [Act.put, List.setIfInBounds_toArray, List.set_cons_zero, List.set_cons_succ]
                            refine wpAnyH_take (i := 52) (oi := { dst := some 214, op := Op.binOp BinOp.quo 3 (Operand.tmp 212) (Operand.tmp 213) 3, type := 3, pos := "laws.go:37", after := #[{ on := 50, ground := Ground.data }, { on := 51, ground := Ground.data }, { on := 48, ground := Ground.guard }], guard := some (48, false) }) (v := _) rfl (by kernel_rfl) (by kernel_rfl) (by kernel_rfl) (fun _ _ _ h => h) (Or.inr ⟨by rfl, rfl⟩) (by assumption) ?_
                            try simp only [Act.put, List.setIfInBounds_toArray, List.set_cons_zero, List.set_cons_succ]
                            refine wpAnyH_take (i := 53) (oi := { dst := some 215, op := Op.call { callee := Callee.value (Operand.func 16), args := #[Operand.tmp 211, Operand.tmp 214], argTypes := #[24, 3] }, type := 4, pos := "laws.go:37", after := #[{ on := 49, ground := Ground.data }, { on := 52, ground := Ground.data }, { on := 48, ground := Ground.chain }, { on := 48, ground := Ground.guard }], guard := some (48, false) }) (v := _) rfl (by kernel_rfl) (by kernel_rfl) (by kernel_rfl) (fun _ _ _ h => h) (Or.inr ⟨by rfl, rfl⟩) (by assumption) ?_
                            try simp only [Act.put, List.setIfInBounds_toArray, List.set_cons_zero, List.set_cons_succ]
                            refine wpAnyH_take (i := 54) (oi := { dst := some 216, op := Op.unOp UnOp.not 4 (Operand.tmp 215), type := 4, pos := "laws.go:37", after := #[{ on := 53, ground := Ground.data }, { on := 48, ground := Ground.guard }], guard := some (48, false) }) (v := _) rfl (by kernel_rfl) (by kernel_rfl) (by kernel_rfl) (fun _ _ _ h => h) (Or.inr ⟨by rfl, rfl⟩) (by assumption) ?_
                            try simp only [Act.put, List.setIfInBounds_toArray, List.set_cons_zero, List.set_cons_succ]
                            refine wpAnyH_take (i := 55) (oi := { dst := some 217, op := Op.pick (Operand.tmp 210) (Operand.const (Value.bool true)) (Operand.tmp 216), type := 4, pos := "laws.go:37", after := #[{ on := 48, ground := Ground.data }, { on := 54, ground := Ground.data }, { on := 45, ground := Ground.guard }], guard := some (45, true) }) (v := _) rfl (by kernel_rfl) (by kernel_rfl) (by kernel_rfl) (fun _ _ _ h => h) (Or.inr ⟨by rfl, rfl⟩) (by assumption) ?_
                            try simp only [Act.put, List.setIfInBounds_toArray, List.set_cons_zero, List.set_cons_succ]
                            refine wpAnyH_take (i := 56) (oi := { dst := some 218, op := Op.pick (Operand.tmp 207) (Operand.tmp 217) (Operand.const (Value.bool false)), type := 4, pos := "laws.go:37", after := #[{ on := 45, ground := Ground.data }, { on := 55, ground := Ground.data }, { on := 43, ground := Ground.guard }], guard := some (43, false) }) (v := ?_) rfl (by kernel_rfl) (by kernel_rfl) (by kernel_rfl) (fun _ _ _ h => h) (Or.inl ⟨by rfl, ?_⟩) (by assumption) ?_
                            rotate_left
                            · (intro w hSw; (try dsimp only at hSw); go_simp; (try with_reducible rfl))
                            try simp only [Act.put, List.setIfInBounds_toArray, List.set_cons_zero, List.set_cons_succ]
                            refine wpAnyH_take (i := 57) (oi := { dst := some 219, op := Op.pick (Operand.tmp 205) (Operand.const (Value.bool true)) (Operand.tmp 218), type := 4, pos := "laws.go:37", after := #[{ on := 43, ground := Ground.data }, { on := 56, ground := Ground.data }], guard := none }) (v := ?_) rfl (by kernel_rfl) (by kernel_rfl) (by kernel_rfl) (fun _ _ _ h => h) (Or.inl ⟨by rfl, ?_⟩) (by assumption) ?_
                            rotate_left
                            · (intro w hSw; (try dsimp only at hSw); go_simp; (try with_reducible rfl))
                            try simp only [Act.put, List.setIfInBounds_toArray, List.set_cons_zero, List.set_cons_succ]
                            refine wpAnyH_done (by kernel_rfl) ?_ _
                            go_wp2_with fail
                            go_meet
                            exact ⟨rfl, hA, hD, hS, hU, hM, hV, hBl⟩
                        · as_aux_lemma =>
                            obtain ⟨o4, q4⟩ := F4.out.2 rfl
                            obtain ⟨kn, r4⟩ := q4 m k hm0 hm1 hk0 hk1
                            have ds := div_small m k (by omega) (by omega) kn
                            have v5 : IntKind.i64.wrap (m.tdiv k) = m.tdiv k := by rw [IntKind.wrap_i64]; omega
                            have v6 : wrap64 (m.tdiv k) = m.tdiv k := by unfold wrap64; omega
                            have kb : (k == 0) = false := by simp [kn]
                            clear q4 ds
                            refine wpAnyH_take (i := 46) (oi := { dst := some 208, op := Op.move (Operand.tmp 21), type := 3, pos := "laws.go:37", after := #[{ on := 45, ground := Ground.guard }], guard := some (45, true) }) (v := ?_) rfl (by kernel_rfl) (by kernel_rfl) (by kernel_rfl) (fun _ _ _ h => h) (Or.inl ⟨by rfl, ?_⟩) (by assumption) ?_
                            rotate_left
                            · (intro w hSw; (try dsimp only at hSw); go_simp; (try with_reducible rfl))
                            try simp only [Act.put, List.setIfInBounds_toArray, List.set_cons_zero, List.set_cons_succ]
                            refine wpAnyH_take (i := 47) (oi := { dst := some 209, op := Op.binOp BinOp.eql 3 (Operand.tmp 208) (Operand.const (Value.int IntKind.i64 0)) 3, type := 4, pos := "laws.go:37", after := #[{ on := 46, ground := Ground.data }, { on := 45, ground := Ground.guard }], guard := some (45, true) }) (v := ?_) rfl (by kernel_rfl) (by kernel_rfl) (by kernel_rfl) (fun _ _ _ h => h) (Or.inl ⟨by rfl, ?_⟩) (by assumption) ?_
                            rotate_left
                            · (intro w hSw; (try dsimp only at hSw); go_simp; (try with_reducible rfl))
                            try simp only [Act.put, List.setIfInBounds_toArray, List.set_cons_zero, List.set_cons_succ]
                            refine wpAnyH_take (i := 48) (oi := { dst := some 210, op := Op.move (Operand.tmp 209), type := 4, pos := "laws.go:37", after := #[{ on := 47, ground := Ground.data }, { on := 45, ground := Ground.chain }, { on := 45, ground := Ground.guard }], guard := some (45, true) }) (v := ?_) rfl (by kernel_rfl) (by kernel_rfl) (by kernel_rfl) (fun _ _ _ h => h) (Or.inl ⟨by rfl, ?_⟩) (by assumption) ?_
                            rotate_left
                            · (intro w hSw; (try dsimp only at hSw); go_simp; (try with_reducible rfl))
                            try simp only [Act.put, List.setIfInBounds_toArray, List.set_cons_zero, List.set_cons_succ]
                            refine wpAnyH_take (i := 49) (oi := { dst := some 211, op := Op.load 24 (Operand.tmp 13), type := 24, pos := "laws.go:37", after := #[{ on := 48, ground := Ground.guard }], guard := some (48, false) }) (v := ?_) rfl (by kernel_rfl) (by kernel_rfl) (by kernel_rfl) (fun _ _ _ h => h) (Or.inl ⟨by rfl, ?_⟩) (by assumption) ?_
                            rotate_left
                            · (intro w hSw; (try dsimp only at hSw); go_simp; (try with_reducible rfl))
                            try simp only [Act.put, List.setIfInBounds_toArray, List.set_cons_zero, List.set_cons_succ]
                            refine wpAnyH_take (i := 50) (oi := { dst := some 212, op := Op.move (Operand.tmp 20), type := 3, pos := "laws.go:37", after := #[{ on := 48, ground := Ground.guard }], guard := some (48, false) }) (v := ?_) rfl (by kernel_rfl) (by kernel_rfl) (by kernel_rfl) (fun _ _ _ h => h) (Or.inl ⟨by rfl, ?_⟩) (by assumption) ?_
                            rotate_left
                            · (intro w hSw; (try dsimp only at hSw); go_simp; (try with_reducible rfl))
                            try simp only [Act.put, List.setIfInBounds_toArray, List.set_cons_zero, List.set_cons_succ]
                            refine wpAnyH_take (i := 51) (oi := { dst := some 213, op := Op.move (Operand.tmp 21), type := 3, pos := "laws.go:37", after := #[{ on := 48, ground := Ground.guard }], guard := some (48, false) }) (v := ?_) rfl (by kernel_rfl) (by kernel_rfl) (by kernel_rfl) (fun _ _ _ h => h) (Or.inl ⟨by rfl, ?_⟩) (by assumption) ?_
                            rotate_left
                            · (intro w hSw; (try dsimp only at hSw); go_simp; (try with_reducible rfl))
                            try simp only [Act.put, List.setIfInBounds_toArray, List.set_cons_zero, List.set_cons_succ]
                            refine wpAnyH_take (i := 52) (oi := { dst := some 214, op := Op.binOp BinOp.quo 3 (Operand.tmp 212) (Operand.tmp 213) 3, type := 3, pos := "laws.go:37", after := #[{ on := 50, ground := Ground.data }, { on := 51, ground := Ground.data }, { on := 48, ground := Ground.guard }], guard := some (48, false) }) (v := ?_) rfl (by kernel_rfl) (by kernel_rfl) (by kernel_rfl) (fun _ _ _ h => h) (Or.inl ⟨by rfl, ?_⟩) (by assumption) ?_
                            rotate_left
                            · (intro w hSw; (try dsimp only at hSw); go_simp; (try with_reducible rfl))
                            try simp only [Act.put, List.setIfInBounds_toArray, List.set_cons_zero, List.set_cons_succ]
                            refine wpAnyH_ready (rs := [53]) (by kernel_rfl) (by simp) ?_
                            refine AllReadyH.cons (o := { dst := some 215, op := Op.call { callee := Callee.value (Operand.func 16), args := #[Operand.tmp 211, Operand.tmp 214], argTypes := #[24, 3] }, type := 4, pos := "laws.go:37", after := #[{ on := 49, ground := Ground.data }, { on := 52, ground := Ground.data }, { on := 48, ground := Ground.chain }, { on := 48, ground := Ground.guard }], guard := some (48, false) }) rfl (fun K hK => ?_) AllReadyH.nil
                            go_simp
                            (go_at_call 16; refine (implHas _ _ _ _).mono ?_; rintro e wn ⟨rfl, hb⟩; (replace hBl := bvia hBl (by go_grown) hb); (replace hA := hA.via (by go_grown) hb); (replace hA0 := hA.c0); (replace hA1 := hA.c1); (replace hAz := hA.lt); (replace hD := hD.via (by go_grown) hb); (replace hD0 := hD.c0); (replace hD1 := hD.c1); (replace hDz := hD.lt); (replace hS := hS.via (by go_grown) hb); (replace hS0 := hS.c0); (replace hS1 := hS.c1); (replace hSz := hS.lt); (replace hU := hU.via (by go_grown) hb); (replace hU0 := hU.c0); (replace hU1 := hU.c1); (replace hUz := hU.lt); (replace hM := hM.via (by go_grown) hb); (replace hM0 := hM.c0); (replace hM1 := hM.c1); (replace hMz := hM.lt); (replace hV := hV.via (by go_grown) hb); (replace hV0 := hV.c0); (replace hV1 := hV.c1); (replace hVz := hV.lt); (clear hb))
                            (try go_wp2_with fail)
                            refine hK.out _ _ ?_ (fun hHeld => ?_)
                            · (simp [*, go_sem, World.cell?_alloc_some, World.cell?_setCell_far, apart1, apart2, apart3, apart4, apart5, apart6])
                            clear hK K
                            try simp only [Act.put, List.setIfInBounds_toArray, List.set_cons_zero, List.set_cons_succ]
                            refine wpAnyH_take (i := 54) (oi := { dst := some 216, op := Op.unOp UnOp.not 4 (Operand.tmp 215), type := 4, pos := "laws.go:37", after := #[{ on := 53, ground := Ground.data }, { on := 48, ground := Ground.guard }], guard := some (48, false) }) (v := ?_) rfl (by kernel_rfl) (by kernel_rfl) (by kernel_rfl) (fun _ _ _ h => h) (Or.inl ⟨by rfl, ?_⟩) (by assumption) ?_
                            rotate_left
                            · (intro w hSw; (try dsimp only at hSw); go_simp; (try with_reducible rfl))
                            try simp only [Act.put, List.setIfInBounds_toArray, List.set_cons_zero, List.set_cons_succ]
                            refine wpAnyH_take (i := 55) (oi := { dst := some 217, op := Op.pick (Operand.tmp 210) (Operand.const (Value.bool true)) (Operand.tmp 216), type := 4, pos := "laws.go:37", after := #[{ on := 48, ground := Ground.data }, { on := 54, ground := Ground.data }, { on := 45, ground := Ground.guard }], guard := some (45, true) }) (v := ?_) rfl (by kernel_rfl) (by kernel_rfl) (by kernel_rfl) (fun _ _ _ h => h) (Or.inl ⟨by rfl, ?_⟩) (by assumption) ?_
                            rotate_left
                            · (intro w hSw; (try dsimp only at hSw); go_simp; (try with_reducible rfl))
                            try simp only [Act.put, List.setIfInBounds_toArray, List.set_cons_zero, List.set_cons_succ]
                            refine wpAnyH_take (i := 56) (oi := { dst := some 218, op := Op.pick (Operand.tmp 207) (Operand.tmp 217) (Operand.const (Value.bool false)), type := 4, pos := "laws.go:37", after := #[{ on := 45, ground := Ground.data }, { on := 55, ground := Ground.data }, { on := 43, ground := Ground.guard }], guard := some (43, false) }) (v := ?_) rfl (by kernel_rfl) (by kernel_rfl) (by kernel_rfl) (fun _ _ _ h => h) (Or.inl ⟨by rfl, ?_⟩) (by assumption) ?_
                            rotate_left
                            · (intro w hSw; (try dsimp only at hSw); go_simp; (try with_reducible rfl))
                            try simp only [Act.put, List.setIfInBounds_toArray, List.set_cons_zero, List.set_cons_succ]
                            refine wpAnyH_take (i := 57) (oi := { dst := some 219, op := Op.pick (Operand.tmp 205) (Operand.const (Value.bool true)) (Operand.tmp 218), type := 4, pos := "laws.go:37", after := #[{ on := 43, ground := Ground.data }, { on := 56, ground := Ground.data }], guard := none }) (v := ?_) rfl (by kernel_rfl) (by kernel_rfl) (by kernel_rfl) (fun _ _ _ h => h) (Or.inl ⟨by rfl, ?_⟩) (by assumption) ?_
                            rotate_left
                            · (intro w hSw; (try dsimp only at hSw); go_simp; (try with_reducible rfl))
                            try simp only [Act.put, List.setIfInBounds_toArray, List.set_cons_zero, List.set_cons_succ]
                            refine wpAnyH_done (by kernel_rfl) ?_ _
                            go_wp2_with fail
                            go_meet
                            exact ⟨rfl, hA, hD, hS, hU, hM, hV, hBl⟩
          case rest =>
            clear hA hA0 hA1 hAz hD hD0 hD1 hDz hS hS0 hS1 hSz hU hU0 hU1 hUz hM hM0 hM1 hMz hV hV0 hV1 hVz hBl
            obtain ⟨rfl, hA, hD, hS, hU, hM, hV, hBl⟩ := hcut
            have hA0 := hA.c0; have hA1 := hA.c1; have hAz := hA.lt; have hD0 := hD.c0; have hD1 := hD.c1; have hDz := hD.lt; have hS0 := hS.c0; have hS1 := hS.c1; have hSz := hS.lt; have hU0 := hU.c0; have hU1 := hU.c1; have hUz := hU.lt; have hM0 := hM.c0; have hM1 := hM.c1; have hMz := hM.lt; have hV0 := hV.c0; have hV1 := hV.c1; have hVz := hV.lt
            go_wp2_with fail
            go_roundw
            case rel => exact ⟨i + 1, by omega, by go_num, hA, hD, hS, hU, hM, hV, hBl⟩
            case measure => simp [intOf]; omega
    · have hltI : ¬ (i : Int) < 12 := by omega
      have hP1 := F1.out.1
      have hP4 := F4.out.1
      clear F1 F2 F3 F4
      by_cases g1 : -1000000 ≤ a + c <;> by_cases g2 : b + d ≤ 1000000 <;> cases hz : hasB c d 0
      all_goals
        simp only [g1, g2, decide_true, decide_false, Bool.and_true, Bool.and_false, Bool.true_and, Bool.false_and] at hP1
        simp only [hz, Bool.not_true, Bool.not_false] at hP4
        subst hP1 hP4
        go_wp2_with (first | (go_at_call 16; refine (implHas _ _ _ _).mono ?_; rintro e wn ⟨rfl, hb⟩; (replace hBl := bvia hBl (by go_grown) hb); (replace hA := hA.via (by go_grown) hb); (replace hA0 := hA.c0); (replace hA1 := hA.c1); (replace hAz := hA.lt); (replace hD := hD.via (by go_grown) hb); (replace hD0 := hD.c0); (replace hD1 := hD.c1); (replace hDz := hD.lt); (replace hS := hS.via (by go_grown) hb); (replace hS0 := hS.c0); (replace hS1 := hS.c1); (replace hSz := hS.lt); (replace hU := hU.via (by go_grown) hb); (replace hU0 := hU.c0); (replace hU1 := hU.c1); (replace hUz := hU.lt); (replace hM := hM.via (by go_grown) hb); (replace hM0 := hM.c0); (replace hM1 := hM.c1); (replace hMz := hM.lt); (replace hV := hV.via (by go_grown) hb); (replace hV0 := hV.c0); (replace hV1 := hV.c1); (replace hVz := hV.lt); (clear hb)))
        all_goals
          first | go_returns | (refine bodyPost_ret (by simp [results, Try.results3, go_sem, *]; try rfl) rfl ?_)
          refine ⟨ret_bool (by first | rfl | (simp; done) | (simp; omega)), hBl⟩
theorem walk (s0 : Option Addr) (len0 cap0 : Nat) (s1 : Option Addr) (len1 cap1 : Nat) (w : World) (r0 : Row w.heap.size w s0 len0) (c0 : len0 ≤ cap0) (m0 : cap0 ≤ maxLen) (r1 : Row w.heap.size w s1 len1) (c1 : len1 ≤ cap1) (m1 : cap1 ≤ maxLen) :
    Calls Try.prog 3 #[.slice s0 len0 cap0, .slice s1 len1 cap1] w fun e w' => e = .returned (.bool true) ∧ Below w.heap.size w w' := by
  by_cases h : 1048576 < len0 ∨ 1048576 < len1
  · exact early s0 len0 cap0 s1 len1 cap1 w h
  · exact main s0 len0 cap0 s1 len1 cap1 w r0 c0 m0 r1 c1 m1 (by omega) (by omega)
theorem own : ownKnob Try.prog.godebug = none := by kernel_rfl
theorem laidOut : laidOutB Try.prog = true := by kernel_rfl
set_option maxRecDepth 100000 in
theorem lifted (os : Os) (started : os.Started) (H : Type) (enc : TypeId × Value → H) :
    ReturnsInHanded {} Try.checked os 3 .any (Rows.fnSpanSoundSpec.pre6 enc Try.prog Try.f3 Rows.fnSpanSoundRow.domain false) (Rows.fnSpanSoundSpec.post enc Try.prog Try.f3 false true false false) := by
  refine returnsInHanded_of_change (C := Try.checked) own started (by kernel_rfl) Try.func3
    (ChangeSpec.witness6 (enc := enc) (C := Try.checked) false ⟨#[], #[.slice none 0 0, .slice none 0 0], []⟩ 8 (by kernel_rfl) (by kernel_rfl) (by kernel_rfl) (by kernel_rfl)) ?_
  intro W base args ds gs before hval0 hW hcnd _
  have hval : ∀ (j : Nat) t v, Try.f3.params[j]? = some t → args[j]? = some v → Value.okWide Try.prog W .any base t v := hval0
  have hW' := hW
  obtain ⟨p, q, hA0, hV, rfl, hfz, hnd⟩ := hW
  have hA : DataW.TrodAll enc Try.prog W 0 (fun _ => true) true Try.f3.params.toList args.toList ds p := hA0
  rw [Try.params3] at hA hval
  obtain ⟨v0, vs0, d0, ds0, p0, q0, hargs, rfl, rfl, h0, r0⟩ := trodAll_cons hA
  obtain ⟨v1, vs1, d1, ds1, p1, q1, rfl, rfl, rfl, h1, r1⟩ := trodAll_cons r0
  obtain ⟨rfl, rfl, rfl⟩ := trodAll_nil r1
  obtain rfl : args = #[v0, v1] := by cases args; simp_all
  obtain ⟨rfl, rfl⟩ := trodVars_none hV
  have k0 := h0
  have lt0 : ∀ x ∈ p0, x.block < W.heap.size := by obtain ⟨m, hm⟩ := k0; exact DataW.trod_lt m _ _ _ hm
  obtain ⟨a0, len0, cap0, rfl⟩ := okWide_slice Try.underlying22 (hval 0 22 v0 rfl rfl)
  have w0 := rowOf (elemT := 5) Try.underlying22 Try.underlying5 (by kernel_rfl) h0
  have k1 := h1
  have lt1 : ∀ x ∈ p1, x.block < W.heap.size := by obtain ⟨m, hm⟩ := k1; exact DataW.trod_lt m _ _ _ hm
  obtain ⟨a1, len1, cap1, rfl⟩ := okWide_slice Try.underlying22 (hval 1 22 v1 rfl rfl)
  have w1 := rowOf (elemT := 5) Try.underlying22 Try.underlying5 (by kernel_rfl) h1
  clear hA0 hval0
  refine (walk a0 len0 cap0 a1 len1 cap1 W w0.1 w0.2.1 w0.2.2 w1.1 w1.2.1 w1.2.2).mono fun e W' ⟨he, bel⟩ => ?_
  subst he
  exact ⟨_, rfl, _, _, _, [], _, [], hW', trodAll_mk1 (shut_bool Try.underlying4 _), (trodAll_cons_mk (Below.trod laidOut (by kernel_rfl) (of_decide_eq_true (by kernel_rfl)) k0 bel lt0) (trodAll_cons_mk (Below.trod laidOut (by kernel_rfl) (of_decide_eq_true (by kernel_rfl)) k1 bel lt1) trodAll_mk0)), rfl, bel.frame _, fun h => by cases h⟩
theorem over : Rows.fnSpanSoundRow.holds Try.pinned (OpenSpec.ofChange Rows.fnSpanSoundSpec) :=
  OpenClaim.holds_of_wide 3 Try.f3 rfl rfl rfl rfl rfl rfl rfl ⟨rfl, rfl, rfl, rfl, rfl⟩ rfl rfl rfl rfl rfl (by kernel_rfl) Try.func3 (by kernel_rfl)
    (of_decide_eq_true (by kernel_rfl)) (by unfold Func.isWrapper; first | (rw [if_pos (by decide +kernel)]; kernel_rfl) | (rw [if_neg (by decide +kernel)]; exact ⟨rfl, rfl⟩))
    (fun os started H enc _ => lifted os started H enc)
end FnSpanSound
theorem lawSpanSound_holds : Rows.FnSpanSoundSaid := FnSpanSound.over
#print axioms lawSpanSound_holds
end Go.Proofs.Ytdlkmekdeiajhaa
