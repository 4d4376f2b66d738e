/-
  For every two slices of bytes: with less of the drawn ranges what is reckoned is within what is reckoned with more, and where that is told, this is, as the law's Go text says; no condition.
-/
import Derived.Test.YtdlkmekdeiajhaaKitE
import Derived.Test.YtdlkmekdeiajhaaSpanH
import Derived.Deep.DeepCutAuto
import Derived.OpenShut
import Derived.ChangeOld
import Derived.Lib.SmallJoins
namespace Go.Proofs.Ytdlkmekdeiajhaa
open Go.ChangeShapes Go.WideShapes Go.ChangeAt Go.RowKit Go.Joins
set_option linter.unusedSimpArgs false
set_option linter.unusedVariables false


namespace FnSpanOrder
theorem early (s0 : Option Addr) (len0 cap0 : Nat) (s1 : Option Addr) (len1 cap1 : Nat) (w : World) (h : 1048576 < len0 ∨ 1048576 < len1) :
    Calls Try.prog 5 #[.slice s0 len0 cap0, .slice s1 len1 cap1] w fun e w' => e = .returned (.bool true) ∧ Below w.heap.size w w' := by
  by_cases h0 : 1048576 < len0
  · have d0 : decide ((1048576 : Int) < (len0 : Int)) = true := by simp; omega
    go_enter Try.func5, Try.ntmps5
    go_wp2
    first | go_returns | (refine bodyPost_ret (by simp [results, Try.results5, go_sem, *]; try rfl) rfl ?_)
    exact ⟨rfl, Below.refl _ _⟩
  · have h1 : 1048576 < len1 := by omega
    have d0 : decide ((1048576 : Int) < (len0 : Int)) = false := by simp; omega
    have d1 : decide ((1048576 : Int) < (len1 : Int)) = true := by simp; omega
    go_enter Try.func5, Try.ntmps5
    go_wp2
    first | go_returns | (refine bodyPost_ret (by simp [results, Try.results5, go_sem, *]; try rfl) rfl ?_)
    exact ⟨rfl, Below.refl _ _⟩
set_option maxRecDepth 10000 in
set_option maxHeartbeats 4000000 in
theorem main (s0 : Option Addr) (len0 cap0 : Nat) (s1 : Option Addr) (len1 cap1 : Nat) (w : World) (r0 : Row w.heap.size w s0 len0) (c0 : len0 ≤ cap0) (m0 : cap0 ≤ maxLen) (r1 : Row w.heap.size w s1 len1) (c1 : len1 ≤ cap1) (m1 : cap1 ≤ maxLen) (h0 : len0 ≤ 1048576) (h1 : len1 ≤ 1048576) :
    Calls Try.prog 5 #[.slice s0 len0 cap0, .slice s1 len1 cap1] w fun e w' => e = .returned (.bool true) ∧ Below w.heap.size w w' := by
  have R0 : Hid (Row w.heap.size w s0 len0) := r0
  have R1 : Hid (Row w.heap.size w s1 len1) := r1
  clear r0 r1
  have d0 : decide ((1048576 : Int) < (len0 : Int)) = false := by simp; omega
  have d1 : decide ((1048576 : Int) < (len1 : Int)) = false := by simp; omega
  go_enter Try.func5, Try.ntmps5
  go_wp2_with fail
  go_at_call 24
  refine (drawSpanAdd s0 len0 cap0 w R0.out c0 m0).mono ?_
  rintro e w1 ⟨a, b, c, d, rfl, ha0, ha1, hb0, hb1, hc0, hc1, hd0, hd1, hB1⟩
  go_wp2_with fail
  go_at_call 25
  refine (drawSpanMeet s1 len1 cap1 _ (R1.out.more (bstep hB1 (by go_grown))) c1 m1).mono ?_
  rintro e w2 ⟨x, y, p, q, rfl, hx0, hx1, hy0, hy1, hp0, hp1, hq0, hq1, hB2⟩
  have hA := (Box.new w1 a b 24).alloc (.cells #[.int .i64 (c), .int .i64 (d)] 24)
  have hD := Box.new (w1.alloc (.cells #[.int .i64 (a), .int .i64 (b)] 24)) c d 24
  simp only [World.size_alloc] at hD
  have hBl : Below w.heap.size w w2 := bvia hB1 (by go_grown) hB2
  replace hA := hA.below hB2
  replace hD := hD.below hB2
  clear hB1 hB2
  replace hA := (hA.alloc (.cells #[.int .i64 (x), .int .i64 (y)] 24)).alloc (.cells #[.int .i64 (p), .int .i64 (q)] 24)
  replace hD := (hD.alloc (.cells #[.int .i64 (x), .int .i64 (y)] 24)).alloc (.cells #[.int .i64 (p), .int .i64 (q)] 24)
  have hE := (Box.new w2 x y 24).alloc (.cells #[.int .i64 (p), .int .i64 (q)] 24)
  have hF := Box.new (w2.alloc (.cells #[.int .i64 (x), .int .i64 (y)] 24)) p q 24
  simp only [World.size_alloc] at hF
  replace hBl := balloc (balloc hBl (.cells #[.int .i64 (x), .int .i64 (y)] 24)) (.cells #[.int .i64 (p), .int .i64 (q)] 24)
  have hA0 := hA.c0; have hA1 := hA.c1; have hAz := hA.lt; have hD0 := hD.c0; have hD1 := hD.c1; have hDz := hD.lt; have hE0 := hE.c0; have hE1 := hE.c1; have hEz := hE.lt; have hF0 := hF.c0; have hF1 := hF.c1; have hFz := hF.lt
  go_wp2_with fail
  clear hp0 hp1 hq0 hq1 hx0 hx1 hy0 hy1 ha0 ha1 hb0 hb1 hc0 hc1 hd0 hd1
  cases tM : (okB a b && okB x y && okB (mxI a x) (mnI b y))
  ·
    go_at_call 20
    refine (implMeetF a b x y _ tM).mono ?_
    rintro e w3 ⟨rfl, hB3⟩
    replace hA := hA.via (by go_grown) hB3; replace hA0 := hA.c0; replace hA1 := hA.c1; replace hAz := hA.lt; replace hD := hD.via (by go_grown) hB3; replace hD0 := hD.c0; replace hD1 := hD.c1; replace hDz := hD.lt; replace hE := hE.via (by go_grown) hB3; replace hE0 := hE.c0; replace hE1 := hE.c1; replace hEz := hE.lt; replace hF := hF.via (by go_grown) hB3; replace hF0 := hF.c0; replace hF1 := hF.c1; replace hFz := hF.lt; replace hBl := bvia hBl (by go_grown) hB3
    clear hB3
    go_wp2_with fail
    go_at_call 20
    refine (implMeet c d p q _).mono ?_
    rintro e w4 ⟨rfl, hB4⟩
    have hM := (Box.new w3 (0) (0) 24).below hB4
    have hM0 := hM.c0; have hM1 := hM.c1; have hMz := hM.lt
    replace hA := hA.via (by go_grown) hB4; replace hA0 := hA.c0; replace hA1 := hA.c1; replace hAz := hA.lt; replace hD := hD.via (by go_grown) hB4; replace hD0 := hD.c0; replace hD1 := hD.c1; replace hDz := hD.lt; replace hE := hE.via (by go_grown) hB4; replace hE0 := hE.c0; replace hE1 := hE.c1; replace hEz := hE.lt; replace hF := hF.via (by go_grown) hB4; replace hF0 := hF.c0; replace hF1 := hF.c1; replace hFz := hF.lt; replace hBl := bvia hBl (by go_grown) hB4
    clear hB4
    go_wp2_with fail
    go_at_call 21
    refine (specMeetF a b x y _ tM).mono ?_
    rintro e w5 ⟨rfl, hB5⟩
    replace hBl := bvia hBl (by go_grown) hB5
    clear hA hD hE hF hM
    go_wp2_with fail
    first | go_returns | (refine bodyPost_ret (by simp [results, Try.results5, go_sem, *]; try rfl) rfl ?_)
    exact ⟨rfl, balloc hBl _⟩
  cases tN : (okB c d && okB p q && okB (mxI c p) (mnI d q))
  ·
    go_at_call 20
    refine (implMeetT a b x y _ tM).mono ?_
    rintro e w3 ⟨rfl, hB3⟩
    replace hA := hA.via (by go_grown) hB3; replace hA0 := hA.c0; replace hA1 := hA.c1; replace hAz := hA.lt; replace hD := hD.via (by go_grown) hB3; replace hD0 := hD.c0; replace hD1 := hD.c1; replace hDz := hD.lt; replace hE := hE.via (by go_grown) hB3; replace hE0 := hE.c0; replace hE1 := hE.c1; replace hEz := hE.lt; replace hF := hF.via (by go_grown) hB3; replace hF0 := hF.c0; replace hF1 := hF.c1; replace hFz := hF.lt; replace hBl := bvia hBl (by go_grown) hB3
    clear hB3
    go_wp2_with fail
    go_at_call 20
    refine (implMeetF c d p q _ tN).mono ?_
    rintro e w4 ⟨rfl, hB4⟩
    have hM := (Box.new w3 (mxI a x) (mnI b y) 24).below hB4
    have hM0 := hM.c0; have hM1 := hM.c1; have hMz := hM.lt
    replace hA := hA.via (by go_grown) hB4; replace hA0 := hA.c0; replace hA1 := hA.c1; replace hAz := hA.lt; replace hD := hD.via (by go_grown) hB4; replace hD0 := hD.c0; replace hD1 := hD.c1; replace hDz := hD.lt; replace hE := hE.via (by go_grown) hB4; replace hE0 := hE.c0; replace hE1 := hE.c1; replace hEz := hE.lt; replace hF := hF.via (by go_grown) hB4; replace hF0 := hF.c0; replace hF1 := hF.c1; replace hFz := hF.lt; replace hBl := bvia hBl (by go_grown) hB4
    clear hB4
    go_wp2_with fail
    go_at_call 21
    refine (specMeetT a b x y _ tM).mono ?_
    rintro e w5 ⟨rfl, hB5⟩
    replace hBl := bvia hBl (by go_grown) hB5
    clear hA hD hE hF hM
    go_wp2_with fail
    first | go_returns | (refine bodyPost_ret (by simp [results, Try.results5, go_sem, *]; try rfl) rfl ?_)
    exact ⟨rfl, balloc hBl _⟩
  go_at_call 20
  refine (implMeetT a b x y _ tM).mono ?_
  rintro e w3 ⟨rfl, hB3⟩
  replace hA := hA.via (by go_grown) hB3; replace hA0 := hA.c0; replace hA1 := hA.c1; replace hAz := hA.lt; replace hD := hD.via (by go_grown) hB3; replace hD0 := hD.c0; replace hD1 := hD.c1; replace hDz := hD.lt; replace hE := hE.via (by go_grown) hB3; replace hE0 := hE.c0; replace hE1 := hE.c1; replace hEz := hE.lt; replace hF := hF.via (by go_grown) hB3; replace hF0 := hF.c0; replace hF1 := hF.c1; replace hFz := hF.lt; replace hBl := bvia hBl (by go_grown) hB3
  clear hB3
  go_wp2_with fail
  go_at_call 20
  refine (implMeetT c d p q _ tN).mono ?_
  rintro e w4 ⟨rfl, hB4⟩
  have hM := (Box.new w3 (mxI a x) (mnI b y) 24).below hB4
  have hM0 := hM.c0; have hM1 := hM.c1; have hMz := hM.lt
  replace hA := hA.via (by go_grown) hB4; replace hA0 := hA.c0; replace hA1 := hA.c1; replace hAz := hA.lt; replace hD := hD.via (by go_grown) hB4; replace hD0 := hD.c0; replace hD1 := hD.c1; replace hDz := hD.lt; replace hE := hE.via (by go_grown) hB4; replace hE0 := hE.c0; replace hE1 := hE.c1; replace hEz := hE.lt; replace hF := hF.via (by go_grown) hB4; replace hF0 := hF.c0; replace hF1 := hF.c1; replace hFz := hF.lt; replace hBl := bvia hBl (by go_grown) hB4
  clear hB4
  go_wp2_with fail
  go_at_call 21
  refine (specMeetT a b x y _ tM).mono ?_
  rintro e w5 ⟨rfl, hB5⟩
  have hN := (Box.new w4 (mxI c p) (mnI d q) 24).below hB5
  have hN0 := hN.c0; have hN1 := hN.c1; have hNz := hN.lt
  replace hA := hA.via (by go_grown) hB5; replace hA0 := hA.c0; replace hA1 := hA.c1; replace hAz := hA.lt; replace hD := hD.via (by go_grown) hB5; replace hD0 := hD.c0; replace hD1 := hD.c1; replace hDz := hD.lt; replace hM := hM.via (by go_grown) hB5; replace hM0 := hM.c0; replace hM1 := hM.c1; replace hMz := hM.lt; replace hBl := bvia hBl (by go_grown) hB5
  clear hB5 hE hF hE0 hE1 hEz hF0 hF1 hFz
  have g1 : okB a b = true ∧ okB x y = true ∧ okB (mxI a x) (mnI b y) = true := by simpa [and_assoc] using tM
  have g2 : okB c d = true ∧ okB p q = true ∧ okB (mxI c p) (mnI d q) = true := by simpa [and_assoc] using tN
  have k1 : a ≤ mxI a x := by unfold mxI; omega
  have k2 : mnI b y ≤ b := by unfold mnI; omega
  have k3 : c ≤ mxI c p := by unfold mxI; omega
  have k4 : mnI d q ≤ d := by unfold mnI; omega
  obtain ⟨h1, _, hm⟩ := g1
  obtain ⟨h2, _, hn⟩ := g2
  clear tM tN
  generalize mxI a x = m0 at *
  generalize mnI b y = m1 at *
  generalize mxI c p = n0 at *
  generalize mnI d q = n1 at *
  obtain ⟨P1, Q1, u1, u2, v1, v2, hadd, hadd', hPQ1⟩ := pairAdd a b c d m0 m1 n0 n1 h1 h2 hm hn k1 k2 k3 k4
  obtain ⟨P2, Q2, u3, u4, v3, v4, hmul, hmul', hPQ2⟩ := pairMul a b c d m0 m1 n0 n1 h1 h2 hm hn k1 k2 k3 k4
  obtain ⟨P3, Q3, u5, u6, v5, v6, hdiv, hdiv', hPQ3⟩ := pairDiv a b c d m0 m1 n0 n1 h1 h2 hm hn k1 k2 k3 k4
  have K1 : Hid (P1 = false ∨ (P1 = true ∧ Q1 = true ∧ inB v1 v2 u1 u2 = true)) := hPQ1
  have K2 : Hid (P2 = false ∨ (P2 = true ∧ Q2 = true ∧ inB v3 v4 u3 u4 = true)) := hPQ2
  have K3 : Hid (P3 = false ∨ (P3 = true ∧ Q3 = true ∧ inB v5 v6 u5 u6 = true)) := hPQ3
  clear hPQ1 hPQ2 hPQ3 h1 h2 hm hn k1 k2 k3 k4
  have HA : Hid (∀ w : World, Calls Try.prog 9 #[.agg #[.int .i64 a, .int .i64 b], .agg #[.int .i64 c, .int .i64 d]] w fun e w' => e = .returned (.tuple #[.agg #[.int .i64 u1, .int .i64 u2], .bool P1]) ∧ Below w.heap.size w w') := hadd
  have HA' : Hid (∀ w : World, Calls Try.prog 9 #[.agg #[.int .i64 m0, .int .i64 m1], .agg #[.int .i64 n0, .int .i64 n1]] w fun e w' => e = .returned (.tuple #[.agg #[.int .i64 v1, .int .i64 v2], .bool Q1]) ∧ Below w.heap.size w w') := hadd'
  have HM : Hid (∀ w : World, Calls Try.prog 11 #[.agg #[.int .i64 a, .int .i64 b], .agg #[.int .i64 c, .int .i64 d]] w fun e w' => e = .returned (.tuple #[.agg #[.int .i64 u3, .int .i64 u4], .bool P2]) ∧ Below w.heap.size w w') := hmul
  have HM' : Hid (∀ w : World, Calls Try.prog 11 #[.agg #[.int .i64 m0, .int .i64 m1], .agg #[.int .i64 n0, .int .i64 n1]] w fun e w' => e = .returned (.tuple #[.agg #[.int .i64 v3, .int .i64 v4], .bool Q2]) ∧ Below w.heap.size w w') := hmul'
  have HV : Hid (∀ w : World, Calls Try.prog 12 #[.agg #[.int .i64 a, .int .i64 b], .agg #[.int .i64 c, .int .i64 d]] w fun e w' => e = .returned (.tuple #[.agg #[.int .i64 u5, .int .i64 u6], .bool P3]) ∧ Below w.heap.size w w') := hdiv
  have HV' : Hid (∀ w : World, Calls Try.prog 12 #[.agg #[.int .i64 m0, .int .i64 m1], .agg #[.int .i64 n0, .int .i64 n1]] w fun e w' => e = .returned (.tuple #[.agg #[.int .i64 v5, .int .i64 v6], .bool Q3]) ∧ Below w.heap.size w w') := hdiv'
  clear hadd hadd' hmul hmul' hdiv hdiv'
  go_wp2_with fail
  go_at_call 9
  refine (HA.out _).mono ?_
  rintro e w6 ⟨rfl, hB6⟩
  replace hA := hA.via (by go_grown) hB6; replace hA0 := hA.c0; replace hA1 := hA.c1; replace hAz := hA.lt; replace hD := hD.via (by go_grown) hB6; replace hD0 := hD.c0; replace hD1 := hD.c1; replace hDz := hD.lt; replace hM := hM.via (by go_grown) hB6; replace hM0 := hM.c0; replace hM1 := hM.c1; replace hMz := hM.lt; replace hN := hN.via (by go_grown) hB6; replace hN0 := hN.c0; replace hN1 := hN.c1; replace hNz := hN.lt; replace hBl := bvia hBl (by go_grown) hB6
  clear hB6
  go_wp2_with fail
  go_at_call 9
  refine (HA'.out _).mono ?_
  rintro e w7 ⟨rfl, hB7⟩
  have hU := (Box.new w6 u1 u2 24).below hB7
  have hU0 := hU.c0; have hU1 := hU.c1; have hUz := hU.lt
  replace hA := hA.via (by go_grown) hB7; replace hA0 := hA.c0; replace hA1 := hA.c1; replace hAz := hA.lt; replace hD := hD.via (by go_grown) hB7; replace hD0 := hD.c0; replace hD1 := hD.c1; replace hDz := hD.lt; replace hM := hM.via (by go_grown) hB7; replace hM0 := hM.c0; replace hM1 := hM.c1; replace hMz := hM.lt; replace hN := hN.via (by go_grown) hB7; replace hN0 := hN.c0; replace hN1 := hN.c1; replace hNz := hN.lt; replace hBl := bvia hBl (by go_grown) hB7
  clear hB7
  go_wp2_with fail
  go_at_call 11
  refine (HM.out _).mono ?_
  rintro e w8 ⟨rfl, hB8⟩
  have hV := (Box.new w7 v1 v2 24).below hB8
  have hV0 := hV.c0; have hV1 := hV.c1; have hVz := hV.lt
  replace hA := hA.via (by go_grown) hB8; replace hA0 := hA.c0; replace hA1 := hA.c1; replace hAz := hA.lt; replace hD := hD.via (by go_grown) hB8; replace hD0 := hD.c0; replace hD1 := hD.c1; replace hDz := hD.lt; replace hM := hM.via (by go_grown) hB8; replace hM0 := hM.c0; replace hM1 := hM.c1; replace hMz := hM.lt; replace hN := hN.via (by go_grown) hB8; replace hN0 := hN.c0; replace hN1 := hN.c1; replace hNz := hN.lt; replace hU := hU.via (by go_grown) hB8; replace hU0 := hU.c0; replace hU1 := hU.c1; replace hUz := hU.lt; replace hBl := bvia hBl (by go_grown) hB8
  clear hB8
  go_wp2_with fail
  go_at_call 11
  refine (HM'.out _).mono ?_
  rintro e w9 ⟨rfl, hB9⟩
  have hS := (Box.new w8 u3 u4 24).below hB9
  have hS0 := hS.c0; have hS1 := hS.c1; have hSz := hS.lt
  replace hA := hA.via (by go_grown) hB9; replace hA0 := hA.c0; replace hA1 := hA.c1; replace hAz := hA.lt; replace hD := hD.via (by go_grown) hB9; replace hD0 := hD.c0; replace hD1 := hD.c1; replace hDz := hD.lt; replace hM := hM.via (by go_grown) hB9; replace hM0 := hM.c0; replace hM1 := hM.c1; replace hMz := hM.lt; replace hN := hN.via (by go_grown) hB9; replace hN0 := hN.c0; replace hN1 := hN.c1; replace hNz := hN.lt; replace hU := hU.via (by go_grown) hB9; replace hU0 := hU.c0; replace hU1 := hU.c1; replace hUz := hU.lt; replace hV := hV.via (by go_grown) hB9; replace hV0 := hV.c0; replace hV1 := hV.c1; replace hVz := hV.lt; replace hBl := bvia hBl (by go_grown) hB9
  clear hB9
  go_wp2_with fail
  go_at_call 12
  refine (HV.out _).mono ?_
  rintro e w10 ⟨rfl, hB10⟩
  have hT := (Box.new w9 v3 v4 24).below hB10
  have hT0 := hT.c0; have hT1 := hT.c1; have hTz := hT.lt
  replace hM := hM.via (by go_grown) hB10; replace hM0 := hM.c0; replace hM1 := hM.c1; replace hMz := hM.lt; replace hN := hN.via (by go_grown) hB10; replace hN0 := hN.c0; replace hN1 := hN.c1; replace hNz := hN.lt; replace hU := hU.via (by go_grown) hB10; replace hU0 := hU.c0; replace hU1 := hU.c1; replace hUz := hU.lt; replace hV := hV.via (by go_grown) hB10; replace hV0 := hV.c0; replace hV1 := hV.c1; replace hVz := hV.lt; replace hS := hS.via (by go_grown) hB10; replace hS0 := hS.c0; replace hS1 := hS.c1; replace hSz := hS.lt; replace hBl := bvia hBl (by go_grown) hB10
  clear hB10 hA hD hA0 hA1 hAz hD0 hD1 hDz
  go_wp2_with fail
  go_at_call 12
  refine (HV'.out _).mono ?_
  rintro e w11 ⟨rfl, hB11⟩
  have hG := (Box.new w10 u5 u6 24).below hB11
  have hG0 := hG.c0; have hG1 := hG.c1; have hGz := hG.lt
  replace hU := hU.via (by go_grown) hB11; replace hU0 := hU.c0; replace hU1 := hU.c1; replace hUz := hU.lt; replace hV := hV.via (by go_grown) hB11; replace hV0 := hV.c0; replace hV1 := hV.c1; replace hVz := hV.lt; replace hS := hS.via (by go_grown) hB11; replace hS0 := hS.c0; replace hS1 := hS.c1; replace hSz := hS.lt; replace hT := hT.via (by go_grown) hB11; replace hT0 := hT.c0; replace hT1 := hT.c1; replace hTz := hT.lt; replace hBl := bvia hBl (by go_grown) hB11
  clear hB11 hM hN hM0 hM1 hMz hN0 hN1 hNz
  have hH := Box.new w11 v5 v6 24
  have hH0 := hH.c0; have hH1 := hH.c1; have hHz := hH.lt
  replace hU := hU.alloc (.cells #[.int .i64 (v5), .int .i64 (v6)] 24); replace hU0 := hU.c0; replace hU1 := hU.c1; replace hUz := hU.lt; replace hV := hV.alloc (.cells #[.int .i64 (v5), .int .i64 (v6)] 24); replace hV0 := hV.c0; replace hV1 := hV.c1; replace hVz := hV.lt; replace hS := hS.alloc (.cells #[.int .i64 (v5), .int .i64 (v6)] 24); replace hS0 := hS.c0; replace hS1 := hS.c1; replace hSz := hS.lt; replace hT := hT.alloc (.cells #[.int .i64 (v5), .int .i64 (v6)] 24); replace hT0 := hT.c0; replace hT1 := hT.c1; replace hTz := hT.lt; replace hG := hG.alloc (.cells #[.int .i64 (v5), .int .i64 (v6)] 24); replace hG0 := hG.c0; replace hG1 := hG.c1; replace hGz := hG.lt; replace hBl := balloc hBl (.cells #[.int .i64 (v5), .int .i64 (v6)] 24)
  go_upto_region 16 with fail
  rcases K1.out with rfl | ⟨rfl, rfl, i1⟩ <;> rcases K2.out with rfl | ⟨rfl, rfl, i2⟩ <;> rcases K3.out with rfl | ⟨rfl, rfl, i3⟩
  all_goals
    go_wp2_with (go_at_call 23; refine (implIn _ _ _ _ _).mono ?_; rintro e wn ⟨rfl, hb⟩; (replace hBl := bvia hBl (by go_grown) hb); (replace hU := hU.via (by go_grown) hb); (replace hU0 := hU.c0); (replace hU1 := hU.c1); (replace hUz := hU.lt); (replace hV := hV.via (by go_grown) hb); (replace hV0 := hV.c0); (replace hV1 := hV.c1); (replace hVz := hV.lt); (replace hS := hS.via (by go_grown) hb); (replace hS0 := hS.c0); (replace hS1 := hS.c1); (replace hSz := hS.lt); (replace hT := hT.via (by go_grown) hb); (replace hT0 := hT.c0); (replace hT1 := hT.c1); (replace hTz := hT.lt); (replace hG := hG.via (by go_grown) hb); (replace hG0 := hG.c0); (replace hG1 := hG.c1); (replace hGz := hG.lt); (replace hH := hH.via (by go_grown) hb); (replace hH0 := hH.c0); (replace hH1 := hH.c1); (replace hHz := hH.lt); (clear hb))
    all_goals
      first | go_returns | (refine bodyPost_ret (by simp [results, Try.results5, go_sem, *]; try rfl) rfl ?_)
      refine ⟨ret_bool (by first | rfl | (simp; done)), hBl⟩
theorem walk (s0 : Option Addr) (len0 cap0 : Nat) (s1 : Option Addr) (len1 cap1 : Nat) (w : World) (r0 : Row w.heap.size w s0 len0) (c0 : len0 ≤ cap0) (m0 : cap0 ≤ maxLen) (r1 : Row w.heap.size w s1 len1) (c1 : len1 ≤ cap1) (m1 : cap1 ≤ maxLen) :
    Calls Try.prog 5 #[.slice s0 len0 cap0, .slice s1 len1 cap1] w fun e w' => e = .returned (.bool true) ∧ Below w.heap.size w w' := by
  by_cases h : 1048576 < len0 ∨ 1048576 < len1
  · exact early s0 len0 cap0 s1 len1 cap1 w h
  · exact main s0 len0 cap0 s1 len1 cap1 w r0 c0 m0 r1 c1 m1 (by omega) (by omega)
theorem own : ownKnob Try.prog.godebug = none := by kernel_rfl
theorem laidOut : laidOutB Try.prog = true := by kernel_rfl
set_option maxRecDepth 100000 in
theorem lifted (os : Os) (started : os.Started) (H : Type) (enc : TypeId × Value → H) :
    ReturnsInHanded {} Try.checked os 5 .any (Rows.fnSpanOrderSpec.pre6 enc Try.prog Try.f5 Rows.fnSpanOrderRow.domain false) (Rows.fnSpanOrderSpec.post enc Try.prog Try.f5 false true false false) := by
  refine returnsInHanded_of_change (C := Try.checked) own started (by kernel_rfl) Try.func5
    (ChangeSpec.witness6 (enc := enc) (C := Try.checked) false ⟨#[], #[.slice none 0 0, .slice none 0 0], []⟩ 8 (by kernel_rfl) (by kernel_rfl) (by kernel_rfl) (by kernel_rfl)) ?_
  intro W base args ds gs before hval0 hW hcnd _
  have hval : ∀ (j : Nat) t v, Try.f5.params[j]? = some t → args[j]? = some v → Value.okWide Try.prog W .any base t v := hval0
  have hW' := hW
  obtain ⟨p, q, hA0, hV, rfl, hfz, hnd⟩ := hW
  have hA : DataW.TrodAll enc Try.prog W 0 (fun _ => true) true Try.f5.params.toList args.toList ds p := hA0
  rw [Try.params5] at hA hval
  obtain ⟨v0, vs0, d0, ds0, p0, q0, hargs, rfl, rfl, h0, r0⟩ := trodAll_cons hA
  obtain ⟨v1, vs1, d1, ds1, p1, q1, rfl, rfl, rfl, h1, r1⟩ := trodAll_cons r0
  obtain ⟨rfl, rfl, rfl⟩ := trodAll_nil r1
  obtain rfl : args = #[v0, v1] := by cases args; simp_all
  obtain ⟨rfl, rfl⟩ := trodVars_none hV
  have k0 := h0
  have lt0 : ∀ x ∈ p0, x.block < W.heap.size := by obtain ⟨m, hm⟩ := k0; exact DataW.trod_lt m _ _ _ hm
  obtain ⟨a0, len0, cap0, rfl⟩ := okWide_slice Try.underlying22 (hval 0 22 v0 rfl rfl)
  have w0 := rowOf (elemT := 5) Try.underlying22 Try.underlying5 (by kernel_rfl) h0
  have k1 := h1
  have lt1 : ∀ x ∈ p1, x.block < W.heap.size := by obtain ⟨m, hm⟩ := k1; exact DataW.trod_lt m _ _ _ hm
  obtain ⟨a1, len1, cap1, rfl⟩ := okWide_slice Try.underlying22 (hval 1 22 v1 rfl rfl)
  have w1 := rowOf (elemT := 5) Try.underlying22 Try.underlying5 (by kernel_rfl) h1
  clear hA0 hval0
  refine (walk a0 len0 cap0 a1 len1 cap1 W w0.1 w0.2.1 w0.2.2 w1.1 w1.2.1 w1.2.2).mono fun e W' ⟨he, bel⟩ => ?_
  subst he
  exact ⟨_, rfl, _, _, _, [], _, [], hW', trodAll_mk1 (shut_bool Try.underlying4 _), (trodAll_cons_mk (Below.trod laidOut (by kernel_rfl) (of_decide_eq_true (by kernel_rfl)) k0 bel lt0) (trodAll_cons_mk (Below.trod laidOut (by kernel_rfl) (of_decide_eq_true (by kernel_rfl)) k1 bel lt1) trodAll_mk0)), rfl, bel.frame _, fun h => by cases h⟩
theorem over : Rows.fnSpanOrderRow.holds Try.pinned (OpenSpec.ofChange Rows.fnSpanOrderSpec) :=
  OpenClaim.holds_of_wide 5 Try.f5 rfl rfl rfl rfl rfl rfl rfl ⟨rfl, rfl, rfl, rfl, rfl⟩ rfl rfl rfl rfl rfl (by kernel_rfl) Try.func5 (by kernel_rfl)
    (of_decide_eq_true (by kernel_rfl)) (by unfold Func.isWrapper; first | (rw [if_pos (by decide +kernel)]; kernel_rfl) | (rw [if_neg (by decide +kernel)]; exact ⟨rfl, rfl⟩))
    (fun os started H enc _ => lifted os started H enc)
end FnSpanOrder
theorem lawSpanOrder_holds : Rows.FnSpanOrderSaid := FnSpanOrder.over
#print axioms lawSpanOrder_holds
end Go.Proofs.Ytdlkmekdeiajhaa
