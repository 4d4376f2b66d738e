/-
  For every two slices of bytes: the join of the two drawn ranges has both and is in whatever has both, what they have in common is in both, and a range is in itself, as the law's Go text says; no condition.
-/
import Derived.Test.YtdlkmekdeiajhaaKitE
import Derived.Test.YtdlkmekdeiajhaaSpanF
import Derived.Deep.DeepCutAuto
import Derived.OpenShut
import Derived.ChangeOld
import Derived.Lib.SmallJoins
namespace Go.Proofs.Ytdlkmekdeiajhaa
open Go.ChangeShapes Go.WideShapes Go.ChangeAt Go.RowKit Go.Joins
set_option linter.unusedSimpArgs false
set_option linter.unusedVariables false


theorem join_in (a b c d x y : Int) (h1 : inB a b x y = true) (h2 : inB c d x y = true) : inB (mnI a c) (mxI b d) x y = true := by
  obtain ⟨k1, k2, k3, k4⟩ := inB_ok _ _ _ _ h1
  obtain ⟨l1, _, l3, l4⟩ := inB_ok _ _ _ _ h2
  rw [okB_iff] at k1 l1
  have k2' := (okB_iff _ _).1 k2
  refine inB_mk _ _ _ _ (okB_mk _ _ ?_) k2 ?_ ?_ <;> (try unfold mnI) <;> (try unfold mxI) <;> omega
theorem in_meet (a b c d x y : Int) (hM : okB (mxI a c) (mnI b d) = true) (h1 : inB x y a b = true) (h2 : inB x y c d = true) : inB x y (mxI a c) (mnI b d) = true := by
  obtain ⟨k1, k2, k3, k4⟩ := inB_ok _ _ _ _ h1
  obtain ⟨l1, _, l3, l4⟩ := inB_ok _ _ _ _ h2
  refine inB_mk _ _ _ _ k1 hM ?_ ?_
  · unfold mxI; omega
  · unfold mnI; omega
theorem in_join_l (a b c d : Int) (h1 : okB a b = true) (h2 : okB c d = true) : inB a b (mnI a c) (mxI b d) = true := by
  have k1 := (okB_iff _ _).1 h1
  have k2 := (okB_iff _ _).1 h2
  refine inB_mk _ _ _ _ h1 (okB_mk _ _ ?_) ?_ ?_ <;> (try unfold mnI) <;> (try unfold mxI) <;> omega
theorem in_join_r (a b c d : Int) (h1 : okB a b = true) (h2 : okB c d = true) : inB c d (mnI a c) (mxI b d) = true := by
  have k1 := (okB_iff _ _).1 h1
  have k2 := (okB_iff _ _).1 h2
  refine inB_mk _ _ _ _ h2 (okB_mk _ _ ?_) ?_ ?_ <;> (try unfold mnI) <;> (try unfold mxI) <;> omega
theorem meet_in_l (a b c d : Int) (h1 : okB a b = true) (h2 : okB c d = true) (hM : okB (mxI a c) (mnI b d) = true) : inB (mxI a c) (mnI b d) a b = true := by
  refine inB_mk _ _ _ _ hM h1 ?_ ?_
  · unfold mxI; omega
  · unfold mnI; omega
theorem meet_in_r (a b c d : Int) (h1 : okB a b = true) (h2 : okB c d = true) (hM : okB (mxI a c) (mnI b d) = true) : inB (mxI a c) (mnI b d) c d = true := by
  refine inB_mk _ _ _ _ hM h2 ?_ ?_
  · unfold mxI; omega
  · unfold mnI; omega
theorem gap (a b c d : Int) (h1 : okB a b = true) (h2 : okB c d = true) (hM : okB (mxI a c) (mnI b d) = false) : b < c ∨ d < a := by
  have k1 := (okB_iff _ _).1 h1
  have k2 := (okB_iff _ _).1 h2
  rw [okB_not] at hM
  unfold mxI mnI at hM
  omega

namespace FnSpanJoin
theorem early (s0 : Option Addr) (len0 cap0 : Nat) (s1 : Option Addr) (len1 cap1 : Nat) (w : World) (h : 1048576 < len0 ∨ 1048576 < len1) :
    Calls Try.prog 4 #[.slice s0 len0 cap0, .slice s1 len1 cap1] w fun e w' => e = .returned (.bool true) ∧ Below w.heap.size w w' := by
  by_cases h0 : 1048576 < len0
  · have d0 : decide ((1048576 : Int) < (len0 : Int)) = true := by simp; omega
    go_enter Try.func4, Try.ntmps4
    go_wp2
    first | go_returns | (refine bodyPost_ret (by simp [results, Try.results4, go_sem, *]; try rfl) rfl ?_)
    exact ⟨rfl, Below.refl _ _⟩
  · have h1 : 1048576 < len1 := by omega
    have d0 : decide ((1048576 : Int) < (len0 : Int)) = false := by simp; omega
    have d1 : decide ((1048576 : Int) < (len1 : Int)) = true := by simp; omega
    go_enter Try.func4, Try.ntmps4
    go_wp2
    first | go_returns | (refine bodyPost_ret (by simp [results, Try.results4, go_sem, *]; try rfl) rfl ?_)
    exact ⟨rfl, Below.refl _ _⟩
set_option maxRecDepth 10000 in
set_option maxHeartbeats 4000000 in
theorem main (s0 : Option Addr) (len0 cap0 : Nat) (s1 : Option Addr) (len1 cap1 : Nat) (w : World) (r0 : Row w.heap.size w s0 len0) (c0 : len0 ≤ cap0) (m0 : cap0 ≤ maxLen) (r1 : Row w.heap.size w s1 len1) (c1 : len1 ≤ cap1) (m1 : cap1 ≤ maxLen) (h0 : len0 ≤ 1048576) (h1 : len1 ≤ 1048576) :
    Calls Try.prog 4 #[.slice s0 len0 cap0, .slice s1 len1 cap1] w fun e w' => e = .returned (.bool true) ∧ Below w.heap.size w w' := by
  have R0 : Hid (Row w.heap.size w s0 len0) := r0
  have R1 : Hid (Row w.heap.size w s1 len1) := r1
  clear r0 r1
  have d0 : decide ((1048576 : Int) < (len0 : Int)) = false := by simp; omega
  have d1 : decide ((1048576 : Int) < (len1 : Int)) = false := by simp; omega
  go_enter Try.func4, Try.ntmps4
  go_wp2_with fail
  go_at_call 17
  refine (drawSpanJoin s0 len0 cap0 w R0.out c0 m0).mono ?_
  rintro e w1 ⟨a, b, c, d, rfl, ha0, ha1, hb0, hb1, hc0, hc1, hd0, hd1, hB1⟩
  go_wp2_with fail
  go_at_call 18
  refine (drawSpanIn s1 len1 cap1 _ (R1.out.more (bstep hB1 (by go_grown))) c1 m1).mono ?_
  rintro e w2 ⟨x, y, p, q, rfl, hx0, hx1, hy0, hy1, hp0, hp1, hq0, hq1, hB2⟩
  have hA := (Box.new w1 a b 24).alloc (.cells #[.int .i64 (c), .int .i64 (d)] 24)
  have hD := Box.new (w1.alloc (.cells #[.int .i64 (a), .int .i64 (b)] 24)) c d 24
  simp only [World.size_alloc] at hD
  have hBl : Below w.heap.size w w2 := bvia hB1 (by go_grown) hB2
  replace hA := hA.below hB2
  replace hD := hD.below hB2
  clear hB1 hB2
  replace hA := (hA.alloc (.cells #[.int .i64 (x), .int .i64 (y)] 24)).alloc (.cells #[.int .i64 (p), .int .i64 (q)] 24)
  replace hD := (hD.alloc (.cells #[.int .i64 (x), .int .i64 (y)] 24)).alloc (.cells #[.int .i64 (p), .int .i64 (q)] 24)
  have hE := (Box.new w2 x y 24).alloc (.cells #[.int .i64 (p), .int .i64 (q)] 24)
  replace hBl := balloc (balloc hBl (.cells #[.int .i64 (x), .int .i64 (y)] 24)) (.cells #[.int .i64 (p), .int .i64 (q)] 24)
  have hA0 := hA.c0; have hA1 := hA.c1; have hAz := hA.lt; have hD0 := hD.c0; have hD1 := hD.c1; have hDz := hD.lt; have hE0 := hE.c0; have hE1 := hE.c1; have hEz := hE.lt
  go_wp2_with fail
  clear hp0 hp1 hq0 hq1 hx0 hx1 hy0 hy1
  by_cases hT' : (okB a b && okB c d) = true
  · have hT := hT'
    clear hT'
    have h3 : okB a b = true := by cases h : okB a b <;> simp_all
    have h4 : okB c d = true := by cases h : okB c d <;> simp_all
    have h3' := (okB_iff a b).1 h3
    have h4' := (okB_iff c d).1 h4
    have f1 : inB a b (mnI a c) (mxI b d) = true := in_join_l a b c d h3 h4
    have f2 : inB c d (mnI a c) (mxI b d) = true := in_join_r a b c d h3 h4
    have f3 : inB a b a b = true := inB_mk a b a b h3 h3 (by omega) (by omega)
    cases hM3 : okB (mxI a c) (mnI b d)
    · have hM : (okB a b && okB c d && okB (mxI a c) (mnI b d)) = false := by rw [hM3]; simp
      have hgap := gap a b c d h3 h4 hM3
      go_at_call 19
      refine (implJoinT a b c d _ hT).mono ?_
      rintro e w3 ⟨rfl, hB3⟩
      replace hA := hA.via (by go_grown) hB3; replace hA0 := hA.c0; replace hA1 := hA.c1; replace hAz := hA.lt; replace hD := hD.via (by go_grown) hB3; replace hD0 := hD.c0; replace hD1 := hD.c1; replace hDz := hD.lt; replace hE := hE.via (by go_grown) hB3; replace hE0 := hE.c0; replace hE1 := hE.c1; replace hEz := hE.lt; replace hBl := bvia hBl (by go_grown) hB3
      clear hB3
      go_wp2_with fail
      go_at_call 20
      refine (implMeetF a b c d _ hM).mono ?_
      rintro e w4 ⟨rfl, hB4⟩
      have hJ := (Box.new w3 (mnI a c) (mxI b d) 24).below hB4
      have hJ0 := hJ.c0; have hJ1 := hJ.c1; have hJz := hJ.lt
      replace hA := hA.via (by go_grown) hB4; replace hA0 := hA.c0; replace hA1 := hA.c1; replace hAz := hA.lt; replace hD := hD.via (by go_grown) hB4; replace hD0 := hD.c0; replace hD1 := hD.c1; replace hDz := hD.lt; replace hE := hE.via (by go_grown) hB4; replace hE0 := hE.c0; replace hE1 := hE.c1; replace hEz := hE.lt; replace hBl := bvia hBl (by go_grown) hB4
      clear hB4
      go_wp2_with fail
      go_at_call 21
      refine (specMeetF a b c d _ hM).mono ?_
      rintro e w5 ⟨rfl, hB5⟩
      have hN := (Box.new w4 (0) (0) 24).below hB5
      have hN0 := hN.c0; have hN1 := hN.c1; have hNz := hN.lt
      replace hA := hA.via (by go_grown) hB5; replace hA0 := hA.c0; replace hA1 := hA.c1; replace hAz := hA.lt; replace hD := hD.via (by go_grown) hB5; replace hD0 := hD.c0; replace hD1 := hD.c1; replace hDz := hD.lt; replace hE := hE.via (by go_grown) hB5; replace hE0 := hE.c0; replace hE1 := hE.c1; replace hEz := hE.lt; replace hJ := hJ.via (by go_grown) hB5; replace hJ0 := hJ.c0; replace hJ1 := hJ.c1; replace hJz := hJ.lt; replace hBl := bvia hBl (by go_grown) hB5
      clear hB5
      have hX := Box.new w5 (0) (0) 24
      have hX0 := hX.c0; have hX1 := hX.c1; have hXz := hX.lt
      replace hA := hA.alloc (.cells #[.int .i64 (0), .int .i64 (0)] 24); replace hA0 := hA.c0; replace hA1 := hA.c1; replace hAz := hA.lt; replace hD := hD.alloc (.cells #[.int .i64 (0), .int .i64 (0)] 24); replace hD0 := hD.c0; replace hD1 := hD.c1; replace hDz := hD.lt; replace hE := hE.alloc (.cells #[.int .i64 (0), .int .i64 (0)] 24); replace hE0 := hE.c0; replace hE1 := hE.c1; replace hEz := hE.lt; replace hJ := hJ.alloc (.cells #[.int .i64 (0), .int .i64 (0)] 24); replace hJ0 := hJ.c0; replace hJ1 := hJ.c1; replace hJz := hJ.lt; replace hN := hN.alloc (.cells #[.int .i64 (0), .int .i64 (0)] 24); replace hN0 := hN.c0; replace hN1 := hN.c1; replace hNz := hN.lt; replace hBl := balloc hBl (.cells #[.int .i64 (0), .int .i64 (0)] 24)
      go_wp2_with fail
      have hjs := fun w => specJoinT a b c d w hT
      go_region_held3 (fun w' => w'.cell? ⟨w1.heap.size, 0, none⟩ = some (.int .i64 (a)) ∧ w'.cell? ⟨w1.heap.size, 1, none⟩ = some (.int .i64 (b)) ∧ w'.cell? ⟨w1.heap.size + 1, 0, none⟩ = some (.int .i64 (c)) ∧ w'.cell? ⟨w1.heap.size + 1, 1, none⟩ = some (.int .i64 (d)) ∧ w'.cell? ⟨w3.heap.size, 0, none⟩ = some (.int .i64 (mnI a c)) ∧ w'.cell? ⟨w3.heap.size, 1, none⟩ = some (.int .i64 (mxI b d)) ∧ w'.cell? ⟨w4.heap.size, 0, none⟩ = some (.int .i64 (0)) ∧ w'.cell? ⟨w4.heap.size, 1, none⟩ = some (.int .i64 (0)) ∧ w'.cell? ⟨w5.heap.size, 0, none⟩ = some (.int .i64 (0)) ∧ w'.cell? ⟨w5.heap.size, 1, none⟩ = some (.int .i64 (0))) (simp [*, go_sem, World.cell?_alloc_some, World.cell?_setCell_far, apart1, apart2, apart3, apart4, apart5, apart6]) (first | (go_at_call 22; refine (hjs _).mono ?_; rintro e wn ⟨rfl, hb⟩; (replace hBl := bvia hBl (by go_grown) hb); (replace hA := hA.via (by go_grown) hb); (replace hA0 := hA.c0); (replace hA1 := hA.c1); (replace hAz := hA.lt); (replace hD := hD.via (by go_grown) hb); (replace hD0 := hD.c0); (replace hD1 := hD.c1); (replace hDz := hD.lt); (replace hE := hE.via (by go_grown) hb); (replace hE0 := hE.c0); (replace hE1 := hE.c1); (replace hEz := hE.lt); (replace hJ := hJ.via (by go_grown) hb); (replace hJ0 := hJ.c0); (replace hJ1 := hJ.c1); (replace hJz := hJ.lt); (replace hN := hN.via (by go_grown) hb); (replace hN0 := hN.c0); (replace hN1 := hN.c1); (replace hNz := hN.lt); (replace hX := hX.via (by go_grown) hb); (replace hX0 := hX.c0); (replace hX1 := hX.c1); (replace hXz := hX.lt); (clear hb)))
      all_goals
        go_upto_region 14 with (first | (go_at_call 15; refine (specOk _ _ _).mono ?_; rintro e wn ⟨rfl, hb⟩; (replace hBl := bvia hBl (by go_grown) hb); (replace hA := hA.via (by go_grown) hb); (replace hA0 := hA.c0); (replace hA1 := hA.c1); (replace hAz := hA.lt); (replace hD := hD.via (by go_grown) hb); (replace hD0 := hD.c0); (replace hD1 := hD.c1); (replace hDz := hD.lt); (replace hE := hE.via (by go_grown) hb); (replace hE0 := hE.c0); (replace hE1 := hE.c1); (replace hEz := hE.lt); (replace hJ := hJ.via (by go_grown) hb); (replace hJ0 := hJ.c0); (replace hJ1 := hJ.c1); (replace hJz := hJ.lt); (replace hN := hN.via (by go_grown) hb); (replace hN0 := hN.c0); (replace hN1 := hN.c1); (replace hNz := hN.lt); (replace hX := hX.via (by go_grown) hb); (replace hX0 := hX.c0); (replace hX1 := hX.c1); (replace hXz := hX.lt); (clear hb)) | (go_at_call 23; refine (implIn _ _ _ _ _).mono ?_; rintro e wn ⟨rfl, hb⟩; (replace hBl := bvia hBl (by go_grown) hb); (replace hA := hA.via (by go_grown) hb); (replace hA0 := hA.c0); (replace hA1 := hA.c1); (replace hAz := hA.lt); (replace hD := hD.via (by go_grown) hb); (replace hD0 := hD.c0); (replace hD1 := hD.c1); (replace hDz := hD.lt); (replace hE := hE.via (by go_grown) hb); (replace hE0 := hE.c0); (replace hE1 := hE.c1); (replace hEz := hE.lt); (replace hJ := hJ.via (by go_grown) hb); (replace hJ0 := hJ.c0); (replace hJ1 := hJ.c1); (replace hJz := hJ.lt); (replace hN := hN.via (by go_grown) hb); (replace hN0 := hN.c0); (replace hN1 := hN.c1); (replace hNz := hN.lt); (replace hX := hX.via (by go_grown) hb); (replace hX0 := hX.c0); (replace hX1 := hX.c1); (replace hXz := hX.lt); (clear hb)))
        by_cases hg1 : b < c
        · cases p1 : inB a b x y
          · go_wp2_with (first | (go_at_call 15; refine (specOk _ _ _).mono ?_; rintro e wn ⟨rfl, hb⟩; (replace hBl := bvia hBl (by go_grown) hb); (replace hA := hA.via (by go_grown) hb); (replace hA0 := hA.c0); (replace hA1 := hA.c1); (replace hAz := hA.lt); (replace hD := hD.via (by go_grown) hb); (replace hD0 := hD.c0); (replace hD1 := hD.c1); (replace hDz := hD.lt); (replace hE := hE.via (by go_grown) hb); (replace hE0 := hE.c0); (replace hE1 := hE.c1); (replace hEz := hE.lt); (replace hJ := hJ.via (by go_grown) hb); (replace hJ0 := hJ.c0); (replace hJ1 := hJ.c1); (replace hJz := hJ.lt); (replace hN := hN.via (by go_grown) hb); (replace hN0 := hN.c0); (replace hN1 := hN.c1); (replace hNz := hN.lt); (replace hX := hX.via (by go_grown) hb); (replace hX0 := hX.c0); (replace hX1 := hX.c1); (replace hXz := hX.lt); (clear hb)) | (go_at_call 23; refine (implIn _ _ _ _ _).mono ?_; rintro e wn ⟨rfl, hb⟩; (replace hBl := bvia hBl (by go_grown) hb); (replace hA := hA.via (by go_grown) hb); (replace hA0 := hA.c0); (replace hA1 := hA.c1); (replace hAz := hA.lt); (replace hD := hD.via (by go_grown) hb); (replace hD0 := hD.c0); (replace hD1 := hD.c1); (replace hDz := hD.lt); (replace hE := hE.via (by go_grown) hb); (replace hE0 := hE.c0); (replace hE1 := hE.c1); (replace hEz := hE.lt); (replace hJ := hJ.via (by go_grown) hb); (replace hJ0 := hJ.c0); (replace hJ1 := hJ.c1); (replace hJz := hJ.lt); (replace hN := hN.via (by go_grown) hb); (replace hN0 := hN.c0); (replace hN1 := hN.c1); (replace hNz := hN.lt); (replace hX := hX.via (by go_grown) hb); (replace hX0 := hX.c0); (replace hX1 := hX.c1); (replace hXz := hX.lt); (clear hb)))
            all_goals
              first | go_returns | (refine bodyPost_ret (by simp [results, Try.results4, go_sem, *]; try rfl) rfl ?_)
              refine ⟨ret_bool (by first | rfl | (simp; done) | (simp; omega)), hBl⟩
          · cases p2 : inB c d x y
            · go_wp2_with (first | (go_at_call 15; refine (specOk _ _ _).mono ?_; rintro e wn ⟨rfl, hb⟩; (replace hBl := bvia hBl (by go_grown) hb); (replace hA := hA.via (by go_grown) hb); (replace hA0 := hA.c0); (replace hA1 := hA.c1); (replace hAz := hA.lt); (replace hD := hD.via (by go_grown) hb); (replace hD0 := hD.c0); (replace hD1 := hD.c1); (replace hDz := hD.lt); (replace hE := hE.via (by go_grown) hb); (replace hE0 := hE.c0); (replace hE1 := hE.c1); (replace hEz := hE.lt); (replace hJ := hJ.via (by go_grown) hb); (replace hJ0 := hJ.c0); (replace hJ1 := hJ.c1); (replace hJz := hJ.lt); (replace hN := hN.via (by go_grown) hb); (replace hN0 := hN.c0); (replace hN1 := hN.c1); (replace hNz := hN.lt); (replace hX := hX.via (by go_grown) hb); (replace hX0 := hX.c0); (replace hX1 := hX.c1); (replace hXz := hX.lt); (clear hb)) | (go_at_call 23; refine (implIn _ _ _ _ _).mono ?_; rintro e wn ⟨rfl, hb⟩; (replace hBl := bvia hBl (by go_grown) hb); (replace hA := hA.via (by go_grown) hb); (replace hA0 := hA.c0); (replace hA1 := hA.c1); (replace hAz := hA.lt); (replace hD := hD.via (by go_grown) hb); (replace hD0 := hD.c0); (replace hD1 := hD.c1); (replace hDz := hD.lt); (replace hE := hE.via (by go_grown) hb); (replace hE0 := hE.c0); (replace hE1 := hE.c1); (replace hEz := hE.lt); (replace hJ := hJ.via (by go_grown) hb); (replace hJ0 := hJ.c0); (replace hJ1 := hJ.c1); (replace hJz := hJ.lt); (replace hN := hN.via (by go_grown) hb); (replace hN0 := hN.c0); (replace hN1 := hN.c1); (replace hNz := hN.lt); (replace hX := hX.via (by go_grown) hb); (replace hX0 := hX.c0); (replace hX1 := hX.c1); (replace hXz := hX.lt); (clear hb)))
              all_goals
                first | go_returns | (refine bodyPost_ret (by simp [results, Try.results4, go_sem, *]; try rfl) rfl ?_)
                refine ⟨ret_bool (by first | rfl | (simp; done) | (simp; omega)), hBl⟩
            · have p3 : inB (mnI a c) (mxI b d) x y = true := join_in a b c d x y p1 p2
              go_wp2_with (first | (go_at_call 15; refine (specOk _ _ _).mono ?_; rintro e wn ⟨rfl, hb⟩; (replace hBl := bvia hBl (by go_grown) hb); (replace hA := hA.via (by go_grown) hb); (replace hA0 := hA.c0); (replace hA1 := hA.c1); (replace hAz := hA.lt); (replace hD := hD.via (by go_grown) hb); (replace hD0 := hD.c0); (replace hD1 := hD.c1); (replace hDz := hD.lt); (replace hE := hE.via (by go_grown) hb); (replace hE0 := hE.c0); (replace hE1 := hE.c1); (replace hEz := hE.lt); (replace hJ := hJ.via (by go_grown) hb); (replace hJ0 := hJ.c0); (replace hJ1 := hJ.c1); (replace hJz := hJ.lt); (replace hN := hN.via (by go_grown) hb); (replace hN0 := hN.c0); (replace hN1 := hN.c1); (replace hNz := hN.lt); (replace hX := hX.via (by go_grown) hb); (replace hX0 := hX.c0); (replace hX1 := hX.c1); (replace hXz := hX.lt); (clear hb)) | (go_at_call 23; refine (implIn _ _ _ _ _).mono ?_; rintro e wn ⟨rfl, hb⟩; (replace hBl := bvia hBl (by go_grown) hb); (replace hA := hA.via (by go_grown) hb); (replace hA0 := hA.c0); (replace hA1 := hA.c1); (replace hAz := hA.lt); (replace hD := hD.via (by go_grown) hb); (replace hD0 := hD.c0); (replace hD1 := hD.c1); (replace hDz := hD.lt); (replace hE := hE.via (by go_grown) hb); (replace hE0 := hE.c0); (replace hE1 := hE.c1); (replace hEz := hE.lt); (replace hJ := hJ.via (by go_grown) hb); (replace hJ0 := hJ.c0); (replace hJ1 := hJ.c1); (replace hJz := hJ.lt); (replace hN := hN.via (by go_grown) hb); (replace hN0 := hN.c0); (replace hN1 := hN.c1); (replace hNz := hN.lt); (replace hX := hX.via (by go_grown) hb); (replace hX0 := hX.c0); (replace hX1 := hX.c1); (replace hXz := hX.lt); (clear hb)))
              all_goals
                first | go_returns | (refine bodyPost_ret (by simp [results, Try.results4, go_sem, *]; try rfl) rfl ?_)
                refine ⟨ret_bool (by first | rfl | (simp; done) | (simp; omega)), hBl⟩
        · have hg2 : d < a := by omega
          cases p1 : inB a b x y
          · go_wp2_with (first | (go_at_call 15; refine (specOk _ _ _).mono ?_; rintro e wn ⟨rfl, hb⟩; (replace hBl := bvia hBl (by go_grown) hb); (replace hA := hA.via (by go_grown) hb); (replace hA0 := hA.c0); (replace hA1 := hA.c1); (replace hAz := hA.lt); (replace hD := hD.via (by go_grown) hb); (replace hD0 := hD.c0); (replace hD1 := hD.c1); (replace hDz := hD.lt); (replace hE := hE.via (by go_grown) hb); (replace hE0 := hE.c0); (replace hE1 := hE.c1); (replace hEz := hE.lt); (replace hJ := hJ.via (by go_grown) hb); (replace hJ0 := hJ.c0); (replace hJ1 := hJ.c1); (replace hJz := hJ.lt); (replace hN := hN.via (by go_grown) hb); (replace hN0 := hN.c0); (replace hN1 := hN.c1); (replace hNz := hN.lt); (replace hX := hX.via (by go_grown) hb); (replace hX0 := hX.c0); (replace hX1 := hX.c1); (replace hXz := hX.lt); (clear hb)) | (go_at_call 23; refine (implIn _ _ _ _ _).mono ?_; rintro e wn ⟨rfl, hb⟩; (replace hBl := bvia hBl (by go_grown) hb); (replace hA := hA.via (by go_grown) hb); (replace hA0 := hA.c0); (replace hA1 := hA.c1); (replace hAz := hA.lt); (replace hD := hD.via (by go_grown) hb); (replace hD0 := hD.c0); (replace hD1 := hD.c1); (replace hDz := hD.lt); (replace hE := hE.via (by go_grown) hb); (replace hE0 := hE.c0); (replace hE1 := hE.c1); (replace hEz := hE.lt); (replace hJ := hJ.via (by go_grown) hb); (replace hJ0 := hJ.c0); (replace hJ1 := hJ.c1); (replace hJz := hJ.lt); (replace hN := hN.via (by go_grown) hb); (replace hN0 := hN.c0); (replace hN1 := hN.c1); (replace hNz := hN.lt); (replace hX := hX.via (by go_grown) hb); (replace hX0 := hX.c0); (replace hX1 := hX.c1); (replace hXz := hX.lt); (clear hb)))
            all_goals
              first | go_returns | (refine bodyPost_ret (by simp [results, Try.results4, go_sem, *]; try rfl) rfl ?_)
              refine ⟨ret_bool (by first | rfl | (simp; done) | (simp; omega)), hBl⟩
          · cases p2 : inB c d x y
            · go_wp2_with (first | (go_at_call 15; refine (specOk _ _ _).mono ?_; rintro e wn ⟨rfl, hb⟩; (replace hBl := bvia hBl (by go_grown) hb); (replace hA := hA.via (by go_grown) hb); (replace hA0 := hA.c0); (replace hA1 := hA.c1); (replace hAz := hA.lt); (replace hD := hD.via (by go_grown) hb); (replace hD0 := hD.c0); (replace hD1 := hD.c1); (replace hDz := hD.lt); (replace hE := hE.via (by go_grown) hb); (replace hE0 := hE.c0); (replace hE1 := hE.c1); (replace hEz := hE.lt); (replace hJ := hJ.via (by go_grown) hb); (replace hJ0 := hJ.c0); (replace hJ1 := hJ.c1); (replace hJz := hJ.lt); (replace hN := hN.via (by go_grown) hb); (replace hN0 := hN.c0); (replace hN1 := hN.c1); (replace hNz := hN.lt); (replace hX := hX.via (by go_grown) hb); (replace hX0 := hX.c0); (replace hX1 := hX.c1); (replace hXz := hX.lt); (clear hb)) | (go_at_call 23; refine (implIn _ _ _ _ _).mono ?_; rintro e wn ⟨rfl, hb⟩; (replace hBl := bvia hBl (by go_grown) hb); (replace hA := hA.via (by go_grown) hb); (replace hA0 := hA.c0); (replace hA1 := hA.c1); (replace hAz := hA.lt); (replace hD := hD.via (by go_grown) hb); (replace hD0 := hD.c0); (replace hD1 := hD.c1); (replace hDz := hD.lt); (replace hE := hE.via (by go_grown) hb); (replace hE0 := hE.c0); (replace hE1 := hE.c1); (replace hEz := hE.lt); (replace hJ := hJ.via (by go_grown) hb); (replace hJ0 := hJ.c0); (replace hJ1 := hJ.c1); (replace hJz := hJ.lt); (replace hN := hN.via (by go_grown) hb); (replace hN0 := hN.c0); (replace hN1 := hN.c1); (replace hNz := hN.lt); (replace hX := hX.via (by go_grown) hb); (replace hX0 := hX.c0); (replace hX1 := hX.c1); (replace hXz := hX.lt); (clear hb)))
              all_goals
                first | go_returns | (refine bodyPost_ret (by simp [results, Try.results4, go_sem, *]; try rfl) rfl ?_)
                refine ⟨ret_bool (by first | rfl | (simp; done) | (simp; omega)), hBl⟩
            · have p3 : inB (mnI a c) (mxI b d) x y = true := join_in a b c d x y p1 p2
              go_wp2_with (first | (go_at_call 15; refine (specOk _ _ _).mono ?_; rintro e wn ⟨rfl, hb⟩; (replace hBl := bvia hBl (by go_grown) hb); (replace hA := hA.via (by go_grown) hb); (replace hA0 := hA.c0); (replace hA1 := hA.c1); (replace hAz := hA.lt); (replace hD := hD.via (by go_grown) hb); (replace hD0 := hD.c0); (replace hD1 := hD.c1); (replace hDz := hD.lt); (replace hE := hE.via (by go_grown) hb); (replace hE0 := hE.c0); (replace hE1 := hE.c1); (replace hEz := hE.lt); (replace hJ := hJ.via (by go_grown) hb); (replace hJ0 := hJ.c0); (replace hJ1 := hJ.c1); (replace hJz := hJ.lt); (replace hN := hN.via (by go_grown) hb); (replace hN0 := hN.c0); (replace hN1 := hN.c1); (replace hNz := hN.lt); (replace hX := hX.via (by go_grown) hb); (replace hX0 := hX.c0); (replace hX1 := hX.c1); (replace hXz := hX.lt); (clear hb)) | (go_at_call 23; refine (implIn _ _ _ _ _).mono ?_; rintro e wn ⟨rfl, hb⟩; (replace hBl := bvia hBl (by go_grown) hb); (replace hA := hA.via (by go_grown) hb); (replace hA0 := hA.c0); (replace hA1 := hA.c1); (replace hAz := hA.lt); (replace hD := hD.via (by go_grown) hb); (replace hD0 := hD.c0); (replace hD1 := hD.c1); (replace hDz := hD.lt); (replace hE := hE.via (by go_grown) hb); (replace hE0 := hE.c0); (replace hE1 := hE.c1); (replace hEz := hE.lt); (replace hJ := hJ.via (by go_grown) hb); (replace hJ0 := hJ.c0); (replace hJ1 := hJ.c1); (replace hJz := hJ.lt); (replace hN := hN.via (by go_grown) hb); (replace hN0 := hN.c0); (replace hN1 := hN.c1); (replace hNz := hN.lt); (replace hX := hX.via (by go_grown) hb); (replace hX0 := hX.c0); (replace hX1 := hX.c1); (replace hXz := hX.lt); (clear hb)))
              all_goals
                first | go_returns | (refine bodyPost_ret (by simp [results, Try.results4, go_sem, *]; try rfl) rfl ?_)
                refine ⟨ret_bool (by first | rfl | (simp; done) | (simp; omega)), hBl⟩
    · have hM : (okB a b && okB c d && okB (mxI a c) (mnI b d)) = true := by rw [h3, h4, hM3]; rfl
      have f4 : inB (mxI a c) (mnI b d) a b = true := meet_in_l a b c d h3 h4 hM3
      have f5 : inB (mxI a c) (mnI b d) c d = true := meet_in_r a b c d h3 h4 hM3
      go_at_call 19
      refine (implJoinT a b c d _ hT).mono ?_
      rintro e w3 ⟨rfl, hB3⟩
      replace hA := hA.via (by go_grown) hB3; replace hA0 := hA.c0; replace hA1 := hA.c1; replace hAz := hA.lt; replace hD := hD.via (by go_grown) hB3; replace hD0 := hD.c0; replace hD1 := hD.c1; replace hDz := hD.lt; replace hE := hE.via (by go_grown) hB3; replace hE0 := hE.c0; replace hE1 := hE.c1; replace hEz := hE.lt; replace hBl := bvia hBl (by go_grown) hB3
      clear hB3
      go_wp2_with fail
      go_at_call 20
      refine (implMeetT a b c d _ hM).mono ?_
      rintro e w4 ⟨rfl, hB4⟩
      have hJ := (Box.new w3 (mnI a c) (mxI b d) 24).below hB4
      have hJ0 := hJ.c0; have hJ1 := hJ.c1; have hJz := hJ.lt
      replace hA := hA.via (by go_grown) hB4; replace hA0 := hA.c0; replace hA1 := hA.c1; replace hAz := hA.lt; replace hD := hD.via (by go_grown) hB4; replace hD0 := hD.c0; replace hD1 := hD.c1; replace hDz := hD.lt; replace hE := hE.via (by go_grown) hB4; replace hE0 := hE.c0; replace hE1 := hE.c1; replace hEz := hE.lt; replace hBl := bvia hBl (by go_grown) hB4
      clear hB4
      go_wp2_with fail
      go_at_call 21
      refine (specMeetT a b c d _ hM).mono ?_
      rintro e w5 ⟨rfl, hB5⟩
      have hN := (Box.new w4 (mxI a c) (mnI b d) 24).below hB5
      have hN0 := hN.c0; have hN1 := hN.c1; have hNz := hN.lt
      replace hA := hA.via (by go_grown) hB5; replace hA0 := hA.c0; replace hA1 := hA.c1; replace hAz := hA.lt; replace hD := hD.via (by go_grown) hB5; replace hD0 := hD.c0; replace hD1 := hD.c1; replace hDz := hD.lt; replace hE := hE.via (by go_grown) hB5; replace hE0 := hE.c0; replace hE1 := hE.c1; replace hEz := hE.lt; replace hJ := hJ.via (by go_grown) hB5; replace hJ0 := hJ.c0; replace hJ1 := hJ.c1; replace hJz := hJ.lt; replace hBl := bvia hBl (by go_grown) hB5
      clear hB5
      have hX := Box.new w5 (mxI a c) (mnI b d) 24
      have hX0 := hX.c0; have hX1 := hX.c1; have hXz := hX.lt
      replace hA := hA.alloc (.cells #[.int .i64 (mxI a c), .int .i64 (mnI b d)] 24); replace hA0 := hA.c0; replace hA1 := hA.c1; replace hAz := hA.lt; replace hD := hD.alloc (.cells #[.int .i64 (mxI a c), .int .i64 (mnI b d)] 24); replace hD0 := hD.c0; replace hD1 := hD.c1; replace hDz := hD.lt; replace hE := hE.alloc (.cells #[.int .i64 (mxI a c), .int .i64 (mnI b d)] 24); replace hE0 := hE.c0; replace hE1 := hE.c1; replace hEz := hE.lt; replace hJ := hJ.alloc (.cells #[.int .i64 (mxI a c), .int .i64 (mnI b d)] 24); replace hJ0 := hJ.c0; replace hJ1 := hJ.c1; replace hJz := hJ.lt; replace hN := hN.alloc (.cells #[.int .i64 (mxI a c), .int .i64 (mnI b d)] 24); replace hN0 := hN.c0; replace hN1 := hN.c1; replace hNz := hN.lt; replace hBl := balloc hBl (.cells #[.int .i64 (mxI a c), .int .i64 (mnI b d)] 24)
      go_wp2_with fail
      have hjs := fun w => specJoinT a b c d w hT
      go_region_held3 (fun w' => w'.cell? ⟨w1.heap.size, 0, none⟩ = some (.int .i64 (a)) ∧ w'.cell? ⟨w1.heap.size, 1, none⟩ = some (.int .i64 (b)) ∧ w'.cell? ⟨w1.heap.size + 1, 0, none⟩ = some (.int .i64 (c)) ∧ w'.cell? ⟨w1.heap.size + 1, 1, none⟩ = some (.int .i64 (d)) ∧ w'.cell? ⟨w3.heap.size, 0, none⟩ = some (.int .i64 (mnI a c)) ∧ w'.cell? ⟨w3.heap.size, 1, none⟩ = some (.int .i64 (mxI b d)) ∧ w'.cell? ⟨w4.heap.size, 0, none⟩ = some (.int .i64 (mxI a c)) ∧ w'.cell? ⟨w4.heap.size, 1, none⟩ = some (.int .i64 (mnI b d)) ∧ w'.cell? ⟨w5.heap.size, 0, none⟩ = some (.int .i64 (mxI a c)) ∧ w'.cell? ⟨w5.heap.size, 1, none⟩ = some (.int .i64 (mnI b d))) (simp [*, go_sem, World.cell?_alloc_some, World.cell?_setCell_far, apart1, apart2, apart3, apart4, apart5, apart6]) (first | (go_at_call 22; refine (hjs _).mono ?_; rintro e wn ⟨rfl, hb⟩; (replace hBl := bvia hBl (by go_grown) hb); (replace hA := hA.via (by go_grown) hb); (replace hA0 := hA.c0); (replace hA1 := hA.c1); (replace hAz := hA.lt); (replace hD := hD.via (by go_grown) hb); (replace hD0 := hD.c0); (replace hD1 := hD.c1); (replace hDz := hD.lt); (replace hE := hE.via (by go_grown) hb); (replace hE0 := hE.c0); (replace hE1 := hE.c1); (replace hEz := hE.lt); (replace hJ := hJ.via (by go_grown) hb); (replace hJ0 := hJ.c0); (replace hJ1 := hJ.c1); (replace hJz := hJ.lt); (replace hN := hN.via (by go_grown) hb); (replace hN0 := hN.c0); (replace hN1 := hN.c1); (replace hNz := hN.lt); (replace hX := hX.via (by go_grown) hb); (replace hX0 := hX.c0); (replace hX1 := hX.c1); (replace hXz := hX.lt); (clear hb)))
      all_goals
        go_upto_region 14 with (first | (go_at_call 15; refine (specOk _ _ _).mono ?_; rintro e wn ⟨rfl, hb⟩; (replace hBl := bvia hBl (by go_grown) hb); (replace hA := hA.via (by go_grown) hb); (replace hA0 := hA.c0); (replace hA1 := hA.c1); (replace hAz := hA.lt); (replace hD := hD.via (by go_grown) hb); (replace hD0 := hD.c0); (replace hD1 := hD.c1); (replace hDz := hD.lt); (replace hE := hE.via (by go_grown) hb); (replace hE0 := hE.c0); (replace hE1 := hE.c1); (replace hEz := hE.lt); (replace hJ := hJ.via (by go_grown) hb); (replace hJ0 := hJ.c0); (replace hJ1 := hJ.c1); (replace hJz := hJ.lt); (replace hN := hN.via (by go_grown) hb); (replace hN0 := hN.c0); (replace hN1 := hN.c1); (replace hNz := hN.lt); (replace hX := hX.via (by go_grown) hb); (replace hX0 := hX.c0); (replace hX1 := hX.c1); (replace hXz := hX.lt); (clear hb)) | (go_at_call 23; refine (implIn _ _ _ _ _).mono ?_; rintro e wn ⟨rfl, hb⟩; (replace hBl := bvia hBl (by go_grown) hb); (replace hA := hA.via (by go_grown) hb); (replace hA0 := hA.c0); (replace hA1 := hA.c1); (replace hAz := hA.lt); (replace hD := hD.via (by go_grown) hb); (replace hD0 := hD.c0); (replace hD1 := hD.c1); (replace hDz := hD.lt); (replace hE := hE.via (by go_grown) hb); (replace hE0 := hE.c0); (replace hE1 := hE.c1); (replace hEz := hE.lt); (replace hJ := hJ.via (by go_grown) hb); (replace hJ0 := hJ.c0); (replace hJ1 := hJ.c1); (replace hJz := hJ.lt); (replace hN := hN.via (by go_grown) hb); (replace hN0 := hN.c0); (replace hN1 := hN.c1); (replace hNz := hN.lt); (replace hX := hX.via (by go_grown) hb); (replace hX0 := hX.c0); (replace hX1 := hX.c1); (replace hXz := hX.lt); (clear hb)))
        cases p1 : inB a b x y
        · cases q1 : inB x y a b
          · go_wp2_with (first | (go_at_call 15; refine (specOk _ _ _).mono ?_; rintro e wn ⟨rfl, hb⟩; (replace hBl := bvia hBl (by go_grown) hb); (replace hA := hA.via (by go_grown) hb); (replace hA0 := hA.c0); (replace hA1 := hA.c1); (replace hAz := hA.lt); (replace hD := hD.via (by go_grown) hb); (replace hD0 := hD.c0); (replace hD1 := hD.c1); (replace hDz := hD.lt); (replace hE := hE.via (by go_grown) hb); (replace hE0 := hE.c0); (replace hE1 := hE.c1); (replace hEz := hE.lt); (replace hJ := hJ.via (by go_grown) hb); (replace hJ0 := hJ.c0); (replace hJ1 := hJ.c1); (replace hJz := hJ.lt); (replace hN := hN.via (by go_grown) hb); (replace hN0 := hN.c0); (replace hN1 := hN.c1); (replace hNz := hN.lt); (replace hX := hX.via (by go_grown) hb); (replace hX0 := hX.c0); (replace hX1 := hX.c1); (replace hXz := hX.lt); (clear hb)) | (go_at_call 23; refine (implIn _ _ _ _ _).mono ?_; rintro e wn ⟨rfl, hb⟩; (replace hBl := bvia hBl (by go_grown) hb); (replace hA := hA.via (by go_grown) hb); (replace hA0 := hA.c0); (replace hA1 := hA.c1); (replace hAz := hA.lt); (replace hD := hD.via (by go_grown) hb); (replace hD0 := hD.c0); (replace hD1 := hD.c1); (replace hDz := hD.lt); (replace hE := hE.via (by go_grown) hb); (replace hE0 := hE.c0); (replace hE1 := hE.c1); (replace hEz := hE.lt); (replace hJ := hJ.via (by go_grown) hb); (replace hJ0 := hJ.c0); (replace hJ1 := hJ.c1); (replace hJz := hJ.lt); (replace hN := hN.via (by go_grown) hb); (replace hN0 := hN.c0); (replace hN1 := hN.c1); (replace hNz := hN.lt); (replace hX := hX.via (by go_grown) hb); (replace hX0 := hX.c0); (replace hX1 := hX.c1); (replace hXz := hX.lt); (clear hb)))
            all_goals
              first | go_returns | (refine bodyPost_ret (by simp [results, Try.results4, go_sem, *]; try rfl) rfl ?_)
              refine ⟨ret_bool (by first | rfl | (simp; done) | (simp; omega)), hBl⟩
          · cases q2 : inB x y c d
            · go_wp2_with (first | (go_at_call 15; refine (specOk _ _ _).mono ?_; rintro e wn ⟨rfl, hb⟩; (replace hBl := bvia hBl (by go_grown) hb); (replace hA := hA.via (by go_grown) hb); (replace hA0 := hA.c0); (replace hA1 := hA.c1); (replace hAz := hA.lt); (replace hD := hD.via (by go_grown) hb); (replace hD0 := hD.c0); (replace hD1 := hD.c1); (replace hDz := hD.lt); (replace hE := hE.via (by go_grown) hb); (replace hE0 := hE.c0); (replace hE1 := hE.c1); (replace hEz := hE.lt); (replace hJ := hJ.via (by go_grown) hb); (replace hJ0 := hJ.c0); (replace hJ1 := hJ.c1); (replace hJz := hJ.lt); (replace hN := hN.via (by go_grown) hb); (replace hN0 := hN.c0); (replace hN1 := hN.c1); (replace hNz := hN.lt); (replace hX := hX.via (by go_grown) hb); (replace hX0 := hX.c0); (replace hX1 := hX.c1); (replace hXz := hX.lt); (clear hb)) | (go_at_call 23; refine (implIn _ _ _ _ _).mono ?_; rintro e wn ⟨rfl, hb⟩; (replace hBl := bvia hBl (by go_grown) hb); (replace hA := hA.via (by go_grown) hb); (replace hA0 := hA.c0); (replace hA1 := hA.c1); (replace hAz := hA.lt); (replace hD := hD.via (by go_grown) hb); (replace hD0 := hD.c0); (replace hD1 := hD.c1); (replace hDz := hD.lt); (replace hE := hE.via (by go_grown) hb); (replace hE0 := hE.c0); (replace hE1 := hE.c1); (replace hEz := hE.lt); (replace hJ := hJ.via (by go_grown) hb); (replace hJ0 := hJ.c0); (replace hJ1 := hJ.c1); (replace hJz := hJ.lt); (replace hN := hN.via (by go_grown) hb); (replace hN0 := hN.c0); (replace hN1 := hN.c1); (replace hNz := hN.lt); (replace hX := hX.via (by go_grown) hb); (replace hX0 := hX.c0); (replace hX1 := hX.c1); (replace hXz := hX.lt); (clear hb)))
              all_goals
                first | go_returns | (refine bodyPost_ret (by simp [results, Try.results4, go_sem, *]; try rfl) rfl ?_)
                refine ⟨ret_bool (by first | rfl | (simp; done) | (simp; omega)), hBl⟩
            · have q3 : inB x y (mxI a c) (mnI b d) = true := in_meet a b c d x y hM3 q1 q2
              go_wp2_with (first | (go_at_call 15; refine (specOk _ _ _).mono ?_; rintro e wn ⟨rfl, hb⟩; (replace hBl := bvia hBl (by go_grown) hb); (replace hA := hA.via (by go_grown) hb); (replace hA0 := hA.c0); (replace hA1 := hA.c1); (replace hAz := hA.lt); (replace hD := hD.via (by go_grown) hb); (replace hD0 := hD.c0); (replace hD1 := hD.c1); (replace hDz := hD.lt); (replace hE := hE.via (by go_grown) hb); (replace hE0 := hE.c0); (replace hE1 := hE.c1); (replace hEz := hE.lt); (replace hJ := hJ.via (by go_grown) hb); (replace hJ0 := hJ.c0); (replace hJ1 := hJ.c1); (replace hJz := hJ.lt); (replace hN := hN.via (by go_grown) hb); (replace hN0 := hN.c0); (replace hN1 := hN.c1); (replace hNz := hN.lt); (replace hX := hX.via (by go_grown) hb); (replace hX0 := hX.c0); (replace hX1 := hX.c1); (replace hXz := hX.lt); (clear hb)) | (go_at_call 23; refine (implIn _ _ _ _ _).mono ?_; rintro e wn ⟨rfl, hb⟩; (replace hBl := bvia hBl (by go_grown) hb); (replace hA := hA.via (by go_grown) hb); (replace hA0 := hA.c0); (replace hA1 := hA.c1); (replace hAz := hA.lt); (replace hD := hD.via (by go_grown) hb); (replace hD0 := hD.c0); (replace hD1 := hD.c1); (replace hDz := hD.lt); (replace hE := hE.via (by go_grown) hb); (replace hE0 := hE.c0); (replace hE1 := hE.c1); (replace hEz := hE.lt); (replace hJ := hJ.via (by go_grown) hb); (replace hJ0 := hJ.c0); (replace hJ1 := hJ.c1); (replace hJz := hJ.lt); (replace hN := hN.via (by go_grown) hb); (replace hN0 := hN.c0); (replace hN1 := hN.c1); (replace hNz := hN.lt); (replace hX := hX.via (by go_grown) hb); (replace hX0 := hX.c0); (replace hX1 := hX.c1); (replace hXz := hX.lt); (clear hb)))
              all_goals
                first | go_returns | (refine bodyPost_ret (by simp [results, Try.results4, go_sem, *]; try rfl) rfl ?_)
                refine ⟨ret_bool (by first | rfl | (simp; done) | (simp; omega)), hBl⟩
        · cases p2 : inB c d x y
          · cases q1 : inB x y a b
            · go_wp2_with (first | (go_at_call 15; refine (specOk _ _ _).mono ?_; rintro e wn ⟨rfl, hb⟩; (replace hBl := bvia hBl (by go_grown) hb); (replace hA := hA.via (by go_grown) hb); (replace hA0 := hA.c0); (replace hA1 := hA.c1); (replace hAz := hA.lt); (replace hD := hD.via (by go_grown) hb); (replace hD0 := hD.c0); (replace hD1 := hD.c1); (replace hDz := hD.lt); (replace hE := hE.via (by go_grown) hb); (replace hE0 := hE.c0); (replace hE1 := hE.c1); (replace hEz := hE.lt); (replace hJ := hJ.via (by go_grown) hb); (replace hJ0 := hJ.c0); (replace hJ1 := hJ.c1); (replace hJz := hJ.lt); (replace hN := hN.via (by go_grown) hb); (replace hN0 := hN.c0); (replace hN1 := hN.c1); (replace hNz := hN.lt); (replace hX := hX.via (by go_grown) hb); (replace hX0 := hX.c0); (replace hX1 := hX.c1); (replace hXz := hX.lt); (clear hb)) | (go_at_call 23; refine (implIn _ _ _ _ _).mono ?_; rintro e wn ⟨rfl, hb⟩; (replace hBl := bvia hBl (by go_grown) hb); (replace hA := hA.via (by go_grown) hb); (replace hA0 := hA.c0); (replace hA1 := hA.c1); (replace hAz := hA.lt); (replace hD := hD.via (by go_grown) hb); (replace hD0 := hD.c0); (replace hD1 := hD.c1); (replace hDz := hD.lt); (replace hE := hE.via (by go_grown) hb); (replace hE0 := hE.c0); (replace hE1 := hE.c1); (replace hEz := hE.lt); (replace hJ := hJ.via (by go_grown) hb); (replace hJ0 := hJ.c0); (replace hJ1 := hJ.c1); (replace hJz := hJ.lt); (replace hN := hN.via (by go_grown) hb); (replace hN0 := hN.c0); (replace hN1 := hN.c1); (replace hNz := hN.lt); (replace hX := hX.via (by go_grown) hb); (replace hX0 := hX.c0); (replace hX1 := hX.c1); (replace hXz := hX.lt); (clear hb)))
              all_goals
                first | go_returns | (refine bodyPost_ret (by simp [results, Try.results4, go_sem, *]; try rfl) rfl ?_)
                refine ⟨ret_bool (by first | rfl | (simp; done) | (simp; omega)), hBl⟩
            · cases q2 : inB x y c d
              · go_wp2_with (first | (go_at_call 15; refine (specOk _ _ _).mono ?_; rintro e wn ⟨rfl, hb⟩; (replace hBl := bvia hBl (by go_grown) hb); (replace hA := hA.via (by go_grown) hb); (replace hA0 := hA.c0); (replace hA1 := hA.c1); (replace hAz := hA.lt); (replace hD := hD.via (by go_grown) hb); (replace hD0 := hD.c0); (replace hD1 := hD.c1); (replace hDz := hD.lt); (replace hE := hE.via (by go_grown) hb); (replace hE0 := hE.c0); (replace hE1 := hE.c1); (replace hEz := hE.lt); (replace hJ := hJ.via (by go_grown) hb); (replace hJ0 := hJ.c0); (replace hJ1 := hJ.c1); (replace hJz := hJ.lt); (replace hN := hN.via (by go_grown) hb); (replace hN0 := hN.c0); (replace hN1 := hN.c1); (replace hNz := hN.lt); (replace hX := hX.via (by go_grown) hb); (replace hX0 := hX.c0); (replace hX1 := hX.c1); (replace hXz := hX.lt); (clear hb)) | (go_at_call 23; refine (implIn _ _ _ _ _).mono ?_; rintro e wn ⟨rfl, hb⟩; (replace hBl := bvia hBl (by go_grown) hb); (replace hA := hA.via (by go_grown) hb); (replace hA0 := hA.c0); (replace hA1 := hA.c1); (replace hAz := hA.lt); (replace hD := hD.via (by go_grown) hb); (replace hD0 := hD.c0); (replace hD1 := hD.c1); (replace hDz := hD.lt); (replace hE := hE.via (by go_grown) hb); (replace hE0 := hE.c0); (replace hE1 := hE.c1); (replace hEz := hE.lt); (replace hJ := hJ.via (by go_grown) hb); (replace hJ0 := hJ.c0); (replace hJ1 := hJ.c1); (replace hJz := hJ.lt); (replace hN := hN.via (by go_grown) hb); (replace hN0 := hN.c0); (replace hN1 := hN.c1); (replace hNz := hN.lt); (replace hX := hX.via (by go_grown) hb); (replace hX0 := hX.c0); (replace hX1 := hX.c1); (replace hXz := hX.lt); (clear hb)))
                all_goals
                  first | go_returns | (refine bodyPost_ret (by simp [results, Try.results4, go_sem, *]; try rfl) rfl ?_)
                  refine ⟨ret_bool (by first | rfl | (simp; done) | (simp; omega)), hBl⟩
              · have q3 : inB x y (mxI a c) (mnI b d) = true := in_meet a b c d x y hM3 q1 q2
                go_wp2_with (first | (go_at_call 15; refine (specOk _ _ _).mono ?_; rintro e wn ⟨rfl, hb⟩; (replace hBl := bvia hBl (by go_grown) hb); (replace hA := hA.via (by go_grown) hb); (replace hA0 := hA.c0); (replace hA1 := hA.c1); (replace hAz := hA.lt); (replace hD := hD.via (by go_grown) hb); (replace hD0 := hD.c0); (replace hD1 := hD.c1); (replace hDz := hD.lt); (replace hE := hE.via (by go_grown) hb); (replace hE0 := hE.c0); (replace hE1 := hE.c1); (replace hEz := hE.lt); (replace hJ := hJ.via (by go_grown) hb); (replace hJ0 := hJ.c0); (replace hJ1 := hJ.c1); (replace hJz := hJ.lt); (replace hN := hN.via (by go_grown) hb); (replace hN0 := hN.c0); (replace hN1 := hN.c1); (replace hNz := hN.lt); (replace hX := hX.via (by go_grown) hb); (replace hX0 := hX.c0); (replace hX1 := hX.c1); (replace hXz := hX.lt); (clear hb)) | (go_at_call 23; refine (implIn _ _ _ _ _).mono ?_; rintro e wn ⟨rfl, hb⟩; (replace hBl := bvia hBl (by go_grown) hb); (replace hA := hA.via (by go_grown) hb); (replace hA0 := hA.c0); (replace hA1 := hA.c1); (replace hAz := hA.lt); (replace hD := hD.via (by go_grown) hb); (replace hD0 := hD.c0); (replace hD1 := hD.c1); (replace hDz := hD.lt); (replace hE := hE.via (by go_grown) hb); (replace hE0 := hE.c0); (replace hE1 := hE.c1); (replace hEz := hE.lt); (replace hJ := hJ.via (by go_grown) hb); (replace hJ0 := hJ.c0); (replace hJ1 := hJ.c1); (replace hJz := hJ.lt); (replace hN := hN.via (by go_grown) hb); (replace hN0 := hN.c0); (replace hN1 := hN.c1); (replace hNz := hN.lt); (replace hX := hX.via (by go_grown) hb); (replace hX0 := hX.c0); (replace hX1 := hX.c1); (replace hXz := hX.lt); (clear hb)))
                all_goals
                  first | go_returns | (refine bodyPost_ret (by simp [results, Try.results4, go_sem, *]; try rfl) rfl ?_)
                  refine ⟨ret_bool (by first | rfl | (simp; done) | (simp; omega)), hBl⟩
          · have p3 : inB (mnI a c) (mxI b d) x y = true := join_in a b c d x y p1 p2
            cases q1 : inB x y a b
            · go_wp2_with (first | (go_at_call 15; refine (specOk _ _ _).mono ?_; rintro e wn ⟨rfl, hb⟩; (replace hBl := bvia hBl (by go_grown) hb); (replace hA := hA.via (by go_grown) hb); (replace hA0 := hA.c0); (replace hA1 := hA.c1); (replace hAz := hA.lt); (replace hD := hD.via (by go_grown) hb); (replace hD0 := hD.c0); (replace hD1 := hD.c1); (replace hDz := hD.lt); (replace hE := hE.via (by go_grown) hb); (replace hE0 := hE.c0); (replace hE1 := hE.c1); (replace hEz := hE.lt); (replace hJ := hJ.via (by go_grown) hb); (replace hJ0 := hJ.c0); (replace hJ1 := hJ.c1); (replace hJz := hJ.lt); (replace hN := hN.via (by go_grown) hb); (replace hN0 := hN.c0); (replace hN1 := hN.c1); (replace hNz := hN.lt); (replace hX := hX.via (by go_grown) hb); (replace hX0 := hX.c0); (replace hX1 := hX.c1); (replace hXz := hX.lt); (clear hb)) | (go_at_call 23; refine (implIn _ _ _ _ _).mono ?_; rintro e wn ⟨rfl, hb⟩; (replace hBl := bvia hBl (by go_grown) hb); (replace hA := hA.via (by go_grown) hb); (replace hA0 := hA.c0); (replace hA1 := hA.c1); (replace hAz := hA.lt); (replace hD := hD.via (by go_grown) hb); (replace hD0 := hD.c0); (replace hD1 := hD.c1); (replace hDz := hD.lt); (replace hE := hE.via (by go_grown) hb); (replace hE0 := hE.c0); (replace hE1 := hE.c1); (replace hEz := hE.lt); (replace hJ := hJ.via (by go_grown) hb); (replace hJ0 := hJ.c0); (replace hJ1 := hJ.c1); (replace hJz := hJ.lt); (replace hN := hN.via (by go_grown) hb); (replace hN0 := hN.c0); (replace hN1 := hN.c1); (replace hNz := hN.lt); (replace hX := hX.via (by go_grown) hb); (replace hX0 := hX.c0); (replace hX1 := hX.c1); (replace hXz := hX.lt); (clear hb)))
              all_goals
                first | go_returns | (refine bodyPost_ret (by simp [results, Try.results4, go_sem, *]; try rfl) rfl ?_)
                refine ⟨ret_bool (by first | rfl | (simp; done) | (simp; omega)), hBl⟩
            · cases q2 : inB x y c d
              · go_wp2_with (first | (go_at_call 15; refine (specOk _ _ _).mono ?_; rintro e wn ⟨rfl, hb⟩; (replace hBl := bvia hBl (by go_grown) hb); (replace hA := hA.via (by go_grown) hb); (replace hA0 := hA.c0); (replace hA1 := hA.c1); (replace hAz := hA.lt); (replace hD := hD.via (by go_grown) hb); (replace hD0 := hD.c0); (replace hD1 := hD.c1); (replace hDz := hD.lt); (replace hE := hE.via (by go_grown) hb); (replace hE0 := hE.c0); (replace hE1 := hE.c1); (replace hEz := hE.lt); (replace hJ := hJ.via (by go_grown) hb); (replace hJ0 := hJ.c0); (replace hJ1 := hJ.c1); (replace hJz := hJ.lt); (replace hN := hN.via (by go_grown) hb); (replace hN0 := hN.c0); (replace hN1 := hN.c1); (replace hNz := hN.lt); (replace hX := hX.via (by go_grown) hb); (replace hX0 := hX.c0); (replace hX1 := hX.c1); (replace hXz := hX.lt); (clear hb)) | (go_at_call 23; refine (implIn _ _ _ _ _).mono ?_; rintro e wn ⟨rfl, hb⟩; (replace hBl := bvia hBl (by go_grown) hb); (replace hA := hA.via (by go_grown) hb); (replace hA0 := hA.c0); (replace hA1 := hA.c1); (replace hAz := hA.lt); (replace hD := hD.via (by go_grown) hb); (replace hD0 := hD.c0); (replace hD1 := hD.c1); (replace hDz := hD.lt); (replace hE := hE.via (by go_grown) hb); (replace hE0 := hE.c0); (replace hE1 := hE.c1); (replace hEz := hE.lt); (replace hJ := hJ.via (by go_grown) hb); (replace hJ0 := hJ.c0); (replace hJ1 := hJ.c1); (replace hJz := hJ.lt); (replace hN := hN.via (by go_grown) hb); (replace hN0 := hN.c0); (replace hN1 := hN.c1); (replace hNz := hN.lt); (replace hX := hX.via (by go_grown) hb); (replace hX0 := hX.c0); (replace hX1 := hX.c1); (replace hXz := hX.lt); (clear hb)))
                all_goals
                  first | go_returns | (refine bodyPost_ret (by simp [results, Try.results4, go_sem, *]; try rfl) rfl ?_)
                  refine ⟨ret_bool (by first | rfl | (simp; done) | (simp; omega)), hBl⟩
              · have q3 : inB x y (mxI a c) (mnI b d) = true := in_meet a b c d x y hM3 q1 q2
                go_wp2_with (first | (go_at_call 15; refine (specOk _ _ _).mono ?_; rintro e wn ⟨rfl, hb⟩; (replace hBl := bvia hBl (by go_grown) hb); (replace hA := hA.via (by go_grown) hb); (replace hA0 := hA.c0); (replace hA1 := hA.c1); (replace hAz := hA.lt); (replace hD := hD.via (by go_grown) hb); (replace hD0 := hD.c0); (replace hD1 := hD.c1); (replace hDz := hD.lt); (replace hE := hE.via (by go_grown) hb); (replace hE0 := hE.c0); (replace hE1 := hE.c1); (replace hEz := hE.lt); (replace hJ := hJ.via (by go_grown) hb); (replace hJ0 := hJ.c0); (replace hJ1 := hJ.c1); (replace hJz := hJ.lt); (replace hN := hN.via (by go_grown) hb); (replace hN0 := hN.c0); (replace hN1 := hN.c1); (replace hNz := hN.lt); (replace hX := hX.via (by go_grown) hb); (replace hX0 := hX.c0); (replace hX1 := hX.c1); (replace hXz := hX.lt); (clear hb)) | (go_at_call 23; refine (implIn _ _ _ _ _).mono ?_; rintro e wn ⟨rfl, hb⟩; (replace hBl := bvia hBl (by go_grown) hb); (replace hA := hA.via (by go_grown) hb); (replace hA0 := hA.c0); (replace hA1 := hA.c1); (replace hAz := hA.lt); (replace hD := hD.via (by go_grown) hb); (replace hD0 := hD.c0); (replace hD1 := hD.c1); (replace hDz := hD.lt); (replace hE := hE.via (by go_grown) hb); (replace hE0 := hE.c0); (replace hE1 := hE.c1); (replace hEz := hE.lt); (replace hJ := hJ.via (by go_grown) hb); (replace hJ0 := hJ.c0); (replace hJ1 := hJ.c1); (replace hJz := hJ.lt); (replace hN := hN.via (by go_grown) hb); (replace hN0 := hN.c0); (replace hN1 := hN.c1); (replace hNz := hN.lt); (replace hX := hX.via (by go_grown) hb); (replace hX0 := hX.c0); (replace hX1 := hX.c1); (replace hXz := hX.lt); (clear hb)))
                all_goals
                  first | go_returns | (refine bodyPost_ret (by simp [results, Try.results4, go_sem, *]; try rfl) rfl ?_)
                  refine ⟨ret_bool (by first | rfl | (simp; done) | (simp; omega)), hBl⟩
  · have hT : (okB a b && okB c d) = false := by simpa using hT'
    have hM : (okB a b && okB c d && okB (mxI a c) (mnI b d)) = false := by rw [hT]; rfl
    clear hT'
    go_at_call 19
    refine (implJoinF a b c d _ hT).mono ?_
    rintro e w3 ⟨rfl, hB3⟩
    replace hA := hA.via (by go_grown) hB3; replace hA0 := hA.c0; replace hA1 := hA.c1; replace hAz := hA.lt; replace hD := hD.via (by go_grown) hB3; replace hD0 := hD.c0; replace hD1 := hD.c1; replace hDz := hD.lt; replace hE := hE.via (by go_grown) hB3; replace hE0 := hE.c0; replace hE1 := hE.c1; replace hEz := hE.lt; replace hBl := bvia hBl (by go_grown) hB3
    clear hB3
    go_wp2_with fail
    go_at_call 20
    refine (implMeetF a b c d _ hM).mono ?_
    rintro e w4 ⟨rfl, hB4⟩
    have hJ := (Box.new w3 (0) (0) 24).below hB4
    have hJ0 := hJ.c0; have hJ1 := hJ.c1; have hJz := hJ.lt
    replace hA := hA.via (by go_grown) hB4; replace hA0 := hA.c0; replace hA1 := hA.c1; replace hAz := hA.lt; replace hD := hD.via (by go_grown) hB4; replace hD0 := hD.c0; replace hD1 := hD.c1; replace hDz := hD.lt; replace hE := hE.via (by go_grown) hB4; replace hE0 := hE.c0; replace hE1 := hE.c1; replace hEz := hE.lt; replace hBl := bvia hBl (by go_grown) hB4
    clear hB4
    go_wp2_with fail
    go_at_call 21
    refine (specMeetF a b c d _ hM).mono ?_
    rintro e w5 ⟨rfl, hB5⟩
    have hN := (Box.new w4 (0) (0) 24).below hB5
    have hN0 := hN.c0; have hN1 := hN.c1; have hNz := hN.lt
    replace hA := hA.via (by go_grown) hB5; replace hA0 := hA.c0; replace hA1 := hA.c1; replace hAz := hA.lt; replace hD := hD.via (by go_grown) hB5; replace hD0 := hD.c0; replace hD1 := hD.c1; replace hDz := hD.lt; replace hE := hE.via (by go_grown) hB5; replace hE0 := hE.c0; replace hE1 := hE.c1; replace hEz := hE.lt; replace hJ := hJ.via (by go_grown) hB5; replace hJ0 := hJ.c0; replace hJ1 := hJ.c1; replace hJz := hJ.lt; replace hBl := bvia hBl (by go_grown) hB5
    clear hB5
    have hX := Box.new w5 (0) (0) 24
    have hX0 := hX.c0; have hX1 := hX.c1; have hXz := hX.lt
    replace hA := hA.alloc (.cells #[.int .i64 (0), .int .i64 (0)] 24); replace hA0 := hA.c0; replace hA1 := hA.c1; replace hAz := hA.lt; replace hD := hD.alloc (.cells #[.int .i64 (0), .int .i64 (0)] 24); replace hD0 := hD.c0; replace hD1 := hD.c1; replace hDz := hD.lt; replace hE := hE.alloc (.cells #[.int .i64 (0), .int .i64 (0)] 24); replace hE0 := hE.c0; replace hE1 := hE.c1; replace hEz := hE.lt; replace hJ := hJ.alloc (.cells #[.int .i64 (0), .int .i64 (0)] 24); replace hJ0 := hJ.c0; replace hJ1 := hJ.c1; replace hJz := hJ.lt; replace hN := hN.alloc (.cells #[.int .i64 (0), .int .i64 (0)] 24); replace hN0 := hN.c0; replace hN1 := hN.c1; replace hNz := hN.lt; replace hBl := balloc hBl (.cells #[.int .i64 (0), .int .i64 (0)] 24)
    go_wp2_with fail
    have hjs := fun w => specJoinF a b c d w hT
    go_region_held3 (fun w' => w'.cell? ⟨w1.heap.size, 0, none⟩ = some (.int .i64 (a)) ∧ w'.cell? ⟨w1.heap.size, 1, none⟩ = some (.int .i64 (b)) ∧ w'.cell? ⟨w1.heap.size + 1, 0, none⟩ = some (.int .i64 (c)) ∧ w'.cell? ⟨w1.heap.size + 1, 1, none⟩ = some (.int .i64 (d)) ∧ w'.cell? ⟨w3.heap.size, 0, none⟩ = some (.int .i64 (0)) ∧ w'.cell? ⟨w3.heap.size, 1, none⟩ = some (.int .i64 (0)) ∧ w'.cell? ⟨w4.heap.size, 0, none⟩ = some (.int .i64 (0)) ∧ w'.cell? ⟨w4.heap.size, 1, none⟩ = some (.int .i64 (0)) ∧ w'.cell? ⟨w5.heap.size, 0, none⟩ = some (.int .i64 (0)) ∧ w'.cell? ⟨w5.heap.size, 1, none⟩ = some (.int .i64 (0))) (simp [*, go_sem, World.cell?_alloc_some, World.cell?_setCell_far, apart1, apart2, apart3, apart4, apart5, apart6]) (first | (go_at_call 22; refine (hjs _).mono ?_; rintro e wn ⟨rfl, hb⟩; (replace hBl := bvia hBl (by go_grown) hb); (replace hA := hA.via (by go_grown) hb); (replace hA0 := hA.c0); (replace hA1 := hA.c1); (replace hAz := hA.lt); (replace hD := hD.via (by go_grown) hb); (replace hD0 := hD.c0); (replace hD1 := hD.c1); (replace hDz := hD.lt); (replace hE := hE.via (by go_grown) hb); (replace hE0 := hE.c0); (replace hE1 := hE.c1); (replace hEz := hE.lt); (replace hJ := hJ.via (by go_grown) hb); (replace hJ0 := hJ.c0); (replace hJ1 := hJ.c1); (replace hJz := hJ.lt); (replace hN := hN.via (by go_grown) hb); (replace hN0 := hN.c0); (replace hN1 := hN.c1); (replace hNz := hN.lt); (replace hX := hX.via (by go_grown) hb); (replace hX0 := hX.c0); (replace hX1 := hX.c1); (replace hXz := hX.lt); (clear hb)))
    all_goals
      cases h3 : okB a b <;> cases h4 : okB c d
      case true.true => simp [h3, h4] at hT
      all_goals
        go_wp2_with (first | (go_at_call 15; refine (specOk _ _ _).mono ?_; rintro e wn ⟨rfl, hb⟩; (replace hBl := bvia hBl (by go_grown) hb); (replace hA := hA.via (by go_grown) hb); (replace hA0 := hA.c0); (replace hA1 := hA.c1); (replace hAz := hA.lt); (replace hD := hD.via (by go_grown) hb); (replace hD0 := hD.c0); (replace hD1 := hD.c1); (replace hDz := hD.lt); (replace hE := hE.via (by go_grown) hb); (replace hE0 := hE.c0); (replace hE1 := hE.c1); (replace hEz := hE.lt); (replace hJ := hJ.via (by go_grown) hb); (replace hJ0 := hJ.c0); (replace hJ1 := hJ.c1); (replace hJz := hJ.lt); (replace hN := hN.via (by go_grown) hb); (replace hN0 := hN.c0); (replace hN1 := hN.c1); (replace hNz := hN.lt); (replace hX := hX.via (by go_grown) hb); (replace hX0 := hX.c0); (replace hX1 := hX.c1); (replace hXz := hX.lt); (clear hb)) | (go_at_call 23; refine (implIn _ _ _ _ _).mono ?_; rintro e wn ⟨rfl, hb⟩; (replace hBl := bvia hBl (by go_grown) hb); (replace hA := hA.via (by go_grown) hb); (replace hA0 := hA.c0); (replace hA1 := hA.c1); (replace hAz := hA.lt); (replace hD := hD.via (by go_grown) hb); (replace hD0 := hD.c0); (replace hD1 := hD.c1); (replace hDz := hD.lt); (replace hE := hE.via (by go_grown) hb); (replace hE0 := hE.c0); (replace hE1 := hE.c1); (replace hEz := hE.lt); (replace hJ := hJ.via (by go_grown) hb); (replace hJ0 := hJ.c0); (replace hJ1 := hJ.c1); (replace hJz := hJ.lt); (replace hN := hN.via (by go_grown) hb); (replace hN0 := hN.c0); (replace hN1 := hN.c1); (replace hNz := hN.lt); (replace hX := hX.via (by go_grown) hb); (replace hX0 := hX.c0); (replace hX1 := hX.c1); (replace hXz := hX.lt); (clear hb)))
        all_goals
          first | go_returns | (refine bodyPost_ret (by simp [results, Try.results4, go_sem, *]; try rfl) rfl ?_)
          refine ⟨ret_bool (by first | rfl | (simp; done) | (simp; omega)), hBl⟩
theorem walk (s0 : Option Addr) (len0 cap0 : Nat) (s1 : Option Addr) (len1 cap1 : Nat) (w : World) (r0 : Row w.heap.size w s0 len0) (c0 : len0 ≤ cap0) (m0 : cap0 ≤ maxLen) (r1 : Row w.heap.size w s1 len1) (c1 : len1 ≤ cap1) (m1 : cap1 ≤ maxLen) :
    Calls Try.prog 4 #[.slice s0 len0 cap0, .slice s1 len1 cap1] w fun e w' => e = .returned (.bool true) ∧ Below w.heap.size w w' := by
  by_cases h : 1048576 < len0 ∨ 1048576 < len1
  · exact early s0 len0 cap0 s1 len1 cap1 w h
  · exact main s0 len0 cap0 s1 len1 cap1 w r0 c0 m0 r1 c1 m1 (by omega) (by omega)
theorem own : ownKnob Try.prog.godebug = none := by kernel_rfl
theorem laidOut : laidOutB Try.prog = true := by kernel_rfl
set_option maxRecDepth 100000 in
theorem lifted (os : Os) (started : os.Started) (H : Type) (enc : TypeId × Value → H) :
    ReturnsInHanded {} Try.checked os 4 .any (Rows.fnSpanJoinSpec.pre6 enc Try.prog Try.f4 Rows.fnSpanJoinRow.domain false) (Rows.fnSpanJoinSpec.post enc Try.prog Try.f4 false true false false) := by
  refine returnsInHanded_of_change (C := Try.checked) own started (by kernel_rfl) Try.func4
    (ChangeSpec.witness6 (enc := enc) (C := Try.checked) false ⟨#[], #[.slice none 0 0, .slice none 0 0], []⟩ 8 (by kernel_rfl) (by kernel_rfl) (by kernel_rfl) (by kernel_rfl)) ?_
  intro W base args ds gs before hval0 hW hcnd _
  have hval : ∀ (j : Nat) t v, Try.f4.params[j]? = some t → args[j]? = some v → Value.okWide Try.prog W .any base t v := hval0
  have hW' := hW
  obtain ⟨p, q, hA0, hV, rfl, hfz, hnd⟩ := hW
  have hA : DataW.TrodAll enc Try.prog W 0 (fun _ => true) true Try.f4.params.toList args.toList ds p := hA0
  rw [Try.params4] at hA hval
  obtain ⟨v0, vs0, d0, ds0, p0, q0, hargs, rfl, rfl, h0, r0⟩ := trodAll_cons hA
  obtain ⟨v1, vs1, d1, ds1, p1, q1, rfl, rfl, rfl, h1, r1⟩ := trodAll_cons r0
  obtain ⟨rfl, rfl, rfl⟩ := trodAll_nil r1
  obtain rfl : args = #[v0, v1] := by cases args; simp_all
  obtain ⟨rfl, rfl⟩ := trodVars_none hV
  have k0 := h0
  have lt0 : ∀ x ∈ p0, x.block < W.heap.size := by obtain ⟨m, hm⟩ := k0; exact DataW.trod_lt m _ _ _ hm
  obtain ⟨a0, len0, cap0, rfl⟩ := okWide_slice Try.underlying22 (hval 0 22 v0 rfl rfl)
  have w0 := rowOf (elemT := 5) Try.underlying22 Try.underlying5 (by kernel_rfl) h0
  have k1 := h1
  have lt1 : ∀ x ∈ p1, x.block < W.heap.size := by obtain ⟨m, hm⟩ := k1; exact DataW.trod_lt m _ _ _ hm
  obtain ⟨a1, len1, cap1, rfl⟩ := okWide_slice Try.underlying22 (hval 1 22 v1 rfl rfl)
  have w1 := rowOf (elemT := 5) Try.underlying22 Try.underlying5 (by kernel_rfl) h1
  clear hA0 hval0
  refine (walk a0 len0 cap0 a1 len1 cap1 W w0.1 w0.2.1 w0.2.2 w1.1 w1.2.1 w1.2.2).mono fun e W' ⟨he, bel⟩ => ?_
  subst he
  exact ⟨_, rfl, _, _, _, [], _, [], hW', trodAll_mk1 (shut_bool Try.underlying4 _), (trodAll_cons_mk (Below.trod laidOut (by kernel_rfl) (of_decide_eq_true (by kernel_rfl)) k0 bel lt0) (trodAll_cons_mk (Below.trod laidOut (by kernel_rfl) (of_decide_eq_true (by kernel_rfl)) k1 bel lt1) trodAll_mk0)), rfl, bel.frame _, fun h => by cases h⟩
theorem over : Rows.fnSpanJoinRow.holds Try.pinned (OpenSpec.ofChange Rows.fnSpanJoinSpec) :=
  OpenClaim.holds_of_wide 4 Try.f4 rfl rfl rfl rfl rfl rfl rfl ⟨rfl, rfl, rfl, rfl, rfl⟩ rfl rfl rfl rfl rfl (by kernel_rfl) Try.func4 (by kernel_rfl)
    (of_decide_eq_true (by kernel_rfl)) (by unfold Func.isWrapper; first | (rw [if_pos (by decide +kernel)]; kernel_rfl) | (rw [if_neg (by decide +kernel)]; exact ⟨rfl, rfl⟩))
    (fun os started H enc _ => lifted os started H enc)
end FnSpanJoin
theorem lawSpanJoin_holds : Rows.FnSpanJoinSaid := FnSpanJoin.over
#print axioms lawSpanJoin_holds
end Go.Proofs.Ytdlkmekdeiajhaa
