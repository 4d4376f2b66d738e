/-
  Ranges are drawn whose ends are bounded, in new memory; no condition but that the bytes are a row.
-/
import Derived.Test.YtdlkmekdeiajhaaKitB
namespace Go.Proofs.Ytdlkmekdeiajhaa
open Go.RowKit
set_option linter.unusedSimpArgs false
set_option linter.unusedVariables false

theorem Row.more {w w' : World} {sa : Option Addr} {len : Nat} (h : Row w.heap.size w sa len) (hb : Below w.heap.size w w') : Row w'.heap.size w' sa len := by
  rcases h with h | ⟨sb, so, rfl, hs, hr⟩
  · exact .inl h
  · refine .inr ⟨sb, so, rfl, Nat.lt_of_lt_of_le hs hb.size, fun i hi => ?_⟩
    obtain ⟨v, hv, h0, h1⟩ := hr i hi
    exact ⟨v, (hb.cell (p := ⟨sb, so + i, none⟩) hs).trans hv, h0, h1⟩
/-- Block b holds the two numbers x, y, and may be written. -/
structure Box (b : Nat) (x y : Int) (w : World) : Prop where
  c0 : w.cell? ⟨b, 0, none⟩ = some (.int .i64 x)
  c1 : w.cell? ⟨b, 1, none⟩ = some (.int .i64 y)
  f0 : w.frozen? ⟨b, 0, none⟩ = false
  f1 : w.frozen? ⟨b, 1, none⟩ = false
theorem Box.new (w : World) (x y : Int) (t : TypeId) : Box w.heap.size x y (w.alloc (.cells #[.int .i64 x, .int .i64 y] t)) := ⟨by simp [go_sem], by simp [go_sem], by simp [go_sem], by simp [go_sem]⟩
theorem Box.lt {b : Nat} {x y : Int} {w : World} (h : Box b x y w) : b < w.heap.size := World.block_lt_of_cell? _ _ h.c0
theorem Box.adv {b g : Nat} {x y : Int} {w w' : World} (h : Box b x y w) (hA : Adv g w w') (hg : b ≠ g) : Box b x y w' :=
  ⟨hA.cell (p := ⟨b, 0, none⟩) hg h.c0, hA.cell (p := ⟨b, 1, none⟩) hg h.c1, (hA.frozen (p := ⟨b, 0, none⟩) hg h.lt).trans h.f0, (hA.frozen (p := ⟨b, 1, none⟩) hg h.lt).trans h.f1⟩
theorem Box.below {b : Nat} {x y : Int} {w w' : World} (h : Box b x y w) (hb : Below w.heap.size w w') : Box b x y w' :=
  ⟨(hb.cell (p := ⟨b, 0, none⟩) h.lt).trans h.c0, (hb.cell (p := ⟨b, 1, none⟩) h.lt).trans h.c1, (hb.frozen (p := ⟨b, 0, none⟩) h.lt).trans h.f0, (hb.frozen (p := ⟨b, 1, none⟩) h.lt).trans h.f1⟩
theorem Box.alloc {b : Nat} {x y : Int} {w : World} (h : Box b x y w) (o : Obj) : Box b x y (w.alloc o) := h.below ((Below.refl _ _).alloc (Nat.le_refl _) o)
theorem Box.drew {b : Nat} {x y : Int} {w : World} (h : Box b x y w) : Box b x y w.drew := h.below (Below.refl _ _).drew
theorem Box.set0 {b : Nat} {x y : Int} {w : World} (h : Box b x y w) (z : Int) : Box b z y (w.setCell ⟨b, 0, none⟩ (.int .i64 z)) :=
  ⟨World.cell?_setCell_same w ⟨b, 0, none⟩ _ h.c0, (World.cell?_setCell_other w ⟨b, 0, none⟩ ⟨b, 1, none⟩ _ (by simp)).trans h.c1, by simpa using h.f0, by simpa using h.f1⟩
theorem Box.set1 {b : Nat} {x y : Int} {w : World} (h : Box b x y w) (z : Int) : Box b x z (w.setCell ⟨b, 1, none⟩ (.int .i64 z)) :=
  ⟨(World.cell?_setCell_other w ⟨b, 1, none⟩ ⟨b, 0, none⟩ _ (by simp)).trans h.c0, World.cell?_setCell_same w ⟨b, 1, none⟩ _ h.c1, by simpa using h.f0, by simpa using h.f1⟩
theorem Box.setOther {b : Nat} {x y : Int} {w : World} (h : Box b x y w) {p : Addr} (hp : p.block ≠ b) (v : Value) : Box b x y (w.setCell p v) :=
  ⟨(World.cell?_setCell_other w p ⟨b, 0, none⟩ v (fun e => hp (by rw [e]))).trans h.c0, (World.cell?_setCell_other w p ⟨b, 1, none⟩ v (fun e => hp (by rw [e]))).trans h.c1, by simpa using h.f0, by simpa using h.f1⟩

set_option maxHeartbeats 2000000 in
theorem l1Span (B g : Nat) (sa : Option Addr) (len cap : Nat) (k : Int) (w : World) (R : Rd B g sa len cap k w) (hk : k ≤ 10000) :
    Calls Try.prog 45 #[.pointer (some ⟨g, 0, none⟩)] w fun e w' => ∃ lo hi kk : Int, e = .returned (.agg #[.int .i64 lo, .int .i64 hi]) ∧ -1000010 ≤ lo ∧ lo ≤ 1000010 ∧ -1000010 ≤ hi ∧ hi ≤ 1000010 ∧ Adv g w w' ∧ kk ≤ k + 8 ∧ Rd B g sa len cap kk w' := by
  have hg := R.lt
  have hBg := R.hB
  go_enter Try.func45, Try.ntmps45
  go_wp2_with fail
  go_at_call 47
  refine (l1Num B g sa len cap k _ (R.alloc _) (by omega)).mono ?_
  rintro e w1 ⟨a, rfl, ha0, ha1, hA1, hR1⟩
  have hX1 := (Box.new w 0 0 _).adv hA1 (by omega)
  go_wp2_with fail
  go_at_call 47
  refine (l1Num B g sa len cap _ _ hR1 (by omega)).mono ?_
  rintro e w2 ⟨b, rfl, hb0, hb1, hA2, hR2⟩
  have hX2 := hX1.adv hA2 (by omega)
  have hg2 := hR2.lt
  have hz2 := hX2.lt
  go_wp2_with (first | (go_at_call 43; refine (l1Min _ _ _).mono ?_; rintro e w1 ⟨rfl, hw1⟩; subst w1) | (go_at_call 42; refine (l1Max _ _ _).mono ?_; rintro e w1 ⟨rfl, hw1⟩; subst w1))
  go_at_call 51
  refine (pick B g sa len cap _ 3 _ (hR2.alloc _) (by omega) (by omega) (by omega)).mono ?_
  rintro e w3 ⟨v, rfl, hv0, hv1, hA3, hR3⟩
  have hX3 := (hX2.alloc _).adv hA3 (by omega)
  have hS3 := (Box.new w2 (mnI a b) (mxI a b) _).adv hA3 (by omega)
  have hm0 : -1000000 ≤ mnI a b ∧ mnI a b ≤ 1000000 := by unfold mnI; omega
  have hm1 : -1000000 ≤ mxI a b ∧ mxI a b ≤ 1000000 := by unfold mxI; omega
  have hAA : Adv g w w3 := ((((Adv.refl g w).alloc _).trans hA1).trans hA2 |>.alloc _).trans hA3
  generalize mnI a b = lo at *
  generalize mxI a b = hi at *
  clear hA1 hA2 hA3 hX1 hX2 hR1 hR2
  have hR3d := hR3.drew
  have hS3d := hS3.drew
  have hX3d := hX3.drew
  go_upto_if 19 with fail
  go_cut [] (fun wx => ∃ hi' kk : Int, Box w2.heap.size lo hi' wx ∧ Box w.heap.size 0 0 wx ∧ -1000000 ≤ hi' ∧ hi' ≤ 1000003 ∧ Adv g w wx ∧ kk ≤ k + 6 ∧ Rd B g sa len cap kk wx)
  case first =>
    have hs0 := hS3.c0
    by_cases hv : v = 0
    · subst hv
      go_wp2_with fail
      go_region_held3 (fun w' => w'.cell? ⟨w2.heap.size, 0, none⟩ = some (.int .i64 lo)) (simp [*, go_sem, World.cell?_alloc_some, World.cell?_setCell_far, apart1, apart2, apart3, apart4, apart5, apart6]) (first | (go_at_call 51; refine (pick B g sa len cap _ 4 _ hR3d (by omega) (by omega) (by omega)).mono ?_; rintro e w4 ⟨u, rfl, hu0, hu1, hA4, hR4⟩; (have hS4 := hS3d.adv hA4 (by omega)); (have hX4 := hX3d.adv hA4 (by omega)); (have hs40 := hS4.c0); (have hs41 := hS4.c1); (have hs4f := hS4.f1)))
      all_goals
        go_wp2_with fail
        go_meet
        have hw : IntKind.i64.wrap (lo + u) = lo + u := by rw [IntKind.wrap_i64]; omega
        rw [hw]
        exact ⟨lo + u, _, hS4.set1 _, hX4.setOther (show w2.heap.size ≠ w.heap.size by omega) _, by omega, by omega, (hAA.drew.trans hA4).setNew (show w.heap.size ≤ w2.heap.size by omega) _, by omega, hR4.set (show w2.heap.size ≠ g by omega) (show B ≤ w2.heap.size by omega) _⟩
    · have hvb : (v == 0) = false := by simp [hv]
      go_wp2_with fail
      go_meet
      exact ⟨hi, _, hS3, hX3, by omega, by omega, hAA, by omega, hR3⟩
  case rest =>
    clear hS3 hX3 hAA hR3 hR3d hS3d hX3d hv0 hv1
    obtain ⟨hi', kk, hS, hX, hh0, hh1, hA, hkk, hR⟩ := hcut
    go_wp2_with fail
    go_at_call 51
    refine (pick B g sa len cap _ 24 _ hR (by omega) (by omega) (by omega)).mono ?_
    rintro e w5 ⟨u, rfl, hu0, hu1, hA5, hR5⟩
    have hS5 := hS.adv hA5 (by omega)
    have hX5 := hX.adv hA5 (by omega)
    have hAw := hA.trans hA5
    have hs0 := hS5.c0
    have hs1 := hS5.c1
    have hsf0 := hS5.f0
    have hsf1 := hS5.f1
    have hx0 := hX5.c0
    have hx1 := hX5.c1
    have hxf0 := hX5.f0
    have hxf1 := hX5.f1
    have hne1 : ¬ w2.heap.size = w.heap.size := by omega
    have hne2 : ¬ w.heap.size = w2.heap.size := by omega
    clear hS hX hA hA5 hR hm1
    by_cases hu : u = 0
    · subst hu
      go_wp2_with fail
      first | go_returns | (refine bodyPost_ret (by simp [results, Try.results45, go_sem, *]; try rfl) rfl ?_)
      refine ⟨hi' + 1, hi', kk + 1, rfl, by omega, by omega, by omega, by omega, ?_, by omega, ?_⟩
      · repeat' (first | (with_reducible assumption) | (with_reducible refine Adv.alloc ?_ _) | (with_reducible refine Adv.drew ?_) | (with_reducible refine Adv.setNew ?_ ?_ _) | (dsimp only; omega))
      · repeat' (first | (with_reducible assumption) | (with_reducible refine Rd.alloc ?_ _) | (with_reducible refine Rd.drew ?_) | (with_reducible refine Rd.set ?_ ?_ ?_ _) | (dsimp only; omega))
    · by_cases hu' : u = 1
      · subst hu'
        go_wp2_with fail
        go_at_call 51
        refine (pick B g sa len cap _ 3 _ hR5 (by omega) (by omega) (by omega)).mono ?_
        rintro e w6 ⟨y, rfl, hy0, hy1, hA6, hR6⟩
        have hS6 := hS5.adv hA6 (by omega)
        have hX6 := hX5.adv hA6 (by omega)
        have hAw6 := hAw.trans hA6
        have hs0 := hS6.c0
        have hs1 := hS6.c1
        have hsf0 := hS6.f0
        have hsf1 := hS6.f1
        have hx0 := hX6.c0
        have hx1 := hX6.c1
        have hxf0 := hX6.f0
        have hxf1 := hX6.f1
        go_wp2_with fail
        first | go_returns | (refine bodyPost_ret (by simp [results, Try.results45, go_sem, *]; try rfl) rfl ?_)
        refine ⟨lo, 1000000 + y, kk + 1 + 1, rfl, by omega, by omega, by omega, by omega, ?_, by omega, ?_⟩
        · repeat' (first | (with_reducible assumption) | (with_reducible refine Adv.alloc ?_ _) | (with_reducible refine Adv.drew ?_) | (with_reducible refine Adv.setNew ?_ ?_ _) | (dsimp only; omega))
        · repeat' (first | (with_reducible assumption) | (with_reducible refine Rd.alloc ?_ _) | (with_reducible refine Rd.drew ?_) | (with_reducible refine Rd.set ?_ ?_ ?_ _) | (dsimp only; omega))
      · have hub : (u == 0) = false := by simp [hu]
        have hub1 : (u == 1) = false := by simp [hu']
        go_wp2_with fail
        first | go_returns | (refine bodyPost_ret (by simp [results, Try.results45, go_sem, *]; try rfl) rfl ?_)
        refine ⟨lo, hi', kk + 1, rfl, by omega, by omega, by omega, by omega, ?_, by omega, ?_⟩
        · repeat' (first | (with_reducible assumption) | (with_reducible refine Adv.alloc ?_ _) | (with_reducible refine Adv.drew ?_) | (with_reducible refine Adv.setNew ?_ ?_ _) | (dsimp only; omega))
        · repeat' (first | (with_reducible assumption) | (with_reducible refine Rd.alloc ?_ _) | (with_reducible refine Rd.drew ?_) | (with_reducible refine Rd.set ?_ ?_ ?_ _) | (dsimp only; omega))
set_option maxHeartbeats 2000000 in
theorem l1Two (sa : Option Addr) (len cap : Nat) (w : World) (hrow : Row w.heap.size w sa len) (hc : len ≤ cap) (hm : cap ≤ maxLen) :
    Calls Try.prog 29 #[.slice sa len cap] w fun e w' => ∃ a b c d : Int, e = .returned (.tuple #[.agg #[.int .i64 a, .int .i64 b], .agg #[.int .i64 c, .int .i64 d]]) ∧ -1000010 ≤ a ∧ a ≤ 1000010 ∧ -1000010 ≤ b ∧ b ≤ 1000010 ∧ -1000010 ≤ c ∧ c ≤ 1000010 ∧ -1000010 ≤ d ∧ d ≤ 1000010 ∧ Below w.heap.size w w' := by
  have HR : Hid (Row w.heap.size w sa len) := hrow
  clear hrow
  go_enter Try.func29, Try.ntmps29
  go_wp2_with fail
  go_at_call 44
  refine (l19Open sa len cap _ (HR.out.more (by go_grown)) hc hm).mono ?_
  rintro e w1 ⟨len', rfl, hB1, hR1⟩
  have hz1 := hB1.size
  simp at hz1 hR1
  have hX1 := ((Box.new w 0 0 _).alloc _).below hB1
  have hY1 := (Box.new (w.alloc _) 0 0 _).below hB1
  have hBw : Below w.heap.size w w1 := bstep (by go_grown) hB1
  simp only [World.size_alloc] at hY1
  go_wp2_with fail
  go_at_call 45
  refine (l1Span _ _ sa len' cap _ _ hR1 (by omega)).mono ?_
  rintro e w2 ⟨a, b, kk, rfl, ha0, ha1, hb0, hb1, hA2, hkk, hR2⟩
  have hX2 := hX1.adv hA2 (by omega)
  have hY2 := hY1.adv hA2 (by omega)
  have hg2 := hR2.lt
  have hBw2 := Adv.onto hBw (by omega) (by omega) hA2
  have hX2d := (hX2.alloc (.cells #[.int .i64 a, .int .i64 b] 24)).drew
  have hY2d := (hY2.alloc (.cells #[.int .i64 a, .int .i64 b] 24)).drew
  have hR2d := (hR2.alloc (.cells #[.int .i64 a, .int .i64 b] 24)).drew
  have hS2d := (Box.new w2 a b 24).drew
  go_wp2_with fail
  go_region_held3 (fun w' => w'.cell? ⟨w2.heap.size, 0, none⟩ = some (.int .i64 a) ∧ w'.cell? ⟨w2.heap.size, 1, none⟩ = some (.int .i64 b)) (simp [*, go_sem, World.cell?_alloc_some, World.cell?_setCell_far, apart1, apart2, apart3, apart4, apart5, apart6]) (first | (go_at_call 45; refine (l1Span _ _ sa len' cap _ _ hR2d (by omega)).mono ?_; rintro e w3 ⟨c, d, kk2, rfl, hc0, hc1, hd0, hd1, hA3, hkk2, hR3⟩; (have hS3 := hS2d.adv hA3 (by omega)); (have hX3 := hX2d.adv hA3 (by omega)); (have hY3 := hY2d.adv hA3 (by omega)); (have hs30 := hS3.c0); (have hs31 := hS3.c1); (have hx30 := hX3.c0); (have hx31 := hX3.c1); (have hx3f := hX3.f0); (have hx3g := hX3.f1); (have hy30 := hY3.c0); (have hy31 := hY3.c1); (have hy3f := hY3.f0); (have hy3g := hY3.f1)))
  all_goals
    go_wp2_with fail
    first | go_returns | (refine bodyPost_ret (by simp [results, Try.results29, go_sem, *]; try rfl) rfl ?_)
    have hBw3 := Adv.onto (bdrew (balloc hBw2 (.cells #[.int .i64 a, .int .i64 b] 24))) (by omega) (by simp; omega) hA3
    refine ⟨a, b, c, d, rfl, ha0, ha1, hb0, hb1, hc0, hc1, hd0, hd1, ?_⟩
    repeat' (first | (with_reducible exact Below.refl _ _) | (with_reducible assumption) | (with_reducible refine balloc ?_ _) | (with_reducible refine bdrew ?_) | (with_reducible refine Below.setCell ?_ ?_ _) | (with_reducible refine bstep ?_ (by with_reducible assumption)) | go_size)
theorem drawSpanMul (sa : Option Addr) (len cap : Nat) (w : World) (hrow : Row w.heap.size w sa len) (hc : len ≤ cap) (hm : cap ≤ maxLen) :
    Calls Try.prog 8 #[.slice sa len cap] w fun e w' => ∃ a b c d : Int, e = .returned (.tuple #[.agg #[.int .i64 a, .int .i64 b], .agg #[.int .i64 c, .int .i64 d]]) ∧ -1000010 ≤ a ∧ a ≤ 1000010 ∧ -1000010 ≤ b ∧ b ≤ 1000010 ∧ -1000010 ≤ c ∧ c ≤ 1000010 ∧ -1000010 ≤ d ∧ d ≤ 1000010 ∧ Below w.heap.size w w' := by
  have HR : Hid (Row w.heap.size w sa len) := hrow
  clear hrow
  go_enter Try.func8, Try.ntmps8
  go_wp2_with fail
  go_at_call 29
  refine (l1Two sa len cap _ (HR.out.more (by go_grown)) hc hm).mono ?_
  rintro e w1 ⟨a, b, c, d, rfl, ha0, ha1, hb0, hb1, hc0, hc1, hd0, hd1, hB1⟩
  have hz1 := hB1.size
  have hX1 := ((Box.new w 0 0 24).alloc _).below hB1
  have hY1 := (Box.new (w.alloc _) 0 0 24).below hB1
  have hBw : Below w.heap.size w w1 := bstep (by go_grown) hB1
  simp only [World.size_alloc] at hY1
  obtain ⟨x0, x1, x2, x3⟩ := hX1
  obtain ⟨y0, y1, y2, y3⟩ := hY1
  simp at hz1
  go_wp2_with fail
  first | go_returns | (refine bodyPost_ret (by simp [results, Try.results8, go_sem, *]; try rfl) rfl ?_)
  refine ⟨a, b, c, d, rfl, ha0, ha1, hb0, hb1, hc0, hc1, hd0, hd1, ?_⟩
  repeat' (first | (with_reducible exact Below.refl _ _) | (with_reducible assumption) | (with_reducible refine balloc ?_ _) | (with_reducible refine bdrew ?_) | (with_reducible refine Below.setCell ?_ ?_ _) | (with_reducible refine bstep ?_ (by with_reducible assumption)) | go_size)
theorem drawSpanJoin (sa : Option Addr) (len cap : Nat) (w : World) (hrow : Row w.heap.size w sa len) (hc : len ≤ cap) (hm : cap ≤ maxLen) :
    Calls Try.prog 17 #[.slice sa len cap] w fun e w' => ∃ a b c d : Int, e = .returned (.tuple #[.agg #[.int .i64 a, .int .i64 b], .agg #[.int .i64 c, .int .i64 d]]) ∧ -1000010 ≤ a ∧ a ≤ 1000010 ∧ -1000010 ≤ b ∧ b ≤ 1000010 ∧ -1000010 ≤ c ∧ c ≤ 1000010 ∧ -1000010 ≤ d ∧ d ≤ 1000010 ∧ Below w.heap.size w w' := by
  have HR : Hid (Row w.heap.size w sa len) := hrow
  clear hrow
  go_enter Try.func17, Try.ntmps17
  go_wp2_with fail
  go_at_call 29
  refine (l1Two sa len cap _ (HR.out.more (by go_grown)) hc hm).mono ?_
  rintro e w1 ⟨a, b, c, d, rfl, ha0, ha1, hb0, hb1, hc0, hc1, hd0, hd1, hB1⟩
  have hz1 := hB1.size
  have hX1 := ((Box.new w 0 0 24).alloc _).below hB1
  have hY1 := (Box.new (w.alloc _) 0 0 24).below hB1
  have hBw : Below w.heap.size w w1 := bstep (by go_grown) hB1
  simp only [World.size_alloc] at hY1
  obtain ⟨x0, x1, x2, x3⟩ := hX1
  obtain ⟨y0, y1, y2, y3⟩ := hY1
  simp at hz1
  go_wp2_with fail
  first | go_returns | (refine bodyPost_ret (by simp [results, Try.results17, go_sem, *]; try rfl) rfl ?_)
  refine ⟨a, b, c, d, rfl, ha0, ha1, hb0, hb1, hc0, hc1, hd0, hd1, ?_⟩
  repeat' (first | (with_reducible exact Below.refl _ _) | (with_reducible assumption) | (with_reducible refine balloc ?_ _) | (with_reducible refine bdrew ?_) | (with_reducible refine Below.setCell ?_ ?_ _) | (with_reducible refine bstep ?_ (by with_reducible assumption)) | go_size)
theorem drawSpanIn (sa : Option Addr) (len cap : Nat) (w : World) (hrow : Row w.heap.size w sa len) (hc : len ≤ cap) (hm : cap ≤ maxLen) :
    Calls Try.prog 18 #[.slice sa len cap] w fun e w' => ∃ a b c d : Int, e = .returned (.tuple #[.agg #[.int .i64 a, .int .i64 b], .agg #[.int .i64 c, .int .i64 d]]) ∧ -1000010 ≤ a ∧ a ≤ 1000010 ∧ -1000010 ≤ b ∧ b ≤ 1000010 ∧ -1000010 ≤ c ∧ c ≤ 1000010 ∧ -1000010 ≤ d ∧ d ≤ 1000010 ∧ Below w.heap.size w w' := by
  have HR : Hid (Row w.heap.size w sa len) := hrow
  clear hrow
  go_enter Try.func18, Try.ntmps18
  go_wp2_with fail
  go_at_call 29
  refine (l1Two sa len cap _ (HR.out.more (by go_grown)) hc hm).mono ?_
  rintro e w1 ⟨a, b, c, d, rfl, ha0, ha1, hb0, hb1, hc0, hc1, hd0, hd1, hB1⟩
  have hz1 := hB1.size
  have hX1 := ((Box.new w 0 0 24).alloc _).below hB1
  have hY1 := (Box.new (w.alloc _) 0 0 24).below hB1
  have hBw : Below w.heap.size w w1 := bstep (by go_grown) hB1
  simp only [World.size_alloc] at hY1
  obtain ⟨x0, x1, x2, x3⟩ := hX1
  obtain ⟨y0, y1, y2, y3⟩ := hY1
  simp at hz1
  go_wp2_with fail
  first | go_returns | (refine bodyPost_ret (by simp [results, Try.results18, go_sem, *]; try rfl) rfl ?_)
  refine ⟨a, b, c, d, rfl, ha0, ha1, hb0, hb1, hc0, hc1, hd0, hd1, ?_⟩
  repeat' (first | (with_reducible exact Below.refl _ _) | (with_reducible assumption) | (with_reducible refine balloc ?_ _) | (with_reducible refine bdrew ?_) | (with_reducible refine Below.setCell ?_ ?_ _) | (with_reducible refine bstep ?_ (by with_reducible assumption)) | go_size)
theorem drawSpanAdd (sa : Option Addr) (len cap : Nat) (w : World) (hrow : Row w.heap.size w sa len) (hc : len ≤ cap) (hm : cap ≤ maxLen) :
    Calls Try.prog 24 #[.slice sa len cap] w fun e w' => ∃ a b c d : Int, e = .returned (.tuple #[.agg #[.int .i64 a, .int .i64 b], .agg #[.int .i64 c, .int .i64 d]]) ∧ -1000010 ≤ a ∧ a ≤ 1000010 ∧ -1000010 ≤ b ∧ b ≤ 1000010 ∧ -1000010 ≤ c ∧ c ≤ 1000010 ∧ -1000010 ≤ d ∧ d ≤ 1000010 ∧ Below w.heap.size w w' := by
  have HR : Hid (Row w.heap.size w sa len) := hrow
  clear hrow
  go_enter Try.func24, Try.ntmps24
  go_wp2_with fail
  go_at_call 29
  refine (l1Two sa len cap _ (HR.out.more (by go_grown)) hc hm).mono ?_
  rintro e w1 ⟨a, b, c, d, rfl, ha0, ha1, hb0, hb1, hc0, hc1, hd0, hd1, hB1⟩
  have hz1 := hB1.size
  have hX1 := ((Box.new w 0 0 24).alloc _).below hB1
  have hY1 := (Box.new (w.alloc _) 0 0 24).below hB1
  have hBw : Below w.heap.size w w1 := bstep (by go_grown) hB1
  simp only [World.size_alloc] at hY1
  obtain ⟨x0, x1, x2, x3⟩ := hX1
  obtain ⟨y0, y1, y2, y3⟩ := hY1
  simp at hz1
  go_wp2_with fail
  first | go_returns | (refine bodyPost_ret (by simp [results, Try.results24, go_sem, *]; try rfl) rfl ?_)
  refine ⟨a, b, c, d, rfl, ha0, ha1, hb0, hb1, hc0, hc1, hd0, hd1, ?_⟩
  repeat' (first | (with_reducible exact Below.refl _ _) | (with_reducible assumption) | (with_reducible refine balloc ?_ _) | (with_reducible refine bdrew ?_) | (with_reducible refine Below.setCell ?_ ?_ _) | (with_reducible refine bstep ?_ (by with_reducible assumption)) | go_size)
theorem drawSpanMeet (sa : Option Addr) (len cap : Nat) (w : World) (hrow : Row w.heap.size w sa len) (hc : len ≤ cap) (hm : cap ≤ maxLen) :
    Calls Try.prog 25 #[.slice sa len cap] w fun e w' => ∃ a b c d : Int, e = .returned (.tuple #[.agg #[.int .i64 a, .int .i64 b], .agg #[.int .i64 c, .int .i64 d]]) ∧ -1000010 ≤ a ∧ a ≤ 1000010 ∧ -1000010 ≤ b ∧ b ≤ 1000010 ∧ -1000010 ≤ c ∧ c ≤ 1000010 ∧ -1000010 ≤ d ∧ d ≤ 1000010 ∧ Below w.heap.size w w' := by
  have HR : Hid (Row w.heap.size w sa len) := hrow
  clear hrow
  go_enter Try.func25, Try.ntmps25
  go_wp2_with fail
  go_at_call 29
  refine (l1Two sa len cap _ (HR.out.more (by go_grown)) hc hm).mono ?_
  rintro e w1 ⟨a, b, c, d, rfl, ha0, ha1, hb0, hb1, hc0, hc1, hd0, hd1, hB1⟩
  have hz1 := hB1.size
  have hX1 := ((Box.new w 0 0 24).alloc _).below hB1
  have hY1 := (Box.new (w.alloc _) 0 0 24).below hB1
  have hBw : Below w.heap.size w w1 := bstep (by go_grown) hB1
  simp only [World.size_alloc] at hY1
  obtain ⟨x0, x1, x2, x3⟩ := hX1
  obtain ⟨y0, y1, y2, y3⟩ := hY1
  simp at hz1
  go_wp2_with fail
  first | go_returns | (refine bodyPost_ret (by simp [results, Try.results25, go_sem, *]; try rfl) rfl ?_)
  refine ⟨a, b, c, d, rfl, ha0, ha1, hb0, hb1, hc0, hc1, hd0, hd1, ?_⟩
  repeat' (first | (with_reducible exact Below.refl _ _) | (with_reducible assumption) | (with_reducible refine balloc ?_ _) | (with_reducible refine bdrew ?_) | (with_reducible refine Below.setCell ?_ ?_ _) | (with_reducible refine bstep ?_ (by with_reducible assumption)) | go_size)
end Go.Proofs.Ytdlkmekdeiajhaa
