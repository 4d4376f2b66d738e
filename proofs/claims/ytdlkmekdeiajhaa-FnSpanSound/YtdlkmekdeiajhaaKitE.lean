/-
  A range and a number are drawn, bounded, in new memory; no condition but that the bytes are a row.
-/
import Derived.Test.YtdlkmekdeiajhaaKitD
namespace Go.Proofs.Ytdlkmekdeiajhaa
open Go.RowKit
set_option linter.unusedSimpArgs false
set_option linter.unusedVariables false

theorem nums6 (W : World) (t : TypeId) (a b x : Int) (ha0 : -1000010 ≤ a) (ha1 : a ≤ 1000010) (hb0 : -1000010 ≤ b) (hb1 : b ≤ 1000010) (hx0 : -1000000 ≤ x) (hx1 : x ≤ 1000000) : ∀ i, i < 6 → ∃ y : Int, (W.alloc (.cells #[.int .i64 a, .int .i64 b, .int .i64 (IntKind.i64.wrap (a - 1)), .int .i64 (IntKind.i64.wrap (b + 1)), .int .i64 0, .int .i64 x] t)).cell? ⟨W.heap.size, i, none⟩ = some (.int .i64 y) ∧ -1000011 ≤ y ∧ y ≤ 1000011 := by
  intro i hi
  have e1 : IntKind.i64.wrap (a - 1) = a - 1 := by rw [IntKind.wrap_i64]; omega
  have e2 : IntKind.i64.wrap (b + 1) = b + 1 := by rw [IntKind.wrap_i64]; omega
  rw [e1, e2]
  have h : i = 0 ∨ i = 1 ∨ i = 2 ∨ i = 3 ∨ i = 4 ∨ i = 5 := by omega
  rcases h with rfl | rfl | rfl | rfl | rfl | rfl <;> exact ⟨_, (World.cell?_alloc_new W _ t _).trans rfl, by omega, by omega⟩

set_option maxHeartbeats 2000000 in
theorem drawSpanHas (sa : Option Addr) (len cap : Nat) (w : World) (hrow : Row w.heap.size w sa len) (hc : len ≤ cap) (hm : cap ≤ maxLen) :
    Calls Try.prog 26 #[.slice sa len cap] w fun e w' => ∃ a b n : Int, e = .returned (.tuple #[.agg #[.int .i64 a, .int .i64 b], .int .i64 n]) ∧ -1000010 ≤ a ∧ a ≤ 1000010 ∧ -1000010 ≤ b ∧ b ≤ 1000010 ∧ -1000011 ≤ n ∧ n ≤ 1000011 ∧ Below w.heap.size w w' := by
  have HR : Hid (Row w.heap.size w sa len) := hrow
  clear hrow
  go_enter Try.func26, Try.ntmps26
  go_wp2_with fail
  go_at_call 44
  refine (l19Open sa len cap _ (HR.out.more (by go_grown)) hc hm).mono ?_
  rintro e w1 ⟨len', rfl, hB1, hR1⟩
  have hz1 := hB1.size
  simp at hz1 hR1
  have hX1 := (Box.new w 0 0 24).below hB1
  have hBw : Below w.heap.size w w1 := bstep (by go_grown) hB1
  go_wp2_with fail
  go_at_call 45
  refine (l1Span _ _ sa len' cap _ _ hR1 (by omega)).mono ?_
  rintro e w2 ⟨a, b, kk, rfl, ha0, ha1, hb0, hb1, hA2, hkk, hR2⟩
  have hX2 := hX1.adv hA2 (by omega)
  have hg2 := hR2.lt
  have hBw2 := Adv.onto hBw (by omega) (by omega) hA2
  have hX2d := (hX2.alloc (.cells #[.int .i64 a, .int .i64 b] 24)).drew
  have hR2d := (hR2.alloc (.cells #[.int .i64 a, .int .i64 b] 24)).drew
  have hS2d := (Box.new w2 a b 24).drew
  have hBw2d := bdrew (balloc hBw2 (.cells #[.int .i64 a, .int .i64 b] 24))
  go_wp2_with fail
  go_region_held3 (fun w' => w'.cell? ⟨w2.heap.size, 0, none⟩ = some (.int .i64 a) ∧ w'.cell? ⟨w2.heap.size, 1, none⟩ = some (.int .i64 b)) (simp [*, go_sem, World.cell?_alloc_some, World.cell?_setCell_far, apart1, apart2, apart3, apart4, apart5, apart6]) (first | (go_at_call 47; refine (l1Num _ _ sa len' cap _ _ hR2d (by omega)).mono ?_; rintro e w3 ⟨x, rfl, hx0, hx1, hA3, hR3⟩; (have hS3 := hS2d.adv hA3 (by omega)); (have hX3 := hX2d.adv hA3 (by omega)); (have hs30 := hS3.c0); (have hs31 := hS3.c1); (have hBw3 := Adv.onto hBw2d (by omega) (by simp; omega) hA3); (have hg3 := hR3.lt); (have hz3 := hS3.lt)) | (go_at_call 46; refine (num _ _ sa len' cap _ w3.heap.size 6 (-1000011) 1000011 _ (hR3.alloc _) (by omega) (by omega) (by omega) (by omega) (nums6 w3 _ a b x ha0 ha1 hb0 hb1 hx0 hx1)).mono ?_; rintro e w4 ⟨y, rfl, hy0, hy1, hA4, hR4⟩; (have hS4 := (hS3.alloc _).adv hA4 (by omega)); (have hX4 := (hX3.alloc _).adv hA4 (by omega)); (have hs40 := hS4.c0); (have hs41 := hS4.c1); (have hx40 := hX4.c0); (have hx41 := hX4.c1); (have hx4f := hX4.f0); (have hx4g := hX4.f1); (have hBw4 := Adv.onto (balloc hBw3 _) (by omega) (by simp; omega) hA4)))
  all_goals
    go_wp2_with fail
    first | go_returns | (refine bodyPost_ret (by simp [results, Try.results26, go_sem, *]; try rfl) rfl ?_)
    refine ⟨a, b, y, rfl, ha0, ha1, hb0, hb1, hy0, hy1, ?_⟩
    repeat' (first | (with_reducible exact Below.refl _ _) | (with_reducible assumption) | (with_reducible refine balloc ?_ _) | (with_reducible refine bdrew ?_) | (with_reducible refine Below.setCell ?_ ?_ _) | (with_reducible refine bstep ?_ (by with_reducible assumption)) | go_size)
end Go.Proofs.Ytdlkmekdeiajhaa
