/-
  With less of two ranges what is reckoned is within what is reckoned with more, and where that is told this is: of sums, products and quotients; the ranges are ok, the lesser within the greater.
-/
import Derived.Test.YtdlkmekdeiajhaaSpanG
namespace Go.Proofs.Ytdlkmekdeiajhaa
open Go.RowKit
set_option linter.unusedSimpArgs false
set_option linter.unusedVariables false

theorem pairAdd (a b c d m0 m1 n0 n1 : Int) (h1 : okB a b = true) (h2 : okB c d = true) (hm : okB m0 m1 = true) (hn : okB n0 n1 = true) (k1 : a ≤ m0) (k2 : m1 ≤ b) (k3 : c ≤ n0) (k4 : n1 ≤ d) :
    ∃ (P Q : Bool) (u1 u2 v1 v2 : Int),
      (∀ w : World, Calls Try.prog 9 #[.agg #[.int .i64 a, .int .i64 b], .agg #[.int .i64 c, .int .i64 d]] w fun e w' => e = .returned (.tuple #[.agg #[.int .i64 u1, .int .i64 u2], .bool P]) ∧ Below w.heap.size w w') ∧
      (∀ w : World, Calls Try.prog 9 #[.agg #[.int .i64 m0, .int .i64 m1], .agg #[.int .i64 n0, .int .i64 n1]] w fun e w' => e = .returned (.tuple #[.agg #[.int .i64 v1, .int .i64 v2], .bool Q]) ∧ Below w.heap.size w w') ∧
      (P = false ∨ (P = true ∧ Q = true ∧ inB v1 v2 u1 u2 = true)) := by
  refine ⟨_, _, _, _, _, _, fun w => implAdd a b c d w, fun w => implAdd m0 m1 n0 n1 w, ?_⟩
  have j1 := (okB_iff _ _).1 h1
  have j2 := (okB_iff _ _).1 h2
  have jm := (okB_iff _ _).1 hm
  have jn := (okB_iff _ _).1 hn
  cases hP : okB (wrap64 (a + c)) (wrap64 (b + d))
  · left; simp
  · right
    have e1 : wrap64 (a + c) = a + c := wrap_small _ (by omega) (by omega)
    have e2 : wrap64 (b + d) = b + d := wrap_small _ (by omega) (by omega)
    have e3 : wrap64 (m0 + n0) = m0 + n0 := wrap_small _ (by omega) (by omega)
    have e4 : wrap64 (m1 + n1) = m1 + n1 := wrap_small _ (by omega) (by omega)
    rw [e1, e2] at hP
    have jP := (okB_iff _ _).1 hP
    have hQ : okB (m0 + n0) (m1 + n1) = true := okB_mk _ _ (by omega)
    rw [e1, e2, e3, e4, h1, h2, hm, hn, hQ]
    refine ⟨rfl, rfl, ?_⟩
    exact inB_mk _ _ _ _ hQ hP (show a + c ≤ m0 + n0 by omega) (show m1 + n1 ≤ b + d by omega)
theorem pairMul (a b c d m0 m1 n0 n1 : Int) (h1 : okB a b = true) (h2 : okB c d = true) (hm : okB m0 m1 = true) (hn : okB n0 n1 = true) (k1 : a ≤ m0) (k2 : m1 ≤ b) (k3 : c ≤ n0) (k4 : n1 ≤ d) :
    ∃ (P Q : Bool) (u1 u2 v1 v2 : Int),
      (∀ w : World, Calls Try.prog 11 #[.agg #[.int .i64 a, .int .i64 b], .agg #[.int .i64 c, .int .i64 d]] w fun e w' => e = .returned (.tuple #[.agg #[.int .i64 u1, .int .i64 u2], .bool P]) ∧ Below w.heap.size w w') ∧
      (∀ w : World, Calls Try.prog 11 #[.agg #[.int .i64 m0, .int .i64 m1], .agg #[.int .i64 n0, .int .i64 n1]] w fun e w' => e = .returned (.tuple #[.agg #[.int .i64 v1, .int .i64 v2], .bool Q]) ∧ Below w.heap.size w w') ∧
      (P = false ∨ (P = true ∧ Q = true ∧ inB v1 v2 u1 u2 = true)) := by
  refine ⟨_, _, _, _, _, _, fun w => implMul a b c d w, fun w => implMul m0 m1 n0 n1 w, ?_⟩
  have j1 := (okB_iff _ _).1 h1
  have j2 := (okB_iff _ _).1 h2
  have jm := (okB_iff _ _).1 hm
  have jn := (okB_iff _ _).1 hn
  cases hP : okB (mulLo a b c d) (mulHi a b c d)
  · left; simp
  · right
    have jP := (okB_iff _ _).1 hP
    have f := four_of _ _ _ _ _ _ (mul_in a b c d m0 n0 h1 h2 (by omega) (by omega) (by omega) (by omega)) (mul_in a b c d m0 n1 h1 h2 (by omega) (by omega) (by omega) (by omega)) (mul_in a b c d m1 n0 h1 h2 (by omega) (by omega) (by omega) (by omega)) (mul_in a b c d m1 n1 h1 h2 (by omega) (by omega) (by omega) (by omega))
    rw [← (mulLo_eq m0 m1 n0 n1 hm hn).1, ← (mulLo_eq m0 m1 n0 n1 hm hn).2] at f
    have hQ : okB (mulLo m0 m1 n0 n1) (mulHi m0 m1 n0 n1) = true := okB_mk _ _ (by omega)
    rw [h1, h2, hm, hn, hQ]
    refine ⟨rfl, rfl, ?_⟩
    exact inB_mk _ _ _ _ hQ hP f.1 f.2.2
theorem pairDiv (a b c d m0 m1 n0 n1 : Int) (h1 : okB a b = true) (h2 : okB c d = true) (hm : okB m0 m1 = true) (hn : okB n0 n1 = true) (k1 : a ≤ m0) (k2 : m1 ≤ b) (k3 : c ≤ n0) (k4 : n1 ≤ d) :
    ∃ (P Q : Bool) (u1 u2 v1 v2 : Int),
      (∀ w : World, Calls Try.prog 12 #[.agg #[.int .i64 a, .int .i64 b], .agg #[.int .i64 c, .int .i64 d]] w fun e w' => e = .returned (.tuple #[.agg #[.int .i64 u1, .int .i64 u2], .bool P]) ∧ Below w.heap.size w w') ∧
      (∀ w : World, Calls Try.prog 12 #[.agg #[.int .i64 m0, .int .i64 m1], .agg #[.int .i64 n0, .int .i64 n1]] w fun e w' => e = .returned (.tuple #[.agg #[.int .i64 v1, .int .i64 v2], .bool Q]) ∧ Below w.heap.size w w') ∧
      (P = false ∨ (P = true ∧ Q = true ∧ inB v1 v2 u1 u2 = true)) := by
  refine ⟨_, _, _, _, _, _, fun w => implDiv a b c d w, fun w => implDiv m0 m1 n0 n1 w, ?_⟩
  have j1 := (okB_iff _ _).1 h1
  have j2 := (okB_iff _ _).1 h2
  have jm := (okB_iff _ _).1 hm
  have jn := (okB_iff _ _).1 hn
  cases hz : hasB c d 0
  · right
    have hz' : hasB n0 n1 0 = false := by rw [hasB_not] at *; omega
    have hP := div_ok a b c d h1 h2 hz
    have hQ := div_ok m0 m1 n0 n1 hm hn hz'
    have f := four_of _ _ _ _ _ _ (div_in a b c d m0 n0 h1 h2 hz (by omega) (by omega) (by omega) (by omega)) (div_in a b c d m0 n1 h1 h2 hz (by omega) (by omega) (by omega) (by omega)) (div_in a b c d m1 n0 h1 h2 hz (by omega) (by omega) (by omega) (by omega)) (div_in a b c d m1 n1 h1 h2 hz (by omega) (by omega) (by omega) (by omega))
    rw [← (divLo_eq m0 m1 n0 n1 hm hn hz').1, ← (divLo_eq m0 m1 n0 n1 hm hn hz').2] at f
    rw [h1, h2, hm, hn, hP, hQ, hz']
    refine ⟨rfl, rfl, ?_⟩
    exact inB_mk _ _ _ _ hQ hP f.1 f.2.2
  · left; simp
end Go.Proofs.Ytdlkmekdeiajhaa
