/-
  The contracts of joins, meets, sums, differences, products and quotients once more, each under one condition: a range is told, or none is.
-/
import Derived.Test.YtdlkmekdeiajhaaSpanC
import Derived.Test.YtdlkmekdeiajhaaSpanD
import Derived.Test.YtdlkmekdeiajhaaSpanE
namespace Go.Proofs.Ytdlkmekdeiajhaa
open Go.RowKit
set_option linter.unusedSimpArgs false
set_option linter.unusedVariables false

theorem implJoinT (a b c d : Int) (w : World) (h : (okB a b && okB c d) = true) :
    Calls Try.prog 19 #[.agg #[.int .i64 a, .int .i64 b], .agg #[.int .i64 c, .int .i64 d]] w fun e w' => e = .returned (.agg #[.int .i64 (mnI a c), .int .i64 (mxI b d)]) ∧ Below w.heap.size w w' :=
  (implJoin a b c d w).mono fun e w' hh => ⟨by rw [hh.1, h]; rfl, hh.2⟩
theorem implJoinF (a b c d : Int) (w : World) (h : (okB a b && okB c d) = false) :
    Calls Try.prog 19 #[.agg #[.int .i64 a, .int .i64 b], .agg #[.int .i64 c, .int .i64 d]] w fun e w' => e = .returned (.agg #[.int .i64 (0), .int .i64 (0)]) ∧ Below w.heap.size w w' :=
  (implJoin a b c d w).mono fun e w' hh => ⟨by rw [hh.1, h]; rfl, hh.2⟩
theorem specJoinT (a b c d : Int) (w : World) (h : (okB a b && okB c d) = true) :
    Calls Try.prog 22 #[.agg #[.int .i64 a, .int .i64 b], .agg #[.int .i64 c, .int .i64 d]] w fun e w' => e = .returned (.agg #[.int .i64 (mnI a c), .int .i64 (mxI b d)]) ∧ Below w.heap.size w w' :=
  (specJoin a b c d w).mono fun e w' hh => ⟨by rw [hh.1, h]; rfl, hh.2⟩
theorem specJoinF (a b c d : Int) (w : World) (h : (okB a b && okB c d) = false) :
    Calls Try.prog 22 #[.agg #[.int .i64 a, .int .i64 b], .agg #[.int .i64 c, .int .i64 d]] w fun e w' => e = .returned (.agg #[.int .i64 (0), .int .i64 (0)]) ∧ Below w.heap.size w w' :=
  (specJoin a b c d w).mono fun e w' hh => ⟨by rw [hh.1, h]; rfl, hh.2⟩
theorem implMeetT (a b c d : Int) (w : World) (h : (okB a b && okB c d && okB (mxI a c) (mnI b d)) = true) :
    Calls Try.prog 20 #[.agg #[.int .i64 a, .int .i64 b], .agg #[.int .i64 c, .int .i64 d]] w fun e w' => e = .returned (.tuple #[.agg #[.int .i64 (mxI a c), .int .i64 (mnI b d)], .bool true]) ∧ Below w.heap.size w w' :=
  (implMeet a b c d w).mono fun e w' hh => ⟨by rw [hh.1, h]; rfl, hh.2⟩
theorem implMeetF (a b c d : Int) (w : World) (h : (okB a b && okB c d && okB (mxI a c) (mnI b d)) = false) :
    Calls Try.prog 20 #[.agg #[.int .i64 a, .int .i64 b], .agg #[.int .i64 c, .int .i64 d]] w fun e w' => e = .returned (.tuple #[.agg #[.int .i64 (0), .int .i64 (0)], .bool false]) ∧ Below w.heap.size w w' :=
  (implMeet a b c d w).mono fun e w' hh => ⟨by rw [hh.1, h]; rfl, hh.2⟩
theorem specMeetT (a b c d : Int) (w : World) (h : (okB a b && okB c d && okB (mxI a c) (mnI b d)) = true) :
    Calls Try.prog 21 #[.agg #[.int .i64 a, .int .i64 b], .agg #[.int .i64 c, .int .i64 d]] w fun e w' => e = .returned (.tuple #[.agg #[.int .i64 (mxI a c), .int .i64 (mnI b d)], .bool true]) ∧ Below w.heap.size w w' :=
  (specMeet a b c d w).mono fun e w' hh => ⟨by rw [hh.1, h]; rfl, hh.2⟩
theorem specMeetF (a b c d : Int) (w : World) (h : (okB a b && okB c d && okB (mxI a c) (mnI b d)) = false) :
    Calls Try.prog 21 #[.agg #[.int .i64 a, .int .i64 b], .agg #[.int .i64 c, .int .i64 d]] w fun e w' => e = .returned (.tuple #[.agg #[.int .i64 (0), .int .i64 (0)], .bool false]) ∧ Below w.heap.size w w' :=
  (specMeet a b c d w).mono fun e w' hh => ⟨by rw [hh.1, h]; rfl, hh.2⟩
theorem implAddT (a b c d : Int) (w : World) (h : (okB a b && okB c d && okB (wrap64 (a + c)) (wrap64 (b + d))) = true) :
    Calls Try.prog 9 #[.agg #[.int .i64 a, .int .i64 b], .agg #[.int .i64 c, .int .i64 d]] w fun e w' => e = .returned (.tuple #[.agg #[.int .i64 (wrap64 (a + c)), .int .i64 (wrap64 (b + d))], .bool true]) ∧ Below w.heap.size w w' :=
  (implAdd a b c d w).mono fun e w' hh => ⟨by rw [hh.1, h]; rfl, hh.2⟩
theorem implAddF (a b c d : Int) (w : World) (h : (okB a b && okB c d && okB (wrap64 (a + c)) (wrap64 (b + d))) = false) :
    Calls Try.prog 9 #[.agg #[.int .i64 a, .int .i64 b], .agg #[.int .i64 c, .int .i64 d]] w fun e w' => e = .returned (.tuple #[.agg #[.int .i64 (0), .int .i64 (0)], .bool false]) ∧ Below w.heap.size w w' :=
  (implAdd a b c d w).mono fun e w' hh => ⟨by rw [hh.1, h]; rfl, hh.2⟩
theorem implSubT (a b c d : Int) (w : World) (h : (okB a b && okB c d && okB (wrap64 (a - d)) (wrap64 (b - c))) = true) :
    Calls Try.prog 10 #[.agg #[.int .i64 a, .int .i64 b], .agg #[.int .i64 c, .int .i64 d]] w fun e w' => e = .returned (.tuple #[.agg #[.int .i64 (wrap64 (a - d)), .int .i64 (wrap64 (b - c))], .bool true]) ∧ Below w.heap.size w w' :=
  (implSub a b c d w).mono fun e w' hh => ⟨by rw [hh.1, h]; rfl, hh.2⟩
theorem implSubF (a b c d : Int) (w : World) (h : (okB a b && okB c d && okB (wrap64 (a - d)) (wrap64 (b - c))) = false) :
    Calls Try.prog 10 #[.agg #[.int .i64 a, .int .i64 b], .agg #[.int .i64 c, .int .i64 d]] w fun e w' => e = .returned (.tuple #[.agg #[.int .i64 (0), .int .i64 (0)], .bool false]) ∧ Below w.heap.size w w' :=
  (implSub a b c d w).mono fun e w' hh => ⟨by rw [hh.1, h]; rfl, hh.2⟩
theorem implMulT (a b c d : Int) (w : World) (h : (okB a b && okB c d && okB (mulLo a b c d) (mulHi a b c d)) = true) :
    Calls Try.prog 11 #[.agg #[.int .i64 a, .int .i64 b], .agg #[.int .i64 c, .int .i64 d]] w fun e w' => e = .returned (.tuple #[.agg #[.int .i64 (mulLo a b c d), .int .i64 (mulHi a b c d)], .bool true]) ∧ Below w.heap.size w w' :=
  (implMul a b c d w).mono fun e w' hh => ⟨by rw [hh.1, h]; rfl, hh.2⟩
theorem implMulF (a b c d : Int) (w : World) (h : (okB a b && okB c d && okB (mulLo a b c d) (mulHi a b c d)) = false) :
    Calls Try.prog 11 #[.agg #[.int .i64 a, .int .i64 b], .agg #[.int .i64 c, .int .i64 d]] w fun e w' => e = .returned (.tuple #[.agg #[.int .i64 (0), .int .i64 (0)], .bool false]) ∧ Below w.heap.size w w' :=
  (implMul a b c d w).mono fun e w' hh => ⟨by rw [hh.1, h]; rfl, hh.2⟩
theorem specMulT (a b c d : Int) (w : World) (h : (okB a b && okB c d && okB (mulLo a b c d) (mulHi a b c d)) = true) :
    Calls Try.prog 13 #[.agg #[.int .i64 a, .int .i64 b], .agg #[.int .i64 c, .int .i64 d]] w fun e w' => e = .returned (.tuple #[.agg #[.int .i64 (mulLo a b c d), .int .i64 (mulHi a b c d)], .bool true]) ∧ Below w.heap.size w w' :=
  (specMul a b c d w).mono fun e w' hh => ⟨by rw [hh.1, h]; rfl, hh.2⟩
theorem specMulF (a b c d : Int) (w : World) (h : (okB a b && okB c d && okB (mulLo a b c d) (mulHi a b c d)) = false) :
    Calls Try.prog 13 #[.agg #[.int .i64 a, .int .i64 b], .agg #[.int .i64 c, .int .i64 d]] w fun e w' => e = .returned (.tuple #[.agg #[.int .i64 (0), .int .i64 (0)], .bool false]) ∧ Below w.heap.size w w' :=
  (specMul a b c d w).mono fun e w' hh => ⟨by rw [hh.1, h]; rfl, hh.2⟩
theorem implDivT (a b c d : Int) (w : World) (h : (okB a b && okB c d && (!hasB c d 0) && okB (divLo a b c d) (divHi a b c d)) = true) :
    Calls Try.prog 12 #[.agg #[.int .i64 a, .int .i64 b], .agg #[.int .i64 c, .int .i64 d]] w fun e w' => e = .returned (.tuple #[.agg #[.int .i64 (divLo a b c d), .int .i64 (divHi a b c d)], .bool true]) ∧ Below w.heap.size w w' :=
  (implDiv a b c d w).mono fun e w' hh => ⟨by rw [hh.1, h]; rfl, hh.2⟩
theorem implDivF (a b c d : Int) (w : World) (h : (okB a b && okB c d && (!hasB c d 0) && okB (divLo a b c d) (divHi a b c d)) = false) :
    Calls Try.prog 12 #[.agg #[.int .i64 a, .int .i64 b], .agg #[.int .i64 c, .int .i64 d]] w fun e w' => e = .returned (.tuple #[.agg #[.int .i64 (0), .int .i64 (0)], .bool false]) ∧ Below w.heap.size w w' :=
  (implDiv a b c d w).mono fun e w' hh => ⟨by rw [hh.1, h]; rfl, hh.2⟩
theorem specDivT (a b c d : Int) (w : World) (h : (okB a b && okB c d && (!hasB c d 0) && okB (divLo a b c d) (divHi a b c d)) = true) :
    Calls Try.prog 14 #[.agg #[.int .i64 a, .int .i64 b], .agg #[.int .i64 c, .int .i64 d]] w fun e w' => e = .returned (.tuple #[.agg #[.int .i64 (divLo a b c d), .int .i64 (divHi a b c d)], .bool true]) ∧ Below w.heap.size w w' :=
  (specDiv a b c d w).mono fun e w' hh => ⟨by rw [hh.1, h]; rfl, hh.2⟩
theorem specDivF (a b c d : Int) (w : World) (h : (okB a b && okB c d && (!hasB c d 0) && okB (divLo a b c d) (divHi a b c d)) = false) :
    Calls Try.prog 14 #[.agg #[.int .i64 a, .int .i64 b], .agg #[.int .i64 c, .int .i64 d]] w fun e w' => e = .returned (.tuple #[.agg #[.int .i64 (0), .int .i64 (0)], .bool false]) ∧ Below w.heap.size w w' :=
  (specDiv a b c d w).mono fun e w' hh => ⟨by rw [hh.1, h]; rfl, hh.2⟩
theorem inB_mk (a b c d : Int) (h1 : okB a b = true) (h2 : okB c d = true) (h3 : c ≤ a) (h4 : b ≤ d) : inB a b c d = true := by simp [inB, h1, h2, h3, h4]
theorem inB_ok (a b c d : Int) (h : inB a b c d = true) : okB a b = true ∧ okB c d = true ∧ c ≤ a ∧ b ≤ d := by simpa [inB] using h
theorem okB_mk (a b : Int) (h : -1000000 ≤ a ∧ a ≤ b ∧ b ≤ 1000000) : okB a b = true := (okB_iff a b).2 h
end Go.Proofs.Ytdlkmekdeiajhaa
