/-
  What the parts of joins, meets, sums, differences, products and quotients of two ranges are, the program's and the specification's: one contract a function; the quotients under the condition that neither end of the second is 0.
-/
import Derived.Test.YtdlkmekdeiajhaaSpanA
import Derived.Deep.RegionHeld3
import Derived.Deep.RegionWith
namespace Go.Proofs.Ytdlkmekdeiajhaa
open Go.RowKit
set_option linter.unusedSimpArgs false
set_option linter.unusedVariables false

def fourLo (a b c d : Int) : Int := mnI (mnI a b) (mnI c d)
def fourHi (a b c d : Int) : Int := mxI (mxI a b) (mxI c d)
def mulLo (a b c d : Int) : Int := fourLo (wrap64 (a * c)) (wrap64 (a * d)) (wrap64 (b * c)) (wrap64 (b * d))
def mulHi (a b c d : Int) : Int := fourHi (wrap64 (a * c)) (wrap64 (a * d)) (wrap64 (b * c)) (wrap64 (b * d))
def divLo (a b c d : Int) : Int := fourLo (wrap64 (a.tdiv c)) (wrap64 (a.tdiv d)) (wrap64 (b.tdiv c)) (wrap64 (b.tdiv d))
def divHi (a b c d : Int) : Int := fourHi (wrap64 (a.tdiv c)) (wrap64 (a.tdiv d)) (wrap64 (b.tdiv c)) (wrap64 (b.tdiv d))

theorem joinRaw (a b c d : Int) (w : World) :
    Calls Try.prog 40 #[.agg #[.int .i64 a, .int .i64 b], .agg #[.int .i64 c, .int .i64 d]] w fun e w' => e = .returned (.agg #[.int .i64 (mnI a c), .int .i64 (mxI b d)]) ∧ Below w.heap.size w w' := by
  go_enter Try.func40, Try.ntmps40
  go_wp2
  go_region_held3 (fun w' => w'.cell? ⟨w.heap.size, 0, none⟩ = some (.int .i64 a) ∧ w'.cell? ⟨w.heap.size, 1, none⟩ = some (.int .i64 b) ∧ w'.cell? ⟨w.heap.size + 1, 0, none⟩ = some (.int .i64 c) ∧ w'.cell? ⟨w.heap.size + 1, 1, none⟩ = some (.int .i64 d)) (simp [*, go_sem, World.cell?_alloc_some, World.cell?_setCell_far, apart1, apart2, apart3, apart4, apart5, apart6]) (first | (go_at_call 49; refine (lesser _ _ _).mono ?_; rintro e w1 ⟨rfl, rfl⟩) | (go_at_call 50; refine (greater _ _ _).mono ?_; rintro e w1 ⟨rfl, rfl⟩))
  all_goals
    go_wp2
    first | go_returns | (refine bodyPost_ret (by simp [results, Try.results40, go_sem, *]; try rfl) rfl ?_)
    refine ⟨rfl, ?_⟩
    repeat' (first | (with_reducible exact Below.refl _ _) | (with_reducible assumption) | (with_reducible refine balloc ?_ _) | (with_reducible refine bdrew ?_) | (with_reducible refine Below.setCell ?_ ?_ _) | (with_reducible refine bstep ?_ (by with_reducible assumption)) | go_size)
theorem meetRaw (a b c d : Int) (w : World) :
    Calls Try.prog 41 #[.agg #[.int .i64 a, .int .i64 b], .agg #[.int .i64 c, .int .i64 d]] w fun e w' => e = .returned (.agg #[.int .i64 (mxI a c), .int .i64 (mnI b d)]) ∧ Below w.heap.size w w' := by
  go_enter Try.func41, Try.ntmps41
  go_wp2
  go_region_held3 (fun w' => w'.cell? ⟨w.heap.size, 0, none⟩ = some (.int .i64 a) ∧ w'.cell? ⟨w.heap.size, 1, none⟩ = some (.int .i64 b) ∧ w'.cell? ⟨w.heap.size + 1, 0, none⟩ = some (.int .i64 c) ∧ w'.cell? ⟨w.heap.size + 1, 1, none⟩ = some (.int .i64 d)) (simp [*, go_sem, World.cell?_alloc_some, World.cell?_setCell_far, apart1, apart2, apart3, apart4, apart5, apart6]) (first | (go_at_call 49; refine (lesser _ _ _).mono ?_; rintro e w1 ⟨rfl, rfl⟩) | (go_at_call 50; refine (greater _ _ _).mono ?_; rintro e w1 ⟨rfl, rfl⟩))
  all_goals
    go_wp2
    first | go_returns | (refine bodyPost_ret (by simp [results, Try.results41, go_sem, *]; try rfl) rfl ?_)
    refine ⟨rfl, ?_⟩
    repeat' (first | (with_reducible exact Below.refl _ _) | (with_reducible assumption) | (with_reducible refine balloc ?_ _) | (with_reducible refine bdrew ?_) | (with_reducible refine Below.setCell ?_ ?_ _) | (with_reducible refine bstep ?_ (by with_reducible assumption)) | go_size)
theorem plusRaw (a b c d : Int) (w : World) :
    Calls Try.prog 31 #[.agg #[.int .i64 a, .int .i64 b], .agg #[.int .i64 c, .int .i64 d]] w fun e w' => e = .returned (.agg #[.int .i64 (wrap64 (a + c)), .int .i64 (wrap64 (b + d))]) ∧ Below w.heap.size w w' := by
  go_enter Try.func31, Try.ntmps31
  go_wp2
  first | go_returns | (refine bodyPost_ret (by simp [results, Try.results31, go_sem, *]; try rfl) rfl ?_)
  refine ⟨rfl, ?_⟩
  repeat' (first | (with_reducible exact Below.refl _ _) | (with_reducible assumption) | (with_reducible refine balloc ?_ _) | (with_reducible refine bdrew ?_) | (with_reducible refine Below.setCell ?_ ?_ _) | (with_reducible refine bstep ?_ (by with_reducible assumption)) | go_size)
theorem minusRaw (a b c d : Int) (w : World) :
    Calls Try.prog 33 #[.agg #[.int .i64 a, .int .i64 b], .agg #[.int .i64 c, .int .i64 d]] w fun e w' => e = .returned (.agg #[.int .i64 (wrap64 (a - d)), .int .i64 (wrap64 (b - c))]) ∧ Below w.heap.size w w' := by
  go_enter Try.func33, Try.ntmps33
  go_wp2
  first | go_returns | (refine bodyPost_ret (by simp [results, Try.results33, go_sem, *]; try rfl) rfl ?_)
  refine ⟨rfl, ?_⟩
  repeat' (first | (with_reducible exact Below.refl _ _) | (with_reducible assumption) | (with_reducible refine balloc ?_ _) | (with_reducible refine bdrew ?_) | (with_reducible refine Below.setCell ?_ ?_ _) | (with_reducible refine bstep ?_ (by with_reducible assumption)) | go_size)
theorem aroundFour (a b c d : Int) (w : World) :
    Calls Try.prog 48 #[.int .i64 a, .int .i64 b, .int .i64 c, .int .i64 d] w fun e w' => e = .returned (.agg #[.int .i64 (fourLo a b c d), .int .i64 (fourHi a b c d)]) ∧ Below w.heap.size w w' := by
  go_enter Try.func48, Try.ntmps48
  go_wp2_with (first | (go_at_call 49; refine (lesser _ _ _).mono ?_; rintro e w1 ⟨rfl, rfl⟩) | (go_at_call 50; refine (greater _ _ _).mono ?_; rintro e w1 ⟨rfl, rfl⟩))
  first | go_returns | (refine bodyPost_ret (by simp [results, Try.results48, go_sem, *]; try rfl) rfl ?_)
  refine ⟨rfl, ?_⟩
  repeat' (first | (with_reducible exact Below.refl _ _) | (with_reducible assumption) | (with_reducible refine balloc ?_ _) | (with_reducible refine bdrew ?_) | (with_reducible refine Below.setCell ?_ ?_ _) | (with_reducible refine bstep ?_ (by with_reducible assumption)) | go_size)
theorem l1Four (a b c d : Int) (w : World) :
    Calls Try.prog 38 #[.int .i64 a, .int .i64 b, .int .i64 c, .int .i64 d] w fun e w' => e = .returned (.agg #[.int .i64 (fourLo a b c d), .int .i64 (fourHi a b c d)]) ∧ Below w.heap.size w w' := by
  go_enter Try.func38, Try.ntmps38
  go_wp2_with (first | (go_at_call 43; refine (l1Min _ _ _).mono ?_; rintro e w1 ⟨rfl, rfl⟩) | (go_at_call 42; refine (l1Max _ _ _).mono ?_; rintro e w1 ⟨rfl, rfl⟩))
  first | go_returns | (refine bodyPost_ret (by simp [results, Try.results38, go_sem, *]; try rfl) rfl ?_)
  refine ⟨rfl, ?_⟩
  repeat' (first | (with_reducible exact Below.refl _ _) | (with_reducible assumption) | (with_reducible refine balloc ?_ _) | (with_reducible refine bdrew ?_) | (with_reducible refine Below.setCell ?_ ?_ _) | (with_reducible refine bstep ?_ (by with_reducible assumption)) | go_size)
theorem fourMul (a b c d : Int) (w : World) :
    Calls Try.prog 38 #[.int .i64 (IntKind.i64.wrap (a * c)), .int .i64 (IntKind.i64.wrap (a * d)), .int .i64 (IntKind.i64.wrap (b * c)), .int .i64 (IntKind.i64.wrap (b * d))] w fun e w' => e = .returned (.agg #[.int .i64 (mulLo a b c d), .int .i64 (mulHi a b c d)]) ∧ Below w.heap.size w w' := by
  refine (l1Four (IntKind.i64.wrap (a * c)) (IntKind.i64.wrap (a * d)) (IntKind.i64.wrap (b * c)) (IntKind.i64.wrap (b * d)) w).mono fun e w' h => ?_
  rw [h.1]
  exact ⟨by simp only [mulLo, mulHi, wrap_eq], h.2⟩
theorem fourMulW (a b c d : Int) (w : World) :
    Calls Try.prog 38 #[.int .i64 (wrap64 (a * c)), .int .i64 (wrap64 (a * d)), .int .i64 (wrap64 (b * c)), .int .i64 (wrap64 (b * d))] w fun e w' => e = .returned (.agg #[.int .i64 (mulLo a b c d), .int .i64 (mulHi a b c d)]) ∧ Below w.heap.size w w' := by
  refine (l1Four (wrap64 (a * c)) (wrap64 (a * d)) (wrap64 (b * c)) (wrap64 (b * d)) w).mono fun e w' h => ?_
  rw [h.1]
  exact ⟨by simp only [mulLo, mulHi], h.2⟩
theorem fourDiv (a b c d : Int) (w : World) :
    Calls Try.prog 38 #[.int .i64 (IntKind.i64.wrap (a.tdiv c)), .int .i64 (IntKind.i64.wrap (a.tdiv d)), .int .i64 (IntKind.i64.wrap (b.tdiv c)), .int .i64 (IntKind.i64.wrap (b.tdiv d))] w fun e w' => e = .returned (.agg #[.int .i64 (divLo a b c d), .int .i64 (divHi a b c d)]) ∧ Below w.heap.size w w' := by
  refine (l1Four (IntKind.i64.wrap (a.tdiv c)) (IntKind.i64.wrap (a.tdiv d)) (IntKind.i64.wrap (b.tdiv c)) (IntKind.i64.wrap (b.tdiv d)) w).mono fun e w' h => ?_
  rw [h.1]
  exact ⟨by simp only [divLo, divHi, wrap_eq], h.2⟩
theorem fourDivW (a b c d : Int) (w : World) :
    Calls Try.prog 38 #[.int .i64 (wrap64 (a.tdiv c)), .int .i64 (wrap64 (a.tdiv d)), .int .i64 (wrap64 (b.tdiv c)), .int .i64 (wrap64 (b.tdiv d))] w fun e w' => e = .returned (.agg #[.int .i64 (divLo a b c d), .int .i64 (divHi a b c d)]) ∧ Below w.heap.size w w' := by
  refine (l1Four (wrap64 (a.tdiv c)) (wrap64 (a.tdiv d)) (wrap64 (b.tdiv c)) (wrap64 (b.tdiv d)) w).mono fun e w' h => ?_
  rw [h.1]
  exact ⟨by simp only [divLo, divHi], h.2⟩
theorem timesRaw (a b c d : Int) (w : World) :
    Calls Try.prog 34 #[.agg #[.int .i64 a, .int .i64 b], .agg #[.int .i64 c, .int .i64 d]] w fun e w' => e = .returned (.agg #[.int .i64 (mulLo a b c d), .int .i64 (mulHi a b c d)]) ∧ Below w.heap.size w w' := by
  go_enter Try.func34, Try.ntmps34
  go_wp2_with (go_at_call 48; refine (aroundFour _ _ _ _ _).mono ?_; rintro e w1 ⟨rfl, hb⟩; obtain ⟨hc, hf⟩ := bcell hb; have hzs := bsize hb; have hz := hb.size; (try simp at hz); (try have hz0 : w.heap.size < w1.heap.size := by omega); (try have hz1 : w.heap.size + 1 < w1.heap.size := by omega); (try have hz2 : w.heap.size + 1 + 1 < w1.heap.size := by omega); (try have hz3 : w.heap.size + 1 + 1 + 1 < w1.heap.size := by omega); (try have hz4 : w.heap.size + 1 + 1 + 1 + 1 < w1.heap.size := by omega))
  first | go_returns | (refine bodyPost_ret (by simp [results, Try.results34, go_sem, *]; try rfl) rfl ?_)
  refine ⟨rfl, ?_⟩
  repeat' (first | (with_reducible exact Below.refl _ _) | (with_reducible assumption) | (with_reducible refine balloc ?_ _) | (with_reducible refine bdrew ?_) | (with_reducible refine Below.setCell ?_ ?_ _) | (with_reducible refine bstep ?_ (by with_reducible assumption)) | go_size)
set_option maxHeartbeats 1000000 in
theorem byRaw (a b c d : Int) (w : World) (hc0 : ¬ c = 0) (hd0 : ¬ d = 0) :
    Calls Try.prog 36 #[.agg #[.int .i64 a, .int .i64 b], .agg #[.int .i64 c, .int .i64 d]] w fun e w' => e = .returned (.agg #[.int .i64 (divLo a b c d), .int .i64 (divHi a b c d)]) ∧ Below w.heap.size w w' := by
  go_enter Try.func36, Try.ntmps36
  go_wp2
  go_region_held3 (fun w' => w'.cell? ⟨w.heap.size, 0, none⟩ = some (.int .i64 a) ∧ w'.cell? ⟨w.heap.size, 1, none⟩ = some (.int .i64 b) ∧ w'.cell? ⟨w.heap.size + 1, 0, none⟩ = some (.int .i64 c) ∧ w'.cell? ⟨w.heap.size + 1, 1, none⟩ = some (.int .i64 d)) (simp [*, go_sem, World.cell?_alloc_some, World.cell?_setCell_far, apart1, apart2, apart3, apart4, apart5, apart6]) (first | (go_at_call 48; refine (aroundFour _ _ _ _ _).mono ?_; rintro e w1 ⟨rfl, hb⟩; obtain ⟨hc, hf⟩ := bcell hb; have hzs := bsize hb; have hz := hb.size; (try simp at hz); (try have hz0 : w.heap.size < w1.heap.size := by omega); (try have hz1 : w.heap.size + 1 < w1.heap.size := by omega); (try have hz2 : w.heap.size + 1 + 1 < w1.heap.size := by omega); (try have hz3 : w.heap.size + 1 + 1 + 1 < w1.heap.size := by omega); (try have hz4 : w.heap.size + 1 + 1 + 1 + 1 < w1.heap.size := by omega); (have hk00 := cell_later (a := ⟨w.heap.size, 0, none⟩) (v := .int .i64 a) hb (by first | assumption | (simp [go_sem]; done) | (simp [*, go_sem]; done))); (have hk01 := cell_later (a := ⟨w.heap.size, 1, none⟩) (v := .int .i64 b) hb (by first | assumption | (simp [go_sem]; done) | (simp [*, go_sem]; done))); (have hk10 := cell_later (a := ⟨w.heap.size + 1, 0, none⟩) (v := .int .i64 c) hb (by first | assumption | (simp [go_sem]; done) | (simp [*, go_sem]; done))); (have hk11 := cell_later (a := ⟨w.heap.size + 1, 1, none⟩) (v := .int .i64 d) hb (by first | assumption | (simp [go_sem]; done) | (simp [*, go_sem]; done)))))
  all_goals
    go_wp2
    first | go_returns | (refine bodyPost_ret (by simp [results, Try.results36, go_sem, *]; try rfl) rfl ?_)
    refine ⟨by simp only [divLo, divHi, wrap_eq], ?_⟩
    repeat' (first | (with_reducible exact Below.refl _ _) | (with_reducible assumption) | (with_reducible refine balloc ?_ _) | (with_reducible refine bdrew ?_) | (with_reducible refine Below.setCell ?_ ?_ _) | (with_reducible refine bstep ?_ (by with_reducible assumption)) | go_size)
theorem toldRaw (a b : Int) (w : World) :
    Calls Try.prog 32 #[.agg #[.int .i64 a, .int .i64 b]] w fun e w' => e = .returned (.tuple #[.agg #[.int .i64 (selI (okB a b) (a)), .int .i64 (selI (okB a b) (b))], .bool (okB a b)]) ∧ Below w.heap.size w w' := by
  cases h1 : okB a b
  all_goals
    go_enter Try.func32, Try.ntmps32
    go_wp2_with (go_at_call 39; refine (implOk _ _ _).mono ?_; rintro e w1 ⟨rfl, hb⟩; obtain ⟨hc, hf⟩ := bcell hb; have hzs := bsize hb; have hz := hb.size; (try simp at hz); (try have hz0 : w.heap.size < w1.heap.size := by omega); (try have hz1 : w.heap.size + 1 < w1.heap.size := by omega); (try have hz2 : w.heap.size + 1 + 1 < w1.heap.size := by omega); (try have hz3 : w.heap.size + 1 + 1 + 1 < w1.heap.size := by omega); (try have hz4 : w.heap.size + 1 + 1 + 1 + 1 < w1.heap.size := by omega))
    first | go_returns | (refine bodyPost_ret (by simp [results, Try.results32, go_sem, *]; try rfl) rfl ?_)
    refine ⟨rfl, ?_⟩
    repeat' (first | (with_reducible exact Below.refl _ _) | (with_reducible assumption) | (with_reducible refine balloc ?_ _) | (with_reducible refine bdrew ?_) | (with_reducible refine Below.setCell ?_ ?_ _) | (with_reducible refine bstep ?_ (by with_reducible assumption)) | go_size)
set_option maxHeartbeats 1000000 in
theorem l1Told (a b c d lo hi : Int) (w : World) :
    Calls Try.prog 37 #[.agg #[.int .i64 a, .int .i64 b], .agg #[.int .i64 c, .int .i64 d], .agg #[.int .i64 lo, .int .i64 hi]] w fun e w' => e = .returned (.tuple #[.agg #[.int .i64 (selI (okB a b && okB c d && okB lo hi) (lo)), .int .i64 (selI (okB a b && okB c d && okB lo hi) (hi))], .bool (okB a b && okB c d && okB lo hi)]) ∧ Below w.heap.size w w' := by
  cases h1 : okB a b <;> cases h2 : okB c d <;> cases h3 : okB lo hi
  all_goals
    go_enter Try.func37, Try.ntmps37
    go_wp2_with (go_at_call 15; refine (specOk _ _ _).mono ?_; rintro e w1 ⟨rfl, hb⟩; obtain ⟨hc, hf⟩ := bcell hb; have hzs := bsize hb; have hz := hb.size; (try simp at hz); (try have hz0 : w.heap.size < w1.heap.size := by omega); (try have hz1 : w.heap.size + 1 < w1.heap.size := by omega); (try have hz2 : w.heap.size + 1 + 1 < w1.heap.size := by omega); (try have hz3 : w.heap.size + 1 + 1 + 1 < w1.heap.size := by omega); (try have hz4 : w.heap.size + 1 + 1 + 1 + 1 < w1.heap.size := by omega); (have hk00 := cell_later (a := ⟨w.heap.size, 0, none⟩) (v := .int .i64 a) hb (by first | assumption | (simp [go_sem]; done) | (simp [*, go_sem]; done))); (have hk01 := cell_later (a := ⟨w.heap.size, 1, none⟩) (v := .int .i64 b) hb (by first | assumption | (simp [go_sem]; done) | (simp [*, go_sem]; done))); (have hk10 := cell_later (a := ⟨w.heap.size + 1, 0, none⟩) (v := .int .i64 c) hb (by first | assumption | (simp [go_sem]; done) | (simp [*, go_sem]; done))); (have hk11 := cell_later (a := ⟨w.heap.size + 1, 1, none⟩) (v := .int .i64 d) hb (by first | assumption | (simp [go_sem]; done) | (simp [*, go_sem]; done))); (have hk20 := cell_later (a := ⟨w.heap.size + 1 + 1, 0, none⟩) (v := .int .i64 lo) hb (by first | assumption | (simp [go_sem]; done) | (simp [*, go_sem]; done))); (have hk21 := cell_later (a := ⟨w.heap.size + 1 + 1, 1, none⟩) (v := .int .i64 hi) hb (by first | assumption | (simp [go_sem]; done) | (simp [*, go_sem]; done))))
    first | go_returns | (refine bodyPost_ret (by simp [results, Try.results37, go_sem, *]; try rfl) rfl ?_)
    refine ⟨rfl, ?_⟩
    repeat' (first | (with_reducible exact Below.refl _ _) | (with_reducible assumption) | (with_reducible refine balloc ?_ _) | (with_reducible refine bdrew ?_) | (with_reducible refine Below.setCell ?_ ?_ _) | (with_reducible refine bstep ?_ (by with_reducible assumption)) | go_size)
end Go.Proofs.Ytdlkmekdeiajhaa
