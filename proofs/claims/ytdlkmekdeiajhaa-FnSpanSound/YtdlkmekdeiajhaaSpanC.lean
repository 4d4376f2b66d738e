/-
  What the joins, meets, sums, differences and products of two ranges are, the program's and the specification's: one contract a function; no condition.
-/
import Derived.Test.YtdlkmekdeiajhaaSpanB
namespace Go.Proofs.Ytdlkmekdeiajhaa
open Go.RowKit
set_option linter.unusedSimpArgs false
set_option linter.unusedVariables false

theorem implJoin (a b c d : Int) (w : World) :
    Calls Try.prog 19 #[.agg #[.int .i64 a, .int .i64 b], .agg #[.int .i64 c, .int .i64 d]] w fun e w' => e = .returned (.agg #[.int .i64 (selI (okB a b && okB c d) (mnI a c)), .int .i64 (selI (okB a b && okB c d) (mxI b d))]) ∧ Below w.heap.size w w' := by
  cases h1 : okB a b && okB c d
  all_goals
    go_enter Try.func19, Try.ntmps19
    go_wp2_with (first | (go_at_call 30; refine (bothOk _ _ _ _ _).mono ?_; rintro e w1 ⟨rfl, hb⟩; obtain ⟨hc, hf⟩ := bcell hb; have hzs := bsize hb; have hz := hb.size; (try simp at hz); (try have hz0 : w.heap.size < w1.heap.size := by omega); (try have hz1 : w.heap.size + 1 < w1.heap.size := by omega); (try have hz2 : w.heap.size + 1 + 1 < w1.heap.size := by omega); (try have hz3 : w.heap.size + 1 + 1 + 1 < w1.heap.size := by omega); (try have hz4 : w.heap.size + 1 + 1 + 1 + 1 < w1.heap.size := by omega); (have hk00 := cell_later (a := ⟨w.heap.size, 0, none⟩) (v := .int .i64 a) hb (by first | assumption | (simp [go_sem]; done) | (simp [*, go_sem]; done))); (have hk01 := cell_later (a := ⟨w.heap.size, 1, none⟩) (v := .int .i64 b) hb (by first | assumption | (simp [go_sem]; done) | (simp [*, go_sem]; done))); (have hk10 := cell_later (a := ⟨w.heap.size + 1, 0, none⟩) (v := .int .i64 c) hb (by first | assumption | (simp [go_sem]; done) | (simp [*, go_sem]; done))); (have hk11 := cell_later (a := ⟨w.heap.size + 1, 1, none⟩) (v := .int .i64 d) hb (by first | assumption | (simp [go_sem]; done) | (simp [*, go_sem]; done)))) | (go_at_call 40; refine (joinRaw _ _ _ _ _).mono ?_; rintro e w1 ⟨rfl, hb⟩; obtain ⟨hc, hf⟩ := bcell hb; have hzs := bsize hb; have hz := hb.size; (try simp at hz); (try have hz0 : w.heap.size < w1.heap.size := by omega); (try have hz1 : w.heap.size + 1 < w1.heap.size := by omega); (try have hz2 : w.heap.size + 1 + 1 < w1.heap.size := by omega); (try have hz3 : w.heap.size + 1 + 1 + 1 < w1.heap.size := by omega); (try have hz4 : w.heap.size + 1 + 1 + 1 + 1 < w1.heap.size := by omega)))
    first | go_returns | (refine bodyPost_ret (by simp [results, Try.results19, go_sem, *]; try rfl) rfl ?_)
    refine ⟨rfl, ?_⟩
    repeat' (first | (with_reducible exact Below.refl _ _) | (with_reducible assumption) | (with_reducible refine balloc ?_ _) | (with_reducible refine bdrew ?_) | (with_reducible refine Below.setCell ?_ ?_ _) | (with_reducible refine bstep ?_ (by with_reducible assumption)) | go_size)
theorem specJoin (a b c d : Int) (w : World) :
    Calls Try.prog 22 #[.agg #[.int .i64 a, .int .i64 b], .agg #[.int .i64 c, .int .i64 d]] w fun e w' => e = .returned (.agg #[.int .i64 (selI (okB a b && okB c d) (mnI a c)), .int .i64 (selI (okB a b && okB c d) (mxI b d))]) ∧ Below w.heap.size w w' := by
  by_cases h : okB a b = true ∧ okB c d = true
  · obtain ⟨h1, h2⟩ := h
    rw [h1, h2]
    go_enter Try.func22, Try.ntmps22
    go_wp2_with (go_at_call 15; refine (specOk _ _ _).mono ?_; rintro e w1 ⟨rfl, hb⟩; obtain ⟨hc, hf⟩ := bcell hb; have hzs := bsize hb; have hz := hb.size; (try simp at hz); (try have hz0 : w.heap.size < w1.heap.size := by omega); (try have hz1 : w.heap.size + 1 < w1.heap.size := by omega); (try have hz2 : w.heap.size + 1 + 1 < w1.heap.size := by omega); (try have hz3 : w.heap.size + 1 + 1 + 1 < w1.heap.size := by omega); (try have hz4 : w.heap.size + 1 + 1 + 1 + 1 < w1.heap.size := by omega); (have hk00 := cell_later (a := ⟨w.heap.size, 0, none⟩) (v := .int .i64 a) hb (by first | assumption | (simp [go_sem]; done) | (simp [*, go_sem]; done))); (have hk01 := cell_later (a := ⟨w.heap.size, 1, none⟩) (v := .int .i64 b) hb (by first | assumption | (simp [go_sem]; done) | (simp [*, go_sem]; done))); (have hk10 := cell_later (a := ⟨w.heap.size + 1, 0, none⟩) (v := .int .i64 c) hb (by first | assumption | (simp [go_sem]; done) | (simp [*, go_sem]; done))); (have hk11 := cell_later (a := ⟨w.heap.size + 1, 1, none⟩) (v := .int .i64 d) hb (by first | assumption | (simp [go_sem]; done) | (simp [*, go_sem]; done))))
    go_region_held3 (fun w' => w'.cell? ⟨w.heap.size, 0, none⟩ = some (.int .i64 a) ∧ w'.cell? ⟨w.heap.size, 1, none⟩ = some (.int .i64 b) ∧ w'.cell? ⟨w.heap.size + 1, 0, none⟩ = some (.int .i64 c) ∧ w'.cell? ⟨w.heap.size + 1, 1, none⟩ = some (.int .i64 d)) (simp [*, go_sem, World.cell?_alloc_some, World.cell?_setCell_far, apart1, apart2, apart3, apart4, apart5, apart6]) (first | (go_at_call 43; refine (l1Min _ _ _).mono ?_; rintro e w1 ⟨rfl, rfl⟩) | (go_at_call 42; refine (l1Max _ _ _).mono ?_; rintro e w1 ⟨rfl, rfl⟩))
    all_goals
      go_wp2
      first | go_returns | (refine bodyPost_ret (by simp [results, Try.results22, go_sem, *]; try rfl) rfl ?_)
      refine ⟨rfl, ?_⟩
      repeat' (first | (with_reducible exact Below.refl _ _) | (with_reducible assumption) | (with_reducible refine balloc ?_ _) | (with_reducible refine bdrew ?_) | (with_reducible refine Below.setCell ?_ ?_ _) | (with_reducible refine bstep ?_ (by with_reducible assumption)) | go_size)
  · have hn : (okB a b && okB c d) = false := by cases h1 : okB a b <;> cases h2 : okB c d <;> simp_all
    rw [hn]
    cases h1 : okB a b <;> cases h2 : okB c d
    case true.true => exact absurd ⟨h1, h2⟩ h
    all_goals
      clear h hn
      go_enter Try.func22, Try.ntmps22
      go_wp2_with (go_at_call 15; refine (specOk _ _ _).mono ?_; rintro e w1 ⟨rfl, hb⟩; obtain ⟨hc, hf⟩ := bcell hb; have hzs := bsize hb; have hz := hb.size; (try simp at hz); (try have hz0 : w.heap.size < w1.heap.size := by omega); (try have hz1 : w.heap.size + 1 < w1.heap.size := by omega); (try have hz2 : w.heap.size + 1 + 1 < w1.heap.size := by omega); (try have hz3 : w.heap.size + 1 + 1 + 1 < w1.heap.size := by omega); (try have hz4 : w.heap.size + 1 + 1 + 1 + 1 < w1.heap.size := by omega); (have hk00 := cell_later (a := ⟨w.heap.size, 0, none⟩) (v := .int .i64 a) hb (by first | assumption | (simp [go_sem]; done) | (simp [*, go_sem]; done))); (have hk01 := cell_later (a := ⟨w.heap.size, 1, none⟩) (v := .int .i64 b) hb (by first | assumption | (simp [go_sem]; done) | (simp [*, go_sem]; done))); (have hk10 := cell_later (a := ⟨w.heap.size + 1, 0, none⟩) (v := .int .i64 c) hb (by first | assumption | (simp [go_sem]; done) | (simp [*, go_sem]; done))); (have hk11 := cell_later (a := ⟨w.heap.size + 1, 1, none⟩) (v := .int .i64 d) hb (by first | assumption | (simp [go_sem]; done) | (simp [*, go_sem]; done))))
      first | go_returns | (refine bodyPost_ret (by simp [results, Try.results22, go_sem, *]; try rfl) rfl ?_)
      refine ⟨rfl, ?_⟩
      repeat' (first | (with_reducible exact Below.refl _ _) | (with_reducible assumption) | (with_reducible refine balloc ?_ _) | (with_reducible refine bdrew ?_) | (with_reducible refine Below.setCell ?_ ?_ _) | (with_reducible refine bstep ?_ (by with_reducible assumption)) | go_size)
theorem implMeet (a b c d : Int) (w : World) :
    Calls Try.prog 20 #[.agg #[.int .i64 a, .int .i64 b], .agg #[.int .i64 c, .int .i64 d]] w fun e w' => e = .returned (.tuple #[.agg #[.int .i64 (selI (okB a b && okB c d && okB (mxI a c) (mnI b d)) ((mxI a c))), .int .i64 (selI (okB a b && okB c d && okB (mxI a c) (mnI b d)) ((mnI b d)))], .bool (okB a b && okB c d && okB (mxI a c) (mnI b d))]) ∧ Below w.heap.size w w' := by
  cases h1 : okB a b && okB c d <;> cases h2 : okB (mxI a c) (mnI b d)
  all_goals
    go_enter Try.func20, Try.ntmps20
    go_wp2_with (first | (go_at_call 30; refine (bothOk _ _ _ _ _).mono ?_; rintro e w1 ⟨rfl, hb⟩; obtain ⟨hc, hf⟩ := bcell hb; have hzs := bsize hb; have hz := hb.size; (try simp at hz); (try have hz0 : w.heap.size < w1.heap.size := by omega); (try have hz1 : w.heap.size + 1 < w1.heap.size := by omega); (try have hz2 : w.heap.size + 1 + 1 < w1.heap.size := by omega); (try have hz3 : w.heap.size + 1 + 1 + 1 < w1.heap.size := by omega); (try have hz4 : w.heap.size + 1 + 1 + 1 + 1 < w1.heap.size := by omega); (have hk00 := cell_later (a := ⟨w.heap.size, 0, none⟩) (v := .int .i64 a) hb (by first | assumption | (simp [go_sem]; done) | (simp [*, go_sem]; done))); (have hk01 := cell_later (a := ⟨w.heap.size, 1, none⟩) (v := .int .i64 b) hb (by first | assumption | (simp [go_sem]; done) | (simp [*, go_sem]; done))); (have hk10 := cell_later (a := ⟨w.heap.size + 1, 0, none⟩) (v := .int .i64 c) hb (by first | assumption | (simp [go_sem]; done) | (simp [*, go_sem]; done))); (have hk11 := cell_later (a := ⟨w.heap.size + 1, 1, none⟩) (v := .int .i64 d) hb (by first | assumption | (simp [go_sem]; done) | (simp [*, go_sem]; done)))) | (go_at_call 41; refine (meetRaw _ _ _ _ _).mono ?_; rintro e w1 ⟨rfl, hb⟩; obtain ⟨hc, hf⟩ := bcell hb; have hzs := bsize hb; have hz := hb.size; (try simp at hz); (try have hz0 : w.heap.size < w1.heap.size := by omega); (try have hz1 : w.heap.size + 1 < w1.heap.size := by omega); (try have hz2 : w.heap.size + 1 + 1 < w1.heap.size := by omega); (try have hz3 : w.heap.size + 1 + 1 + 1 < w1.heap.size := by omega); (try have hz4 : w.heap.size + 1 + 1 + 1 + 1 < w1.heap.size := by omega)) | (go_at_call 32; refine (toldRaw _ _ _).mono ?_; rintro e w1 ⟨rfl, hb⟩; obtain ⟨hc, hf⟩ := bcell hb; have hzs := bsize hb; have hz := hb.size; (try simp at hz); (try have hz0 : w.heap.size < w1.heap.size := by omega); (try have hz1 : w.heap.size + 1 < w1.heap.size := by omega); (try have hz2 : w.heap.size + 1 + 1 < w1.heap.size := by omega); (try have hz3 : w.heap.size + 1 + 1 + 1 < w1.heap.size := by omega); (try have hz4 : w.heap.size + 1 + 1 + 1 + 1 < w1.heap.size := by omega)))
    first | go_returns | (refine bodyPost_ret (by simp [results, Try.results20, go_sem, *]; try rfl) rfl ?_)
    refine ⟨rfl, ?_⟩
    repeat' (first | (with_reducible exact Below.refl _ _) | (with_reducible assumption) | (with_reducible refine balloc ?_ _) | (with_reducible refine bdrew ?_) | (with_reducible refine Below.setCell ?_ ?_ _) | (with_reducible refine bstep ?_ (by with_reducible assumption)) | go_size)
set_option maxHeartbeats 2000000 in
theorem specMeet (a b c d : Int) (w : World) :
    Calls Try.prog 21 #[.agg #[.int .i64 a, .int .i64 b], .agg #[.int .i64 c, .int .i64 d]] w fun e w' => e = .returned (.tuple #[.agg #[.int .i64 (selI (okB a b && okB c d && okB (mxI a c) (mnI b d)) ((mxI a c))), .int .i64 (selI (okB a b && okB c d && okB (mxI a c) (mnI b d)) ((mnI b d)))], .bool (okB a b && okB c d && okB (mxI a c) (mnI b d))]) ∧ Below w.heap.size w w' := by
  go_enter Try.func21, Try.ntmps21
  go_wp2
  go_region_held3 (fun w' => w'.cell? ⟨w.heap.size, 0, none⟩ = some (.int .i64 a) ∧ w'.cell? ⟨w.heap.size, 1, none⟩ = some (.int .i64 b) ∧ w'.cell? ⟨w.heap.size + 1, 0, none⟩ = some (.int .i64 c) ∧ w'.cell? ⟨w.heap.size + 1, 1, none⟩ = some (.int .i64 d)) (simp [*, go_sem, World.cell?_alloc_some, World.cell?_setCell_far, apart1, apart2, apart3, apart4, apart5, apart6]) (first | (go_at_call 43; refine (l1Min _ _ _).mono ?_; rintro e w1 ⟨rfl, rfl⟩) | (go_at_call 42; refine (l1Max _ _ _).mono ?_; rintro e w1 ⟨rfl, rfl⟩))
  all_goals
    cases h1 : okB a b <;> cases h2 : okB c d <;> cases h3 : okB (mxI a c) (mnI b d)
    all_goals
      go_wp2_with (go_at_call 15; refine (specOk _ _ _).mono ?_; rintro e w1 ⟨rfl, hb⟩; obtain ⟨hc, hf⟩ := bcell hb; have hzs := bsize hb; have hz := hb.size; (try simp at hz); (try have hz0 : w.heap.size < w1.heap.size := by omega); (try have hz1 : w.heap.size + 1 < w1.heap.size := by omega); (try have hz2 : w.heap.size + 1 + 1 < w1.heap.size := by omega); (try have hz3 : w.heap.size + 1 + 1 + 1 < w1.heap.size := by omega); (try have hz4 : w.heap.size + 1 + 1 + 1 + 1 < w1.heap.size := by omega); (have hk00 := cell_later (a := ⟨w.heap.size, 0, none⟩) (v := .int .i64 a) hb (by first | assumption | (simp [go_sem]; done) | (simp [*, go_sem]; done))); (have hk01 := cell_later (a := ⟨w.heap.size, 1, none⟩) (v := .int .i64 b) hb (by first | assumption | (simp [go_sem]; done) | (simp [*, go_sem]; done))); (have hk10 := cell_later (a := ⟨w.heap.size + 1, 0, none⟩) (v := .int .i64 c) hb (by first | assumption | (simp [go_sem]; done) | (simp [*, go_sem]; done))); (have hk11 := cell_later (a := ⟨w.heap.size + 1, 1, none⟩) (v := .int .i64 d) hb (by first | assumption | (simp [go_sem]; done) | (simp [*, go_sem]; done))))
      first | go_returns | (refine bodyPost_ret (by simp [results, Try.results21, go_sem, *]; try rfl) rfl ?_)
      refine ⟨by rw [h1, h2, h3]; rfl, ?_⟩
      repeat' (first | (with_reducible exact Below.refl _ _) | (with_reducible assumption) | (with_reducible refine balloc ?_ _) | (with_reducible refine bdrew ?_) | (with_reducible refine Below.setCell ?_ ?_ _) | (with_reducible refine bstep ?_ (by with_reducible assumption)) | go_size)
end Go.Proofs.Ytdlkmekdeiajhaa
