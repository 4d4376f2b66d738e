/-
  What the parts of joins, meets, sums, differences, products and quotients of two ranges are, the program's and the specification's: one contract a function; the quotients under the condition that neither end of the second is 0.
-/
import Derived.Test.YtkgmkoejplgjoaaDoorSpanA
import Derived.Deep.RegionHeld3
import Derived.Deep.RegionWith
namespace Go.Proofs.YtkgmkoejplgjoaaDoor
open Go.RowKit
set_option linter.unusedSimpArgs false
set_option linter.unusedVariables false

def fourLo (a b c d : Int) : Int := mnI (mnI a b) (mnI c d)
def fourHi (a b c d : Int) : Int := mxI (mxI a b) (mxI c d)
def mulLo (a b c d : Int) : Int := fourLo (wrap64 (a * c)) (wrap64 (a * d)) (wrap64 (b * c)) (wrap64 (b * d))
def mulHi (a b c d : Int) : Int := fourHi (wrap64 (a * c)) (wrap64 (a * d)) (wrap64 (b * c)) (wrap64 (b * d))
def divLo (a b c d : Int) : Int := fourLo (wrap64 (a.tdiv c)) (wrap64 (a.tdiv d)) (wrap64 (b.tdiv c)) (wrap64 (b.tdiv d))
def divHi (a b c d : Int) : Int := fourHi (wrap64 (a.tdiv c)) (wrap64 (a.tdiv d)) (wrap64 (b.tdiv c)) (wrap64 (b.tdiv d))

theorem plusRaw (a b c d : Int) (w : World) :
    Calls Tryd.prog 20 #[.agg #[.int .i64 a, .int .i64 b], .agg #[.int .i64 c, .int .i64 d]] w fun e w' => e = .returned (.agg #[.int .i64 (wrap64 (a + c)), .int .i64 (wrap64 (b + d))]) ∧ Below w.heap.size w w' := by
  go_enter Tryd.func20, Tryd.ntmps20
  go_wp2
  first | go_returns | (refine bodyPost_ret (by simp [results, Tryd.results20, go_sem, *]; try rfl) rfl ?_)
  refine ⟨rfl, ?_⟩
  repeat' (first | (with_reducible exact Below.refl _ _) | (with_reducible assumption) | (with_reducible refine balloc ?_ _) | (with_reducible refine bdrew ?_) | (with_reducible refine Below.setCell ?_ ?_ _) | (with_reducible refine bstep ?_ (by with_reducible assumption)) | go_size)
theorem aroundFour (a b c d : Int) (w : World) :
    Calls Tryd.prog 33 #[.int .i64 a, .int .i64 b, .int .i64 c, .int .i64 d] w fun e w' => e = .returned (.agg #[.int .i64 (fourLo a b c d), .int .i64 (fourHi a b c d)]) ∧ Below w.heap.size w w' := by
  go_enter Tryd.func33, Tryd.ntmps33
  go_wp2_with (first | (go_at_call 35; refine (lesser _ _ _).mono ?_; rintro e w1 ⟨rfl, hw1⟩; subst w1) | (go_at_call 36; refine (greater _ _ _).mono ?_; rintro e w1 ⟨rfl, hw1⟩; subst w1))
  first | go_returns | (refine bodyPost_ret (by simp [results, Tryd.results33, go_sem, *]; try rfl) rfl ?_)
  refine ⟨rfl, ?_⟩
  repeat' (first | (with_reducible exact Below.refl _ _) | (with_reducible assumption) | (with_reducible refine balloc ?_ _) | (with_reducible refine bdrew ?_) | (with_reducible refine Below.setCell ?_ ?_ _) | (with_reducible refine bstep ?_ (by with_reducible assumption)) | go_size)
theorem timesRaw (a b c d : Int) (w : World) :
    Calls Tryd.prog 22 #[.agg #[.int .i64 a, .int .i64 b], .agg #[.int .i64 c, .int .i64 d]] w fun e w' => e = .returned (.agg #[.int .i64 (mulLo a b c d), .int .i64 (mulHi a b c d)]) ∧ Below w.heap.size w w' := by
  go_enter Tryd.func22, Tryd.ntmps22
  go_wp2_with (go_at_call 33; refine (aroundFour _ _ _ _ _).mono ?_; rintro e w1 ⟨rfl, hb⟩; obtain ⟨hc, hf⟩ := bcell hb; have hzs := bsize hb; have hz := hb.size; (try simp at hz); (try have hz0 : w.heap.size < w1.heap.size := by omega); (try have hz1 : w.heap.size + 1 < w1.heap.size := by omega); (try have hz2 : w.heap.size + 1 + 1 < w1.heap.size := by omega); (try have hz3 : w.heap.size + 1 + 1 + 1 < w1.heap.size := by omega); (try have hz4 : w.heap.size + 1 + 1 + 1 + 1 < w1.heap.size := by omega))
  first | go_returns | (refine bodyPost_ret (by simp [results, Tryd.results22, go_sem, *]; try rfl) rfl ?_)
  refine ⟨rfl, ?_⟩
  repeat' (first | (with_reducible exact Below.refl _ _) | (with_reducible assumption) | (with_reducible refine balloc ?_ _) | (with_reducible refine bdrew ?_) | (with_reducible refine Below.setCell ?_ ?_ _) | (with_reducible refine bstep ?_ (by with_reducible assumption)) | go_size)
set_option maxHeartbeats 1000000 in
theorem byRaw (a b c d : Int) (w : World) (hc0 : ¬ c = 0) (hd0 : ¬ d = 0) :
    Calls Tryd.prog 24 #[.agg #[.int .i64 a, .int .i64 b], .agg #[.int .i64 c, .int .i64 d]] w fun e w' => e = .returned (.agg #[.int .i64 (divLo a b c d), .int .i64 (divHi a b c d)]) ∧ Below w.heap.size w w' := by
  go_enter Tryd.func24, Tryd.ntmps24
  go_wp2
  go_region_held3 (fun w' => w'.cell? ⟨w.heap.size, 0, none⟩ = some (.int .i64 a) ∧ w'.cell? ⟨w.heap.size, 1, none⟩ = some (.int .i64 b) ∧ w'.cell? ⟨w.heap.size + 1, 0, none⟩ = some (.int .i64 c) ∧ w'.cell? ⟨w.heap.size + 1, 1, none⟩ = some (.int .i64 d)) (simp [*, go_sem, World.cell?_alloc_some, World.cell?_setCell_far, apart1, apart2, apart3, apart4, apart5, apart6]) (first | (go_at_call 33; refine (aroundFour _ _ _ _ _).mono ?_; rintro e w1 ⟨rfl, hb⟩; obtain ⟨hc, hf⟩ := bcell hb; have hzs := bsize hb; have hz := hb.size; (try simp at hz); (try have hz0 : w.heap.size < w1.heap.size := by omega); (try have hz1 : w.heap.size + 1 < w1.heap.size := by omega); (try have hz2 : w.heap.size + 1 + 1 < w1.heap.size := by omega); (try have hz3 : w.heap.size + 1 + 1 + 1 < w1.heap.size := by omega); (try have hz4 : w.heap.size + 1 + 1 + 1 + 1 < w1.heap.size := by omega); (have hk00 := cell_later (a := ⟨w.heap.size, 0, none⟩) (v := .int .i64 a) hb (by first | assumption | (simp [go_sem]; done) | (simp [*, go_sem]; done))); (have hk01 := cell_later (a := ⟨w.heap.size, 1, none⟩) (v := .int .i64 b) hb (by first | assumption | (simp [go_sem]; done) | (simp [*, go_sem]; done))); (have hk10 := cell_later (a := ⟨w.heap.size + 1, 0, none⟩) (v := .int .i64 c) hb (by first | assumption | (simp [go_sem]; done) | (simp [*, go_sem]; done))); (have hk11 := cell_later (a := ⟨w.heap.size + 1, 1, none⟩) (v := .int .i64 d) hb (by first | assumption | (simp [go_sem]; done) | (simp [*, go_sem]; done)))))
  all_goals
    go_wp2
    first | go_returns | (refine bodyPost_ret (by simp [results, Tryd.results24, go_sem, *]; try rfl) rfl ?_)
    refine ⟨by simp only [divLo, divHi, wrap_eq], ?_⟩
    repeat' (first | (with_reducible exact Below.refl _ _) | (with_reducible assumption) | (with_reducible refine balloc ?_ _) | (with_reducible refine bdrew ?_) | (with_reducible refine Below.setCell ?_ ?_ _) | (with_reducible refine bstep ?_ (by with_reducible assumption)) | go_size)
theorem toldRaw (a b : Int) (w : World) :
    Calls Tryd.prog 21 #[.agg #[.int .i64 a, .int .i64 b]] w fun e w' => e = .returned (.tuple #[.agg #[.int .i64 (selI (okB a b) (a)), .int .i64 (selI (okB a b) (b))], .bool (okB a b)]) ∧ Below w.heap.size w w' := by
  cases h1 : okB a b
  all_goals
    go_enter Tryd.func21, Tryd.ntmps21
    go_wp2_with (go_at_call 32; refine (implOk _ _ _).mono ?_; rintro e w1 ⟨rfl, hb⟩; obtain ⟨hc, hf⟩ := bcell hb; have hzs := bsize hb; have hz := hb.size; (try simp at hz); (try have hz0 : w.heap.size < w1.heap.size := by omega); (try have hz1 : w.heap.size + 1 < w1.heap.size := by omega); (try have hz2 : w.heap.size + 1 + 1 < w1.heap.size := by omega); (try have hz3 : w.heap.size + 1 + 1 + 1 < w1.heap.size := by omega); (try have hz4 : w.heap.size + 1 + 1 + 1 + 1 < w1.heap.size := by omega))
    first | go_returns | (refine bodyPost_ret (by simp [results, Tryd.results21, go_sem, *]; try rfl) rfl ?_)
    refine ⟨rfl, ?_⟩
    repeat' (first | (with_reducible exact Below.refl _ _) | (with_reducible assumption) | (with_reducible refine balloc ?_ _) | (with_reducible refine bdrew ?_) | (with_reducible refine Below.setCell ?_ ?_ _) | (with_reducible refine bstep ?_ (by with_reducible assumption)) | go_size)
end Go.Proofs.YtkgmkoejplgjoaaDoor
