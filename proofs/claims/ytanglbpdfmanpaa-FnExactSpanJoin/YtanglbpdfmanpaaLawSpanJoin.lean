/-
  At every two ranges the program's SpanJoin answers as the specification's, whatever memory the call starts in; no condition.
-/
import Derived.Test.YtanglbpdfmanpaaLawsA
import Derived.Test.YtanglbpdfmanpaaSpanC
import Derived.Deep.DeepCutAuto
import Derived.OpenShut
import Derived.ChangeOld
import Derived.Lib.SmallJoins
namespace Go.Proofs.Ytanglbpdfmanpaa
open Go.ChangeShapes Go.WideShapes Go.ChangeAt Go.RowKit Go.Joins
set_option linter.unusedSimpArgs false
set_option linter.unusedVariables false

namespace FnExactSpanJoin
set_option maxHeartbeats 2000000 in
theorem walk (a b c d : Int) (w : World) :
    Calls Try.prog 6 #[.agg #[.int .i64 a, .int .i64 b], .agg #[.int .i64 c, .int .i64 d]] w fun e w' => e = .returned (.bool true) ∧ Below w.heap.size w w' := by
  go_enter Try.func6, Try.ntmps6
  go_upto_region 1 with fail
  go_cut [5] (fun p wx => ∃ b0 : Nat, p = .pointer (some ⟨b0, 0, none⟩) ∧ Below w.heap.size w wx ∧ wx.cell? ⟨b0, 0, none⟩ = some (.int .i64 (selI (okB a b && okB c d) (mnI a c))) ∧ wx.cell? ⟨b0, 1, none⟩ = some (.int .i64 (selI (okB a b && okB c d) (mxI b d))) ∧ wx.cell? ⟨w.heap.size, 0, none⟩ = some (.int .i64 a) ∧ wx.cell? ⟨w.heap.size, 1, none⟩ = some (.int .i64 b) ∧ wx.cell? ⟨w.heap.size + 1, 0, none⟩ = some (.int .i64 c) ∧ wx.cell? ⟨w.heap.size + 1, 1, none⟩ = some (.int .i64 d))
  case first =>
    go_region_held3 (fun w' => w'.cell? ⟨w.heap.size, 0, none⟩ = some (.int .i64 a) ∧ w'.cell? ⟨w.heap.size, 1, none⟩ = some (.int .i64 b) ∧ w'.cell? ⟨w.heap.size + 1, 0, none⟩ = some (.int .i64 c) ∧ w'.cell? ⟨w.heap.size + 1, 1, none⟩ = some (.int .i64 d)) (simp [*, go_sem, World.cell?_alloc_some, World.cell?_setCell_far, apart1, apart2, apart3, apart4, apart5, apart6]) (first | (go_at_call 13; refine (toSpan _ _ _).mono ?_; rintro e w1 ⟨rfl, hb⟩; obtain ⟨hc, hf⟩ := bcell hb; have hzs := bsize hb; have hz := hb.size; (try simp at hz); (try have hz0 : w.heap.size < w1.heap.size := by omega); (try have hz1 : w.heap.size + 1 < w1.heap.size := by omega); (try have hz2 : w.heap.size + 1 + 1 < w1.heap.size := by omega); (try have hz3 : w.heap.size + 1 + 1 + 1 < w1.heap.size := by omega); (try have hz4 : w.heap.size + 1 + 1 + 1 + 1 < w1.heap.size := by omega); (have hk00 := cell_later (a := ⟨w.heap.size, 0, none⟩) (v := .int .i64 a) hb (by first | assumption | (simp [go_sem]; done) | (simp [*, go_sem]; done))); (have hk01 := cell_later (a := ⟨w.heap.size, 1, none⟩) (v := .int .i64 b) hb (by first | assumption | (simp [go_sem]; done) | (simp [*, go_sem]; done))); (have hk10 := cell_later (a := ⟨w.heap.size + 1, 0, none⟩) (v := .int .i64 c) hb (by first | assumption | (simp [go_sem]; done) | (simp [*, go_sem]; done))); (have hk11 := cell_later (a := ⟨w.heap.size + 1, 1, none⟩) (v := .int .i64 d) hb (by first | assumption | (simp [go_sem]; done) | (simp [*, go_sem]; done)))) | (go_at_call 19; refine (specJoin _ _ _ _ _).mono ?_; rintro e w1 ⟨rfl, hb⟩; obtain ⟨hc, hf⟩ := bcell hb; have hzs := bsize hb; have hz := hb.size; (try simp at hz); (try have hz0 : w.heap.size < w1.heap.size := by omega); (try have hz1 : w.heap.size + 1 < w1.heap.size := by omega); (try have hz2 : w.heap.size + 1 + 1 < w1.heap.size := by omega); (try have hz3 : w.heap.size + 1 + 1 + 1 < w1.heap.size := by omega); (try have hz4 : w.heap.size + 1 + 1 + 1 + 1 < w1.heap.size := by omega); (have hk00 := cell_later (a := ⟨w.heap.size, 0, none⟩) (v := .int .i64 a) hb (by first | assumption | (simp [go_sem]; done) | (simp [*, go_sem]; done))); (have hk01 := cell_later (a := ⟨w.heap.size, 1, none⟩) (v := .int .i64 b) hb (by first | assumption | (simp [go_sem]; done) | (simp [*, go_sem]; done))); (have hk10 := cell_later (a := ⟨w.heap.size + 1, 0, none⟩) (v := .int .i64 c) hb (by first | assumption | (simp [go_sem]; done) | (simp [*, go_sem]; done))); (have hk11 := cell_later (a := ⟨w.heap.size + 1, 1, none⟩) (v := .int .i64 d) hb (by first | assumption | (simp [go_sem]; done) | (simp [*, go_sem]; done)))))
    all_goals
      go_wp2_with fail
      go_meet
      refine ⟨_, rfl, ?_, ?_, ?_, ?_, ?_, ?_, ?_⟩
      · repeat' (first | (with_reducible exact Below.refl _ _) | (with_reducible assumption) | (with_reducible refine balloc ?_ _) | (with_reducible refine bdrew ?_) | (with_reducible refine Below.setCell ?_ ?_ _) | (with_reducible refine bstep ?_ (by with_reducible assumption)) | go_size)
      all_goals
        repeat' (first | (with_reducible assumption) | (with_reducible refine cell_later (by with_reducible assumption) ?_) | (with_reducible refine cnew ?_) | (with_reducible refine calloc ?_ _) | (with_reducible refine cdrew ?_) | (with_reducible refine cset_same ?_ _) | (with_reducible refine cset_ne ?_ ?_ _) | (simp [go_sem]; done) | (simp [*, go_sem]; done) | (simp; omega))
  case rest =>
    obtain ⟨b0, rfl, hB, hl0, hh0, hk00, hk01, hk10, hk11⟩ := hcut
    have hl := World.block_lt_of_cell? _ _ hl0
    have hl1 := World.block_lt_of_cell? _ _ hk00
    have hl2 := World.block_lt_of_cell? _ _ hk10
    simp only at hl hl1 hl2
    go_upto_region 2 with fail
    go_cut [6] (fun p wx => ∃ b1 : Nat, p = .pointer (some ⟨b1, 0, none⟩) ∧ Below w.heap.size w wx ∧ wx.cell? ⟨b1, 0, none⟩ = some (.int .i64 (selI (okB a b && okB c d) (mnI a c))) ∧ wx.cell? ⟨b1, 1, none⟩ = some (.int .i64 (selI (okB a b && okB c d) (mxI b d))) ∧ wx.cell? ⟨b0, 0, none⟩ = some (.int .i64 (selI (okB a b && okB c d) (mnI a c))) ∧ wx.cell? ⟨b0, 1, none⟩ = some (.int .i64 (selI (okB a b && okB c d) (mxI b d))))
    case first =>
      go_region_held3 (fun w' => w'.cell? ⟨w.heap.size, 0, none⟩ = some (.int .i64 a) ∧ w'.cell? ⟨w.heap.size, 1, none⟩ = some (.int .i64 b) ∧ w'.cell? ⟨w.heap.size + 1, 0, none⟩ = some (.int .i64 c) ∧ w'.cell? ⟨w.heap.size + 1, 1, none⟩ = some (.int .i64 d)) (simp [*, go_sem, World.cell?_alloc_some, World.cell?_setCell_far, apart1, apart2, apart3, apart4, apart5, apart6]) (first | (go_at_call 13; refine (toSpan _ _ _).mono ?_; rintro e w1 ⟨rfl, hb⟩; obtain ⟨hc, hf⟩ := bcell hb; have hzs := bsize hb; have hz := hb.size; (try simp at hz); (try have hz0 : w.heap.size < w1.heap.size := by omega); (try have hz1 : w.heap.size + 1 < w1.heap.size := by omega); (try have hz2 : w.heap.size + 1 + 1 < w1.heap.size := by omega); (try have hz3 : w.heap.size + 1 + 1 + 1 < w1.heap.size := by omega); (try have hz4 : w.heap.size + 1 + 1 + 1 + 1 < w1.heap.size := by omega); (try have hy0 : wc.heap.size < w1.heap.size := by omega); (try have hy1 : wc.heap.size + 1 < w1.heap.size := by omega); (try have hy2 : wc.heap.size + 1 + 1 < w1.heap.size := by omega); (have hk00 := cell_later (a := ⟨w.heap.size, 0, none⟩) (v := .int .i64 a) hb (by first | assumption | (simp [go_sem]; done) | (simp [*, go_sem]; done))); (have hk01 := cell_later (a := ⟨w.heap.size, 1, none⟩) (v := .int .i64 b) hb (by first | assumption | (simp [go_sem]; done) | (simp [*, go_sem]; done))); (have hk10 := cell_later (a := ⟨w.heap.size + 1, 0, none⟩) (v := .int .i64 c) hb (by first | assumption | (simp [go_sem]; done) | (simp [*, go_sem]; done))); (have hk11 := cell_later (a := ⟨w.heap.size + 1, 1, none⟩) (v := .int .i64 d) hb (by first | assumption | (simp [go_sem]; done) | (simp [*, go_sem]; done)))) | (go_at_call 20; refine (implJoin _ _ _ _ _).mono ?_; rintro e w1 ⟨rfl, hb⟩; obtain ⟨hc, hf⟩ := bcell hb; have hzs := bsize hb; have hz := hb.size; (try simp at hz); (try have hz0 : w.heap.size < w1.heap.size := by omega); (try have hz1 : w.heap.size + 1 < w1.heap.size := by omega); (try have hz2 : w.heap.size + 1 + 1 < w1.heap.size := by omega); (try have hz3 : w.heap.size + 1 + 1 + 1 < w1.heap.size := by omega); (try have hz4 : w.heap.size + 1 + 1 + 1 + 1 < w1.heap.size := by omega); (try have hy0 : wc.heap.size < w1.heap.size := by omega); (try have hy1 : wc.heap.size + 1 < w1.heap.size := by omega); (try have hy2 : wc.heap.size + 1 + 1 < w1.heap.size := by omega); (have hk00 := cell_later (a := ⟨w.heap.size, 0, none⟩) (v := .int .i64 a) hb (by first | assumption | (simp [go_sem]; done) | (simp [*, go_sem]; done))); (have hk01 := cell_later (a := ⟨w.heap.size, 1, none⟩) (v := .int .i64 b) hb (by first | assumption | (simp [go_sem]; done) | (simp [*, go_sem]; done))); (have hk10 := cell_later (a := ⟨w.heap.size + 1, 0, none⟩) (v := .int .i64 c) hb (by first | assumption | (simp [go_sem]; done) | (simp [*, go_sem]; done))); (have hk11 := cell_later (a := ⟨w.heap.size + 1, 1, none⟩) (v := .int .i64 d) hb (by first | assumption | (simp [go_sem]; done) | (simp [*, go_sem]; done)))))
      all_goals
        go_wp2_with fail
        go_meet
        refine ⟨_, rfl, ?_, ?_, ?_, ?_, ?_⟩
        · repeat' (first | (with_reducible exact Below.refl _ _) | (with_reducible assumption) | (with_reducible refine balloc ?_ _) | (with_reducible refine bdrew ?_) | (with_reducible refine Below.setCell ?_ ?_ _) | (with_reducible refine bstep ?_ (by with_reducible assumption)) | go_size)
        all_goals
          repeat' (first | (with_reducible assumption) | (with_reducible refine cell_later (by with_reducible assumption) ?_) | (with_reducible refine cnew ?_) | (with_reducible refine calloc ?_ _) | (with_reducible refine cdrew ?_) | (with_reducible refine cset_same ?_ _) | (with_reducible refine cset_ne ?_ ?_ _) | (simp [go_sem]; done) | (simp [*, go_sem]; done) | (simp; omega))
    case rest =>
      obtain ⟨b1, rfl, hB1, hl1, hh1, hl0', hh0'⟩ := hcut
      go_wp2_with (go_at_call 21; refine (eqSame _ _ _).mono ?_; rintro e w1 ⟨rfl, hb⟩; obtain ⟨hc, hf⟩ := bcell hb; have hzs := bsize hb; have hz := hb.size; (try simp at hz); (try have hz0 : w.heap.size < w1.heap.size := by omega); (try have hz1 : w.heap.size + 1 < w1.heap.size := by omega); (try have hz2 : w.heap.size + 1 + 1 < w1.heap.size := by omega); (try have hz3 : w.heap.size + 1 + 1 + 1 < w1.heap.size := by omega); (try have hz4 : w.heap.size + 1 + 1 + 1 + 1 < w1.heap.size := by omega))
      first | go_returns | (refine bodyPost_ret (by simp [results, Try.results6, go_sem, *]; try rfl) rfl ?_)
      refine ⟨rfl, ?_⟩
      repeat' (first | (with_reducible exact Below.refl _ _) | (with_reducible assumption) | (with_reducible refine balloc ?_ _) | (with_reducible refine bdrew ?_) | (with_reducible refine Below.setCell ?_ ?_ _) | (with_reducible refine bstep ?_ (by with_reducible assumption)) | go_size)
theorem cells23 : Try.prog.cellsOf 23 = 2 := by kernel_rfl
theorem own : ownKnob Try.prog.godebug = none := by kernel_rfl
theorem laidOut : laidOutB Try.prog = true := by kernel_rfl
set_option maxRecDepth 100000 in
theorem lifted (os : Os) (started : os.Started) (H : Type) (enc : TypeId × Value → H) :
    ReturnsInHanded {} Try.checked os 6 .any (Rows.fnExactSpanJoinSpec.pre6 enc Try.prog Try.f6 Rows.fnExactSpanJoinRow.domain false) (Rows.fnExactSpanJoinSpec.post enc Try.prog Try.f6 false true false false) := by
  refine returnsInHanded_of_change (C := Try.checked) own started (by kernel_rfl) Try.func6
    (ChangeSpec.witness6 (enc := enc) (C := Try.checked) false ⟨#[], #[.agg #[.int .i64 0, .int .i64 0], .agg #[.int .i64 0, .int .i64 0]], []⟩ 8 (by kernel_rfl) (by kernel_rfl) (by kernel_rfl) (by kernel_rfl)) ?_
  intro W base args ds gs before hval0 hW hcnd _
  have hval : ∀ (j : Nat) t v, Try.f6.params[j]? = some t → args[j]? = some v → Value.okWide Try.prog W .any base t v := hval0
  have hW' := hW
  obtain ⟨p, q, hA0, hV, rfl, hfz, hnd⟩ := hW
  have hA : DataW.TrodAll enc Try.prog W 0 (fun _ => true) true Try.f6.params.toList args.toList ds p := hA0
  rw [Try.params6] at hA hval
  obtain ⟨v0, vs0, d0, ds0, p0, q0, hargs, rfl, rfl, h0, r0⟩ := trodAll_cons hA
  obtain ⟨v1, vs1, d1, ds1, p1, q1, rfl, rfl, rfl, h1, r1⟩ := trodAll_cons r0
  obtain ⟨rfl, rfl, rfl⟩ := trodAll_nil r1
  obtain rfl : args = #[v0, v1] := by cases args; simp_all
  obtain ⟨rfl, rfl⟩ := trodVars_none hV
  have k0 := h0
  have lt0 : ∀ x ∈ p0, x.block < W.heap.size := by obtain ⟨m, hm⟩ := k0; exact DataW.trod_lt m _ _ _ hm
  obtain ⟨a0, b0, rfl, wa0, wb0⟩ : ∃ a b : Int, v0 = .agg #[.int .i64 a, .int .i64 b] ∧ (Lit.int .i64 a).wf = true ∧ (Lit.int .i64 b).wf = true := by
    obtain ⟨c0, c1, y0, y1, m, rfl, _, _, hy0, hy1⟩ := open_agg2 Try.underlying23 (by kernel_rfl) cells23 (hval 0 23 v0 rfl rfl) h0
    obtain ⟨a, e0, _, wa⟩ := DataW.trod_int Try.underlying3 hy0
    obtain ⟨b, e1, _, wb⟩ := DataW.trod_int Try.underlying3 hy1
    simp at e0 e1
    exact ⟨a, b, by rw [e0, e1], wa, wb⟩
  have k1 := h1
  have lt1 : ∀ x ∈ p1, x.block < W.heap.size := by obtain ⟨m, hm⟩ := k1; exact DataW.trod_lt m _ _ _ hm
  obtain ⟨a1, b1, rfl, wa1, wb1⟩ : ∃ a b : Int, v1 = .agg #[.int .i64 a, .int .i64 b] ∧ (Lit.int .i64 a).wf = true ∧ (Lit.int .i64 b).wf = true := by
    obtain ⟨c0, c1, y0, y1, m, rfl, _, _, hy0, hy1⟩ := open_agg2 Try.underlying23 (by kernel_rfl) cells23 (hval 1 23 v1 rfl rfl) h1
    obtain ⟨a, e0, _, wa⟩ := DataW.trod_int Try.underlying3 hy0
    obtain ⟨b, e1, _, wb⟩ := DataW.trod_int Try.underlying3 hy1
    simp at e0 e1
    exact ⟨a, b, by rw [e0, e1], wa, wb⟩
  clear hA0 hval0
  refine (walk a0 b0 a1 b1 W).mono fun e W' ⟨he, bel⟩ => ?_
  subst he
  exact ⟨_, rfl, _, _, _, [], _, [], hW', trodAll_mk1 (shut_bool Try.underlying4 _), (trodAll_cons_mk (Below.trod laidOut (by kernel_rfl) (of_decide_eq_true (by kernel_rfl)) k0 bel lt0) (trodAll_cons_mk (Below.trod laidOut (by kernel_rfl) (of_decide_eq_true (by kernel_rfl)) k1 bel lt1) trodAll_mk0)), rfl, bel.frame _, fun h => by cases h⟩
theorem over : Rows.fnExactSpanJoinRow.holds Try.pinned (OpenSpec.ofChange Rows.fnExactSpanJoinSpec) :=
  OpenClaim.holds_of_wide 6 Try.f6 rfl rfl rfl rfl rfl rfl rfl ⟨rfl, rfl, rfl, rfl, rfl⟩ rfl rfl rfl rfl rfl (by kernel_rfl) Try.func6 (by kernel_rfl)
    (of_decide_eq_true (by kernel_rfl)) (by unfold Func.isWrapper; first | (rw [if_pos (by decide +kernel)]; kernel_rfl) | (rw [if_neg (by decide +kernel)]; exact ⟨rfl, rfl⟩))
    (fun os started H enc _ => lifted os started H enc)
end FnExactSpanJoin
theorem spanJoin_holds : Rows.FnExactSpanJoinSaid := FnExactSpanJoin.over
#print axioms spanJoin_holds
end Go.Proofs.Ytanglbpdfmanpaa
