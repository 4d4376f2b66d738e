/-
  At every expression the program's TextExpr answers as the specification's and writes into no argument, in every memory that holds the table of powers of ten.
-/
import Derived.Test.YtijblhnjhpmedaaDoorTellH
import Derived.Test.YtijblhnjhpmedaaDoorTreeI
import Derived.Test.YtijblhnjhpmedaaDoorTreeJ
import Derived.Test.YtijblhnjhpmedaaDoorRows
import Derived.Test.YtijblhnjhpmedaaDoorCards
import Derived.Test.YtijblhnjhpmedaaDoorTie
import Derived.ChangeMaps5
import Derived.Deep.RegionHeld3
import Derived.Stop.LaidErr
import Derived.ProofKit
import Derived.LaidMore
import Derived.OpenShut
import Derived.Stop.Joined
import Derived.ChangeOld
import Derived.Lib.SmallJoins
import Derived.SevenTiedAt
namespace Go.Proofs.YtijblhnjhpmedaaDoor
open Go.ChangeShapes Go.WideShapes Go.ChangeAt Go.RowKit Go.Joins
set_option linter.unusedSimpArgs false
set_option linter.unusedVariables false
namespace FnExactTextExpr
theorem box4 {A : World} {b : Nat} {t : XT} (h : Cells4 A b 0 t) : A.cell? ⟨b, 0, none⟩ = some (.int .i64 t.kind) ∧ A.cell? ⟨b, 1, none⟩ = some (.int .i64 t.num) ∧ A.cell? ⟨b, 2, none⟩ = some (.string t.name) ∧ A.cell? ⟨b, 3, none⟩ = some (.slice t.base t.kids.length t.cap) := ⟨h.c0, h.c1, h.c2, h.c3⟩
set_option maxRecDepth 10000 in
set_option maxHeartbeats 4000000 in
theorem walk (t : XT) (w : World) (hW : Wide t) (hL : Lies (fun b => b < w.heap.size) w t) (hn : Nums t) (htab : Tab w) (hGt : 0 < w.heap.size) :
    Calls Tryd.prog 3 #[t.val] w fun e w' => e = .returned (.bool true) ∧ Below w.heap.size w w' := by
  have hB1 : Below w.heap.size w (w.alloc (.cells #[.int .i64 t.kind, .int .i64 t.num, .string t.name, .slice t.base t.kids.length t.cap] 24)) := (Below.refl _ w).alloc (Nat.le_refl _) _
  go_enter Tryd.func3, Tryd.ntmps3
  go_wp2_with fail
  go_at_call 4
  obtain ⟨W1, hW1⟩ : ∃ W1, w.alloc (.cells #[.int .i64 t.kind, .int .i64 t.num, .string t.name, .slice t.base t.kids.length t.cap] 24) = W1 := ⟨_, rfl⟩
  have hs1 : W1.heap.size = w.heap.size + 1 := by rw [← hW1]; simp
  have hb1 : Cells4 W1 w.heap.size 0 t := by
    rw [← hW1]
    exact ⟨World.cell?_alloc_new w _ _ 0, World.cell?_alloc_new w _ _ 1, World.cell?_alloc_new w _ _ 2, World.cell?_alloc_new w _ _ 3⟩
  rw [hW1] at hB1 ⊢
  clear hW1
  have hlt : ∀ b, b < w.heap.size → b < W1.heap.size := fun b hb => by omega
  have hL1 := hL.under hB1 (fun b hb => hb)
  refine (sz1 _ t (Nat.le_refl _) hW _ W1 hlt hL1 1048576 (by omega) (by omega)).mono ?_
  rintro e w2 ⟨rfl, hB2⟩
  have hb2 := hb1.below hB2 (by omega)
  have hB2' := hB1.trans (hB2.mono hB1.size)
  have hL2 := hL1.under hB2 hlt
  have hz2 := hB2.size
  by_cases htot : t.tot ≤ 1048576
  · rw [subI_yes (by omega)]
    obtain ⟨hsz, hG⟩ := XT.tot_bounds _ t (Nat.le_refl _) htot
    obtain ⟨c0, c1, c2, c3⟩ := box4 hb2
    go_wp2_with fail
    all_goals first | (exfalso; omega) | skip
    go_at_call 6
    refine (to1 _ t (by omega) (Nat.le_refl _) _ w2 (fun b hb => by omega) hL2).mono ?_
    rintro e w3 ⟨t0, rfl, hS0, hL0, hB3⟩
    obtain ⟨r0, z0, y0⟩ := Same.spec _ t (Nat.le_refl _) t0 hS0
    have hG0 := (XT.tot_bounds _ t0 (Nat.le_refl _) (by omega)).2
    have hb3 := hb2.below hB3 (by omega)
    have hB3' := hB2'.trans (hB3.mono hB2'.size)
    have hz3 := hB3.size
    clear c0 c1 c2 c3
    go_wp2_with fail
    go_at_call 5
    obtain ⟨tx, htx⟩ : ∃ tx, ba t.text = tx := ⟨_, rfl⟩
    have hspec := specText _ t0 (Nat.le_refl _) (by omega) (Same.nums _ t (Nat.le_refl _) t0 hS0 hn) _ w3 (fun b hb => hb) hL0.bound
    rw [Same.text _ t (Nat.le_refl _) t0 hS0, htx] at hspec
    refine hspec.mono ?_
    clear hspec
    rintro e w4 ⟨rfl, hB4⟩
    have hb4 := hb3.below hB4 (by omega)
    have hB4' := hB3'.trans (hB4.mono hB3'.size)
    have hz4 := hB4.size
    have hL4 := ((hL2.under hB3 (fun b hb => by omega)).under hB4 (fun b hb => by omega))
    obtain ⟨c0, c1, c2, c3⟩ := box4 hb4
    go_wp2_with fail
    go_at_call 6
    refine (to1 _ t (by omega) (Nat.le_refl _) _ w4 (fun b hb => by omega) hL4).mono ?_
    rintro e w5 ⟨t1, rfl, hS1, hL1', hB5⟩
    obtain ⟨r1, z1, y1⟩ := Same.spec _ t (Nat.le_refl _) t1 hS1
    have hG1 := (XT.tot_bounds _ t1 (Nat.le_refl _) (by omega)).2
    have hn1 := Same.nums _ t (Nat.le_refl _) t1 hS1 hn
    have htb5 := Same.text _ t (Nat.le_refl _) t1 hS1
    have hb5 := hb4.below hB5 (by omega)
    have hB5' := hB4'.trans (hB5.mono hB4'.size)
    have hz5 := hB5.size
    have hL5 := hL4.under hB5 (fun b hb => by omega)
    clear c0 c1 c2 c3
    go_wp2_with fail
    go_at_call 7
    obtain ⟨W6, hW6⟩ : ∃ W6, w5.alloc (.cells #[.int .i64 t1.kind, .int .i64 t1.num, .string t1.name, .slice t1.base t1.kids.length t1.cap] 29) = W6 := ⟨_, rfl⟩
    have hs6 : W6.heap.size = w5.heap.size + 1 := by rw [← hW6]; simp
    have hB6 : Below w5.heap.size w5 W6 := by rw [← hW6]; exact (Below.refl _ _).alloc (Nat.le_refl _) _
    have hx6 : Cells4 W6 w5.heap.size 0 t1 := by rw [← hW6]; exact Cells4.new w5 t1
    rw [hW6]
    clear hW6
    have hL15 : Lies (fun b => (w4.heap.size ≤ b ∧ b < w5.heap.size) ∧ Pl w5 b) w5 t1 := hL1'.mono (fun b hb hlt => ⟨⟨⟨hb.1, hlt⟩, hb.2⟩, rfl⟩)
    have hL16 : Lies (fun b => (w4.heap.size ≤ b ∧ b < w5.heap.size) ∧ Pl w5 b) W6 t1 := hL15.under hB6 (fun b hb => hb.1.2)
    have himpl := implText t1 (by omega) (by omega) hn1 _ W6 (fun b hb => ⟨by have := hb.1.1; omega, (hb.2).of_block (hB6.block b hb.1.2)⟩) hL16 (htab.below (hB5'.trans (hB6.mono hB5'.size)) hGt) (by have := hB5'.size; omega)
    rw [htb5, htx] at himpl
    refine himpl.mono ?_
    clear himpl
    rintro e w7 ⟨rfl, hB7⟩
    have hz7 := hB7.size
    have hb7 := (hb5.below hB6 (by omega)).below hB7 (by omega)
    have hx7 := hx6.below hB7 (by omega)
    have hL7 := (hL5.under hB6 (fun b hb => by omega)).under hB7 (fun b hb => by omega)
    have hL17 := hL16.under hB7 (fun b hb => by have := hb.1.2; omega)
    have hB7' := (hB5'.trans (hB6.mono hB5'.size)).trans (hB7.mono (by omega))
    obtain ⟨c0, c1, c2, c3⟩ := box4 hb7
    obtain ⟨d0, d1, d2, d3⟩ := box4 hx7
    clear hB2 hB3 hB4 hB5 hB6 hB7 hb1 hb2 hb3 hb4 hb5 hx6 hL hL1 hL2 hL4 hL5 hL16 hL0 hL1' hB1 hB2' hB3' hB4' hB5' hG0 hG1 hS0 r0 r1 hlt hn1 htb5 htx hL15
    go_wp2_with fail
    have hzd : w7.drew.heap.size = w7.heap.size := rfl
    have hb7d : Cells4 w7.drew w.heap.size 0 t := ⟨hb7.c0, hb7.c1, hb7.c2, hb7.c3⟩
    have hx7d : Cells4 w7.drew w5.heap.size 0 t1 := ⟨hx7.c0, hx7.c1, hx7.c2, hx7.c3⟩
    have hL17d := hL17.mono (B := w7.drew) (ok' := fun b => b < w7.heap.size) (fun b hb h => ⟨h, rfl⟩)
    have hto := to1 _ t (by omega) (Nat.le_refl _) (fun b => b < w.heap.size) w7.drew (fun b hb => by rw [hzd]; omega) (hL7.mono (fun b hb _ => ⟨hb, rfl⟩))
    go_region_held3 (fun w' => w'.cell? ⟨w5.heap.size, 0, none⟩ = some (.int .i64 t1.kind) ∧ w'.cell? ⟨w5.heap.size, 1, none⟩ = some (.int .i64 t1.num) ∧ w'.cell? ⟨w5.heap.size, 2, none⟩ = some (.string t1.name) ∧ w'.cell? ⟨w5.heap.size, 3, none⟩ = some (.slice t1.base t1.kids.length t1.cap) ∧ w'.cell? ⟨w.heap.size, 0, none⟩ = some (.int .i64 t.kind) ∧ w'.cell? ⟨w.heap.size, 1, none⟩ = some (.int .i64 t.num) ∧ w'.cell? ⟨w.heap.size, 2, none⟩ = some (.string t.name) ∧ w'.cell? ⟨w.heap.size, 3, none⟩ = some (.slice t.base t.kids.length t.cap)) (simp [*, go_sem, World.cell?_alloc_some, World.cell?_setCell_far, apart1, apart2, apart3, apart4, apart5, apart6]) (first | (go_at_call 6; refine hto.mono ?_; rintro e w8 ⟨t2, rfl, hS2, hL28, hB8⟩; (have hz8 := hB8.size); (obtain ⟨k0, k1, k2, k3⟩ := box4 (hb7d.below hB8 (by rw [hzd]; omega))); (obtain ⟨l0, l1, l2, l3⟩ := box4 (hx7d.below hB8 (by rw [hzd]; omega))); (have heq := eq1 _ t1 t2 (by omega) (Nat.le_refl _) (Same.join _ t (Nat.le_refl _) t1 t2 hS1 hS2) _ w8 (fun b hb => hb) (hL17d.under hB8 (fun b hb => by rw [hzd]; omega)).bound hL28.bound)) | (go_at_call 8; refine heq.mono ?_; rintro e w9 ⟨rfl, hB9⟩; (obtain ⟨kk0, kk1, kk2, kk3⟩ := box4 (((hb7d.below hB8 (by rw [hzd]; omega))).below hB9 (by omega))); (obtain ⟨ll0, ll1, ll2, ll3⟩ := box4 (((hx7d.below hB8 (by rw [hzd]; omega))).below hB9 (by omega)))))
    go_wp2
    go_returns
    refine ⟨rfl, hB7'.trans ?_⟩
    exact (((Below.refl _ w7).drew).trans (hB8.mono (by rw [hzd]; omega))).trans (hB9.mono (by omega))
  · rw [subI_no (by omega)]
    go_wp2
    go_returns
    exact ⟨rfl, hB2'⟩
theorem own : ownKnob Tryd.prog.godebug = none := by kernel_rfl
theorem laidOut : laidOutB Tryd.prog = true := by kernel_rfl
/-- What the condition gives the walk: the table that strconv.Itoa reads. -/
theorem of_laid {W : World} (h : laidMetH Tryd.prog Rows.fnExactTextExprRow.laid W) : Tab W := by
  rw [MakeChecks.laidMetH_plain _ _ _ (by kernel_rfl)] at h
  have h5 : laidMet Tryd.prog [("internal/strconv.uint64pow10", Rows.laid_internal_strconv_uint64pow10)] W := laidMet.tail (laidMet.tail h)
  exact Lib.tabIs_of_head tabG (by kernel_rfl : (Tryd.prog.globals[0]?).map (·.type) = some 74) (e := 67) (n := 20) Tryd.underlying74 Tryd.underlying67 (by kernel_rfl) (by kernel_rfl) h5
theorem tab_lt {W : World} (h : Tab W) : 0 < W.heap.size := by
  have h1 := World.var?_cell tabG h 0
  exact World.block_lt_of_cell? W _ (u := .int .u64 1) (h1.trans (by rfl))
theorem door_met (os : Os) (args : Array Value) : laidMetH Tryd.prog Rows.fnExactTextExprRow.laid ((World.doorLaid Tryd.prog 24 os).forCall (fun _ _ => 0) ⟨#[], args, []⟩).memory :=
  laidMetH_of_parts3 (fuel := 8) (laidMet_of_run' 8 (by kernel_rfl) (by kernel_rfl)) (by kernel_rfl) (by kernel_rfl)
set_option maxRecDepth 100000 in
theorem lifted (os : Os) (started : os.Started) (H : Type) (enc : TypeId × Value → H) :
    ReturnsInHanded {} Tryd.checked os 3 .any (fun w args => (Rows.fnExactTextExprSpec.pre enc Tryd.prog Tryd.f3 [] false w args ∧ laidMetH Tryd.prog Rows.fnExactTextExprRow.laid w) ∧ sizedMet enc Tryd.prog Tryd.f3 (OpenSpec.ofChange Rows.fnExactTextExprSpec) false w args)
      (Rows.fnExactTextExprSpec.post enc Tryd.prog Tryd.f3 false true false false) := by
  refine returnsInHanded_of_change_and (C := Tryd.checked) (X := fun w _ => laidMetH Tryd.prog Rows.fnExactTextExprRow.laid w) (fun _ _ _ hh h => h.of_heap hh) own started (by kernel_rfl) Tryd.func3
    (ChangeSpec.witness_shaped (enc := enc) (C := Tryd.checked) (os := os) (X := fun w _ => laidMetH Tryd.prog Rows.fnExactTextExprRow.laid w) false (World.doorLaid Tryd.prog 24 os) #[.agg #[.int .i64 0, .int .i64 0, .string ByteArray.empty, .slice none 0 0]] 8 rfl (World.shaped_of_RefB (by kernel_rfl) (by kernel_rfl)) (by kernel_rfl) (by kernel_rfl) (by kernel_rfl) (door_met os _)) ?_
  intro W base args ds gs before hval0 hW _ _ hL _
  have hval : ∀ (j : Nat) t v, Tryd.f3.params[j]? = some t → args[j]? = some v → Value.okWide Tryd.prog W .any base t v := hval0
  have hW' := hW
  obtain ⟨p, q, hA0, hV, rfl, hfz, hnd⟩ := hW
  have hA : DataW.TrodAll enc Tryd.prog W 0 (fun _ => true) true Tryd.f3.params.toList args.toList ds p := hA0
  rw [Tryd.params3] at hA hval
  obtain ⟨v0, vs0, d0, ds0, p0, q0, hargs, rfl, rfl, h0, r0⟩ := trodAll_cons hA
  obtain ⟨rfl, rfl, rfl⟩ := trodAll_nil r0
  obtain rfl : args = #[v0] := by cases args; simp_all
  obtain ⟨rfl, rfl⟩ := trodVars_none hV
  have k0 := h0
  have lt0 : ∀ x ∈ p0, x.block < W.heap.size := by obtain ⟨m, hm⟩ := k0; exact DataW.trod_lt m _ _ _ hm
  obtain ⟨a0, e0, wd0, ly0, hn0⟩ : ∃ t : XT, v0 = t.val ∧ Wide t ∧ Lies (fun b => b < W.heap.size) W t ∧ Nums t := by
    obtain ⟨cs, rfl, _⟩ := okWide_struct Tryd.underlying24 (hval 0 24 v0 rfl rfl)
    obtain ⟨m, hm⟩ := h0
    obtain ⟨t, h1, h2, h3, h4⟩ := readEN m _ _ hm
    refine ⟨t, ?_, h2, h3, h4⟩
    obtain ⟨l⟩ := cs
    have h4 : l = _ := h1
    rw [h4]
  subst e0
  have htab := of_laid hL
  clear hA0 hval0
  refine (walk a0 W wd0 ly0 hn0 htab (tab_lt htab)).mono fun e W' ⟨he, bel⟩ => ?_
  subst he
  exact ⟨_, rfl, _, _, _, [], _, [], hW', trodAll_mk1 (shut_bool Tryd.underlying4 _), (trodAll_cons_mk (Below.trod laidOut (by kernel_rfl) (of_decide_eq_true (by kernel_rfl)) k0 bel lt0) trodAll_mk0), rfl, bel.frame _, fun h => by cases h⟩
theorem over : Rows.FnExactTextExprSaid :=
  OpenClaim.holds_of_wide 3 Tryd.f3 rfl rfl rfl rfl rfl rfl rfl ⟨rfl, rfl, rfl, rfl, rfl⟩ rfl rfl rfl rfl rfl (by kernel_rfl) Tryd.func3 (by kernel_rfl)
    (of_decide_eq_true (by kernel_rfl)) (by unfold Func.isWrapper; first | (rw [if_pos (by decide +kernel)]; kernel_rfl) | (rw [if_neg (by decide +kernel)]; exact ⟨rfl, rfl⟩))
    (fun os started H enc _ => lifted os started H enc)
end FnExactTextExpr
theorem textExpr_holds : Rows.FnExactTextExprCardSaid :=
  Claim7.holds_tied_plain_at .later [] [.data, .data, .data] true Rows.fnExactTextExprCard.stood.harness false
    FnExactTextExpr.over (fun _ h => by cases h) (by kernel_rfl) (fun _ h => by cases h) fnExactTextExpr_row_tie rfl ⟨rfl, rfl⟩ (by kernel_rfl) rfl
    (fun f fn hf hfn => by
      obtain rfl : f = 3 := Option.some.inj ((show Tryd.prog.funcNamed "loop.example/hedge/laws.FnExactTextExpr" = some 3 by kernel_rfl).symm.trans hf) |>.symm
      obtain rfl : fn = Tryd.f3 := (Option.some.inj (Tryd.func3.symm.trans hfn)).symm
      exact ⟨by kernel_rfl, fun j t ht => by
        rw [Tryd.params3] at ht
        have hm : t ∈ [24] := by simpa using Array.mem_of_getElem? ht
        have hall : ([24].all fun u => !Tryd.prog.wantsStandIn u) = true := by kernel_rfl
        exact (show Tryd.prog.wantsStandIn t = false by simpa using List.all_eq_true.1 hall t hm)⟩)
    (by kernel_rfl)
#print axioms textExpr_holds
end Go.Proofs.YtijblhnjhpmedaaDoor
