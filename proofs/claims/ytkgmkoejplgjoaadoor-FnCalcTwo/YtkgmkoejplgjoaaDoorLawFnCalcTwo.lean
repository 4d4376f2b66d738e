/-
  For every slice of bytes: what is reckoned with the two drawn numbers is what is reckoned with ranges of one number each, and just one of less, more and the same is so, as the law's Go text says; the listed variable holds what the program's text lays in it.
-/
import Derived.Test.YtkgmkoejplgjoaaDoorTwoC
import Derived.Test.YtkgmkoejplgjoaaDoorKitR
import Derived.Test.YtkgmkoejplgjoaaDoorRows
import Derived.Test.YtkgmkoejplgjoaaDoorCards
import Derived.Test.YtkgmkoejplgjoaaDoorTie
import Derived.Stop.LaidErr
import Derived.ProofKit
import Derived.LaidMore
import Derived.LaidLaws
import Derived.LaidHandle
import Derived.OpenShut
import Derived.ChangeSame
import Derived.ChangeVars
import Derived.JoinedOf
import Derived.Stop.Joined
import Derived.ChangeOld
import Derived.Lib.SmallJoins
import Derived.SevenTiedAt
namespace Go.Proofs.YtkgmkoejplgjoaaDoor
open Go.ChangeShapes Go.WideShapes Go.ChangeAt Go.RowKit Go.Joins
set_option linter.unusedSimpArgs false
set_option linter.unusedVariables false

namespace FnCalcTwo
set_option maxRecDepth 10000 in
set_option maxHeartbeats 4000000 in
theorem walk (s0 : Option Addr) (len0 cap0 : Nat) (w : World) (r0 : Row w.heap.size w s0 len0) (c0 : len0 ≤ cap0) (m0 : cap0 ≤ maxLen) (hg : ErrG w) :
    Calls Tryd.prog 3 #[.slice s0 len0 cap0] w fun e w' => e = .returned (.bool true) ∧ Below w.heap.size w w' := by
  have R0 : Hid (Row w.heap.size w s0 len0) := r0
  clear r0
  by_cases h0 : 1048576 < len0
  · have d0 : decide ((1048576 : Int) < (len0 : Int)) = true := by simp; omega
    go_enter Tryd.func3, Tryd.ntmps3
    go_wp2
    go_returns
    exact ⟨rfl, Below.refl _ _⟩
  have d0 : decide ((1048576 : Int) < (len0 : Int)) = false := by simp; omega
  go_enter Tryd.func3, Tryd.ntmps3
  go_wp2_with fail
  go_at_call 4
  refine (drawTwo s0 len0 cap0 w R0.out c0 m0).mono ?_
  rintro e w1 ⟨k, a, b, rfl, ha0, ha1, hb0, hb1, hB1⟩
  have hg1 := hg.of hB1
  have hi := implTwo k a b w1 hg1
  have hs := fun W => specTwo k a b W
  obtain ⟨n, f, hnf⟩ : ∃ n f, (reck k a b).ans = (n, f) := ⟨_, _, rfl⟩
  rw [hnf] at hi hs
  go_wp2_with fail
  go_at_call 5
  refine hi.mono ?_
  clear hi
  rintro e w2 ⟨rfl, hB2⟩
  go_wp2_with fail
  go_at_call 6
  refine (hs _).mono ?_
  clear hs
  rintro e w3 ⟨rfl, hw3⟩
  subst w3
  have hBl : Below w.heap.size w w2 := hB1.trans (hB2.mono hB1.size)
  have hz2 := hB2.size
  obtain ⟨W4, hW4⟩ : ∃ W4, (w2.alloc (.cells #[.int .i64 a, .int .i64 a] 28)).alloc (.cells #[.int .i64 b, .int .i64 b] 28) = W4 := ⟨_, rfl⟩
  have hs4 : w2.heap.size + 2 = W4.heap.size := by rw [← hW4]; simp
  have hB4 : Below w2.heap.size w2 W4 := by rw [← hW4]; exact ((Below.refl _ w2).alloc (Nat.le_refl _) _).alloc (by simp) _
  have x0 : W4.cell? ⟨w2.heap.size, 0, none⟩ = some (.int .i64 a) := by
    rw [← hW4, World.cell?_alloc_lt _ _ ⟨w2.heap.size, 0, none⟩ (by simp)]
    simp
  have x1 : W4.cell? ⟨w2.heap.size, 1, none⟩ = some (.int .i64 a) := by
    rw [← hW4, World.cell?_alloc_lt _ _ ⟨w2.heap.size, 1, none⟩ (by simp)]
    simp
  have y0 : W4.cell? ⟨w2.heap.size + 1, 0, none⟩ = some (.int .i64 b) := by rw [← hW4, World.cell?_alloc_at _ _ _ _ (by simp)]; rfl
  have y1 : W4.cell? ⟨w2.heap.size + 1, 1, none⟩ = some (.int .i64 b) := by rw [← hW4, World.cell?_alloc_at _ _ _ _ (by simp)]; rfl
  have hBl4 : Below w.heap.size w W4 := hBl.trans (hB4.mono (by have := hBl.size; omega))
  have hz4 := hBl4.size
  have oA : ∀ W, Calls Tryd.prog 7 #[.agg #[.int .i64 a, .int .i64 a]] W fun e w' => e = .returned (.bool (okN a)) ∧ Below W.heap.size W w' := fun W => by rw [← ok_one]; exact specOk a a W
  have oB : ∀ W, Calls Tryd.prog 7 #[.agg #[.int .i64 b, .int .i64 b]] W fun e w' => e = .returned (.bool (okN b)) ∧ Below W.heap.size W w' := fun W => by rw [← ok_one]; exact specOk b b W
  cases ha : okN a
  · have hr := reck_bad (k := k) (a := a) (b := b) (by rw [ha]; rfl)
    rw [hr] at hnf
    obtain ⟨rfl, rfl⟩ : n = 0 ∧ f = 9 := by cases hnf; exact ⟨rfl, rfl⟩
    rw [ha] at oA
    go_wp2_with fail
    go_at_call 7
    refine (oA _).mono ?_
    rintro e w5 ⟨rfl, hB5⟩
    go_wp2
    go_returns
    exact ⟨rfl, hBl4.trans (hB5.mono (by omega))⟩
  cases hb : okN b
  · have hr := reck_bad (k := k) (a := a) (b := b) (by rw [hb, Bool.and_false])
    rw [hr] at hnf
    obtain ⟨rfl, rfl⟩ : n = 0 ∧ f = 9 := by cases hnf; exact ⟨rfl, rfl⟩
    rw [ha] at oA
    rw [hb] at oB
    go_wp2_with fail
    go_at_call 7
    refine (oA _).mono ?_
    rintro e w5 ⟨rfl, hB5⟩
    have y05 := cellB hB5 y0 (by omega)
    have y15 := cellB hB5 y1 (by omega)
    have hz5 := hB5.size
    go_wp2_with fail
    go_at_call 7
    refine (oB _).mono ?_
    rintro e w6 ⟨rfl, hB6⟩
    go_wp2
    go_returns
    exact ⟨rfl, (hBl4.trans (hB5.mono (by omega))).trans (hB6.mono (by omega))⟩
  rw [ha] at oA
  rw [hb] at oB
  obtain ⟨P1, P2, P3, u1, u2, u3, hK, H1, H2, H3⟩ := ones k a b ha hb
  rw [hnf] at hK
  have hKH : Hid (Ones k a b n f P1 P2 P3 u1 u2 u3) := hK
  clear hK
  obtain ⟨l, m, s, hlms, hl0, hl1, hm0, hm1, hs0, hs1, e8, e8', e9⟩ := one_of a b ha hb
  clear hnf
  go_wp2_with fail
  go_at_call 7
  clear hW4
  refine (oA _).mono ?_
  clear oA
  rintro e w5 ⟨rfl, hB5⟩
  replace x0 := cellB hB5 x0 (by omega)
  replace x1 := cellB hB5 x1 (by omega)
  replace y0 := cellB hB5 y0 (by omega)
  replace y1 := cellB hB5 y1 (by omega)
  replace hBl4 := hBl4.trans (hB5.mono (by omega))
  have hz5 := hB5.size
  go_wp2_with fail
  go_at_call 7
  refine (oB _).mono ?_
  clear oB
  rintro e w6 ⟨rfl, hB6⟩
  replace x0 := cellB hB6 x0 (by omega)
  replace x1 := cellB hB6 x1 (by omega)
  replace y0 := cellB hB6 y0 (by omega)
  replace y1 := cellB hB6 y1 (by omega)
  replace hBl4 := hBl4.trans (hB6.mono (by omega))
  have hz6 := hB6.size
  go_wp2_with fail
  go_at_call 8
  refine (H1.out _).mono ?_
  clear H1
  rintro e r0 ⟨rfl, hR0⟩
  have hzr0 := hR0.size
  replace x0 := cellB hR0 x0 (by omega)
  replace x1 := cellB hR0 x1 (by omega)
  replace y0 := cellB hR0 y0 (by omega)
  replace y1 := cellB hR0 y1 (by omega)
  replace hBl4 := hBl4.trans (hR0.mono (by omega))
  obtain ⟨V0, hV0⟩ : ∃ V0, r0.alloc (.cells #[.int .i64 u1, .int .i64 u1] 28) = V0 := ⟨_, rfl⟩
  have hsV0 : r0.heap.size + 1 = V0.heap.size := by rw [← hV0]; simp
  have hBV0 : Below r0.heap.size r0 V0 := by rw [← hV0]; exact (Below.refl _ _).alloc (Nat.le_refl _) _
  have s00 : V0.cell? ⟨r0.heap.size, 0, none⟩ = some (.int .i64 u1) := by rw [← hV0]; exact World.cell?_alloc_new r0 _ _ 0
  have s01 : V0.cell? ⟨r0.heap.size, 1, none⟩ = some (.int .i64 u1) := by rw [← hV0]; exact World.cell?_alloc_new r0 _ _ 1
  replace x0 := cellB hBV0 x0 (by omega)
  replace x1 := cellB hBV0 x1 (by omega)
  replace y0 := cellB hBV0 y0 (by omega)
  replace y1 := cellB hBV0 y1 (by omega)
  replace hBl4 := hBl4.trans (hBV0.mono (by omega))
  go_wp2_with fail
  go_at_call 9
  refine (H2.out _).mono ?_
  clear H2
  rintro e r1 ⟨rfl, hR1⟩
  have hzr1 := hR1.size
  replace x0 := cellB hR1 x0 (by omega)
  replace x1 := cellB hR1 x1 (by omega)
  replace y0 := cellB hR1 y0 (by omega)
  replace y1 := cellB hR1 y1 (by omega)
  replace s00 := cellB hR1 s00 (by omega)
  replace s01 := cellB hR1 s01 (by omega)
  replace hBl4 := hBl4.trans (hR1.mono (by omega))
  obtain ⟨V1, hV1⟩ : ∃ V1, r1.alloc (.cells #[.int .i64 u2, .int .i64 u2] 28) = V1 := ⟨_, rfl⟩
  have hsV1 : r1.heap.size + 1 = V1.heap.size := by rw [← hV1]; simp
  have hBV1 : Below r1.heap.size r1 V1 := by rw [← hV1]; exact (Below.refl _ _).alloc (Nat.le_refl _) _
  have s10 : V1.cell? ⟨r1.heap.size, 0, none⟩ = some (.int .i64 u2) := by rw [← hV1]; exact World.cell?_alloc_new r1 _ _ 0
  have s11 : V1.cell? ⟨r1.heap.size, 1, none⟩ = some (.int .i64 u2) := by rw [← hV1]; exact World.cell?_alloc_new r1 _ _ 1
  replace x0 := cellB hBV1 x0 (by omega)
  replace x1 := cellB hBV1 x1 (by omega)
  replace y0 := cellB hBV1 y0 (by omega)
  replace y1 := cellB hBV1 y1 (by omega)
  replace s00 := cellB hBV1 s00 (by omega)
  replace s01 := cellB hBV1 s01 (by omega)
  replace hBl4 := hBl4.trans (hBV1.mono (by omega))
  go_wp2_with fail
  go_at_call 10
  refine (H3.out _).mono ?_
  clear H3
  rintro e r2 ⟨rfl, hR2⟩
  have hzr2 := hR2.size
  replace x0 := cellB hR2 x0 (by omega)
  replace x1 := cellB hR2 x1 (by omega)
  replace y0 := cellB hR2 y0 (by omega)
  replace y1 := cellB hR2 y1 (by omega)
  replace s00 := cellB hR2 s00 (by omega)
  replace s01 := cellB hR2 s01 (by omega)
  replace s10 := cellB hR2 s10 (by omega)
  replace s11 := cellB hR2 s11 (by omega)
  replace hBl4 := hBl4.trans (hR2.mono (by omega))
  obtain ⟨V2, hV2⟩ : ∃ V2, r2.alloc (.cells #[.int .i64 u3, .int .i64 u3] 28) = V2 := ⟨_, rfl⟩
  have hsV2 : r2.heap.size + 1 = V2.heap.size := by rw [← hV2]; simp
  have hBV2 : Below r2.heap.size r2 V2 := by rw [← hV2]; exact (Below.refl _ _).alloc (Nat.le_refl _) _
  have s20 : V2.cell? ⟨r2.heap.size, 0, none⟩ = some (.int .i64 u3) := by rw [← hV2]; exact World.cell?_alloc_new r2 _ _ 0
  have s21 : V2.cell? ⟨r2.heap.size, 1, none⟩ = some (.int .i64 u3) := by rw [← hV2]; exact World.cell?_alloc_new r2 _ _ 1
  replace x0 := cellB hBV2 x0 (by omega)
  replace x1 := cellB hBV2 x1 (by omega)
  replace y0 := cellB hBV2 y0 (by omega)
  replace y1 := cellB hBV2 y1 (by omega)
  replace s00 := cellB hBV2 s00 (by omega)
  replace s01 := cellB hBV2 s01 (by omega)
  replace s10 := cellB hBV2 s10 (by omega)
  replace s11 := cellB hBV2 s11 (by omega)
  replace hBl4 := hBl4.trans (hBV2.mono (by omega))
  have i0 := implTwo 8 a b V2 (hg.of hBl4)
  rw [e8] at i0
  go_wp2_with fail
  go_at_call 5
  clear hV2
  refine i0.mono ?_
  clear i0
  rintro e t0 ⟨rfl, hT0⟩
  have hzt0 := hT0.size
  replace s00 := cellB hT0 s00 (by omega)
  replace s01 := cellB hT0 s01 (by omega)
  replace s10 := cellB hT0 s10 (by omega)
  replace s11 := cellB hT0 s11 (by omega)
  replace s20 := cellB hT0 s20 (by omega)
  replace s21 := cellB hT0 s21 (by omega)
  replace hBl4 := hBl4.trans (hT0.mono (by omega))
  have i1 := implTwo 8 b a t0 (hg.of hBl4)
  rw [e8'] at i1
  go_wp2_with fail
  go_at_call 5
  skip
  refine i1.mono ?_
  clear i1
  rintro e t1 ⟨rfl, hT1⟩
  have hzt1 := hT1.size
  replace s00 := cellB hT1 s00 (by omega)
  replace s01 := cellB hT1 s01 (by omega)
  replace s10 := cellB hT1 s10 (by omega)
  replace s11 := cellB hT1 s11 (by omega)
  replace s20 := cellB hT1 s20 (by omega)
  replace s21 := cellB hT1 s21 (by omega)
  replace hBl4 := hBl4.trans (hT1.mono (by omega))
  have i2 := implTwo 9 a b t1 (hg.of hBl4)
  rw [e9] at i2
  go_wp2_with fail
  go_at_call 5
  skip
  refine i2.mono ?_
  clear i2
  rintro e t2 ⟨rfl, hT2⟩
  have hzt2 := hT2.size
  replace s00 := cellB hT2 s00 (by omega)
  replace s01 := cellB hT2 s01 (by omega)
  replace s10 := cellB hT2 s10 (by omega)
  replace s11 := cellB hT2 s11 (by omega)
  replace s20 := cellB hT2 s20 (by omega)
  replace s21 := cellB hT2 s21 (by omega)
  replace hBl4 := hBl4.trans (hT2.mono (by omega))
  clear x0 x1 y0 y1
  by_cases h4 : k = 4
  · subst h4
    rcases hKH.out.k4 rfl with ⟨rfl, rfl, rfl⟩ | ⟨rfl, rfl, rfl, rfl⟩
    all_goals
      go_wp2
      go_returns
      exact ⟨rfl, hBl4⟩
  by_cases h6 : k = 6
  · subst h6
    rcases hKH.out.k6 rfl with ⟨rfl, rfl, rfl⟩ | ⟨rfl, rfl, rfl, rfl⟩
    all_goals
      go_wp2
      go_returns
      exact ⟨rfl, hBl4⟩
  by_cases h7 : k = 7
  · subst h7
    rcases hKH.out.k7 rfl with ⟨rfl, rfl, rfl⟩ | ⟨rfl, rfl, rfl, rfl⟩
    all_goals
      go_wp2
      go_returns
      exact ⟨rfl, hBl4⟩
  go_wp2
  all_goals first | (exfalso; omega) | skip
  go_returns
  first | exact ⟨ret_bool (by first | (simp; done) | (simp; omega)), hBl4⟩ | exact ⟨rfl, hBl4⟩
theorem own : ownKnob Tryd.prog.godebug = none := by kernel_rfl
theorem laidOut : laidOutB Tryd.prog = true := by kernel_rfl
theorem gE : Tryd.prog.globalNamed "errors.errorType" = some 0 := by kernel_rfl
theorem rtE : (Tryd.prog.cutTypes.find? (·.1 == "internal/reflectlite.rtype")).map (·.2) = some 76 := by kernel_rfl
theorem oneRow : ((List.range 121).filter fun t => Tryd.prog.rowNamed t [101, 114, 114, 111, 114]) = [39] := by kernel_rfl
theorem sizeT : Tryd.prog.types.size = 121 := by kernel_rfl
/-- What the condition gives the walk: the one variable that errors.As reads. -/
theorem of_laid {W : World} (h : laidMetH Tryd.prog Rows.fnCalcTwoRow.laid W) : ErrG W := by
  have h' : laidMet Tryd.prog [] W ∧ handlesMet Tryd.prog Rows.fnCalcTwoRow.laid W := h
  obtain ⟨name, u, ty, e1, e2, e3, e4, e5⟩ := h'.2 _ (List.mem_singleton.2 rfl)
  have en : name = [101, 114, 114, 111, 114] := (Option.some.inj e1).symm
  subst en
  obtain rfl := Option.some.inj (rtE.symm.trans e2)
  have hm : ty ∈ (List.range 121).filter fun t => Tryd.prog.rowNamed t [101, 114, 114, 111, 114] := List.mem_filter.2 ⟨List.mem_range.2 (by rw [← sizeT]; exact e3), e4⟩
  rw [oneRow] at hm
  obtain rfl := List.mem_singleton.1 hm
  have hh : typeHandle Tryd.prog 39 = .pointer (some ⟨1, 39, none⟩) := by kernel_rfl
  rw [hh] at e5
  have h6 : W.cell? ⟨0, 0, none⟩ = some (.iface 76 (.agg #[.pointer (some ⟨1, 39, none⟩)])) := by simpa using World.var?_cell gE e5 0
  exact h6
theorem door_met (os : Os) (args : Array Value) : laidMetH Tryd.prog Rows.fnCalcTwoRow.laid ((World.doorLaid Tryd.prog 16 os).forCall (fun _ _ => 0) ⟨#[], args, []⟩).memory :=
  laidMetH_of_parts (laidMet_nil _ _) (by kernel_rfl)
set_option maxRecDepth 100000 in
theorem lifted (os : Os) (started : os.Started) (H : Type) (enc : TypeId × Value → H) :
    ReturnsInHanded {} Tryd.checked os 3 .any (fun w args => (Rows.fnCalcTwoSpec.pre enc Tryd.prog Tryd.f3 [] false w args ∧ laidMetH Tryd.prog Rows.fnCalcTwoRow.laid w) ∧ sizedMet enc Tryd.prog Tryd.f3 (OpenSpec.ofChange Rows.fnCalcTwoSpec) false w args)
      (Rows.fnCalcTwoSpec.post enc Tryd.prog Tryd.f3 false true false false) := by
  refine returnsInHanded_of_change_and (C := Tryd.checked) (X := fun w _ => laidMetH Tryd.prog Rows.fnCalcTwoRow.laid w) (fun _ _ _ hh h => h.of_heap hh) own started (by kernel_rfl) Tryd.func3
    (ChangeSpec.witness_shaped (enc := enc) (C := Tryd.checked) (os := os) (X := fun w _ => laidMetH Tryd.prog Rows.fnCalcTwoRow.laid w) false (World.doorLaid Tryd.prog 16 os) #[.slice none 0 0] 8 rfl (World.shaped_of_RefB (by kernel_rfl) (by kernel_rfl)) (by kernel_rfl) (by kernel_rfl) (by kernel_rfl) (door_met os _)) ?_
  intro W base args ds gs before hval0 hW _ _ hLaid _
  have hval : ∀ (j : Nat) t v, Tryd.f3.params[j]? = some t → args[j]? = some v → Value.okWide Tryd.prog W .any base t v := hval0
  have hW' := hW
  obtain ⟨p, q, hA0, hV, rfl, hfz, hnd⟩ := hW
  have hA : DataW.TrodAll enc Tryd.prog W 0 (fun _ => true) true Tryd.f3.params.toList args.toList ds p := hA0
  rw [Tryd.params3] at hA hval
  obtain ⟨v0, vs0, d0, ds0, p0, q0, hargs, rfl, rfl, h0, r0⟩ := trodAll_cons hA
  obtain ⟨rfl, rfl, rfl⟩ := trodAll_nil r0
  obtain rfl : args = #[v0] := by cases args; simp_all
  obtain ⟨rfl, rfl⟩ := trodVars_none hV
  have k0 := h0
  have lt0 : ∀ x ∈ p0, x.block < W.heap.size := by obtain ⟨m, hm⟩ := k0; exact DataW.trod_lt m _ _ _ hm
  obtain ⟨a0, len0, cap0, rfl⟩ := okWide_slice Tryd.underlying22 (hval 0 22 v0 rfl rfl)
  have w0 := rowOf (elemT := 5) Tryd.underlying22 Tryd.underlying5 (by kernel_rfl) h0
  have hErr := of_laid hLaid
  clear hA0 hval0
  refine (walk a0 len0 cap0 W w0.1 w0.2.1 w0.2.2 hErr).mono fun e W' ⟨he, bel⟩ => ?_
  subst he
  exact ⟨_, rfl, _, _, _, [], _, [], hW', trodAll_mk1 (shut_bool Tryd.underlying4 _), (trodAll_cons_mk (Below.trod laidOut (by kernel_rfl) (of_decide_eq_true (by kernel_rfl)) k0 bel lt0) trodAll_mk0), rfl, bel.frame _, fun h => by cases h⟩
theorem over : Rows.fnCalcTwoRow.holds Tryd.pinned (OpenSpec.ofChange Rows.fnCalcTwoSpec) :=
  OpenClaim.holds_of_wide 3 Tryd.f3 rfl rfl rfl rfl rfl rfl rfl ⟨rfl, rfl, rfl, rfl, rfl⟩ rfl rfl rfl rfl rfl (by kernel_rfl) Tryd.func3 (by kernel_rfl)
    (of_decide_eq_true (by kernel_rfl)) (by unfold Func.isWrapper; first | (rw [if_pos (by decide +kernel)]; kernel_rfl) | (rw [if_neg (by decide +kernel)]; exact ⟨rfl, rfl⟩))
    (fun os started H enc _ => lifted os started H enc)
end FnCalcTwo
theorem fnCalcTwo_holds : Rows.FnCalcTwoCardSaid :=
  Claim7.holds_tied_plain_at .later [] [.handle] true Rows.fnCalcTwoCard.stood.harness true
    FnCalcTwo.over (fun _ h => by cases h) (by kernel_rfl) (fun _ h => by cases h) fnCalcTwo_row_tie rfl ⟨rfl, rfl⟩ (by kernel_rfl) rfl
    (fun f fn hf hfn => by
      obtain rfl : f = 3 := Option.some.inj ((show Tryd.prog.funcNamed "loop.example/hedge/laws.FnCalcTwo" = some 3 by kernel_rfl).symm.trans hf) |>.symm
      obtain rfl : fn = Tryd.f3 := (Option.some.inj (Tryd.func3.symm.trans hfn)).symm
      exact ⟨by kernel_rfl, fun j t ht => by
        rw [Tryd.params3] at ht
        have hm : t ∈ [22] := by simpa using Array.mem_of_getElem? ht
        have hall : ([22].all fun u => !Tryd.prog.wantsStandIn u) = true := by kernel_rfl
        exact (show Tryd.prog.wantsStandIn t = false by simpa using List.all_eq_true.1 hall t hm)⟩)
    (by kernel_rfl)
#print axioms fnCalcTwo_holds
end Go.Proofs.YtkgmkoejplgjoaaDoor
