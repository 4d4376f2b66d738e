/-
  Whatever bytes an expression is drawn from, the program and the specification say the same of whether it is ok, and each part of one that is ok is ok, whatever memory the call starts in.
-/
import Derived.Test.YtbmdibboehjbjaaTreeL
import Derived.Test.YtbmdibboehjbjaaKitR
import Derived.Test.YtbmdibboehjbjaaRows
import Derived.OpenShut
import Derived.ChangeOld
import Derived.Lib.SmallJoins
namespace Go.Proofs.Ytbmdibboehjbjaa
open Go.ChangeShapes Go.WideShapes Go.ChangeAt Go.RowKit Go.Joins
set_option linter.unusedSimpArgs false
set_option linter.unusedVariables false
namespace FnTreeParts
theorem box4 {A : World} {b : Nat} {t : XT} (h : Cells4 A b 0 t) : A.cell? ⟨b, 0, none⟩ = some (.int .i64 t.kind) ∧ A.cell? ⟨b, 1, none⟩ = some (.int .i64 t.num) ∧ A.cell? ⟨b, 2, none⟩ = some (.string t.name) ∧ A.cell? ⟨b, 3, none⟩ = some (.slice t.base t.kids.length t.cap) := ⟨h.c0, h.c1, h.c2, h.c3⟩
def notNone (b : Nat) : XT := .mk 12 0 ⟨#[]⟩ (some ⟨b, 0, none⟩) 1 [.mk 0 0 ⟨#[]⟩ none 0 []]
theorem notNone_bad (b : Nat) : (notNone b).okI = false := by
  simp [notNone, XT.okI, XT.parts, XT.partsAll, goodB, XT.fit, fitI, XT.kind, XT.num, XT.name, XT.kids]
def numOne : XT := .mk 1 1 ⟨#[]⟩ none 0 []
theorem numOne_ok : numOne.okI = true := by
  simp [numOne, XT.okI, XT.parts, XT.partsAll, goodB, XT.fit, fitI, XT.kind, XT.num, XT.name, XT.kids, XT.size, XT.sizeAll]
set_option maxRecDepth 10000 in
set_option maxHeartbeats 4000000 in
theorem walk (sa : Option Addr) (len cap : Nat) (w : World) (hrow : Row w.heap.size w sa len) (hc : len ≤ cap) (hm : cap ≤ maxLen) :
    Calls Try.prog 3 #[.slice sa len cap] w fun e w' => e = .returned (.bool true) ∧ Below w.heap.size w w' := by
  have hm' := hm
  unfold maxLen at hm'
  by_cases hl : len ≤ 1048576
  · go_enter Try.func3, Try.ntmps3
    go_wp2_with fail
    all_goals first | (exfalso; omega) | skip
    go_at_call 9
    refine (drawExpr sa len cap w hrow hc hm).mono ?_
    rintro e w1 ⟨t, rfl, hG, hsz, hL1, hB1⟩
    go_wp2_with fail
    go_at_call 10
    obtain ⟨W2, hW2⟩ : ∃ W2, w1.alloc (.cells #[.int .i64 t.kind, .int .i64 t.num, .string t.name, .slice t.base t.kids.length t.cap] 25) = W2 := ⟨_, rfl⟩
    have hs2 : w1.heap.size + 1 = W2.heap.size := by rw [← hW2]; simp
    have hB2 : Below w1.heap.size w1 W2 := by rw [← hW2]; exact (Below.refl _ _).alloc (Nat.le_refl _) _
    have hb2 : Cells4 W2 w1.heap.size 0 t := by rw [← hW2]; exact Cells4.new w1 t
    rw [hW2]
    clear hW2
    have hL2 := hL1.bound.under hB2 (fun b hb => hb)
    obtain ⟨okv, hokv⟩ : ∃ okv, t.okI = okv := ⟨_, rfl⟩
    have hi := implOk1 t (by omega) hG _ W2 (fun b hb => by omega) hL2
    rw [hokv] at hi
    refine hi.mono ?_
    clear hi
    rintro e w3 ⟨rfl, hB3⟩
    have hz3 := hB3.size
    have hb3 := hb2.below hB3 (by omega)
    have hL3 := hL2.under hB3 (fun b hb => by omega)
    have hB3' : Below w.heap.size w w3 := (hB1.trans (hB2.mono hB1.size)).trans (hB3.mono (by have := hB1.size; omega))
    obtain ⟨c0, c1, c2, c3⟩ := box4 hb3
    go_wp2_with fail
    go_at_call 11
    have hsp := specOk1 t (by omega) hG _ w3 (fun b hb => by omega) hL3
    rw [← XT.ok_same t (by omega), hokv] at hsp
    refine hsp.mono ?_
    clear hsp
    rintro e w4 ⟨rfl, hB4⟩
    have hz4 := hB4.size
    have hb4 := hb3.below hB4 (by omega)
    have hL4 := hL3.under hB4 (fun b hb => by omega)
    have hB4' : Below w.heap.size w w4 := hB3'.trans (hB4.mono hB3'.size)
    clear c0 c1 c2 c3 hb2 hb3 hL1 hL2 hL3 hB2 hB3 hB4 hB1 hB3' hrow
    go_wp2_with fail
    obtain ⟨n, hn⟩ : ∃ n, t.kids.length = n := ⟨_, rfl⟩
    have hnl : n ≤ 128 := by have := t.length_le; omega
    have hkid : ∀ i, i < n → ∃ q, t.kids[i]? = some q := fun i hi => ⟨_, List.getElem?_eq_getElem (by omega)⟩
    have hC4 : w4.cell? ⟨w1.heap.size, 3, none⟩ = some (.slice t.base n t.cap) := by rw [← hn]; exact hb4.c3
    clear hn
    go_loopw [5] (fun v5 wr => ∃ i : Nat, v5 = .int .i64 i ∧ i ≤ n ∧ Below w4.heap.size w4 wr) (fun v5 _ => n - (intOf v5).toNat)
    case atStart => exact ⟨0, rfl, by omega, Below.refl _ _⟩
    case round =>
      obtain ⟨i, rfl, hi, hB⟩ := hrel
      have hz := hB.size
      have c3 := below_cell hB hC4 (by dsimp only; omega)
      have hL := hL4.under hB (fun b hb => by omega)
      by_cases hlt : i < n
      · obtain ⟨q, hq⟩ := hkid i hlt
        have hqs := XT.size_get hq
        have hts := t.size_eq
        cases okv
        · go_wp2
          go_roundw
          case rel => exact ⟨i + 1, by go_num, by omega, hB⟩
          case measure => simp [intOf]; omega
        · obtain ⟨bb, o, hbase, hbb, hcq⟩ := hL.cells i q hq
          have d0 := hcq.c0
          have d1 := hcq.c1
          have d2 := hcq.c2
          have d3 := hcq.c3
          have hiq := implOk1 q (by omega) (hG.kid i q hq) _ wr (fun b hb => by omega) (hL.kid i q hq)
          rw [okI_part (by omega) hokv hq] at hiq
          clear hokv
          rw [hbase] at c3
          clear hbase hq
          go_wp2_with (go_at_call 10; refine hiq.mono ?_; rintro e w5 ⟨rfl, hB5⟩)
          go_roundw
          case rel => exact ⟨i + 1, by go_num, by omega, hB.trans (hB5.mono hB.size)⟩
          case measure => simp [intOf]; omega
      · have he : i = n := by omega
        go_wp2_with fail
        go_at_call 10
        obtain ⟨W6, hW6⟩ : ∃ W6, wr.alloc (.cells #[.int .i64 0, .int .i64 0, .string ⟨#[]⟩, .slice none 0 0] 25) = W6 := ⟨_, rfl⟩
        have hs6 : wr.heap.size + 1 = W6.heap.size := by rw [← hW6]; simp
        have hB6 : Below wr.heap.size wr W6 := by rw [← hW6]; exact (Below.refl _ _).alloc (Nat.le_refl _) _
        have hc6 : Cells4 W6 wr.heap.size (0 + 0 * 4) (.mk 0 0 ⟨#[]⟩ none 0 []) := by
          rw [← hW6]
          exact ⟨World.cell?_alloc_new wr _ _ 0, World.cell?_alloc_new wr _ _ 1, World.cell?_alloc_new wr _ _ 2, World.cell?_alloc_new wr _ _ 3⟩
        rw [hW6]
        clear hW6
        have hG6 : Good (notNone wr.heap.size) := .mk _ (show (ByteArray.mk #[]).size ≤ 1048576 by decide) (fun j q hq => by
          cases j with
          | zero => simp [notNone, XT.kids] at hq; subst hq; exact good0 _ _ _ _ _ (by decide)
          | succ j => simp [notNone, XT.kids] at hq)
        have hL6 : Lies (fun b => b < W6.heap.size) W6 (notNone wr.heap.size) := .mk _ (fun j q hq => by
          cases j with
          | zero => simp [notNone, XT.kids] at hq; subst hq; exact ⟨wr.heap.size, 0, rfl, by omega, hc6⟩
          | succ j => simp [notNone, XT.kids] at hq) (fun j q hq => by
          cases j with
          | zero => simp [notNone, XT.kids] at hq; subst hq; exact lies0 _ _ _ _ _
          | succ j => simp [notNone, XT.kids] at hq)
        have hi6 := implOk1 (notNone wr.heap.size) (by simp [notNone, XT.size, XT.sizeAll]) hG6 _ W6 (fun b hb => hb) hL6
        rw [notNone_bad] at hi6
        refine hi6.mono ?_
        clear hi6
        rintro e w7 ⟨rfl, hB7⟩
        have hB7' : Below w.heap.size w w7 := ((hB4'.trans (hB.mono hB4'.size)).trans (hB6.mono (by have := hB4'.size; omega))).trans (hB7.mono (by have := hB4'.size; omega))
        cases okv
        · go_wp2
          go_returns
          exact ⟨rfl, hB7'⟩
        · have hi8 := implOk1 numOne (by simp [numOne, XT.size, XT.sizeAll]) (good0 _ _ _ _ _ (by decide)) (fun _ => False) w7 (fun b hb => hb.elim) (lies0 _ _ _ _ _)
          rw [numOne_ok] at hi8
          go_wp2_with (go_at_call 10; refine hi8.mono ?_; rintro e w8 ⟨rfl, hB8⟩)
          go_returns
          exact ⟨rfl, hB7'.trans (hB8.mono hB7'.size)⟩
  · go_enter Try.func3, Try.ntmps3
    go_wp2_with fail
    all_goals first | (exfalso; omega) | skip
    go_returns
    exact ⟨rfl, Below.refl _ _⟩
theorem own : ownKnob Try.prog.godebug = none := by kernel_rfl
theorem laidOut : laidOutB Try.prog = true := by kernel_rfl
set_option maxRecDepth 100000 in
theorem lifted (os : Os) (started : os.Started) (H : Type) (enc : TypeId × Value → H) :
    ReturnsInHanded {} Try.checked os 3 .any (Rows.fnTreePartsSpec.pre6 enc Try.prog Try.f3 Rows.fnTreePartsRow.domain false) (Rows.fnTreePartsSpec.post enc Try.prog Try.f3 false true false false) := by
  refine returnsInHanded_of_change (C := Try.checked) own started (by kernel_rfl) Try.func3
    (ChangeSpec.witness6 (enc := enc) (C := Try.checked) false ⟨#[], #[.slice none 0 0], []⟩ 8 (by kernel_rfl) (by kernel_rfl) (by kernel_rfl) (by kernel_rfl)) ?_
  intro W base args ds gs before hval0 hW hcnd _
  have hval : ∀ (j : Nat) t v, Try.f3.params[j]? = some t → args[j]? = some v → Value.okWide Try.prog W .any base t v := hval0
  have hW' := hW
  obtain ⟨p, q, hA0, hV, rfl, hfz, hnd⟩ := hW
  have hA : DataW.TrodAll enc Try.prog W 0 (fun _ => true) true Try.f3.params.toList args.toList ds p := hA0
  rw [Try.params3] at hA hval
  obtain ⟨v0, vs0, d0, ds0, p0, q0, hargs, rfl, rfl, h0, r0⟩ := trodAll_cons hA
  obtain ⟨rfl, rfl, rfl⟩ := trodAll_nil r0
  obtain rfl : args = #[v0] := by cases args; simp_all
  obtain ⟨rfl, rfl⟩ := trodVars_none hV
  have k0 := h0
  have lt0 : ∀ x ∈ p0, x.block < W.heap.size := by obtain ⟨m, hm⟩ := k0; exact DataW.trod_lt m _ _ _ hm
  obtain ⟨a0, len0, cap0, rfl⟩ := okWide_slice Try.underlying22 (hval 0 22 v0 rfl rfl)
  have w0 := rowOf (elemT := 5) Try.underlying22 Try.underlying5 (by kernel_rfl) h0
  clear hA0 hval0
  refine (walk a0 len0 cap0 W w0.1 w0.2.1 w0.2.2).mono fun e W' ⟨he, bel⟩ => ?_
  subst he
  exact ⟨_, rfl, _, _, _, [], _, [], hW', trodAll_mk1 (shut_bool Try.underlying4 _), (trodAll_cons_mk (Below.trod laidOut (by kernel_rfl) (of_decide_eq_true (by kernel_rfl)) k0 bel lt0) trodAll_mk0), rfl, bel.frame _, fun h => by cases h⟩
theorem over : Rows.fnTreePartsRow.holds Try.pinned (OpenSpec.ofChange Rows.fnTreePartsSpec) :=
  OpenClaim.holds_of_wide 3 Try.f3 rfl rfl rfl rfl rfl rfl rfl ⟨rfl, rfl, rfl, rfl, rfl⟩ rfl rfl rfl rfl rfl (by kernel_rfl) Try.func3 (by kernel_rfl)
    (of_decide_eq_true (by kernel_rfl)) (by unfold Func.isWrapper; first | (rw [if_pos (by decide +kernel)]; kernel_rfl) | (rw [if_neg (by decide +kernel)]; exact ⟨rfl, rfl⟩))
    (fun os started H enc _ => lifted os started H enc)
end FnTreeParts
theorem treeParts_holds : Rows.FnTreePartsSaid := FnTreeParts.over
#print axioms treeParts_holds
end Go.Proofs.Ytbmdibboehjbjaa
