/-
  At every text the program's TextWords answers as the specification's, in a list of its own that a second call leaves alone, whatever memory the call starts in; no condition.
-/
import Derived.Test.YtiabnpbhhiacmaaTextD
import Derived.Test.YtiabnpbhhiacmaaRows
import Derived.ChangeMaps5
import Derived.OpenShut
import Derived.ChangeOld
import Derived.Lib.SmallJoins
namespace Go.Proofs.Ytiabnpbhhiacmaa
open Go.ChangeShapes Go.WideShapes Go.ChangeAt Go.RowKit Go.Joins
set_option linter.unusedSimpArgs false
set_option linter.unusedVariables false

namespace FnExactTextWords
theorem own_below {A B : World} {base n : Nat} {v : Value} {xs : List Value} (h : A.ownsRow base 9 1 v n xs) (hb : Below A.heap.size A B) : B.ownsRow base 9 1 v n xs := own_kept h (fun g hg => hb.block g (h.lt g hg).2)
theorem own_away {A B : World} {base base' n n' : Nat} {v v' : Value} {xs xs' : List Value} (h : A.ownsRow base 9 1 v n xs) (h' : A.ownsRow base' 9 1 v' n' xs') (hk : Kept (fun b => v'.ownBlock = some b) A B) (hd : ∀ g, v.ownBlock = some g → g < base') : B.ownsRow base 9 1 v n xs :=
  own_kept h (fun g hg => hk.block g (h.lt g hg).2 (fun e => by have h1 := (h'.lt g e).1; have h2 := hd g hg; omega))
theorem below_kept {n : Nat} {A B : World} {S : Nat → Prop} (hk : Kept S A B) (hn : n ≤ A.heap.size) (hs : ∀ b, S b → n ≤ b) : Below n A B := hk.below hn hs
set_option maxRecDepth 10000 in
set_option maxHeartbeats 2000000 in
theorem walk (s : ByteArray) (w : World) (hm : s.size ≤ maxLen) :
    Calls Try.prog 9 #[.string s] w fun e w' => e = .returned (.bool true) ∧ Below w.heap.size w w' := by
  unfold maxLen at hm
  go_enter Try.func9, Try.ntmps9
  by_cases hs : s.size ≤ 1048576
  · have hwl : (wds s).length ≤ 1048577 := by have : (wds s).length ≤ s.size := wcut_le s s.size; omega
    go_wp2_with fail
    all_goals first | (exfalso; omega) | skip
    go_at_call 32
    refine (specWords s _ hs).mono ?_
    rintro e w1 ⟨g0, cap0, rfl, hO1, hB1⟩
    obtain ⟨V0, hV0⟩ : ∃ V0, Value.slice (some ⟨g0, 0, none⟩) (wds s).length cap0 = V0 := ⟨_, rfl⟩
    rw [hV0] at hO1 ⊢
    clear hV0
    go_wp2_with fail
    go_at_call 33
    refine (implWords s _ hs).mono ?_
    rintro e w2 ⟨V1, rfl, hO2, hB2⟩
    have hO1' := own_below hO1 hB2
    have hd1 : ∀ g, V0.ownBlock = some g → g < w1.heap.size := fun g hg => (hO1.lt g hg).2
    have hB2' : Below w.heap.size w w2 := bstep hB1 hB2
    go_wp2_with fail
    go_at_call 34
    refine (eqStr (wds s) V1 V0 _ _ w2 hO2 hO1' hwl).mono ?_
    rintro e w3 ⟨rfl, hB3⟩
    have hO2' := own_below hO2 hB3
    have hO1'' := own_below hO1' hB3
    have hB3' := bstep hB2' hB3
    clear hO1 hO1' hO2
    go_wp2_with fail
    go_at_call 35
    refine (markStr (wds s) 1 V1 _ w3 hO2' hwl (by omega)).mono ?_
    rintro e w4 ⟨rfl, hM4, hK4⟩
    have hO14 := own_away hO1'' hO2' hK4 hd1
    have hB4 : Below w.heap.size w w4 := hB3'.trans (hK4.below hB3'.size (fun b hb => by have h1 := (hO2'.lt b hb).1; have h2 := hB1.size; omega))
    clear hO2' hO1'' hB3'
    go_wp2_with fail
    go_at_call 36
    refine (heldStr (wds s).length 1 V1 _ w4 hM4 hwl (by omega)).mono ?_
    rintro e w5 ⟨rfl, hB5⟩
    have hM5 := own_below hM4 hB5
    have hO15 := own_below hO14 hB5
    have hB5' := bstep hB4 hB5
    clear hM4 hO14 hB4
    go_wp2_with fail
    all_goals first | (exfalso; omega) | skip
    go_at_call 33
    refine (implWords s _ hs).mono ?_
    rintro e w6 ⟨V2, rfl, hO6, hB6⟩
    have hM6 := own_below hM5 hB6
    have hO16 := own_below hO15 hB6
    have hB6' := bstep hB5' hB6
    clear hM5 hO15 hB5'
    go_wp2_with fail
    go_at_call 34
    refine (eqStr (wds s) V2 V0 _ _ w6 hO6 hO16 hwl).mono ?_
    rintro e w7 ⟨rfl, hB7⟩
    have hM7 := own_below hM6 hB7
    have hB7' := bstep hB6' hB7
    go_wp2_with fail
    go_at_call 36
    refine (heldStr (wds s).length 1 V1 _ w7 hM7 hwl (by omega)).mono ?_
    rintro e w8 ⟨rfl, hB8⟩
    have hB8' := bstep hB7' hB8
    go_wp2_with fail
    all_goals first | (exfalso; omega) | skip
    go_returns
    exact ⟨rfl, hB8'⟩
  · go_wp2_with fail
    all_goals
      first
        | (exfalso; omega)
        | (go_returns; exact ⟨rfl, Below.refl _ _⟩)
theorem own : ownKnob Try.prog.godebug = none := by kernel_rfl
theorem laidOut : laidOutB Try.prog = true := by kernel_rfl
set_option maxRecDepth 100000 in
theorem lifted (os : Os) (started : os.Started) (H : Type) (enc : TypeId × Value → H) :
    ReturnsInHanded {} Try.checked os 9 .any (Rows.fnExactTextWordsSpec.pre6 enc Try.prog Try.f9 Rows.fnExactTextWordsRow.domain false) (Rows.fnExactTextWordsSpec.post enc Try.prog Try.f9 false true false false) := by
  refine returnsInHanded_of_change (C := Try.checked) own started (by kernel_rfl) Try.func9
    (ChangeSpec.witness6 (enc := enc) (C := Try.checked) false ⟨#[], #[.string ByteArray.empty], []⟩ 8 (by kernel_rfl) (by kernel_rfl) (by kernel_rfl) (by kernel_rfl)) ?_
  intro W base args ds gs before hval0 hW hcnd _
  have hval : ∀ (j : Nat) t v, Try.f9.params[j]? = some t → args[j]? = some v → Value.okWide Try.prog W .any base t v := hval0
  have hW' := hW
  obtain ⟨p, q, hA0, hV, rfl, hfz, hnd⟩ := hW
  have hA : DataW.TrodAll enc Try.prog W 0 (fun _ => true) true Try.f9.params.toList args.toList ds p := hA0
  rw [Try.params9] at hA hval
  obtain ⟨v0, vs0, d0, ds0, p0, q0, hargs, rfl, rfl, h0, r0⟩ := trodAll_cons hA
  obtain ⟨rfl, rfl, rfl⟩ := trodAll_nil r0
  obtain rfl : args = #[v0] := by cases args; simp_all
  obtain ⟨rfl, rfl⟩ := trodVars_none hV
  have k0 := h0
  have lt0 : ∀ x ∈ p0, x.block < W.heap.size := by obtain ⟨m, hm⟩ := k0; exact DataW.trod_lt m _ _ _ hm
  obtain ⟨a0, rfl, _, _, wa0⟩ := Go.ChangeMaps.open_string Try.underlying9 (hval 0 9 v0 rfl rfl) h0
  clear hA0 hval0
  refine (walk a0 W wa0).mono fun e W' ⟨he, bel⟩ => ?_
  subst he
  exact ⟨_, rfl, _, _, _, [], _, [], hW', trodAll_mk1 (shut_bool Try.underlying4 _), (trodAll_cons_mk (Below.trod laidOut (by kernel_rfl) (of_decide_eq_true (by kernel_rfl)) k0 bel lt0) trodAll_mk0), rfl, bel.frame _, fun h => by cases h⟩
theorem over : Rows.fnExactTextWordsRow.holds Try.pinned (OpenSpec.ofChange Rows.fnExactTextWordsSpec) :=
  OpenClaim.holds_of_wide 9 Try.f9 rfl rfl rfl rfl rfl rfl rfl ⟨rfl, rfl, rfl, rfl, rfl⟩ rfl rfl rfl rfl rfl (by kernel_rfl) Try.func9 (by kernel_rfl)
    (of_decide_eq_true (by kernel_rfl)) (by unfold Func.isWrapper; first | (rw [if_pos (by decide +kernel)]; kernel_rfl) | (rw [if_neg (by decide +kernel)]; exact ⟨rfl, rfl⟩))
    (fun os started H enc _ => lifted os started H enc)
end FnExactTextWords
theorem textWords_holds : Rows.FnExactTextWordsSaid := FnExactTextWords.over
#print axioms textWords_holds
end Go.Proofs.Ytiabnpbhhiacmaa
