/-
  At every slice of bytes a drawn word is a name just if it is read as an expression that names it, and the argument reads afterwards as it read before; the listed variables hold what the program's text lays in them.
-/
import Derived.Test.YtbcgjnaoefgmiaaDoorReadD
import Derived.Test.YtbcgjnaoefgmiaaDoorKitB
import Derived.Test.YtbcgjnaoefgmiaaDoorKitR
import Derived.Test.YtbcgjnaoefgmiaaDoorRows
import Derived.Test.YtbcgjnaoefgmiaaDoorCards
import Derived.Test.YtbcgjnaoefgmiaaDoorTie
import Derived.Stop.LaidErr
import Derived.ProofKit
import Derived.LaidMore
import Derived.OpenShut
import Derived.Stop.Joined
import Derived.ChangeOld
import Derived.Lib.SmallJoins
import Derived.SevenTiedAt
namespace Go.Proofs.YtbcgjnaoefgmiaaDoor
open Go.ChangeShapes Go.WideShapes Go.ChangeAt Go.RowKit Go.Joins
set_option linter.unusedSimpArgs false
set_option linter.unusedVariables false

namespace FnTextName
def nameW : List ByteArray := [⟨#[]⟩, ⟨#[120]⟩, ⟨#[97, 98, 99, 100, 101, 102]⟩, ⟨#[97, 98, 99, 100, 101, 102, 103]⟩, ⟨#[115, 101, 116]⟩, ⟨#[101, 110, 100]⟩, ⟨#[88]⟩, ⟨#[97, 49]⟩, ⟨#[108, 111, 99, 107]⟩]
theorem ofW (B g : Nat) (sa : Option Addr) (len cap : Nat) (k : Int) (w : World) (R : Rd B g sa len cap k w) (hk : k ≤ 100000) (L : Nat) (hL : L ≠ g) (HC : Hid (∀ i, i < 9 → ∃ x, x ∈ nameW ∧ w.cell? ⟨L, i, none⟩ = some (.string x))) :
    Calls Tryd.prog 9 #[.pointer (some ⟨g, 0, none⟩), .slice (some ⟨L, 0, none⟩) 9 9] w fun e w' => ∃ x, x ∈ nameW ∧ e = .returned (.string x) ∧ Adv g w w' := by
  go_enter Tryd.func9, Tryd.ntmps9
  go_wp2_with fail
  go_at_call 17
  refine (pick B g sa len cap k 9 w R (by omega) (by omega) (by omega)).mono ?_
  rintro e w1 ⟨v, rfl, hv0, hv1, hA, hR⟩
  obtain ⟨x, hx0, hx⟩ := HC.out v.toNat (by omega)
  have hx' := hA.cell (p := ⟨L, v.toNat, none⟩) hL hx
  go_wp2
  go_returns
  exact ⟨x, hx0, rfl, hA⟩
theorem drawn (sa : Option Addr) (len cap : Nat) (w : World) (hrow : Row w.heap.size w sa len) (hc : len ≤ cap) (hm : cap ≤ maxLen) :
    Calls Tryd.prog 4 #[.slice sa len cap] w fun e w' => ∃ x, x ∈ nameW ∧ e = .returned (.string x) ∧ Below w.heap.size w w' := by
  go_enter Tryd.func4, Tryd.ntmps4
  go_wp2_with fail
  go_at_call 8
  refine (l19Open sa len cap w hrow hc hm).mono ?_
  rintro e w1 ⟨len', rfl, hB1, hR⟩
  have hz := hR.lt
  go_wp2_with fail
  go_at_call 9
  refine (ofW w.heap.size w.heap.size sa len' cap 0 _ (hR.alloc _) (by omega) w1.heap.size (by omega) ?_).mono ?_
  · intro i hi
    have h : i = 0 ∨ i = 1 ∨ i = 2 ∨ i = 3 ∨ i = 4 ∨ i = 5 ∨ i = 6 ∨ i = 7 ∨ i = 8 := by omega
    rcases h with rfl | rfl | rfl | rfl | rfl | rfl | rfl | rfl | rfl <;> exact ⟨_, by simp [nameW], (World.cell?_alloc_new w1 _ _ _).trans rfl⟩
  rintro e w2 ⟨x, hx, rfl, hA⟩
  go_wp2
  go_returns
  exact ⟨x, hx, rfl, Adv.onto (hB1.alloc hB1.size _) (Nat.le_refl _) (by simp; omega) hA⟩
theorem apart (x : ByteArray) (h : (exprW.all fun y => !(x.toList == y.toList)) = true) : ∀ y ∈ exprW, (x.toList == y.toList) = false := by
  intro y hy
  have := List.all_eq_true.1 h y hy
  simpa using this
theorem reads : ∀ x ∈ nameW, x.size ≤ 18 ∧ ∃ b, nameB x = b ∧ ∀ (tp : TypeId) (p : Value) (W : World), W.cell? ⟨0, 0, none⟩ = some (.iface tp p) →
    Calls Tryd.prog 6 #[.string x] W fun e w' => e = .returned (.tuple #[.agg #[.int .i64 (if b then 2 else 0), .int .i64 0, .string (if b then x else ⟨#[]⟩), .slice none 0 0], .bool b]) ∧ Below W.heap.size W w' := by
  intro x hx
  simp only [nameW, List.mem_cons, List.not_mem_nil, or_false] at hx
  rcases hx with rfl | rfl | rfl | rfl | rfl | rfl | rfl | rfl | rfl
  · exact ⟨by decide, false, by kernel_rfl, fun tp p W _ => exprRead0 W⟩
  · exact ⟨by decide, true, by kernel_rfl, fun tp p W hv => exprRead1 _ (by decide) (by kernel_rfl) (apart _ (by kernel_rfl)) (by kernel_rfl) tp p W hv true (by kernel_rfl)⟩
  · exact ⟨by decide, true, by kernel_rfl, fun tp p W hv => exprRead1 _ (by decide) (by kernel_rfl) (apart _ (by kernel_rfl)) (by kernel_rfl) tp p W hv true (by kernel_rfl)⟩
  · exact ⟨by decide, false, by kernel_rfl, fun tp p W hv => exprRead1 _ (by decide) (by kernel_rfl) (apart _ (by kernel_rfl)) (by kernel_rfl) tp p W hv false (by kernel_rfl)⟩
  · exact ⟨by decide, false, by kernel_rfl, fun tp p W hv => exprRead1 _ (by decide) (by kernel_rfl) (apart _ (by kernel_rfl)) (by kernel_rfl) tp p W hv false (by kernel_rfl)⟩
  · exact ⟨by decide, false, by kernel_rfl, fun tp p W hv => exprRead1 _ (by decide) (by kernel_rfl) (apart _ (by kernel_rfl)) (by kernel_rfl) tp p W hv false (by kernel_rfl)⟩
  · exact ⟨by decide, false, by kernel_rfl, fun tp p W hv => exprRead1 _ (by decide) (by kernel_rfl) (apart _ (by kernel_rfl)) (by kernel_rfl) tp p W hv false (by kernel_rfl)⟩
  · exact ⟨by decide, false, by kernel_rfl, fun tp p W hv => exprRead1 _ (by decide) (by kernel_rfl) (apart _ (by kernel_rfl)) (by kernel_rfl) tp p W hv false (by kernel_rfl)⟩
  · exact ⟨by decide, false, by kernel_rfl, fun tp p W hv => exprRead1 _ (by decide) (by kernel_rfl) (apart _ (by kernel_rfl)) (by kernel_rfl) tp p W hv false (by kernel_rfl)⟩
set_option maxRecDepth 100000 in
set_option maxHeartbeats 4000000 in
theorem walk (sa : Option Addr) (len cap : Nat) (w : World) (hrow : Row w.heap.size w sa len) (hc : len ≤ cap) (hm : cap ≤ maxLen) (tp : TypeId) (p : Value) (hv : w.cell? ⟨0, 0, none⟩ = some (.iface tp p)) :
    Calls Tryd.prog 3 #[.slice sa len cap] w fun e w' => e = .returned (.bool true) ∧ Below w.heap.size w w' := by
  have lv := World.block_lt_of_cell? w _ hv
  by_cases hlen : len ≤ 1048576
  · go_enter Tryd.func3, Tryd.ntmps3
    go_wp2_with fail
    all_goals first | (exfalso; omega) | skip
    go_at_call 4
    refine (drawn sa len cap w hrow hc hm).mono ?_
    rintro e w1 ⟨x, hx, rfl, hB1⟩
    obtain ⟨hs, b, hb, hread⟩ := reads x hx
    have hv1 := below_cell hB1 hv lv
    have hi := implName x w1 (by omega)
    rw [hb] at hi
    have hr := hread tp p w1 hv1
    clear hread hx hrow hv hv1
    go_wp2_with fail
    go_at_call 5
    refine hi.mono ?_
    clear hi
    rintro e w2 ⟨rfl, hw2⟩
    subst w2
    go_wp2_with fail
    go_at_call 6
    refine hr.mono ?_
    clear hr
    rintro e w3 ⟨rfl, hB3⟩
    have hsp : ∀ W, Calls Tryd.prog 7 #[.string x] W fun e w' => e = .returned (.bool b) ∧ Below W.heap.size W w' := fun W => by
      have h := specName x W (by omega)
      rw [hb] at h
      exact h
    clear hb
    cases b
    · simp only [Bool.false_eq_true, if_false]
      go_wp2_with fail
      go_at_call 7
      refine (hsp _).mono ?_
      rintro e w4 ⟨rfl, hB4⟩
      go_wp2
      go_returns
      exact ⟨rfl, ((hB1.trans (hB3.mono hB1.size)).alloc (Nat.le_trans hB1.size hB3.size) _).trans (hB4.mono (by have h1 := hB1.size; have h3 := hB3.size; simp; omega))⟩
    · simp only [if_true]
      go_wp2_with fail
      go_at_call 7
      refine (hsp _).mono ?_
      rintro e w4 ⟨rfl, hB4⟩
      have k0 : w4.cell? ⟨w3.heap.size, 0, none⟩ = some (.int .i64 2) := below_cell hB4 (World.cell?_alloc_new w3 _ _ 0) (by simp)
      have k2 : w4.cell? ⟨w3.heap.size, 2, none⟩ = some (.string x) := below_cell hB4 (World.cell?_alloc_new w3 _ _ 2) (by simp)
      go_wp2
      go_returns
      exact ⟨rfl, ((hB1.trans (hB3.mono hB1.size)).alloc (Nat.le_trans hB1.size hB3.size) _).trans (hB4.mono (by have h1 := hB1.size; have h3 := hB3.size; simp; omega))⟩
  · go_enter Tryd.func3, Tryd.ntmps3
    go_wp2
    all_goals first | (exfalso; omega) | skip
    go_returns
    exact ⟨rfl, Below.refl _ _⟩
theorem own : ownKnob Tryd.prog.godebug = none := by kernel_rfl
theorem laidOut : laidOutB Tryd.prog = true := by kernel_rfl
theorem gE : Tryd.prog.globalNamed "strconv.ErrSyntax" = some 0 := by kernel_rfl
theorem gET : (Tryd.prog.globals[0]?).map (·.type) = some 65 := by kernel_rfl
theorem cells102 : Tryd.prog.cellsOf 102 = 1 := by kernel_rfl
theorem cells9 : Tryd.prog.cellsOf 9 = 1 := by kernel_rfl
theorem star : "*" ++ "errors.errorString" = "*errors.errorString" := by decide
theorem row100 (u : TypeId) (h : Tryd.prog.typeName? 3 u = some "*errors.errorString") : u = 100 :=
  typeName_ptr_named (nm := "errors.errorString") (by rw [star]; kernel_rfl) (by kernel_rfl) (by decide) u (by rw [star]; exact h)
/-- What the condition gives the walk: the one variable that the road reads. -/
theorem of_laid {W : World} (h : laidMetH Tryd.prog Rows.fnTextNameRow.laid W) : ∃ tp p, W.cell? ⟨0, 0, none⟩ = some (.iface tp p) := by
  rw [MakeChecks.laidMetH_plain _ _ _ (by kernel_rfl)] at h
  have h5 : laidMet Tryd.prog [("strconv.ErrSyntax", Rows.laid_strconv_ErrSyntax)] W := laidMet.tail (laidMet.tail (laidMet.tail (laidMet.tail h)))
  obtain ⟨a, s, hv, -⟩ := laid_sentinel h5 gE gET Tryd.underlying65 row100 Tryd.underlying100 Tryd.underlying102 rfl rfl Tryd.underlying9 cells102 cells9
  exact ⟨_, _, by simpa using World.var?_cell gE hv 0⟩
theorem door_met (os : Os) (args : Array Value) : laidMetH Tryd.prog Rows.fnTextNameRow.laid ((World.doorLaid Tryd.prog 62 os).forCall (fun _ _ => 0) ⟨#[], args, []⟩).memory :=
  laidMetH_of_parts3 (fuel := 8) (laidMet_of_run' 8 (by kernel_rfl) (by kernel_rfl)) (by kernel_rfl) (by kernel_rfl)
set_option maxRecDepth 100000 in
theorem lifted (os : Os) (started : os.Started) (H : Type) (enc : TypeId × Value → H) :
    ReturnsInHanded {} Tryd.checked os 3 .any (fun w args => (Rows.fnTextNameSpec.pre enc Tryd.prog Tryd.f3 [] false w args ∧ laidMetH Tryd.prog Rows.fnTextNameRow.laid w) ∧ sizedMet enc Tryd.prog Tryd.f3 (OpenSpec.ofChange Rows.fnTextNameSpec) false w args)
      (Rows.fnTextNameSpec.post enc Tryd.prog Tryd.f3 false true false false) := by
  refine returnsInHanded_of_change_and (C := Tryd.checked) (X := fun w _ => laidMetH Tryd.prog Rows.fnTextNameRow.laid w) (fun _ _ _ hh h => h.of_heap hh) own started (by kernel_rfl) Tryd.func3
    (ChangeSpec.witness_shaped (enc := enc) (C := Tryd.checked) (os := os) (X := fun w _ => laidMetH Tryd.prog Rows.fnTextNameRow.laid w) false (World.doorLaid Tryd.prog 62 os) #[.slice none 0 0] 8 rfl (World.shaped_of_RefB (by kernel_rfl) (by kernel_rfl)) (by kernel_rfl) (by kernel_rfl) (by kernel_rfl) (door_met os _)) ?_
  intro W base args ds gs before hval0 hW _ _ hL _
  have hval : ∀ (j : Nat) t v, Tryd.f3.params[j]? = some t → args[j]? = some v → Value.okWide Tryd.prog W .any base t v := hval0
  have hW' := hW
  obtain ⟨p, q, hA0, hV, rfl, hfz, hnd⟩ := hW
  have hA : DataW.TrodAll enc Tryd.prog W 0 (fun _ => true) true Tryd.f3.params.toList args.toList ds p := hA0
  rw [Tryd.params3] at hA hval
  obtain ⟨v0, vs0, d0, ds0, p0, q0, hargs, rfl, rfl, h0, r0⟩ := trodAll_cons hA
  obtain ⟨rfl, rfl, rfl⟩ := trodAll_nil r0
  obtain rfl : args = #[v0] := by cases args; simp_all
  obtain ⟨rfl, rfl⟩ := trodVars_none hV
  have k0 := h0
  have lt0 : ∀ x ∈ p0, x.block < W.heap.size := by obtain ⟨m, hm⟩ := k0; exact DataW.trod_lt m _ _ _ hm
  obtain ⟨a0, len0, cap0, rfl⟩ := okWide_slice Tryd.underlying22 (hval 0 22 v0 rfl rfl)
  have w0 := rowOf (elemT := 5) Tryd.underlying22 Tryd.underlying5 (by kernel_rfl) h0
  obtain ⟨tp, pv, hv⟩ := of_laid hL
  clear hA0 hval0
  refine (walk a0 len0 cap0 W w0.1 w0.2.1 w0.2.2 tp pv hv).mono fun e W' ⟨he, bel⟩ => ?_
  subst he
  exact ⟨_, rfl, _, _, _, [], _, [], hW', trodAll_mk1 (shut_bool Tryd.underlying4 _), (trodAll_cons_mk (Below.trod laidOut (by kernel_rfl) (of_decide_eq_true (by kernel_rfl)) k0 bel lt0) trodAll_mk0), rfl, bel.frame _, fun h => by cases h⟩
theorem over : Rows.FnTextNameSaid :=
  OpenClaim.holds_of_wide 3 Tryd.f3 rfl rfl rfl rfl rfl rfl rfl ⟨rfl, rfl, rfl, rfl, rfl⟩ rfl rfl rfl rfl rfl (by kernel_rfl) Tryd.func3 (by kernel_rfl)
    (of_decide_eq_true (by kernel_rfl)) (by unfold Func.isWrapper; first | (rw [if_pos (by decide +kernel)]; kernel_rfl) | (rw [if_neg (by decide +kernel)]; exact ⟨rfl, rfl⟩))
    (fun os started H enc _ => lifted os started H enc)
end FnTextName
theorem textName_holds : Rows.FnTextNameCardSaid :=
  Claim7.holds_tied_plain_at .later [] [.data, .data, .data, .sentinel, .sentinel] true Rows.fnTextNameCard.stood.harness true
    FnTextName.over (fun _ h => by cases h) (by kernel_rfl) (fun _ h => by cases h) fnTextName_row_tie rfl ⟨rfl, rfl⟩ (by kernel_rfl) rfl
    (fun f fn hf hfn => by
      obtain rfl : f = 3 := Option.some.inj ((show Tryd.prog.funcNamed "loop.example/hedge/laws.FnTextName" = some 3 by kernel_rfl).symm.trans hf) |>.symm
      obtain rfl : fn = Tryd.f3 := (Option.some.inj (Tryd.func3.symm.trans hfn)).symm
      exact ⟨by kernel_rfl, fun j t ht => by
        rw [Tryd.params3] at ht
        have hm : t ∈ [22] := by simpa using Array.mem_of_getElem? ht
        have hall : ([22].all fun u => !Tryd.prog.wantsStandIn u) = true := by kernel_rfl
        exact (show Tryd.prog.wantsStandIn t = false by simpa using List.all_eq_true.1 hall t hm)⟩)
    (by kernel_rfl)
#print axioms textName_holds
end Go.Proofs.YtbcgjnaoefgmiaaDoor
