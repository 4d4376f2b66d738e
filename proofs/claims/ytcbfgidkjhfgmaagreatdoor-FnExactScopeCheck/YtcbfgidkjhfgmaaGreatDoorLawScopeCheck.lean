/-
  What the program's ScopeCheck answers.
  At every program the program's ScopeCheck answers as the specification's and writes into no argument, in every memory that holds errors.errorType.
-/
import Derived.Test.YtcbfgidkjhfgmaaGreatDoorUsesI
import Derived.Test.YtcbfgidkjhfgmaaGreatDoorNameH
import Derived.Test.YtcbfgidkjhfgmaaGreatDoorProgD
import Derived.Test.YtcbfgidkjhfgmaaGreatDoorRows
import Derived.ChangeMaps5
import Derived.Deep.RegionHeld3
import Derived.Test.YtcbfgidkjhfgmaaGreatDoorCards
import Derived.Test.YtcbfgidkjhfgmaaGreatDoorTie
import Derived.Stop.LaidErr
import Derived.ProofKit
import Derived.LaidMore
import Derived.LaidLaws
import Derived.LaidHandle
import Derived.OpenShut
import Derived.ChangeSame
import Derived.ChangeVars
import Derived.JoinedOf
import Derived.Stop.Joined
import Derived.ChangeOld
import Derived.Lib.SmallJoins
import Derived.SevenTiedAt
namespace Go.Proofs.YtcbfgidkjhfgmaaGreatDoor
open Go.RowKit Go.Shelf Go.Maps
set_option linter.unusedSimpArgs false
set_option linter.unusedVariables false
attribute [local go_sem] Oper.semAt_some

set_option maxRecDepth 10000 in
set_option maxHeartbeats 1000000 in
theorem implScope (p : PX) (hm : p.Small) (hN : p.Names) (hT : ∀ (i : Nat) (t : LX), p.tasks[i]? = some t → SX.sizeAll t.l ≤ 1048577) (ok : Nat → Prop) (w : World) (hok : ∀ b, ok b → b < w.heap.size) (hL : PX.Lies ok w p) (hg : ErrG w) :
    Calls Tryz.prog 7 #[p.val] w fun e w' => e = .returned (.int .i64 p.namesI) ∧ Below w.heap.size w w' := by
  obtain ⟨W1, hW1⟩ : ∃ W1, w.alloc (.cells #[.slice p.vbase p.vars.length p.vcap, .slice p.cbase p.chans.length p.ccap, .slice p.nbase p.locks.length p.ncap, .slice p.tbase p.tasks.length p.tcap] 34) = W1 := ⟨_, rfl⟩
  obtain ⟨W2, hW2⟩ : ∃ W2, W1.alloc (.cells #[.int .i64 0, .string ⟨#[]⟩] 52) = W2 := ⟨_, rfl⟩
  have hs1 : w.heap.size + 1 = W1.heap.size := by rw [← hW1]; simp
  have hs2 : W1.heap.size + 1 = W2.heap.size := by rw [← hW2]; simp
  have hB2 : Below w.heap.size w W2 := by rw [← hW2, ← hW1]; exact ((Below.refl _ w).alloc (Nat.le_refl _) _).alloc (by simp) _
  have pa : W2.heap[w.heap.size]? = some (.cells #[.slice p.vbase p.vars.length p.vcap, .slice p.cbase p.chans.length p.ccap, .slice p.nbase p.locks.length p.ncap, .slice p.tbase p.tasks.length p.tcap] 34) := by
    rw [← hW2]
    refine (Below.heap_alloc _ _ _ (by omega)).trans ?_
    rw [← hW1]
    exact Array.getElem?_push_size
  have pb : W2.heap[W1.heap.size]? = some (.cells #[.int .i64 0, .string ⟨#[]⟩] 52) := by rw [← hW2]; exact Array.getElem?_push_size
  have c0 : W2.cell? ⟨w.heap.size, 0, none⟩ = some (.slice p.vbase p.vars.length p.vcap) := by simp [World.cell?, pa]
  have c1 : W2.cell? ⟨w.heap.size, 1, none⟩ = some (.slice p.cbase p.chans.length p.ccap) := by simp [World.cell?, pa]
  have c2 : W2.cell? ⟨w.heap.size, 2, none⟩ = some (.slice p.nbase p.locks.length p.ncap) := by simp [World.cell?, pa]
  have c3 : W2.cell? ⟨w.heap.size, 3, none⟩ = some (.slice p.tbase p.tasks.length p.tcap) := by simp [World.cell?, pa]
  have hL2 := hL.under hB2 hok
  have hwr := wrongInT p hm hN hT ok W2 (fun b hb => by have := hok b hb; omega) hL2
  have hg2 := hg.of hB2
  have hg2l := hg2.lt
  obtain ⟨cd, hcd⟩ : ∃ cd, p.namesI = cd := ⟨_, rfl⟩
  rw [hcd] at hwr ⊢
  by_cases h0 : cd = 0
  · subst h0
    go_enter Tryz.func7, Tryz.ntmps7
    go_wp2_with fail
    go_at_call 22
    refine hwr.mono ?_
    rintro e w3 ⟨⟨x, rfl⟩, hB3⟩
    rw [show errV 0 x = .nilIface from rfl]
    go_wp2_with fail
    go_at_call 21
    refine (asNil _ w3).mono ?_
    rintro e w4 ⟨rfl, hw4⟩
    subst w4
    go_wp2
    go_returns
    exact ⟨rfl, hB2.trans (hB3.mono hB2.size)⟩
  · go_enter Tryz.func7, Tryz.ntmps7
    go_wp2_with fail
    go_at_call 22
    refine hwr.mono ?_
    rintro e w3 ⟨⟨x, rfl⟩, hB3⟩
    rw [show errV cd x = nameV cd x from by unfold errV; rw [if_neg h0]]
    have hz3 := hB3.size
    have p3 := (hB3.block W1.heap.size (by omega)).trans pb
    have k0 : w3.cell? ⟨W1.heap.size, 0, none⟩ = some (.int .i64 0) := by simp [World.cell?, p3]
    have k1 : w3.cell? ⟨W1.heap.size, 1, none⟩ = some (.string ⟨#[]⟩) := by simp [World.cell?, p3]
    have kf : ∀ i, w3.frozen? ⟨W1.heap.size, i, none⟩ = false := fun i => by simp [World.frozen?, p3]
    have hA := asName cd x W1.heap.size _ _ w3 (hg2.of hB3) k0 k1 kf
    go_wp2_with fail
    go_at_call 21
    refine hA.mono ?_
    clear hA k0 k1 kf
    rintro e w4 ⟨rfl, W5, hB5, hw4⟩
    have p5 := (hB5.block W1.heap.size (by omega)).trans p3
    have p6 : w4.heap[W1.heap.size]? = some (.cells #[.int .i64 cd, .string x] 52) := by
      rw [hw4]
      exact heap_setCell_same _ _ 1 _ _ _ (heap_setCell_same _ _ 0 _ _ _ p5)
    have k6 : w4.cell? ⟨W1.heap.size, 0, none⟩ = some (.int .i64 cd) := by simp [World.cell?, p6]
    have hB4 : Below w.heap.size w w4 := by
      rw [hw4]
      exact (((hB2.trans (hB3.mono hB2.size)).trans (hB5.mono (by omega))).setCell (p := ⟨W1.heap.size, 0, none⟩) (by dsimp only; omega) _).setCell (p := ⟨W1.heap.size, 1, none⟩) (by dsimp only; omega) _
    clear hw4
    go_wp2
    go_returns
    exact ⟨rfl, hB4⟩
end Go.Proofs.YtcbfgidkjhfgmaaGreatDoor
namespace Go.Proofs.YtcbfgidkjhfgmaaGreatDoor
open Go.ChangeShapes Go.WideShapes Go.ChangeAt Go.RowKit Go.Joins
set_option linter.unusedSimpArgs false
set_option linter.unusedVariables false

namespace FnExactScopeCheck
theorem boxP {A : World} {b : Nat} {p : PX} (h : PX.At A b p) : A.cell? ⟨b, 0, none⟩ = some (.slice p.vbase p.vars.length p.vcap) ∧ A.cell? ⟨b, 1, none⟩ = some (.slice p.cbase p.chans.length p.ccap) ∧ A.cell? ⟨b, 2, none⟩ = some (.slice p.nbase p.locks.length p.ncap) ∧ A.cell? ⟨b, 3, none⟩ = some (.slice p.tbase p.tasks.length p.tcap) := ⟨h.c0, h.c1, h.c2, h.c3⟩
set_option maxRecDepth 10000 in
set_option maxHeartbeats 4000000 in
theorem walk (p : PX) (w : World) (hW : p.Wide) (hL : PX.Lies (fun b => b < w.heap.size) w p) (hg : ErrG w) :
    Calls Tryz.prog 3 #[p.val] w fun e w' => e = .returned (.bool true) ∧ Below w.heap.size w w' := by
  have hB1 : Below w.heap.size w (w.alloc (.cells #[.slice p.vbase p.vars.length p.vcap, .slice p.cbase p.chans.length p.ccap, .slice p.nbase p.locks.length p.ncap, .slice p.tbase p.tasks.length p.tcap] 27)) := (Below.refl _ w).alloc (Nat.le_refl _) _
  go_enter Tryz.func3, Tryz.ntmps3
  go_wp2_with fail
  all_goals first | (exfalso; omega) | skip
  go_at_call 4
  obtain ⟨W1, hW1⟩ : ∃ W1, w.alloc (.cells #[.slice p.vbase p.vars.length p.vcap, .slice p.cbase p.chans.length p.ccap, .slice p.nbase p.locks.length p.ncap, .slice p.tbase p.tasks.length p.tcap] 27) = W1 := ⟨_, rfl⟩
  have hs1 : W1.heap.size = w.heap.size + 1 := by rw [← hW1]; simp
  have hb1 : PX.At W1 w.heap.size p := by rw [← hW1]; exact PX.At.new w p _
  rw [hW1] at hB1 ⊢
  clear hW1
  have hlt : ∀ b, b < w.heap.size → b < W1.heap.size := fun b hb => by omega
  have hL1 := hL.under hB1 (fun b hb => hb)
  refine (PX.sz p hW _ W1 hlt hL1 1048576 (by omega) (by omega)).mono ?_
  rintro e w2 ⟨rfl, hB2⟩
  have hb2 := hb1.below hB2 (by omega)
  have hB2' := hB1.trans (hB2.mono hB1.size)
  have hL2 := hL1.under hB2 hlt
  have hz2 := hB2.size
  by_cases htot : p.tot ≤ 1048576
  · rw [subI_yes (by omega)]
    have hm := PX.small htot
    have hN := PX.names htot
    obtain ⟨c0, c1, c2, c3⟩ := boxP hb2
    go_wp2_with fail
    all_goals first | (exfalso; omega) | skip
    go_at_call 6
    refine (PX.to p hm _ w2 (fun b hb => by omega) hL2).mono ?_
    rintro e w3 ⟨q0, rfl, hS0, hL0, hB3⟩
    have hb3 := hb2.below hB3 (by omega)
    have hB3' := hB2'.trans (hB3.mono hB2'.size)
    have hz3 := hB3.size
    clear c0 c1 c2 c3
    go_wp2_with fail
    go_at_call 5
    obtain ⟨okv, hokv⟩ : ∃ okv, p.namesI = okv := ⟨_, rfl⟩
    obtain ⟨r0, z0⟩ := PX.same_ok hm hS0
    have hspec := specScope q0 (PX.small (by omega)) (PX.names (by omega)) (PX.sizes (by omega)) (flatGoodP (by omega)) _ w3 (fun b hb => hb) hL0.bound
    rw [names_same hm hS0, hokv] at hspec
    refine hspec.mono ?_
    clear hspec
    rintro e w4 ⟨rfl, hB4⟩
    have hb4 := hb3.below hB4 (by omega)
    have hB4' := hB3'.trans (hB4.mono hB3'.size)
    have hz4 := hB4.size
    have hL4 := ((hL2.under hB3 (fun b hb => by omega)).under hB4 (fun b hb => by omega))
    obtain ⟨c0, c1, c2, c3⟩ := boxP hb4
    go_wp2_with fail
    go_at_call 6
    refine (PX.to p hm _ w4 (fun b hb => by omega) hL4).mono ?_
    rintro e w5 ⟨q1, rfl, hS1, hL1', hB5⟩
    obtain ⟨r1, z1⟩ := PX.same_ok hm hS1
    have hb5 := hb4.below hB5 (by omega)
    have hB5' := hB4'.trans (hB5.mono hB4'.size)
    have hz5 := hB5.size
    have hL5 := hL4.under hB5 (fun b hb => by omega)
    have hm1 : q1.Small := PX.small (by omega)
    clear c0 c1 c2 c3
    go_wp2_with fail
    go_at_call 7
    obtain ⟨W6, hW6⟩ : ∃ W6, w5.alloc (.cells #[.slice q1.vbase q1.vars.length q1.vcap, .slice q1.cbase q1.chans.length q1.ccap, .slice q1.nbase q1.locks.length q1.ncap, .slice q1.tbase q1.tasks.length q1.tcap] 34) = W6 := ⟨_, rfl⟩
    have hs6 : W6.heap.size = w5.heap.size + 1 := by rw [← hW6]; simp
    have hB6 : Below w5.heap.size w5 W6 := by rw [← hW6]; exact (Below.refl _ _).alloc (Nat.le_refl _) _
    have hx6 : PX.At W6 w5.heap.size q1 := by rw [← hW6]; exact PX.At.new w5 q1 _
    rw [hW6]
    clear hW6
    have hL16 := hL1'.bound.under hB6 (fun b hb => hb)
    have hg6 := hg.of (hB5'.trans (hB6.mono hB5'.size))
    have himpl := implScope q1 hm1 (PX.names (by omega)) (PX.sizes (by omega)) _ W6 (fun b hb => by omega) hL16 hg6
    rw [names_same hm hS1, hokv] at himpl
    refine himpl.mono ?_
    clear himpl
    rintro e w7 ⟨rfl, hB7⟩
    have hz7 := hB7.size
    have hb7 := (hb5.below hB6 (by omega)).below hB7 (by omega)
    have hx7 := hx6.below hB7 (by omega)
    have hL7 := (hL5.under hB6 (fun b hb => by omega)).under hB7 (fun b hb => by omega)
    have hL17 := hL16.under hB7 (fun b hb => by omega)
    have hB7' := (hB5'.trans (hB6.mono hB5'.size)).trans (hB7.mono (by omega))
    obtain ⟨c0, c1, c2, c3⟩ := boxP hb7
    obtain ⟨d0, d1, d2, d3⟩ := boxP hx7
    clear hB2 hB3 hB4 hB5 hB6 hB7 hb1 hb2 hb3 hb4 hb5 hx6 hL hL1 hL2 hL4 hL5 hL16 hL0 hL1' hB1 hB2' hB3' hB4' hB5' hokv hS0 r1 z1 hlt hg hg6 z0 r0
    go_wp2_with fail
    have hzd : w7.drew.heap.size = w7.heap.size := rfl
    have hb7d : PX.At w7.drew w.heap.size p := ⟨hb7.c0, hb7.c1, hb7.c2, hb7.c3⟩
    have hx7d : PX.At w7.drew w5.heap.size q1 := ⟨hx7.c0, hx7.c1, hx7.c2, hx7.c3⟩
    have hL17d := hL17.mono (B := w7.drew) (ok' := fun b => b < w7.heap.size) (fun b hb h => ⟨h, rfl⟩)
    have hto := PX.to p hm (fun b => b < w.heap.size) w7.drew (fun b hb => by rw [hzd]; omega) (hL7.mono (fun b hb _ => ⟨hb, rfl⟩))
    go_region_held3 (fun w' => w'.cell? ⟨w5.heap.size, 0, none⟩ = some (.slice q1.vbase q1.vars.length q1.vcap) ∧ w'.cell? ⟨w5.heap.size, 1, none⟩ = some (.slice q1.cbase q1.chans.length q1.ccap) ∧ w'.cell? ⟨w5.heap.size, 2, none⟩ = some (.slice q1.nbase q1.locks.length q1.ncap) ∧ w'.cell? ⟨w5.heap.size, 3, none⟩ = some (.slice q1.tbase q1.tasks.length q1.tcap) ∧ w'.cell? ⟨w.heap.size, 0, none⟩ = some (.slice p.vbase p.vars.length p.vcap) ∧ w'.cell? ⟨w.heap.size, 1, none⟩ = some (.slice p.cbase p.chans.length p.ccap) ∧ w'.cell? ⟨w.heap.size, 2, none⟩ = some (.slice p.nbase p.locks.length p.ncap) ∧ w'.cell? ⟨w.heap.size, 3, none⟩ = some (.slice p.tbase p.tasks.length p.tcap)) (simp [*, go_sem, World.cell?_alloc_some, World.cell?_setCell_far, apart1, apart2, apart3, apart4, apart5, apart6]) (first | (go_at_call 6; refine hto.mono ?_; rintro e w8 ⟨q2, rfl, hS2, hL28, hB8⟩; (have hz8 := hB8.size); (obtain ⟨k0, k1, k2, k3⟩ := boxP (hb7d.below hB8 (by rw [hzd]; omega))); (obtain ⟨l0, l1, l2, l3⟩ := boxP (hx7d.below hB8 (by rw [hzd]; omega))); (have heq := PX.eq q1 q2 hm1 (hS1.join hS2) _ w8 (fun b hb => hb) (hL17d.under hB8 (fun b hb => by rw [hzd]; omega)).bound hL28.bound)) | (go_at_call 8; refine heq.mono ?_; rintro e w9 ⟨rfl, hB9⟩; (obtain ⟨kk0, kk1, kk2, kk3⟩ := boxP (((hb7d.below hB8 (by rw [hzd]; omega))).below hB9 (by omega))); (obtain ⟨ll0, ll1, ll2, ll3⟩ := boxP (((hx7d.below hB8 (by rw [hzd]; omega))).below hB9 (by omega)))))
    go_wp2
    go_returns
    refine ⟨rfl, hB7'.trans ?_⟩
    exact (((Below.refl _ w7).drew).trans (hB8.mono (by rw [hzd]; omega))).trans (hB9.mono (by omega))
  · rw [subI_no (by omega)]
    go_wp2
    go_returns
    exact ⟨rfl, hB2'⟩
theorem own : ownKnob Tryz.prog.godebug = none := by kernel_rfl
theorem laidOut : laidOutB Tryz.prog = true := by kernel_rfl
theorem gE : Tryz.prog.globalNamed "errors.errorType" = some 0 := by kernel_rfl
theorem rtE : (Tryz.prog.cutTypes.find? (·.1 == "internal/reflectlite.rtype")).map (·.2) = some 132 := by kernel_rfl
theorem oneRow : ((List.range 244).filter fun t => Tryz.prog.rowNamed t [101, 114, 114, 111, 114]) = [55] := by kernel_rfl
theorem sizeT : Tryz.prog.types.size = 244 := by kernel_rfl
/-- What the condition gives the walk: the one variable that errors.As reads. -/
theorem of_laid {W : World} (h : laidMetH Tryz.prog Rows.fnExactScopeCheckRow.laid W) : ErrG W := by
  have h' : laidMet Tryz.prog [] W ∧ handlesMet Tryz.prog Rows.fnExactScopeCheckRow.laid W := h
  obtain ⟨name, u, ty, e1, e2, e3, e4, e5⟩ := h'.2 _ (List.mem_singleton.2 rfl)
  have en : name = [101, 114, 114, 111, 114] := (Option.some.inj e1).symm
  subst en
  obtain rfl := Option.some.inj (rtE.symm.trans e2)
  have hm : ty ∈ (List.range 244).filter fun t => Tryz.prog.rowNamed t [101, 114, 114, 111, 114] := List.mem_filter.2 ⟨List.mem_range.2 (by rw [← sizeT]; exact e3), e4⟩
  rw [oneRow] at hm
  obtain rfl := List.mem_singleton.1 hm
  have hh : typeHandle Tryz.prog 55 = .pointer (some ⟨1, 55, none⟩) := by kernel_rfl
  rw [hh] at e5
  have h6 : W.cell? ⟨0, 0, none⟩ = some (.iface 132 (.agg #[.pointer (some ⟨1, 55, none⟩)])) := by simpa using World.var?_cell gE e5 0
  exact h6
theorem door_met (os : Os) (args : Array Value) : laidMetH Tryz.prog Rows.fnExactScopeCheckRow.laid ((World.doorLaid Tryz.prog 16 os).forCall (fun _ _ => 0) ⟨#[], args, []⟩).memory :=
  laidMetH_of_parts (laidMet_nil _ _) (by kernel_rfl)
set_option maxRecDepth 100000 in
theorem lifted (os : Os) (started : os.Started) (H : Type) (enc : TypeId × Value → H) :
    ReturnsInHanded {} Tryz.checked os 3 .any (fun w args => (Rows.fnExactScopeCheckSpec.pre enc Tryz.prog Tryz.f3 [] false w args ∧ laidMetH Tryz.prog Rows.fnExactScopeCheckRow.laid w) ∧ sizedMet enc Tryz.prog Tryz.f3 (OpenSpec.ofChange Rows.fnExactScopeCheckSpec) false w args)
      (Rows.fnExactScopeCheckSpec.post enc Tryz.prog Tryz.f3 false true false false) := by
  refine returnsInHanded_of_change_and (C := Tryz.checked) (X := fun w _ => laidMetH Tryz.prog Rows.fnExactScopeCheckRow.laid w) (fun _ _ _ hh h => h.of_heap hh) own started (by kernel_rfl) Tryz.func3
    (ChangeSpec.witness_shaped (enc := enc) (C := Tryz.checked) (os := os) (X := fun w _ => laidMetH Tryz.prog Rows.fnExactScopeCheckRow.laid w) false (World.doorLaid Tryz.prog 16 os) #[.agg #[.slice none 0 0, .slice none 0 0, .slice none 0 0, .slice none 0 0]] 8 rfl (World.shaped_of_RefB (by kernel_rfl) (by kernel_rfl)) (by kernel_rfl) (by kernel_rfl) (by kernel_rfl) (door_met os _)) ?_
  intro W base args ds gs before hval0 hW _ _ hLaid _
  have hval : ∀ (j : Nat) t v, Tryz.f3.params[j]? = some t → args[j]? = some v → Value.okWide Tryz.prog W .any base t v := hval0
  have hW' := hW
  obtain ⟨p, q, hA0, hV, rfl, hfz, hnd⟩ := hW
  have hA : DataW.TrodAll enc Tryz.prog W 0 (fun _ => true) true Tryz.f3.params.toList args.toList ds p := hA0
  rw [Tryz.params3] at hA hval
  obtain ⟨v0, vs0, d0, ds0, p0, q0, hargs, rfl, rfl, h0, r0⟩ := trodAll_cons hA
  obtain ⟨rfl, rfl, rfl⟩ := trodAll_nil r0
  obtain rfl : args = #[v0] := by cases args; simp_all
  obtain ⟨rfl, rfl⟩ := trodVars_none hV
  have k0 := h0
  have lt0 : ∀ x ∈ p0, x.block < W.heap.size := by obtain ⟨m, hm⟩ := k0; exact DataW.trod_lt m _ _ _ hm
  obtain ⟨a0, e0, wd0, ly0⟩ : ∃ t : PX, v0 = t.val ∧ t.Wide ∧ PX.Lies (fun b => b < W.heap.size) W t := by
    obtain ⟨cs, rfl, _⟩ := okWide_struct Tryz.underlying27 (hval 0 27 v0 rfl rfl)
    obtain ⟨m, hm⟩ := h0
    obtain ⟨t, h1, h2, h3⟩ := readP m _ _ hm
    refine ⟨t, ?_, h2, h3⟩
    obtain ⟨l⟩ := cs
    have h4 : l = _ := h1
    rw [h4]
  subst e0
  have hErr := of_laid hLaid
  clear hA0 hval0
  refine (walk a0 W wd0 ly0 hErr).mono fun e W' ⟨he, bel⟩ => ?_
  subst he
  exact ⟨_, rfl, _, _, _, [], _, [], hW', trodAll_mk1 (shut_bool Tryz.underlying4 _), (trodAll_cons_mk (Below.trod laidOut (by kernel_rfl) (of_decide_eq_true (by kernel_rfl)) k0 bel lt0) trodAll_mk0), rfl, bel.frame _, fun h => by cases h⟩
theorem over : Rows.fnExactScopeCheckRow.holds Tryz.pinned (OpenSpec.ofChange Rows.fnExactScopeCheckSpec) :=
  OpenClaim.holds_of_wide 3 Tryz.f3 rfl rfl rfl rfl rfl rfl rfl ⟨rfl, rfl, rfl, rfl, rfl⟩ rfl rfl rfl rfl rfl (by kernel_rfl) Tryz.func3 (by kernel_rfl)
    (of_decide_eq_true (by kernel_rfl)) (by unfold Func.isWrapper; first | (rw [if_pos (by decide +kernel)]; kernel_rfl) | (rw [if_neg (by decide +kernel)]; exact ⟨rfl, rfl⟩))
    (fun os started H enc _ => lifted os started H enc)
end FnExactScopeCheck
theorem scopeCheck_holds : Rows.FnExactScopeCheckCardSaid :=
  Claim7.holds_tied_plain_at .later [] [.handle] true Rows.fnExactScopeCheckCard.stood.harness true
    FnExactScopeCheck.over (fun _ h => by cases h) (by kernel_rfl) (fun _ h => by cases h) fnExactScopeCheck_row_tie rfl ⟨rfl, rfl⟩ (by kernel_rfl) rfl
    (fun f fn hf hfn => by
      obtain rfl : f = 3 := Option.some.inj ((show Tryz.prog.funcNamed "loop.example/hedge/laws.FnExactScopeCheck" = some 3 by kernel_rfl).symm.trans hf) |>.symm
      obtain rfl : fn = Tryz.f3 := (Option.some.inj (Tryz.func3.symm.trans hfn)).symm
      exact ⟨by kernel_rfl, fun j t ht => by
        rw [Tryz.params3] at ht
        have hm : t ∈ [27] := by simpa using Array.mem_of_getElem? ht
        have hall : ([27].all fun u => !Tryz.prog.wantsStandIn u) = true := by kernel_rfl
        exact (show Tryz.prog.wantsStandIn t = false by simpa using List.all_eq_true.1 hall t hm)⟩)
    (by kernel_rfl)
#print axioms scopeCheck_holds
end Go.Proofs.YtcbfgidkjhfgmaaGreatDoor
