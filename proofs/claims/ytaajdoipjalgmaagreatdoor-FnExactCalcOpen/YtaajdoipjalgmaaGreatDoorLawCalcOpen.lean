/-
  At every program the program's CalcOpen answers as the specification's, writes into no argument, and its answer owns its memory, in every memory that holds errors.errorType.
-/
import Derived.Test.YtaajdoipjalgmaaGreatDoorOpenC
import Derived.Test.YtaajdoipjalgmaaGreatDoorMarkQ
import Derived.Test.YtaajdoipjalgmaaGreatDoorNameH
import Derived.Test.YtaajdoipjalgmaaGreatDoorOkQ
import Derived.Test.YtaajdoipjalgmaaGreatDoorOkD
import Derived.Test.YtaajdoipjalgmaaGreatDoorProgD
import Derived.Test.YtaajdoipjalgmaaGreatDoorRows
import Derived.ChangeMaps5
import Derived.Deep.RegionHeld3
import Derived.Test.YtaajdoipjalgmaaGreatDoorCards
import Derived.Test.YtaajdoipjalgmaaGreatDoorTie
import Derived.Stop.LaidErr
import Derived.ProofKit
import Derived.LaidMore
import Derived.LaidLaws
import Derived.LaidHandle
import Derived.OpenShut
import Derived.ChangeSame
import Derived.ChangeVars
import Derived.JoinedOf
import Derived.Stop.Joined
import Derived.ChangeOld
import Derived.Lib.SmallJoins
import Derived.SevenTiedAt
namespace Go.Proofs.YtaajdoipjalgmaaGreatDoor
open Go.ChangeShapes Go.WideShapes Go.ChangeAt Go.RowKit Go.Joins
set_option linter.unusedSimpArgs false
set_option linter.unusedVariables false

namespace FnExactCalcOpen
theorem boxP {A : World} {b : Nat} {p : PX} (h : PX.At A b p) : A.cell? ⟨b, 0, none⟩ = some (.slice p.vbase p.vars.length p.vcap) ∧ A.cell? ⟨b, 1, none⟩ = some (.slice p.cbase p.chans.length p.ccap) ∧ A.cell? ⟨b, 2, none⟩ = some (.slice p.nbase p.locks.length p.ncap) ∧ A.cell? ⟨b, 3, none⟩ = some (.slice p.tbase p.tasks.length p.tcap) := ⟨h.c0, h.c1, h.c2, h.c3⟩
theorem open_same {p q : PX} (hm : p.Small) (h : PX.Same p q) : q.openLs = p.openLs := by
  unfold PX.openLs
  rw [names_same hm h, h.v]
theorem open_bounds {p : PX} (hm : p.Small) {us : List GX} (h : us.map GX.l = p.openLs) : us.length ≤ 1048576 ∧ (∀ (i : Nat) (k : GX), us[i]? = some k → k.l.length ≤ 6) ∧ sumG us ≤ 6 * us.length := by
  have h2 : ∀ (i : Nat) (k : GX), us[i]? = some k → k.l.length ≤ 6 := by
    intro i k hk
    have h3 : p.openLs[i]? = some k.l := by rw [← h, List.getElem?_map, hk]; rfl
    by_cases h0 : p.namesI = 0
    · rw [PX.open_yes h0, List.getElem?_map] at h3
      cases hv : p.vars[i]? with
      | none => rw [hv] at h3; cases h3
      | some v =>
        rw [hv] at h3
        have h4 := vars_small h0 i v hv
        have h5 : k.l = v.openL := (Option.some.inj h3).symm
        rw [h5]
        unfold VX.openL mxI
        rw [List.length_replicate]
        split <;> omega
    · rw [PX.open_no h0] at h3
      simp at h3
  refine ⟨?_, h2, ?_⟩
  · have h3 := congrArg List.length h
    rw [List.length_map] at h3
    have := hm.vl
    by_cases h0 : p.namesI = 0
    · rw [PX.open_yes h0, List.length_map] at h3
      omega
    · rw [PX.open_no h0, List.length_nil] at h3
      omega
  · clear h
    induction us with
    | nil => simp [sumG, sumOf]
    | cons x xs ih =>
      have h3 := ih (fun i k hk => h2 (i + 1) k (by simpa using hk))
      have h4 := h2 0 x rfl
      unfold sumG at h3 ⊢
      simp only [sumOf, List.length_cons]
      omega
theorem eqOpen {p : PX} (hm : p.Small) {us vs : List GX} (hu : us.map GX.l = p.openLs) (hv : vs.map GX.l = p.openLs) {a a' : Option Addr} {c c' lo hi lo' hi' : Nat} {W : World} (h1 : OwnG W lo hi a us) (h2 : OwnG W lo' hi' a' vs) (h3 : hi ≤ W.heap.size) (h4 : hi' ≤ W.heap.size) :
    Calls Tryz.prog 10 #[.slice a us.length c, .slice a' vs.length c'] W fun e w' => e = .returned (.bool true) ∧ Below W.heap.size W w' := by
  obtain ⟨b1, b2, -⟩ := open_bounds hm hu
  have hl : vs.length = us.length := by
    have e1 := congrArg List.length hu
    have e2 := congrArg List.length hv
    rw [List.length_map] at e1 e2
    omega
  obtain ⟨p1, p2⟩ := h1.rows
  obtain ⟨q1, q2⟩ := h2.rows
  refine GX.eqs us vs a a' c c' (fun b => b < W.heap.size) W (fun b hb => hb) (GX.Row.mono p1 (fun b hb _ => ⟨by omega, rfl⟩)) (GX.Row.mono q1 (fun b hb _ => ⟨by omega, rfl⟩)) (by omega) hl (fun i k hk => IRow.mono (p2 i k hk) (fun b hb _ => ⟨by omega, rfl⟩)) (fun i k hk => IRow.mono (q2 i k hk) (fun b hb _ => ⟨by omega, rfl⟩)) (fun i k hk => by have := b2 i k hk; omega) (fun i x y hx hy => ?_)
  have e1 : p.openLs[i]? = some x.l := by rw [← hu, List.getElem?_map, hx]; rfl
  have e2 : p.openLs[i]? = some y.l := by rw [← hv, List.getElem?_map, hy]; rfl
  rw [e1] at e2
  exact (Option.some.inj e2).symm
set_option maxRecDepth 10000 in
set_option maxHeartbeats 8000000 in
theorem walk (p : PX) (w : World) (hW : p.Wide) (hL : PX.Lies (fun b => b < w.heap.size) w p) (hg : ErrG w) :
    Calls Tryz.prog 3 #[p.val] w fun e w' => e = .returned (.bool true) ∧ Below w.heap.size w w' := by
  have hB1 : Below w.heap.size w (w.alloc (.cells #[.slice p.vbase p.vars.length p.vcap, .slice p.cbase p.chans.length p.ccap, .slice p.nbase p.locks.length p.ncap, .slice p.tbase p.tasks.length p.tcap] 27)) := (Below.refl _ w).alloc (Nat.le_refl _) _
  go_enter Tryz.func3, Tryz.ntmps3
  go_wp2_with fail
  all_goals first | (exfalso; omega) | skip
  go_at_call 6
  obtain ⟨W1, hW1⟩ : ∃ W1, w.alloc (.cells #[.slice p.vbase p.vars.length p.vcap, .slice p.cbase p.chans.length p.ccap, .slice p.nbase p.locks.length p.ncap, .slice p.tbase p.tasks.length p.tcap] 27) = W1 := ⟨_, rfl⟩
  have hs1 : W1.heap.size = w.heap.size + 1 := by rw [← hW1]; simp
  have hbx : PX.At W1 w.heap.size p := by rw [← hW1]; exact PX.At.new w p _
  rw [hW1] at hB1 ⊢
  clear hW1
  have hlt : ∀ b, b < w.heap.size → b < W1.heap.size := fun b hb => by omega
  have hLp := hL.under hB1 (fun b hb => hb)
  refine (PX.sz p hW _ W1 hlt hLp 1048576 (by omega) (by omega)).mono ?_
  rintro e w2 ⟨rfl, hB2⟩
  replace hbx := hbx.below hB2 (by omega)
  have hB2' := hB1.trans (hB2.mono hB1.size)
  replace hLp := hLp.under hB2 hlt
  have hz2 := hB2.size
  by_cases htot : p.tot ≤ 1048576
  · rw [subI_yes (by omega)]
    have hm := PX.small htot
    have hN := PX.names htot
    obtain ⟨c0, c1, c2, c3⟩ := boxP hbx
    go_wp2_with fail
    all_goals first | (exfalso; omega) | skip
    go_at_call 8
    refine (PX.to p hm _ w2 (fun b hb => by omega) hLp).mono ?_
    rintro e w3 ⟨q0, rfl, hS0, hL0, hB3⟩
    have hz3 := hB3.size
    have hB3' := hB2'.trans (hB3.mono hB2'.size)
    clear c0 c1 c2 c3
    replace hbx := hbx.below hB3 (by omega)
    replace hLp := hLp.under hB3 (fun b hb => by omega)
    obtain ⟨r0, z0⟩ := PX.same_ok hm hS0
    have hspec := specOpen q0 (PX.small (by omega)) (PX.names (by omega)) (PX.sizes (by omega)) (flatGoodP (by omega)) _ w3 (fun b hb => hb) hL0.bound
    rw [open_same hm hS0] at hspec
    go_wp2_with fail
    go_at_call 7
    refine hspec.mono ?_
    clear hspec
    rintro e w4 ⟨aw, cw, uw, rfl, hlw, hWw, hB4⟩
    have hz4 := hB4.size
    have hB4' := hB3'.trans (hB4.mono hB3'.size)
    clear hL0 hS0 r0 z0
    replace hbx := hbx.below hB4 (by omega)
    replace hLp := hLp.under hB4 (fun b hb => by omega)
    obtain ⟨c0, c1, c2, c3⟩ := boxP hbx
    go_wp2_with fail
    go_at_call 8
    refine (PX.toO p hm _ w4 (fun b hb => by omega) hLp).mono ?_
    rintro e w5 ⟨q1, rfl, hS1, hLq, hOq, hB5⟩
    obtain ⟨r1, z1⟩ := PX.same_ok hm hS1
    have hz5 := hB5.size
    have hB5' := hB4'.trans (hB5.mono hB4'.size)
    clear c0 c1 c2 c3
    replace hbx := hbx.below hB5 (by omega)
    replace hLp := hLp.under hB5 (fun b hb => by omega)
    replace hWw := hWw.mono (fun b q1 q2 => hB5.block b (by omega))
    have hm1 : q1.Small := PX.small (by omega)
    replace hLq := hLq.bound
    go_wp2_with fail
    go_at_call 9
    obtain ⟨W6, hW6⟩ : ∃ W6, w5.alloc (.cells #[.slice q1.vbase q1.vars.length q1.vcap, .slice q1.cbase q1.chans.length q1.ccap, .slice q1.nbase q1.locks.length q1.ncap, .slice q1.tbase q1.tasks.length q1.tcap] 35) = W6 := ⟨_, rfl⟩
    have hs6 : W6.heap.size = w5.heap.size + 1 := by rw [← hW6]; simp
    have hB6 : Below w5.heap.size w5 W6 := by rw [← hW6]; exact (Below.refl _ _).alloc (Nat.le_refl _) _
    have hxx : PX.At W6 w5.heap.size q1 := by rw [← hW6]; exact PX.At.new w5 q1 _
    rw [hW6]
    clear hW6
    have hB6' := hB5'.trans (hB6.mono hB5'.size)
    replace hbx := hbx.below hB6 (by omega)
    replace hLp := hLp.under hB6 (fun b hb => by omega)
    replace hWw := hWw.mono (fun b q1 q2 => hB6.block b (by omega))
    replace hLq := (hLq.under hB6 (fun b hb => by omega))
    replace hOq := hOq.mono (fun b q1 q2 => hB6.block b (by omega))
    have himpl := implOpen q1 hm1 (PX.names (by omega)) (PX.sizes (by omega)) _ W6 (fun b hb => by omega) hLq (hg.of hB6')
    rw [open_same hm hS1] at himpl
    refine himpl.mono ?_
    clear himpl
    rintro e w7 ⟨ag, cg, ug, rfl, hlg, hWg, hB7⟩
    have hz7 := hB7.size
    have hB7' := hB6'.trans (hB7.mono hB6'.size)
    replace hbx := hbx.below hB7 (by omega)
    replace hLp := hLp.under hB7 (fun b hb => by omega)
    replace hWw := hWw.mono (fun b q1 q2 => hB7.block b (by omega))
    replace hLq := (hLq.under hB7 (fun b hb => by omega))
    replace hOq := hOq.mono (fun b q1 q2 => hB7.block b (by omega))
    replace hxx := hxx.below hB7 (by omega)
    obtain ⟨lg1, lg2, lg3⟩ := open_bounds hm hlg
    have heq1 : ∀ W lo hi lo' hi', OwnG W lo hi ag ug → OwnG W lo' hi' aw uw → hi ≤ W.heap.size → hi' ≤ W.heap.size → Calls Tryz.prog 10 #[.slice ag ug.length cg, .slice aw uw.length cw] W fun e w' => e = .returned (.bool true) ∧ Below W.heap.size W w' := fun W lo hi lo' hi' h1 h2 h3 h4 => eqOpen hm hlg hlw h1 h2 h3 h4
    have heqH : Hid (∀ W lo hi lo' hi', OwnG W lo hi ag ug → OwnG W lo' hi' aw uw → hi ≤ W.heap.size → hi' ≤ W.heap.size → Calls Tryz.prog 10 #[.slice ag ug.length cg, .slice aw uw.length cw] W fun e w' => e = .returned (.bool true) ∧ Below W.heap.size W w') := heq1
    clear heq1
    go_wp2_with fail
    go_at_call 10
    refine (heqH.out _ _ _ _ _ hWg hWw (by omega) (by omega)).mono ?_
    rintro e w8 ⟨rfl, hB8⟩
    have hz8 := hB8.size
    have hB8' := hB7'.trans (hB8.mono hB7'.size)
    replace hbx := hbx.below hB8 (by omega)
    replace hLp := hLp.under hB8 (fun b hb => by omega)
    replace hWw := hWw.mono (fun b q1 q2 => hB8.block b (by omega))
    replace hLq := (hLq.under hB8 (fun b hb => by omega))
    replace hOq := hOq.mono (fun b q1 q2 => hB8.block b (by omega))
    replace hxx := hxx.below hB8 (by omega)
    replace hWg := hWg.mono (fun b q1 q2 => hB8.block b (by omega))
    obtain ⟨c0, c1, c2, c3⟩ := boxP hbx
    obtain ⟨d0, d1, d2, d3⟩ := boxP hxx
    clear hB1 hB2 hB3 hB4 hB5 hB6 hB7 hB8 hL hB2' hB3' hB4' hB5' hB6' hB7'
    go_wp2_with fail
    have hzd : w8.drew.heap.size = w8.heap.size := rfl
    have hbxd : PX.At w8.drew w.heap.size p := ⟨hbx.c0, hbx.c1, hbx.c2, hbx.c3⟩
    have hxxd : PX.At w8.drew w5.heap.size q1 := ⟨hxx.c0, hxx.c1, hxx.c2, hxx.c3⟩
    have hLqd := hLq.mono (B := w8.drew) (ok' := fun b => b < w8.heap.size) (fun b hb h => ⟨h, rfl⟩)
    have hto := PX.to p hm (fun b => b < w.heap.size) w8.drew (fun b hb => by rw [hzd]; omega) (hLp.mono (fun b hb _ => ⟨hb, rfl⟩))
    go_region_held3 (fun w' => w'.cell? ⟨w5.heap.size, 0, none⟩ = some (.slice q1.vbase q1.vars.length q1.vcap) ∧ w'.cell? ⟨w5.heap.size, 1, none⟩ = some (.slice q1.cbase q1.chans.length q1.ccap) ∧ w'.cell? ⟨w5.heap.size, 2, none⟩ = some (.slice q1.nbase q1.locks.length q1.ncap) ∧ w'.cell? ⟨w5.heap.size, 3, none⟩ = some (.slice q1.tbase q1.tasks.length q1.tcap) ∧ w'.cell? ⟨w.heap.size, 0, none⟩ = some (.slice p.vbase p.vars.length p.vcap) ∧ w'.cell? ⟨w.heap.size, 1, none⟩ = some (.slice p.cbase p.chans.length p.ccap) ∧ w'.cell? ⟨w.heap.size, 2, none⟩ = some (.slice p.nbase p.locks.length p.ncap) ∧ w'.cell? ⟨w.heap.size, 3, none⟩ = some (.slice p.tbase p.tasks.length p.tcap)) (simp [*, go_sem, World.cell?_alloc_some, World.cell?_setCell_far, apart1, apart2, apart3, apart4, apart5, apart6]) (first | (go_at_call 8; refine hto.mono ?_; rintro e w9 ⟨q2, rfl, hS2, hL28, hB9⟩; (have hz9 := hB9.size); (obtain ⟨k0, k1, k2, k3⟩ := boxP (hbxd.below hB9 (by rw [hzd]; omega))); (obtain ⟨l0, l1, l2, l3⟩ := boxP (hxxd.below hB9 (by rw [hzd]; omega))); (have heq := PX.eq q1 q2 hm1 (hS1.join hS2) _ w9 (fun b hb => hb) (hLqd.under hB9 (fun b hb => by rw [hzd]; omega)).bound hL28.bound)) | (go_at_call 11; refine heq.mono ?_; rintro e w10 ⟨rfl, hB10⟩; (obtain ⟨kk0, kk1, kk2, kk3⟩ := boxP (((hbxd.below hB9 (by rw [hzd]; omega))).below hB10 (by omega))); (obtain ⟨ll0, ll1, ll2, ll3⟩ := boxP (((hxxd.below hB9 (by rw [hzd]; omega))).below hB10 (by omega)))))
    have hBr : Below w8.heap.size w8 w10 := (((Below.refl _ w8).drew).trans (hB9.mono (by rw [hzd]; omega))).trans (hB10.mono (by omega))
    have hzr := hBr.size
    have hB10' := hB8'.trans (hBr.mono (by omega))
    clear hto hbxd hxxd hLqd hB9 hB10 heq hL28 hS2 hLq
    replace hbx := hbx.below hBr (by omega)
    replace hLp := hLp.under hBr (fun b hb => by omega)
    replace hWw := hWw.mono (fun b q1 q2 => hBr.block b (by omega))
    replace hOq := hOq.mono (fun b q1 q2 => hBr.block b (by omega))
    replace hxx := hxx.below hBr (by omega)
    replace hWg := hWg.mono (fun b q1 q2 => hBr.block b (by omega))
    obtain ⟨v1, v2, v3, v4⟩ := mark_bound hm1 (by omega : q1.tot ≤ 1048576)
    have hmk := markProg q1 1 _ _ w10 hOq (by omega) hm1 (by omega)
    obtain ⟨mm, hmm⟩ : ∃ mm, 1 + 7 * q1.vars.length + 4 * q1.chans.length + q1.locks.length + cntT q1.tasks = mm := ⟨_, rfl⟩
    rw [hmm] at hmk
    clear v1 v2 v3 v4
    go_wp2_with fail
    go_at_call 12
    refine hmk.mono ?_
    clear hmk kk0 kk1 kk2 kk3 ll0 ll1 ll2 ll3
    rintro e w11 ⟨rfl, hK11⟩
    have hz11 := hK11.size
    have hB11' := hB10'.trans (hK11.below (n := w.heap.size) (by omega) (fun b hb => by omega))
    clear hxx hOq
    replace hbx := hbx.kept hK11 (by omega)
    replace hLp := hLp.kept hK11 (fun b hb => by omega)
    replace hWw := hWw.mono (fun b q1 q2 => hK11.block b (by omega) (by omega))
    replace hWg := hWg.mono (fun b q1 q2 => hK11.block b (by omega) (by omega))
    go_wp2_with fail
    all_goals first | (exfalso; omega) | skip
    go_at_call 10
    refine (heqH.out _ _ _ _ _ hWg hWw (by omega) (by omega)).mono ?_
    rintro e w12 ⟨rfl, hB12⟩
    have hz12 := hB12.size
    have hB12' := hB11'.trans (hB12.mono hB11'.size)
    replace hbx := hbx.below hB12 (by omega)
    replace hLp := hLp.under hB12 (fun b hb => by omega)
    replace hWw := hWw.mono (fun b q1 q2 => hB12.block b (by omega))
    replace hWg := hWg.mono (fun b q1 q2 => hB12.block b (by omega))
    obtain ⟨m2, hm2⟩ : ∃ m2, 1 + sumG ug = m2 := ⟨_, rfl⟩
    have hmk2 := markG ug ag cg 1 _ _ w12 hWg (by omega) (by omega) (by omega)
    rw [hm2] at hmk2
    go_wp2_with fail
    go_at_call 13
    refine hmk2.mono ?_
    clear hmk2
    rintro e w13 ⟨vs, rfl, hMk, hWv, hK13⟩
    have hz13 := hK13.size
    have hB13' := hB12'.trans (hK13.below (n := w.heap.size) (by omega) (fun b hb => by omega))
    clear hWg
    replace hbx := hbx.kept hK13 (by omega)
    replace hLp := hLp.kept hK13 (fun b hb => by omega)
    replace hWw := hWw.mono (fun b q1 q2 => hK13.block b (by omega) (by omega))
    have hheld : ∀ W, OwnG W W6.heap.size w7.heap.size ag vs → Calls Tryz.prog 14 #[.slice ag ug.length cg, .int .i64 1] W fun e w' => e = .returned (.int .i64 (m2 : Int)) ∧ w' = W := fun W hW => by
      have h := heldG ug vs ag cg 1 _ _ W hMk hW (by omega) (by omega)
      rw [hm2] at h
      exact h
    have hheldH : Hid (∀ W, OwnG W W6.heap.size w7.heap.size ag vs → Calls Tryz.prog 14 #[.slice ag ug.length cg, .int .i64 1] W fun e w' => e = .returned (.int .i64 (m2 : Int)) ∧ w' = W) := hheld
    clear hheld
    go_wp2_with fail
    go_at_call 14
    refine (hheldH.out _ hWv).mono ?_
    rintro e w14 ⟨rfl, hw14⟩
    subst w14
    obtain ⟨c0, c1, c2, c3⟩ := boxP hbx
    go_wp2_with fail
    all_goals first | (exfalso; omega) | skip
    go_at_call 8
    refine (PX.to p hm _ w13 (fun b hb => by omega) hLp).mono ?_
    rintro e w15 ⟨q3, rfl, hS3, hL3, hB15⟩
    obtain ⟨r3, z3⟩ := PX.same_ok hm hS3
    have hz15 := hB15.size
    have hB15' := hB13'.trans (hB15.mono hB13'.size)
    clear c0 c1 c2 c3 hbx hLp
    replace hWw := hWw.mono (fun b q1 q2 => hB15.block b (by omega))
    replace hWv := hWv.mono (fun b q1 q2 => hB15.block b (by omega))
    have himpl := implOpen q3 (PX.small (by omega)) (PX.names (by omega)) (PX.sizes (by omega)) _ w15 (fun b hb => hb) hL3.bound (hg.of hB15')
    rw [open_same hm hS3] at himpl
    go_wp2_with fail
    go_at_call 9
    refine himpl.mono ?_
    clear himpl
    rintro e w16 ⟨ah, ch, uh, rfl, hlh, hWh, hB16⟩
    have hz16 := hB16.size
    have hB16' := hB15'.trans (hB16.mono hB15'.size)
    replace hWw := hWw.mono (fun b q1 q2 => hB16.block b (by omega))
    replace hWv := hWv.mono (fun b q1 q2 => hB16.block b (by omega))
    go_wp2_with fail
    go_at_call 10
    refine (eqOpen hm hlh hlw hWh hWw (by omega) (by omega)).mono ?_
    rintro e w17 ⟨rfl, hB17⟩
    have hz17 := hB17.size
    have hB17' := hB16'.trans (hB17.mono hB16'.size)
    replace hWv := hWv.mono (fun b q1 q2 => hB17.block b (by omega))
    go_wp2_with fail
    go_at_call 14
    refine (hheldH.out _ hWv).mono ?_
    rintro e w18 ⟨rfl, hw18⟩
    subst w18
    go_wp2_with fail
    all_goals first | (exfalso; omega) | skip
    go_returns
    exact ⟨rfl, hB17'⟩
  · rw [subI_no (by omega)]
    go_wp2
    go_returns
    exact ⟨rfl, hB2'⟩
theorem own : ownKnob Tryz.prog.godebug = none := by kernel_rfl
theorem laidOut : laidOutB Tryz.prog = true := by kernel_rfl
theorem gE : Tryz.prog.globalNamed "errors.errorType" = some 0 := by kernel_rfl
theorem rtE : (Tryz.prog.cutTypes.find? (·.1 == "internal/reflectlite.rtype")).map (·.2) = some 189 := by kernel_rfl
theorem oneRow : ((List.range 305).filter fun t => Tryz.prog.rowNamed t [101, 114, 114, 111, 114]) = [108] := by kernel_rfl
theorem sizeT : Tryz.prog.types.size = 305 := by kernel_rfl
/-- What the condition gives the walk: the one variable that errors.As reads. -/
theorem of_laid {W : World} (h : laidMetH Tryz.prog Rows.fnExactCalcOpenRow.laid W) : ErrG W := by
  have h' : laidMet Tryz.prog [] W ∧ handlesMet Tryz.prog Rows.fnExactCalcOpenRow.laid W := h
  obtain ⟨name, u, ty, e1, e2, e3, e4, e5⟩ := h'.2 _ (List.mem_singleton.2 rfl)
  have en : name = [101, 114, 114, 111, 114] := (Option.some.inj e1).symm
  subst en
  obtain rfl := Option.some.inj (rtE.symm.trans e2)
  have hm : ty ∈ (List.range 305).filter fun t => Tryz.prog.rowNamed t [101, 114, 114, 111, 114] := List.mem_filter.2 ⟨List.mem_range.2 (by rw [← sizeT]; exact e3), e4⟩
  rw [oneRow] at hm
  obtain rfl := List.mem_singleton.1 hm
  have hh : typeHandle Tryz.prog 108 = .pointer (some ⟨1, 108, none⟩) := by kernel_rfl
  rw [hh] at e5
  have h6 : W.cell? ⟨0, 0, none⟩ = some (.iface 189 (.agg #[.pointer (some ⟨1, 108, none⟩)])) := by simpa using World.var?_cell gE e5 0
  exact h6
theorem door_met (os : Os) (args : Array Value) : laidMetH Tryz.prog Rows.fnExactCalcOpenRow.laid ((World.doorLaid Tryz.prog 16 os).forCall (fun _ _ => 0) ⟨#[], args, []⟩).memory :=
  laidMetH_of_parts (laidMet_nil _ _) (by kernel_rfl)
set_option maxRecDepth 100000 in
theorem lifted (os : Os) (started : os.Started) (H : Type) (enc : TypeId × Value → H) :
    ReturnsInHanded {} Tryz.checked os 3 .any (fun w args => (Rows.fnExactCalcOpenSpec.pre enc Tryz.prog Tryz.f3 [] false w args ∧ laidMetH Tryz.prog Rows.fnExactCalcOpenRow.laid w) ∧ sizedMet enc Tryz.prog Tryz.f3 (OpenSpec.ofChange Rows.fnExactCalcOpenSpec) false w args)
      (Rows.fnExactCalcOpenSpec.post enc Tryz.prog Tryz.f3 false true false false) := by
  refine returnsInHanded_of_change_and (C := Tryz.checked) (X := fun w _ => laidMetH Tryz.prog Rows.fnExactCalcOpenRow.laid w) (fun _ _ _ hh h => h.of_heap hh) own started (by kernel_rfl) Tryz.func3
    (ChangeSpec.witness_shaped (enc := enc) (C := Tryz.checked) (os := os) (X := fun w _ => laidMetH Tryz.prog Rows.fnExactCalcOpenRow.laid w) false (World.doorLaid Tryz.prog 16 os) #[.agg #[.slice none 0 0, .slice none 0 0, .slice none 0 0, .slice none 0 0]] 8 rfl (World.shaped_of_RefB (by kernel_rfl) (by kernel_rfl)) (by kernel_rfl) (by kernel_rfl) (by kernel_rfl) (door_met os _)) ?_
  intro W base args ds gs before hval0 hW _ _ hLaid _
  have hval : ∀ (j : Nat) t v, Tryz.f3.params[j]? = some t → args[j]? = some v → Value.okWide Tryz.prog W .any base t v := hval0
  have hW' := hW
  obtain ⟨p, q, hA0, hV, rfl, hfz, hnd⟩ := hW
  have hA : DataW.TrodAll enc Tryz.prog W 0 (fun _ => true) true Tryz.f3.params.toList args.toList ds p := hA0
  rw [Tryz.params3] at hA hval
  obtain ⟨v0, vs0, d0, ds0, p0, q0, hargs, rfl, rfl, h0, r0⟩ := trodAll_cons hA
  obtain ⟨rfl, rfl, rfl⟩ := trodAll_nil r0
  obtain rfl : args = #[v0] := by cases args; simp_all
  obtain ⟨rfl, rfl⟩ := trodVars_none hV
  have k0 := h0
  have lt0 : ∀ x ∈ p0, x.block < W.heap.size := by obtain ⟨m, hm⟩ := k0; exact DataW.trod_lt m _ _ _ hm
  obtain ⟨a0, e0, wd0, ly0⟩ : ∃ t : PX, v0 = t.val ∧ t.Wide ∧ PX.Lies (fun b => b < W.heap.size) W t := by
    obtain ⟨cs, rfl, _⟩ := okWide_struct Tryz.underlying27 (hval 0 27 v0 rfl rfl)
    obtain ⟨m, hm⟩ := h0
    obtain ⟨t, h1, h2, h3⟩ := readP m _ _ hm
    refine ⟨t, ?_, h2, h3⟩
    obtain ⟨l⟩ := cs
    have h4 : l = _ := h1
    rw [h4]
  subst e0
  have hErr := of_laid hLaid
  clear hA0 hval0
  refine (walk a0 W wd0 ly0 hErr).mono fun e W' ⟨he, bel⟩ => ?_
  subst he
  exact ⟨_, rfl, _, _, _, [], _, [], hW', trodAll_mk1 (shut_bool Tryz.underlying4 _), (trodAll_cons_mk (Below.trod laidOut (by kernel_rfl) (of_decide_eq_true (by kernel_rfl)) k0 bel lt0) trodAll_mk0), rfl, bel.frame _, fun h => by cases h⟩
theorem over : Rows.fnExactCalcOpenRow.holds Tryz.pinned (OpenSpec.ofChange Rows.fnExactCalcOpenSpec) :=
  OpenClaim.holds_of_wide 3 Tryz.f3 rfl rfl rfl rfl rfl rfl rfl ⟨rfl, rfl, rfl, rfl, rfl⟩ rfl rfl rfl rfl rfl (by kernel_rfl) Tryz.func3 (by kernel_rfl)
    (of_decide_eq_true (by kernel_rfl)) (by unfold Func.isWrapper; first | (rw [if_pos (by decide +kernel)]; kernel_rfl) | (rw [if_neg (by decide +kernel)]; exact ⟨rfl, rfl⟩))
    (fun os started H enc _ => lifted os started H enc)
end FnExactCalcOpen
theorem calcOpen_holds : Rows.FnExactCalcOpenCardSaid :=
  Claim7.holds_tied_plain_at .later [] [.handle] true Rows.fnExactCalcOpenCard.stood.harness true
    FnExactCalcOpen.over (fun _ h => by cases h) (by kernel_rfl) (fun _ h => by cases h) fnExactCalcOpen_row_tie rfl ⟨rfl, rfl⟩ (by kernel_rfl) rfl
    (fun f fn hf hfn => by
      obtain rfl : f = 3 := Option.some.inj ((show Tryz.prog.funcNamed "loop.example/hedge/laws.FnExactCalcOpen" = some 3 by kernel_rfl).symm.trans hf) |>.symm
      obtain rfl : fn = Tryz.f3 := (Option.some.inj (Tryz.func3.symm.trans hfn)).symm
      exact ⟨by kernel_rfl, fun j t ht => by
        rw [Tryz.params3] at ht
        have hm : t ∈ [27] := by simpa using Array.mem_of_getElem? ht
        have hall : ([27].all fun u => !Tryz.prog.wantsStandIn u) = true := by kernel_rfl
        exact (show Tryz.prog.wantsStandIn t = false by simpa using List.all_eq_true.1 hall t hm)⟩)
    (by kernel_rfl)
#print axioms calcOpen_holds
end Go.Proofs.YtaajdoipjalgmaaGreatDoor
