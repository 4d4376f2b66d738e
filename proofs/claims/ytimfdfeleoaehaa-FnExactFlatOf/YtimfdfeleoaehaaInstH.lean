/-
  What the law reads again in a list of instructions that it has written into.
-/
import Derived.Test.YtimfdfeleoaehaaInstG
namespace Go.Proofs.Ytimfdfeleoaehaa
open Go.RowKit Go.Shelf
set_option linter.unusedSimpArgs false
set_option linter.unusedVariables false
attribute [local go_sem] Oper.semAt_some

set_option maxRecDepth 10000 in
set_option maxHeartbeats 8000000 in
theorem heldI (ks : List IX) (a : Option Addr) (c k : Nat) (ok : Nat → Prop) (w : World) (hok : ∀ b, ok b → b < w.heap.size) (hR : IX.Row ok w a (IX.markL ks k)) (hL : ∀ (i : Nat) (y : IX), (IX.markL ks k)[i]? = some y → LiesS ok w y.s) (hk : k + cntI ks ≤ 1152921504606846976) :
    Calls Try.prog 14 #[.slice a ks.length c, .int .i64 k] w fun e w' => e = .returned (.int .i64 ((k + cntI ks : Nat) : Int)) ∧ Below w.heap.size w w' := by
  obtain ⟨len, hl⟩ : ∃ len, ks.length = len := ⟨_, rfl⟩
  have hlc : ks.length ≤ 1152921504606846976 := by
    have h1 : ∀ us : List IX, us.length ≤ cntI us := fun us => by
      induction us with
      | nil => simp [cntI, sumOf]
      | cons x xs ih => unfold cntI at ih ⊢; simp only [sumOf, List.length_cons, IX.cnt]; omega
    have := h1 ks
    omega
  rw [hl] at hlc ⊢
  have hRH : Hid (IX.Row ok w a (IX.markL ks k)) := hR
  have hLH : Hid (∀ (i : Nat) (y : IX), (IX.markL ks k)[i]? = some y → LiesS ok w y.s) := hL
  clear hR hL
  go_enter Try.func14, Try.ntmps14
  go_wp2_with fail
  go_loopw [1, 5] (fun v1 v5 wr => ∃ (i : Nat), v5 = .int .i64 i ∧ v1 = .int .i64 ((k + cntI (ks.take i) : Nat) : Int) ∧ i ≤ len ∧ Below w.heap.size w wr) (fun _ v5 _ => len - (intOf v5).toNat)
  case atStart => exact ⟨0, rfl, by simp [cntI, sumOf], by omega, Below.refl _ _⟩
  case round =>
    obtain ⟨i, rfl, rfl, hi', hB⟩ := hrel
    rename World => wo
    by_cases hlt : i < len
    · obtain ⟨x, hx⟩ : ∃ x, ks[i]? = some x := ⟨_, List.getElem?_eq_getElem (by omega)⟩
      have hy := IX.markL_get k hx
      have hsn := cntI_take hx
      have hsl := cntI_le ks (i + 1)
      have hce := x.s.cnt_eq
      have hcg : IX.cnt x = x.s.cnt + 2 := rfl
      obtain ⟨kk, hkk⟩ : ∃ n, k + cntI (ks.take i) = n := ⟨_, rfl⟩
      rw [hkk] at hy ⊢
      obtain ⟨b, o, ha, hob, hc⟩ := hRH.out i _ hy
      have hd := (hc.below hB (hok b hob)).vals
      have hLx := (hLH.out i _ hy).under hB hok
      have hmk := x.s.mark_eq (kk + 1)
      obtain ⟨k1, hk1⟩ : ∃ n, kk + 6 + 3 * XT.sizeAll x.s.e.kids = n := ⟨_, rfl⟩
      obtain ⟨k2, hk2⟩ : ∃ n, k1 + 3 + 3 * XT.sizeAll x.s.f.kids = n := ⟨_, rfl⟩
      obtain ⟨k3, hk3⟩ : ∃ n, k2 + SX.cntL x.s.la = n := ⟨_, rfl⟩
      obtain ⟨k4, hk4⟩ : ∃ n, k3 + SX.cntL x.s.lb = n := ⟨_, rfl⟩
      have p1 : kk + 1 + 5 + 3 * XT.sizeAll x.s.e.kids = k1 := by omega
      have p1' : kk + 1 + 6 + 3 * XT.sizeAll x.s.e.kids = k1 + 1 := by omega
      have p2 : kk + 1 + 7 + 3 * XT.sizeAll x.s.e.kids = k1 + 2 := by omega
      have p3 : kk + 1 + 8 + 3 * XT.sizeAll x.s.e.kids = k1 + 3 := by omega
      have p5 : kk + 1 + x.s.cnt = k4 := by omega
      rw [p3, hk2, p2, p1', p1, hk3] at hmk
      clear p1' p2 p3 p1
      have hms : (x.mark kk).s = (SX.mk ((kk + 1 : Nat) : Int) (markB (kk + 2)) (XT.mk ((kk + 3 : Nat) : Int) ((kk + 4 : Nat) : Int) (markB (kk + 5)) x.s.e.base x.s.e.cap (XT.markL x.s.e.kids (kk + 6))) (XT.mk ((k1 : Nat) : Int) ((k1 + 1 : Nat) : Int) (markB (k1 + 2)) x.s.f.base x.s.f.cap (XT.markL x.s.f.kids (k1 + 3))) x.s.abase x.s.acap (SX.markL x.s.la k2) x.s.bbase x.s.bcap (SX.markL x.s.lb k3)) := hmk
      have hmd : (x.mark kk).dst = ((k4 : Nat) : Int) := by
        show ((kk + 1 + x.s.cnt : Nat) : Int) = _
        rw [p5]
      rw [hms] at hLx
      have hdH : Hid (∀ (j : Nat) (v : Value), [Value.int .i64 ((kk : Nat) : Int), .int .i64 ((kk : Int) + 1), .string (markB (kk + 2)), .int .i64 ((kk : Int) + 1 + 1 + 1), .int .i64 ((kk : Int) + 1 + 1 + 1 + 1), .string (markB (kk + 5)), .slice x.s.e.base x.s.e.kids.length x.s.e.cap, .int .i64 ((k1 : Nat) : Int), .int .i64 ((k1 : Int) + 1), .string (markB (k1 + 2)), .slice x.s.f.base x.s.f.kids.length x.s.f.cap, .slice x.s.abase x.s.la.length x.s.acap, .slice x.s.bbase x.s.lb.length x.s.bcap, .int .i64 ((k4 : Nat) : Int)][j]? = some v → ∀ W, Below wo.heap.size wo W → W.cell? ⟨b, o + i * 14 + j, none⟩ = some v) := by
        intro j v hj W hW
        have hb : b < wo.heap.size := Nat.lt_of_lt_of_le (hok b hob) hB.size
        refine below_cell hW (hd j v ?_) hb
        have hv : (x.mark kk).vals = [Value.int .i64 ((kk : Nat) : Int), .int .i64 ((kk : Int) + 1), .string (markB (kk + 2)), .int .i64 ((kk : Int) + 1 + 1 + 1), .int .i64 ((kk : Int) + 1 + 1 + 1 + 1), .string (markB (kk + 5)), .slice x.s.e.base x.s.e.kids.length x.s.e.cap, .int .i64 ((k1 : Nat) : Int), .int .i64 ((k1 : Int) + 1), .string (markB (k1 + 2)), .slice x.s.f.base x.s.f.kids.length x.s.f.cap, .slice x.s.abase x.s.la.length x.s.acap, .slice x.s.bbase x.s.lb.length x.s.bcap, .int .i64 ((k4 : Nat) : Int)] := by
          simp only [IX.vals, hms, hmd]
          simp only [SX.kind, SX.name, SX.e, SX.f, SX.la, SX.lb, SX.abase, SX.acap, SX.bbase, SX.bcap, XT.kind, XT.num, XT.name, XT.kids, XT.base, XT.cap, XT.markL_length, SX.markL_length]
          rfl
        rw [hv]
        exact hj
      have hokr : ∀ b, ok b → b < wo.heap.size := fun b hb => Nat.lt_of_lt_of_le (hok b hb) hB.size
      have hE : Hid (∀ z, Below wo.heap.size wo z → Calls Try.prog 36 #[.slice x.s.e.base x.s.e.kids.length x.s.e.cap, .int .i64 ((kk : Int) + 1 + 1 + 1 + 1 + 1 + 1)] z fun e w' => e = .returned (.int .i64 ((k1 : Nat) : Int)) ∧ Below z.heap.size z w') := by
        intro z hz
        have hq := hLx.parts.1
        have h := heldE _ x.s.e.kids (Nat.le_refl _) (by omega) x.s.e.base x.s.e.cap (kk + 6) ok z (fun b hb => Nat.lt_of_lt_of_le (hokr b hb) hz.size) (fun j y hj => by
          obtain ⟨b', o', q1, q2, q3⟩ := hq.cells j y hj
          exact ⟨b', o', q1, q2, q3.below hz (hokr b' q2)⟩) (fun j y hj => (hq.kid j y hj).under hz hokr) (by omega)
        rw [hk1] at h
        exact h
      have hF : Hid (∀ z, Below wo.heap.size wo z → Calls Try.prog 36 #[.slice x.s.f.base x.s.f.kids.length x.s.f.cap, .int .i64 ((k1 : Int) + 1 + 1 + 1)] z fun e w' => e = .returned (.int .i64 ((k2 : Nat) : Int)) ∧ Below z.heap.size z w') := by
        intro z hz
        have hq := hLx.parts.2.1
        have h := heldE _ x.s.f.kids (Nat.le_refl _) (by omega) x.s.f.base x.s.f.cap (k1 + 3) ok z (fun b hb => Nat.lt_of_lt_of_le (hokr b hb) hz.size) (fun j y hj => by
          obtain ⟨b', o', q1, q2, q3⟩ := hq.cells j y hj
          exact ⟨b', o', q1, q2, q3.below hz (hokr b' q2)⟩) (fun j y hj => (hq.kid j y hj).under hz hokr) (by omega)
        rw [hk2] at h
        exact h
      have hA : Hid (∀ z, Below wo.heap.size wo z → Calls Try.prog 37 #[.slice x.s.abase x.s.la.length x.s.acap, .int .i64 ((k2 : Nat) : Int)] z fun e w' => e = .returned (.int .i64 ((k3 : Nat) : Int)) ∧ Below z.heap.size z w') := by
        intro z hz
        have hq := hLx.parts.2.2
        have h := heldS _ x.s.la (Nat.le_refl _) x.s.abase x.s.acap k2 ok z (fun b hb => Nat.lt_of_lt_of_le (hokr b hb) hz.size) (hq.1.under hz hokr) (fun j y hj => (hq.2.2.1 j y hj).under hz hokr) (by omega)
        rw [hk3] at h
        exact h
      have hBb : Hid (∀ z, Below wo.heap.size wo z → Calls Try.prog 37 #[.slice x.s.bbase x.s.lb.length x.s.bcap, .int .i64 ((k3 : Nat) : Int)] z fun e w' => e = .returned (.int .i64 ((k4 : Nat) : Int)) ∧ Below z.heap.size z w') := by
        intro z hz
        have hq := hLx.parts.2.2
        have h := heldS _ x.s.lb (Nat.le_refl _) x.s.bbase x.s.bcap k3 ok z (fun b hb => Nat.lt_of_lt_of_le (hokr b hb) hz.size) (hq.2.1.under hz hokr) (fun j y hj => (hq.2.2.2 j y hj).under hz hokr) (by omega)
        rw [hk4] at h
        exact h
      clear hmk hms hmd hd hLx hc
      subst ha
      have hX := Below.refl wo.heap.size wo
      have m0 := hdH.out 0 _ rfl wo hX
      have m1 := hdH.out 1 _ rfl wo hX
      have m2 := hdH.out 2 _ rfl wo hX
      rw [Nat.add_zero] at m0
      haveI : Nonempty (Later wo) := ⟨⟨wo, Below.refl _ _⟩⟩
      have e2 := Later.cell m2
      have hmt : Hid (∀ z : World, Calls Try.prog 34 #[.int .i64 ((kk : Int) + 1 + 1)] z fun e w' => e = .returned (.string (markB (kk + 2))) ∧ Below z.heap.size z w') := fun z => markText (kk + 2) z (by omega)
      go_wp2_with fail
      go_cut [39] (fun v wx => v = .bool false ∧ Below wo.heap.size wo wx)
      case first =>
        refine region_class (fun w' => ∃ z : Later wo, w' = z.at) (by kernel_rfl) (by kernel_rfl) ⟨⟨_, (Below.refl _ _).drew⟩, rfl⟩ ?_
        repeat (go_big_quiet_step ((go_at_call 34; refine (hmt.out _).mono ?_; rintro e w2 ⟨rfl, hb⟩; exact ⟨rfl, ⟨_, bstep (Later.below _) hb⟩, rfl⟩)))
        refine wpQuiet_nil ?_
        rintro w' ⟨z, rfl⟩
        go_wp2_with fail
        go_meet
        case rel => exact ⟨rfl, bstep hX (Later.below z)⟩
      case rest =>
        obtain ⟨hv, hb⟩ := hcut
        subst hv
        rename World => V0
        replace hX := hb
        clear hb hmt e2
        clear m0 m1 m2
        have m3 := hdH.out 3 _ rfl V0 hX
        have m4 := hdH.out 4 _ rfl V0 hX
        have m5 := hdH.out 5 _ rfl V0 hX
        haveI : Nonempty (Later V0) := ⟨⟨V0, Below.refl _ _⟩⟩
        have e5 := Later.cell m5
        have hmt : Hid (∀ z : World, Calls Try.prog 34 #[.int .i64 ((kk : Int) + 1 + 1 + 1 + 1 + 1)] z fun e w' => e = .returned (.string (markB (kk + 5))) ∧ Below z.heap.size z w') := fun z => markText (kk + 5) z (by omega)
        go_wp2_with fail
        go_cut [73] (fun v wx => v = .bool false ∧ Below wo.heap.size wo wx)
        case first =>
          refine region_class (fun w' => ∃ z : Later V0, w' = z.at) (by kernel_rfl) (by kernel_rfl) ⟨⟨_, (Below.refl _ _).drew⟩, rfl⟩ ?_
          repeat (go_big_quiet_step ((go_at_call 34; refine (hmt.out _).mono ?_; rintro e w2 ⟨rfl, hb⟩; exact ⟨rfl, ⟨_, bstep (Later.below _) hb⟩, rfl⟩)))
          refine wpQuiet_nil ?_
          rintro w' ⟨z, rfl⟩
          go_wp2_with fail
          go_meet
          case rel => exact ⟨rfl, bstep hX (Later.below z)⟩
        case rest =>
          obtain ⟨hv, hb⟩ := hcut
          subst hv
          rename World => V1
          replace hX := hb
          clear hb hmt e5
          clear m3 m4 m5
          have m6 := hdH.out 6 _ rfl V1 hX
          go_wp2_with fail
          go_at_call 36
          refine (hE.out _ hX).mono ?_
          rintro e V2 ⟨rfl, hb⟩
          replace hX := bstep hX hb
          clear hb
          clear m6
          have m7 := hdH.out 7 _ rfl V2 hX
          have m8 := hdH.out 8 _ rfl V2 hX
          have m9 := hdH.out 9 _ rfl V2 hX
          haveI : Nonempty (Later V2) := ⟨⟨V2, Below.refl _ _⟩⟩
          have e9 := Later.cell m9
          have hmt : Hid (∀ z : World, Calls Try.prog 34 #[.int .i64 ((k1 : Int) + 1 + 1)] z fun e w' => e = .returned (.string (markB (k1 + 2))) ∧ Below z.heap.size z w') := fun z => markText (k1 + 2) z (by omega)
          go_wp2_with fail
          go_cut [118] (fun v wx => v = .bool false ∧ Below wo.heap.size wo wx)
          case first =>
            refine region_class (fun w' => ∃ z : Later V2, w' = z.at) (by kernel_rfl) (by kernel_rfl) ⟨⟨_, (Below.refl _ _).drew⟩, rfl⟩ ?_
            repeat (go_big_quiet_step ((go_at_call 34; refine (hmt.out _).mono ?_; rintro e w2 ⟨rfl, hb⟩; exact ⟨rfl, ⟨_, bstep (Later.below _) hb⟩, rfl⟩)))
            refine wpQuiet_nil ?_
            rintro w' ⟨z, rfl⟩
            go_wp2_with fail
            go_meet
            case rel => exact ⟨rfl, bstep hX (Later.below z)⟩
          case rest =>
            obtain ⟨hv, hb⟩ := hcut
            subst hv
            rename World => V3
            replace hX := hb
            clear hb hmt e9
            clear m7 m8 m9
            have m10 := hdH.out 10 _ rfl V3 hX
            go_wp2_with fail
            go_at_call 36
            refine (hF.out _ hX).mono ?_
            rintro e V4 ⟨rfl, hb⟩
            replace hX := bstep hX hb
            clear hb
            clear m10
            have m11 := hdH.out 11 _ rfl V4 hX
            go_wp2_with fail
            go_at_call 37
            refine (hA.out _ hX).mono ?_
            rintro e V5 ⟨rfl, hb⟩
            replace hX := bstep hX hb
            clear hb
            clear m11
            have m12 := hdH.out 12 _ rfl V5 hX
            go_wp2_with fail
            go_at_call 37
            refine (hBb.out _ hX).mono ?_
            rintro e V6 ⟨rfl, hb⟩
            replace hX := bstep hX hb
            clear hb
            clear m12
            have m13 := hdH.out 13 _ rfl V6 hX
            go_wp2
            all_goals first | (exfalso; omega) | skip
            exact ⟨⟨i + 1, by go_num, congrArg (Value.int IntKind.i64) (by omega), by omega, hB.trans (hX.mono hB.size)⟩, by simp [intOf]; omega⟩
    · have he : i = len := by omega
      have htk : ks.take i = ks := List.take_of_length_le (by omega)
      rw [htk]
      go_wp2
      go_returns
      exact ⟨rfl, hB⟩
end Go.Proofs.Ytimfdfeleoaehaa
