/-
  What the law reads again in a list of statements that it has written into.
-/
import Derived.Test.YtomdbaokidphjaaMarkC
namespace Go.Proofs.Ytomdbaokidphjaa
open Go.RowKit Go.Shelf
set_option linter.unusedSimpArgs false
set_option linter.unusedVariables false
attribute [local go_sem] Oper.semAt_some

set_option maxRecDepth 10000 in
set_option maxHeartbeats 8000000 in
theorem heldS (sz : Nat) : ∀ ks : List SX, SX.cntL ks ≤ sz → ∀ (a : Option Addr) (c k : Nat) (ok : Nat → Prop) (w : World), (∀ b, ok b → b < w.heap.size) → SRow ok w a (SX.markL ks k) → (∀ (i : Nat) (y : SX), (SX.markL ks k)[i]? = some y → LiesS ok w y) → k + SX.cntL ks ≤ 1152921504606846976 →
    Calls Try.prog 10 #[.slice a ks.length c, .int .i64 k] w fun e w' => e = .returned (.int .i64 ((k + SX.cntL ks : Nat) : Int)) ∧ Below w.heap.size w w' := by
  induction sz using Nat.strongRecOn with
  | _ sz ih =>
  intro ks hsz a c k ok w hok hR hL hk
  have ih' : Hid (∀ m < sz, ∀ ks : List SX, SX.cntL ks ≤ m → ∀ (a : Option Addr) (c k : Nat) (ok : Nat → Prop) (w : World), (∀ b, ok b → b < w.heap.size) → SRow ok w a (SX.markL ks k) → (∀ (i : Nat) (y : SX), (SX.markL ks k)[i]? = some y → LiesS ok w y) → k + SX.cntL ks ≤ 1152921504606846976 →
    Calls Try.prog 10 #[.slice a ks.length c, .int .i64 k] w fun e w' => e = .returned (.int .i64 ((k + SX.cntL ks : Nat) : Int)) ∧ Below w.heap.size w w') := ih
  clear ih
  obtain ⟨len, hl⟩ : ∃ len, ks.length = len := ⟨_, rfl⟩
  have hlc := SX.len_cnt ks
  rw [hl] at hlc ⊢
  have hRH : Hid (SRow ok w a (SX.markL ks k)) := hR
  have hLH : Hid (∀ (i : Nat) (y : SX), (SX.markL ks k)[i]? = some y → LiesS ok w y) := hL
  clear hR hL
  go_enter Try.func10, Try.ntmps10
  go_wp2_with fail
  go_loopw [1, 5] (fun v1 v5 wr => ∃ (i : Nat), v5 = .int .i64 i ∧ v1 = .int .i64 ((k + SX.cntL (ks.take i) : Nat) : Int) ∧ i ≤ len ∧ Below w.heap.size w wr) (fun _ v5 _ => len - (intOf v5).toNat)
  case atStart => exact ⟨0, rfl, by simp [SX.cntL], by omega, Below.refl _ _⟩
  case round =>
    obtain ⟨i, rfl, rfl, hi', hB⟩ := hrel
    rename World => wo
    by_cases hlt : i < len
    · obtain ⟨x, hx⟩ : ∃ x, ks[i]? = some x := ⟨_, List.getElem?_eq_getElem (by omega)⟩
      have hy := SX.markL_get ks k i x hx
      have hsn := SX.cntL_snoc hx
      have hsl := SX.cntL_le ks (i + 1)
      have hce := x.cnt_eq
      have hcg := SX.cnt_get hx
      obtain ⟨kk, hkk⟩ : ∃ n, k + SX.cntL (ks.take i) = n := ⟨_, rfl⟩
      rw [hkk] at hy ⊢
      obtain ⟨b, o, ha, hob, hc⟩ := hRH.out i _ hy
      have hd := (hc.below hB (hok b hob)).vals
      have hLx := (hLH.out i _ hy).under hB hok
      have hmk := x.mark_eq kk
      obtain ⟨k1, hk1⟩ : ∃ n, kk + 5 + 3 * XT.sizeAll x.e.kids = n := ⟨_, rfl⟩
      obtain ⟨k2, hk2⟩ : ∃ n, k1 + 3 + 3 * XT.sizeAll x.f.kids = n := ⟨_, rfl⟩
      obtain ⟨k3, hk3⟩ : ∃ n, k2 + SX.cntL x.la = n := ⟨_, rfl⟩
      have p1' : kk + 6 + 3 * XT.sizeAll x.e.kids = k1 + 1 := by omega
      have p2 : kk + 7 + 3 * XT.sizeAll x.e.kids = k1 + 2 := by omega
      have p3 : kk + 8 + 3 * XT.sizeAll x.e.kids = k1 + 3 := by omega
      rw [p3, hk2, p2, p1', hk1, hk3] at hmk
      clear p1' p2 p3
      have hdH : Hid (∀ (j : Nat) (v : Value), [Value.int .i64 ((kk : Nat) : Int), .string (markB (kk + 1)), .int .i64 ((kk : Int) + 1 + 1), .int .i64 ((kk : Int) + 1 + 1 + 1), .string (markB (kk + 4)), .slice x.e.base x.e.kids.length x.e.cap, .int .i64 ((k1 : Nat) : Int), .int .i64 ((k1 : Int) + 1), .string (markB (k1 + 2)), .slice x.f.base x.f.kids.length x.f.cap, .slice x.abase x.la.length x.acap, .slice x.bbase x.lb.length x.bcap][j]? = some v → ∀ W, Below wo.heap.size wo W → W.cell? ⟨b, o + i * 12 + j, none⟩ = some v) := by
        rw [hmk] at hd
        intro j v hj W hW
        have hb : b < wo.heap.size := Nat.lt_of_lt_of_le (hok b hob) hB.size
        refine below_cell hW (hd j v ?_) hb
        have hv : (SX.mk ((kk : Nat) : Int) (markB (kk + 1)) (XT.mk ((kk + 2 : Nat) : Int) ((kk + 3 : Nat) : Int) (markB (kk + 4)) x.e.base x.e.cap (XT.markL x.e.kids (kk + 5))) (XT.mk ((k1 : Nat) : Int) ((k1 + 1 : Nat) : Int) (markB (k1 + 2)) x.f.base x.f.cap (XT.markL x.f.kids (k1 + 3))) x.abase x.acap (SX.markL x.la k2) x.bbase x.bcap (SX.markL x.lb k3)).vals = [Value.int .i64 ((kk : Nat) : Int), .string (markB (kk + 1)), .int .i64 ((kk : Int) + 1 + 1), .int .i64 ((kk : Int) + 1 + 1 + 1), .string (markB (kk + 4)), .slice x.e.base x.e.kids.length x.e.cap, .int .i64 ((k1 : Nat) : Int), .int .i64 ((k1 : Int) + 1), .string (markB (k1 + 2)), .slice x.f.base x.f.kids.length x.f.cap, .slice x.abase x.la.length x.acap, .slice x.bbase x.lb.length x.bcap] := by
          simp only [SX.vals, SX.kind, SX.name, SX.e, SX.f, SX.la, SX.lb, SX.abase, SX.acap, SX.bbase, SX.bcap, XT.kind, XT.num, XT.name, XT.kids, XT.base, XT.cap, XT.markL_length, SX.markL_length]
          rfl
        rw [hv]
        exact hj
      have hokr : ∀ b, ok b → b < wo.heap.size := fun b hb => Nat.lt_of_lt_of_le (hok b hb) hB.size
      have hE : Hid (∀ z, Below wo.heap.size wo z → Calls Try.prog 20 #[.slice x.e.base x.e.kids.length x.e.cap, .int .i64 ((kk : Int) + 1 + 1 + 1 + 1 + 1)] z fun e w' => e = .returned (.int .i64 ((k1 : Nat) : Int)) ∧ Below z.heap.size z w') := by
        intro z hz
        have hq := hLx.parts.1
        rw [hmk] at hq
        have h := heldE _ x.e.kids (Nat.le_refl _) (by omega) x.e.base x.e.cap (kk + 5) ok z (fun b hb => Nat.lt_of_lt_of_le (hokr b hb) hz.size) (fun j y hj => by
          obtain ⟨b', o', q1, q2, q3⟩ := hq.cells j y hj
          exact ⟨b', o', q1, q2, q3.below hz (hokr b' q2)⟩) (fun j y hj => (hq.kid j y hj).under hz hokr) (by omega)
        rw [hk1] at h
        exact h
      have hF : Hid (∀ z, Below wo.heap.size wo z → Calls Try.prog 20 #[.slice x.f.base x.f.kids.length x.f.cap, .int .i64 ((k1 : Int) + 1 + 1 + 1)] z fun e w' => e = .returned (.int .i64 ((k2 : Nat) : Int)) ∧ Below z.heap.size z w') := by
        intro z hz
        have hq := hLx.parts.2.1
        rw [hmk] at hq
        have h := heldE _ x.f.kids (Nat.le_refl _) (by omega) x.f.base x.f.cap (k1 + 3) ok z (fun b hb => Nat.lt_of_lt_of_le (hokr b hb) hz.size) (fun j y hj => by
          obtain ⟨b', o', q1, q2, q3⟩ := hq.cells j y hj
          exact ⟨b', o', q1, q2, q3.below hz (hokr b' q2)⟩) (fun j y hj => (hq.kid j y hj).under hz hokr) (by omega)
        rw [hk2] at h
        exact h
      have hA : Hid (∀ z, Below wo.heap.size wo z → Calls Try.prog 10 #[.slice x.abase x.la.length x.acap, .int .i64 ((k2 : Nat) : Int)] z fun e w' => e = .returned (.int .i64 ((k3 : Nat) : Int)) ∧ Below z.heap.size z w') := by
        intro z hz
        have hq := hLx.parts.2.2
        rw [hmk] at hq
        have h := ih'.out (SX.cntL x.la) (by omega) x.la (Nat.le_refl _) x.abase x.acap k2 ok z (fun b hb => Nat.lt_of_lt_of_le (hokr b hb) hz.size) (hq.1.under hz hokr) (fun j y hj => (hq.2.2.1 j y hj).under hz hokr) (by omega)
        rw [hk3] at h
        exact h
      have hBb : Hid (∀ z, Below wo.heap.size wo z → Calls Try.prog 10 #[.slice x.bbase x.lb.length x.bcap, .int .i64 ((k3 : Nat) : Int)] z fun e w' => e = .returned (.int .i64 ((k3 + SX.cntL x.lb : Nat) : Int)) ∧ Below z.heap.size z w') := by
        intro z hz
        have hq := hLx.parts.2.2
        rw [hmk] at hq
        exact ih'.out (SX.cntL x.lb) (by omega) x.lb (Nat.le_refl _) x.bbase x.bcap k3 ok z (fun b hb => Nat.lt_of_lt_of_le (hokr b hb) hz.size) (hq.2.1.under hz hokr) (fun j y hj => (hq.2.2.2 j y hj).under hz hokr) (by omega)
      clear hmk hd hLx hc
      subst ha
      have hX := Below.refl wo.heap.size wo
      have m0 := hdH.out 0 _ rfl wo hX
      have m1 := hdH.out 1 _ rfl wo hX
      rw [Nat.add_zero] at m0
      haveI : Nonempty (Later wo) := ⟨⟨wo, Below.refl _ _⟩⟩
      have e1 := Later.cell m1
      have hmt : Hid (∀ z : World, Calls Try.prog 18 #[.int .i64 ((kk : Int) + 1)] z fun e w' => e = .returned (.string (markB (kk + 1))) ∧ Below z.heap.size z w') := fun z => markText (kk + 1) z (by omega)
      go_wp2_with fail
      go_cut [28] (fun v wx => v = .bool false ∧ Below wo.heap.size wo wx)
      case first =>
        refine region_class (fun w' => ∃ z : Later wo, w' = z.at) (by kernel_rfl) (by kernel_rfl) ⟨⟨_, (Below.refl _ _).drew⟩, rfl⟩ ?_
        repeat (go_big_quiet_step ((go_at_call 18; refine (hmt.out _).mono ?_; rintro e w2 ⟨rfl, hb⟩; exact ⟨rfl, ⟨_, bstep (Later.below _) hb⟩, rfl⟩)))
        refine wpQuiet_nil ?_
        rintro w' ⟨z, rfl⟩
        go_wp2_with fail
        go_meet
        case rel => exact ⟨rfl, bstep hX (Later.below z)⟩
      case rest =>
        obtain ⟨hv, hb⟩ := hcut
        subst hv
        rename World => V0
        replace hX := hb
        clear hb hmt e1
        clear m0 m1
        have m2 := hdH.out 2 _ rfl V0 hX
        have m3 := hdH.out 3 _ rfl V0 hX
        have m4 := hdH.out 4 _ rfl V0 hX
        haveI : Nonempty (Later V0) := ⟨⟨V0, Below.refl _ _⟩⟩
        have e4 := Later.cell m4
        have hmt : Hid (∀ z : World, Calls Try.prog 18 #[.int .i64 ((kk : Int) + 1 + 1 + 1 + 1)] z fun e w' => e = .returned (.string (markB (kk + 4))) ∧ Below z.heap.size z w') := fun z => markText (kk + 4) z (by omega)
        go_wp2_with fail
        go_cut [59] (fun v wx => v = .bool false ∧ Below wo.heap.size wo wx)
        case first =>
          refine region_class (fun w' => ∃ z : Later V0, w' = z.at) (by kernel_rfl) (by kernel_rfl) ⟨⟨_, (Below.refl _ _).drew⟩, rfl⟩ ?_
          repeat (go_big_quiet_step ((go_at_call 18; refine (hmt.out _).mono ?_; rintro e w2 ⟨rfl, hb⟩; exact ⟨rfl, ⟨_, bstep (Later.below _) hb⟩, rfl⟩)))
          refine wpQuiet_nil ?_
          rintro w' ⟨z, rfl⟩
          go_wp2_with fail
          go_meet
          case rel => exact ⟨rfl, bstep hX (Later.below z)⟩
        case rest =>
          obtain ⟨hv, hb⟩ := hcut
          subst hv
          rename World => V1
          replace hX := hb
          clear hb hmt e4
          clear m2 m3 m4
          have m5 := hdH.out 5 _ rfl V1 hX
          go_wp2_with fail
          go_at_call 20
          refine (hE.out _ hX).mono ?_
          rintro e V2 ⟨rfl, hb⟩
          replace hX := bstep hX hb
          clear hb
          clear m5
          have m6 := hdH.out 6 _ rfl V2 hX
          have m7 := hdH.out 7 _ rfl V2 hX
          have m8 := hdH.out 8 _ rfl V2 hX
          haveI : Nonempty (Later V2) := ⟨⟨V2, Below.refl _ _⟩⟩
          have e8 := Later.cell m8
          have hmt : Hid (∀ z : World, Calls Try.prog 18 #[.int .i64 ((k1 : Int) + 1 + 1)] z fun e w' => e = .returned (.string (markB (k1 + 2))) ∧ Below z.heap.size z w') := fun z => markText (k1 + 2) z (by omega)
          go_wp2_with fail
          go_cut [100] (fun v wx => v = .bool false ∧ Below wo.heap.size wo wx)
          case first =>
            refine region_class (fun w' => ∃ z : Later V2, w' = z.at) (by kernel_rfl) (by kernel_rfl) ⟨⟨_, (Below.refl _ _).drew⟩, rfl⟩ ?_
            repeat (go_big_quiet_step ((go_at_call 18; refine (hmt.out _).mono ?_; rintro e w2 ⟨rfl, hb⟩; exact ⟨rfl, ⟨_, bstep (Later.below _) hb⟩, rfl⟩)))
            refine wpQuiet_nil ?_
            rintro w' ⟨z, rfl⟩
            go_wp2_with fail
            go_meet
            case rel => exact ⟨rfl, bstep hX (Later.below z)⟩
          case rest =>
            obtain ⟨hv, hb⟩ := hcut
            subst hv
            rename World => V3
            replace hX := hb
            clear hb hmt e8
            clear m6 m7 m8
            have m9 := hdH.out 9 _ rfl V3 hX
            go_wp2_with fail
            go_at_call 20
            refine (hF.out _ hX).mono ?_
            rintro e V4 ⟨rfl, hb⟩
            replace hX := bstep hX hb
            clear hb
            clear m9
            have m10 := hdH.out 10 _ rfl V4 hX
            go_wp2_with fail
            go_at_call 10
            refine (hA.out _ hX).mono ?_
            rintro e V5 ⟨rfl, hb⟩
            replace hX := bstep hX hb
            clear hb
            clear m10
            have m11 := hdH.out 11 _ rfl V5 hX
            go_wp2_with fail
            go_at_call 10
            refine (hBb.out _ hX).mono ?_
            rintro e V6 ⟨rfl, hb⟩
            replace hX := bstep hX hb
            clear hb
            clear m11
            go_wp2
            all_goals first | (exfalso; omega) | skip
            exact ⟨⟨i + 1, by go_num, congrArg (Value.int IntKind.i64) (by omega), by omega, hB.trans (hX.mono hB.size)⟩, by simp [intOf]; omega⟩
    · have he : i = len := by omega
      have htk : ks.take i = ks := List.take_of_length_le (by omega)
      rw [htk]
      go_wp2
      go_returns
      exact ⟨rfl, hB⟩
end Go.Proofs.Ytomdbaokidphjaa
