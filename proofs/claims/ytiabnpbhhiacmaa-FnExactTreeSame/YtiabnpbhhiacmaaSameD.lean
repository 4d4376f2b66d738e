/-
  The specification's comparison of two lists of statements.
-/
import Derived.Test.YtiabnpbhhiacmaaSameC
namespace Go.Proofs.Ytiabnpbhhiacmaa
open Go.RowKit Go.Shelf
set_option linter.unusedSimpArgs false
set_option linter.unusedVariables false
attribute [local go_sem] Oper.semAt_some

def pairE (x y : SX) (t u : XT) : Prop := (t = x.e ∧ u = y.e) ∨ (t = x.f ∧ u = y.f)
def pairL (x y : SX) (a : Option Addr) (ks : List SX) (c : Nat) (a' : Option Addr) (us : List SX) (c' : Nat) : Prop := (a = x.abase ∧ ks = x.la ∧ c = x.acap ∧ a' = y.abase ∧ us = y.la ∧ c' = y.acap) ∨ (a = x.bbase ∧ ks = x.lb ∧ c = x.bcap ∧ a' = y.bbase ∧ us = y.lb ∧ c' = y.bcap)
set_option maxRecDepth 10000 in
set_option maxHeartbeats 8000000 in
theorem specSameL (sz : Nat) : ∀ ks us : List SX, SX.sizeAll ks ≤ sz → ks.length ≤ 1099511627776 → us.length ≤ 1099511627776 → (∀ (i : Nat) (k : SX), ks[i]? = some k → SmallS k) → (∀ (i : Nat) (k : SX), us[i]? = some k → SmallS k) → ∀ (a a' : Option Addr) (c c' : Nat) (ok : Nat → Prop) (w : World), (∀ b, ok b → b < w.heap.size) →
    SRow ok w a ks → SRow ok w a' us → (∀ (i : Nat) (k : SX), ks[i]? = some k → LiesS ok w k) → (∀ (i : Nat) (k : SX), us[i]? = some k → LiesS ok w k) →
    Calls Try.prog 80 #[.slice a ks.length c, .slice a' us.length c'] w fun e w' => e = .returned (.bool (allZ SX.sameB ks us)) ∧ Below w.heap.size w w' := by
  induction sz using Nat.strongRecOn with
  | _ sz ih =>
  intro ks us hsz hlen hlen' hsm hsm' a a' c c' ok w hok hcl hcl' hL hU
  obtain ⟨len, hl⟩ : ∃ len, ks.length = len := ⟨_, rfl⟩
  obtain ⟨len', hl'⟩ : ∃ len', us.length = len' := ⟨_, rfl⟩
  rw [hl] at hlen ⊢
  rw [hl'] at hlen' ⊢
  by_cases hne : len = len'
  · subst hne
    go_enter Try.func80, Try.ntmps80
    go_wp2_with fail
    go_loopw [5] (fun v5 wr => ∃ (i : Nat), v5 = .int .i64 i ∧ i ≤ len ∧ Hid (upToZ SX.sameB ks us i) ∧ Below w.heap.size w wr) (fun v5 _ => len - (intOf v5).toNat)
    case atStart => exact ⟨0, rfl, by omega, fun j x y h => by omega, Below.refl _ _⟩
    case round =>
      obtain ⟨i, rfl, hi, hall, hB⟩ := hrel
      by_cases hlt : i < len
      · obtain ⟨x, hx⟩ : ∃ x, ks[i]? = some x := ⟨_, List.getElem?_eq_getElem (by omega)⟩
        obtain ⟨y, hy⟩ : ∃ y, us[i]? = some y := ⟨_, List.getElem?_eq_getElem (by omega)⟩
        obtain ⟨b1, o1, hbase1, hok1, hc1⟩ := hcl i x hx
        obtain ⟨b2, o2, hbase2, hok2, hc2⟩ := hcl' i y hy
        have hd1 := hc1.below hB (hok b1 hok1)
        have hd2 := hc2.below hB (hok b2 hok2)
        have hLx := (hL i x hx).under hB hok
        have hUy := (hU i y hy).under hB hok
        have hokr : ∀ b, ok b → b < wr.heap.size := fun b hb => Nat.lt_of_lt_of_le (hok b hb) hB.size
        obtain ⟨-, m2, m3, m4, m5, m6⟩ := (hsm i x hx).parts
        obtain ⟨-, p2, p3, p4, p5, p6⟩ := (hsm' i y hy).parts
        have hss := SX.size_get hx
        have hsq := x.size_eq
        have g1 := m2.1
        have g2 := m3.1
        have g3 := p2.1
        have g4 := p3.1
        have HEx : Hid (∀ (t u : XT) (z : Later wr), pairE x y t u → Calls Try.prog 117 #[t.val, u.val] z.at fun e w' => e = .returned (.bool (t.sameB u)) ∧ Below z.at.heap.size z.at w') := by
          intro t u z hp
          have hz := Later.below z
          have hokz : ∀ b, ok b → b < z.at.heap.size := fun b hb => Nat.lt_of_lt_of_le (hokr b hb) hz.size
          rcases hp with ⟨rfl, rfl⟩ | ⟨rfl, rfl⟩
          · exact specSameE _ _ _ (by omega) (Nat.le_refl _) (by omega) ok z.at hokz (hLx.under hz hokr).parts.1 (hUy.under hz hokr).parts.1
          · exact specSameE _ _ _ (by omega) (Nat.le_refl _) (by omega) ok z.at hokz (hLx.under hz hokr).parts.2.1 (hUy.under hz hokr).parts.2.1
        have HLx : Hid (∀ (a1 : Option Addr) (l1 : List SX) (c1 : Nat) (a2 : Option Addr) (l2 : List SX) (c2 : Nat) (z : Later wr), pairL x y a1 l1 c1 a2 l2 c2 → Calls Try.prog 80 #[.slice a1 l1.length c1, .slice a2 l2.length c2] z.at fun e w' => e = .returned (.bool (allZ SX.sameB l1 l2)) ∧ Below z.at.heap.size z.at w') := by
          intro a1 l1 c1 a2 l2 c2 z hp
          have hz := Later.below z
          have hokz : ∀ b, ok b → b < z.at.heap.size := fun b hb => Nat.lt_of_lt_of_le (hokr b hb) hz.size
          have q1 := (hLx.under hz hokr).parts
          have q2 := (hUy.under hz hokr).parts
          rcases hp with ⟨rfl, rfl, rfl, rfl, rfl, rfl⟩ | ⟨rfl, rfl, rfl, rfl, rfl, rfl⟩
          · exact ih (SX.sizeAll x.la) (by omega) _ _ (Nat.le_refl _) (by omega) (by omega) m5 p5 _ _ _ _ ok z.at hokz q1.2.2.1 q2.2.2.1 q1.2.2.2.2.1 q2.2.2.2.2.1
          · exact ih (SX.sizeAll x.lb) (by omega) _ _ (Nat.le_refl _) (by omega) (by omega) m6 p6 _ _ _ _ ok z.at hokz q1.2.2.2.1 q2.2.2.2.1 q1.2.2.2.2.2 q2.2.2.2.2.2
        have hEE : pairE x y x.e y.e := .inl ⟨rfl, rfl⟩
        have hFF : pairE x y x.f y.f := .inr ⟨rfl, rfl⟩
        have hAA : pairL x y x.abase x.la x.acap y.abase y.la y.acap := .inl ⟨rfl, rfl, rfl, rfl, rfl, rfl⟩
        have hBB : pairL x y x.bbase x.lb x.bcap y.bbase y.lb y.bcap := .inr ⟨rfl, rfl, rfl, rfl, rfl, rfl⟩
        clear ih hLx hUy m2 m3 m4 m5 m6 p2 p3 p4 p5 p6 hss hsq g1 g2 g3 g4
        subst hbase1
        subst hbase2
        haveI : Nonempty (Later wr) := ⟨⟨wr, Below.refl _ _⟩⟩
        have e0 := Later.cell hd1.c0
        have e1 := Later.cell hd1.c1
        have e2 := Later.cell hd1.c2
        have e3 := Later.cell hd1.c3
        have e4 := Later.cell hd1.c4
        have e5 := Later.cell hd1.c5
        have e6 := Later.cell hd1.c6
        have e7 := Later.cell hd1.c7
        have e8 := Later.cell hd1.c8
        have e9 := Later.cell hd1.c9
        have e10 := Later.cell hd1.c10
        have e11 := Later.cell hd1.c11
        have g0 := Later.cell hd2.c0
        have g1 := Later.cell hd2.c1
        have g2 := Later.cell hd2.c2
        have g3 := Later.cell hd2.c3
        have g4 := Later.cell hd2.c4
        have g5 := Later.cell hd2.c5
        have g6 := Later.cell hd2.c6
        have g7 := Later.cell hd2.c7
        have g8 := Later.cell hd2.c8
        have g9 := Later.cell hd2.c9
        have g10 := Later.cell hd2.c10
        have g11 := Later.cell hd2.c11
        obtain ⟨q1, r1⟩ : ∃ q, x.e.sameB y.e = q := ⟨_, rfl⟩
        obtain ⟨q2, r2⟩ : ∃ q, x.f.sameB y.f = q := ⟨_, rfl⟩
        obtain ⟨q3, r3⟩ : ∃ q, allZ SX.sameB x.la y.la = q := ⟨_, rfl⟩
        obtain ⟨q4, r4⟩ : ∃ q, allZ SX.sameB x.lb y.lb = q := ⟨_, rfl⟩
        have hsb : Hid (x.sameB y = (decide (x.kind = y.kind) && ((x.name.toList == y.name.toList) && (q1 && (q2 && (q3 && q4)))))) := by
          have h := SX.sameB_eq x y
          rw [r1, r2, r3, r4] at h
          exact h
        go_wp2_with fail
        go_cut [96] (fun v wx => v = .bool (!x.sameB y) ∧ Below wr.heap.size wr wx)
        case first =>
          simp only [List.append_eq, List.cons_append, List.nil_append]
          refine region_class (fun w' => ∃ z : Later wr, w' = z.at) (by kernel_rfl) (by kernel_rfl) ⟨⟨_, (Below.refl _ _).drew⟩, rfl⟩ ?_
          repeat (go_big_quiet_step ((first | (go_at_call 117; refine (HEx.out _ _ _ (by first | exact hEE | exact hFF)).mono ?_; rintro e w2 ⟨rfl, hb⟩; (first | rw [r1] | rw [r2]); exact ⟨rfl, ⟨_, bstep (Later.below _) hb⟩, rfl⟩) | (go_at_call 80; refine (HLx.out _ _ _ _ _ _ _ (by first | exact hAA | exact hBB)).mono ?_; rintro e w2 ⟨rfl, hb⟩; (first | rw [r3] | rw [r4]); exact ⟨rfl, ⟨_, bstep (Later.below _) hb⟩, rfl⟩))))
          cases h0 : (x.kind != y.kind)
          · skip
            repeat (go_big_quiet_step ((first | (go_at_call 117; refine (HEx.out _ _ _ (by first | exact hEE | exact hFF)).mono ?_; rintro e w2 ⟨rfl, hb⟩; (first | rw [r1] | rw [r2]); exact ⟨rfl, ⟨_, bstep (Later.below _) hb⟩, rfl⟩) | (go_at_call 80; refine (HLx.out _ _ _ _ _ _ _ (by first | exact hAA | exact hBB)).mono ?_; rintro e w2 ⟨rfl, hb⟩; (first | rw [r3] | rw [r4]); exact ⟨rfl, ⟨_, bstep (Later.below _) hb⟩, rfl⟩))))
            cases h1 : (x.name.toList == y.name.toList)
            · simp only [Bool.not_false, Bool.not_true]
              repeat (go_big_quiet_step ((first | (go_at_call 117; refine (HEx.out _ _ _ (by first | exact hEE | exact hFF)).mono ?_; rintro e w2 ⟨rfl, hb⟩; (first | rw [r1] | rw [r2]); exact ⟨rfl, ⟨_, bstep (Later.below _) hb⟩, rfl⟩) | (go_at_call 80; refine (HLx.out _ _ _ _ _ _ _ (by first | exact hAA | exact hBB)).mono ?_; rintro e w2 ⟨rfl, hb⟩; (first | rw [r3] | rw [r4]); exact ⟨rfl, ⟨_, bstep (Later.below _) hb⟩, rfl⟩))))
              refine wpQuiet_nil ?_
              rintro w' ⟨z, rfl⟩
              go_wp2_with fail
              go_meet
              case rel => exact ⟨congrArg Value.bool (by rw [hsb.out]; simp_all), Later.below z⟩
            · simp only [Bool.not_false, Bool.not_true]
              repeat (go_big_quiet_step ((first | (go_at_call 117; refine (HEx.out _ _ _ (by first | exact hEE | exact hFF)).mono ?_; rintro e w2 ⟨rfl, hb⟩; (first | rw [r1] | rw [r2]); exact ⟨rfl, ⟨_, bstep (Later.below _) hb⟩, rfl⟩) | (go_at_call 80; refine (HLx.out _ _ _ _ _ _ _ (by first | exact hAA | exact hBB)).mono ?_; rintro e w2 ⟨rfl, hb⟩; (first | rw [r3] | rw [r4]); exact ⟨rfl, ⟨_, bstep (Later.below _) hb⟩, rfl⟩))))
              cases q1
              · simp only [Bool.not_false, Bool.not_true]
                repeat (go_big_quiet_step ((first | (go_at_call 117; refine (HEx.out _ _ _ (by first | exact hEE | exact hFF)).mono ?_; rintro e w2 ⟨rfl, hb⟩; (first | rw [r1] | rw [r2]); exact ⟨rfl, ⟨_, bstep (Later.below _) hb⟩, rfl⟩) | (go_at_call 80; refine (HLx.out _ _ _ _ _ _ _ (by first | exact hAA | exact hBB)).mono ?_; rintro e w2 ⟨rfl, hb⟩; (first | rw [r3] | rw [r4]); exact ⟨rfl, ⟨_, bstep (Later.below _) hb⟩, rfl⟩))))
                refine wpQuiet_nil ?_
                rintro w' ⟨z, rfl⟩
                go_wp2_with fail
                go_meet
                case rel => exact ⟨congrArg Value.bool (by rw [hsb.out]; simp_all), Later.below z⟩
              · simp only [Bool.not_false, Bool.not_true]
                repeat (go_big_quiet_step ((first | (go_at_call 117; refine (HEx.out _ _ _ (by first | exact hEE | exact hFF)).mono ?_; rintro e w2 ⟨rfl, hb⟩; (first | rw [r1] | rw [r2]); exact ⟨rfl, ⟨_, bstep (Later.below _) hb⟩, rfl⟩) | (go_at_call 80; refine (HLx.out _ _ _ _ _ _ _ (by first | exact hAA | exact hBB)).mono ?_; rintro e w2 ⟨rfl, hb⟩; (first | rw [r3] | rw [r4]); exact ⟨rfl, ⟨_, bstep (Later.below _) hb⟩, rfl⟩))))
                cases q2
                · simp only [Bool.not_false, Bool.not_true]
                  repeat (go_big_quiet_step ((first | (go_at_call 117; refine (HEx.out _ _ _ (by first | exact hEE | exact hFF)).mono ?_; rintro e w2 ⟨rfl, hb⟩; (first | rw [r1] | rw [r2]); exact ⟨rfl, ⟨_, bstep (Later.below _) hb⟩, rfl⟩) | (go_at_call 80; refine (HLx.out _ _ _ _ _ _ _ (by first | exact hAA | exact hBB)).mono ?_; rintro e w2 ⟨rfl, hb⟩; (first | rw [r3] | rw [r4]); exact ⟨rfl, ⟨_, bstep (Later.below _) hb⟩, rfl⟩))))
                  refine wpQuiet_nil ?_
                  rintro w' ⟨z, rfl⟩
                  go_wp2_with fail
                  go_meet
                  case rel => exact ⟨congrArg Value.bool (by rw [hsb.out]; simp_all), Later.below z⟩
                · simp only [Bool.not_false, Bool.not_true]
                  repeat (go_big_quiet_step ((first | (go_at_call 117; refine (HEx.out _ _ _ (by first | exact hEE | exact hFF)).mono ?_; rintro e w2 ⟨rfl, hb⟩; (first | rw [r1] | rw [r2]); exact ⟨rfl, ⟨_, bstep (Later.below _) hb⟩, rfl⟩) | (go_at_call 80; refine (HLx.out _ _ _ _ _ _ _ (by first | exact hAA | exact hBB)).mono ?_; rintro e w2 ⟨rfl, hb⟩; (first | rw [r3] | rw [r4]); exact ⟨rfl, ⟨_, bstep (Later.below _) hb⟩, rfl⟩))))
                  cases q3
                  · simp only [Bool.not_false, Bool.not_true]
                    repeat (go_big_quiet_step ((first | (go_at_call 117; refine (HEx.out _ _ _ (by first | exact hEE | exact hFF)).mono ?_; rintro e w2 ⟨rfl, hb⟩; (first | rw [r1] | rw [r2]); exact ⟨rfl, ⟨_, bstep (Later.below _) hb⟩, rfl⟩) | (go_at_call 80; refine (HLx.out _ _ _ _ _ _ _ (by first | exact hAA | exact hBB)).mono ?_; rintro e w2 ⟨rfl, hb⟩; (first | rw [r3] | rw [r4]); exact ⟨rfl, ⟨_, bstep (Later.below _) hb⟩, rfl⟩))))
                    refine wpQuiet_nil ?_
                    rintro w' ⟨z, rfl⟩
                    go_wp2_with fail
                    go_meet
                    case rel => exact ⟨congrArg Value.bool (by rw [hsb.out]; simp_all), Later.below z⟩
                  · simp only [Bool.not_false, Bool.not_true]
                    repeat (go_big_quiet_step ((first | (go_at_call 117; refine (HEx.out _ _ _ (by first | exact hEE | exact hFF)).mono ?_; rintro e w2 ⟨rfl, hb⟩; (first | rw [r1] | rw [r2]); exact ⟨rfl, ⟨_, bstep (Later.below _) hb⟩, rfl⟩) | (go_at_call 80; refine (HLx.out _ _ _ _ _ _ _ (by first | exact hAA | exact hBB)).mono ?_; rintro e w2 ⟨rfl, hb⟩; (first | rw [r3] | rw [r4]); exact ⟨rfl, ⟨_, bstep (Later.below _) hb⟩, rfl⟩))))
                    cases q4
                    · simp only [Bool.not_false, Bool.not_true]
                      repeat (go_big_quiet_step ((first | (go_at_call 117; refine (HEx.out _ _ _ (by first | exact hEE | exact hFF)).mono ?_; rintro e w2 ⟨rfl, hb⟩; (first | rw [r1] | rw [r2]); exact ⟨rfl, ⟨_, bstep (Later.below _) hb⟩, rfl⟩) | (go_at_call 80; refine (HLx.out _ _ _ _ _ _ _ (by first | exact hAA | exact hBB)).mono ?_; rintro e w2 ⟨rfl, hb⟩; (first | rw [r3] | rw [r4]); exact ⟨rfl, ⟨_, bstep (Later.below _) hb⟩, rfl⟩))))
                      refine wpQuiet_nil ?_
                      rintro w' ⟨z, rfl⟩
                      go_wp2_with fail
                      go_meet
                      case rel => exact ⟨congrArg Value.bool (by rw [hsb.out]; simp_all), Later.below z⟩
                    · simp only [Bool.not_false, Bool.not_true]
                      repeat (go_big_quiet_step ((first | (go_at_call 117; refine (HEx.out _ _ _ (by first | exact hEE | exact hFF)).mono ?_; rintro e w2 ⟨rfl, hb⟩; (first | rw [r1] | rw [r2]); exact ⟨rfl, ⟨_, bstep (Later.below _) hb⟩, rfl⟩) | (go_at_call 80; refine (HLx.out _ _ _ _ _ _ _ (by first | exact hAA | exact hBB)).mono ?_; rintro e w2 ⟨rfl, hb⟩; (first | rw [r3] | rw [r4]); exact ⟨rfl, ⟨_, bstep (Later.below _) hb⟩, rfl⟩))))
                      refine wpQuiet_nil ?_
                      rintro w' ⟨z, rfl⟩
                      go_wp2_with fail
                      go_meet
                      case rel => exact ⟨congrArg Value.bool (by rw [hsb.out]; simp_all), Later.below z⟩
          · skip
            repeat (go_big_quiet_step ((first | (go_at_call 117; refine (HEx.out _ _ _ (by first | exact hEE | exact hFF)).mono ?_; rintro e w2 ⟨rfl, hb⟩; (first | rw [r1] | rw [r2]); exact ⟨rfl, ⟨_, bstep (Later.below _) hb⟩, rfl⟩) | (go_at_call 80; refine (HLx.out _ _ _ _ _ _ _ (by first | exact hAA | exact hBB)).mono ?_; rintro e w2 ⟨rfl, hb⟩; (first | rw [r3] | rw [r4]); exact ⟨rfl, ⟨_, bstep (Later.below _) hb⟩, rfl⟩))))
            refine wpQuiet_nil ?_
            rintro w' ⟨z, rfl⟩
            go_wp2_with fail
            go_meet
            case rel => exact ⟨congrArg Value.bool (by rw [hsb.out]; simp_all), Later.below z⟩
        case rest =>
          obtain ⟨hv0, hBx⟩ := hcut
          subst hv0
          cases hv : x.sameB y
          · go_wp2
            go_returns
            exact ⟨ret_bool (allZ_bad hx hy hv).symm, hB.trans (hBx.mono hB.size)⟩
          · go_wp2
            go_roundw
            case rel => exact ⟨i + 1, by go_num, by omega, upToZ_next hall.out hx hy hv, hB.trans (hBx.mono hB.size)⟩
            case measure => simp [intOf]; omega
      · go_wp2
        go_returns
        exact ⟨ret_bool (upToZ_all hall.out (by omega) (by omega)).symm, hB⟩
  · go_enter Try.func80, Try.ntmps80
    go_wp2_with fail
    all_goals first | (exfalso; omega) | skip
    go_returns
    exact ⟨ret_bool (allZ_len _ ks us (by omega)).symm, Below.refl _ _⟩
end Go.Proofs.Ytiabnpbhhiacmaa
