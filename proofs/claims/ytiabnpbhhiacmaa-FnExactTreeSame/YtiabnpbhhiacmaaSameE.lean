/-
  Lists of variables, of channels and of words: the program's comparisons.
-/
import Derived.Test.YtiabnpbhhiacmaaSameA
import Derived.Test.YtiabnpbhhiacmaaProgC
import Derived.Laws.StructEq
namespace Go.Proofs.Ytiabnpbhhiacmaa
open Go.RowKit Go.Shelf
set_option linter.unusedSimpArgs false
set_option linter.unusedVariables false
attribute [local go_sem] Oper.semAt_some

def VX.eqB (v u : VX) : Bool := (v.name.toList == u.name.toList) && ((v.size == u.size) && ((v.init == u.init) && ((v.lo == u.lo) && ((v.hi == u.hi) && ((v.lock.toList == u.lock.toList) && (v.task == u.task))))))
def CX.eqB (v u : CX) : Bool := (v.name.toList == u.name.toList) && ((v.cap == u.cap) && ((v.lo == u.lo) && (v.hi == u.hi)))
def eqN1 (v u : ByteArray) : Bool := v.toList == u.toList
set_option maxRecDepth 100000 in
theorem VX.equal (x y : VX) (w : World) : (Op.equalIn 10000 94 x.val y.val).run Try.prog w = .ok (x.eqB y) w := by
  rw [run_equalIn_struct w 9999 94 _ _ (by kernel_rfl) (by kernel_rfl)]
  simp [Program.fieldsOf, Try.underlying94, go_sem]
  unfold VX.eqB
  repeat' split
  all_goals simp_all
set_option maxRecDepth 100000 in
theorem CX.equal (x y : CX) (w : World) : (Op.equalIn 10000 99 x.val y.val).run Try.prog w = .ok (x.eqB y) w := by
  rw [run_equalIn_struct w 9999 99 _ _ (by kernel_rfl) (by kernel_rfl)]
  simp [Program.fieldsOf, Try.underlying99, go_sem]
  unfold CX.eqB
  repeat' split
  all_goals simp_all
theorem guardV : Try.prog.eqGuardType Try.prog.depth 94 = false := by kernel_rfl
theorem guardC : Try.prog.eqGuardType Try.prog.depth 99 = false := by kernel_rfl
set_option maxRecDepth 10000 in
set_option maxHeartbeats 2000000 in
theorem eqsV (ks us : List VX) (a a' : Option Addr) (c c' : Nat) (ok : Nat → Prop) (w : World) (hok : ∀ b, ok b → b < w.heap.size)
    (hcl : VX.Row ok w a ks) (hcl' : VX.Row ok w a' us) (hlen : ks.length ≤ 1099511627776) (hlen' : us.length ≤ 1099511627776) :
    Calls Try.prog 81 #[.slice a ks.length c, .slice a' us.length c'] w fun e w' => e = .returned (.bool (allZ VX.eqB ks us)) ∧ Below w.heap.size w w' := by
  obtain ⟨len, hl⟩ : ∃ len, ks.length = len := ⟨_, rfl⟩
  obtain ⟨len', hl'⟩ : ∃ len', us.length = len' := ⟨_, rfl⟩
  rw [hl] at hlen ⊢
  rw [hl'] at hlen' ⊢
  by_cases hne : len = len'
  · subst hne
    go_enter Try.func81, Try.ntmps81
    go_wp2_with fail
    go_loopw [13] (fun v13 wr => ∃ (i : Nat), v13 = .int .i64 i ∧ i ≤ len ∧ Hid (upToZ VX.eqB ks us i) ∧ Below w.heap.size w wr) (fun v13 _ => len - (intOf v13).toNat)
    case atStart => exact ⟨0, rfl, by omega, fun j x y h => by omega, Below.refl _ _⟩
    case round =>
      obtain ⟨i, rfl, hi, hall, hB⟩ := hrel
      by_cases hlt : i < len
      · obtain ⟨x, hx⟩ : ∃ x, ks[i]? = some x := ⟨_, List.getElem?_eq_getElem (by omega)⟩
        obtain ⟨y, hy⟩ : ∃ y, us[i]? = some y := ⟨_, List.getElem?_eq_getElem (by omega)⟩
        obtain ⟨b1, o1, hbase1, hok1, hc1⟩ := hcl i x hx
        obtain ⟨b2, o2, hbase2, hok2, hc2⟩ := hcl' i y hy
        have hd1 := hc1.below hB (hok b1 hok1)
        have hd2 := hc2.below hB (hok b2 hok2)
        subst hbase1
        subst hbase2
        haveI : Nonempty (Later wr) := ⟨⟨wr, Below.refl _ _⟩⟩
        have e0 := Later.cell hd1.c0
        have e1 := Later.cell hd1.c1
        have e2 := Later.cell hd1.c2
        have e3 := Later.cell hd1.c3
        have e4 := Later.cell hd1.c4
        have e5 := Later.cell hd1.c5
        have e6 := Later.cell hd1.c6
        have g0 := Later.cell hd2.c0
        have g1 := Later.cell hd2.c1
        have g2 := Later.cell hd2.c2
        have g3 := Later.cell hd2.c3
        have g4 := Later.cell hd2.c4
        have g5 := Later.cell hd2.c5
        have g6 := Later.cell hd2.c6
        have hq := VX.equal x y
        have hg := guardV
        go_wp2_with fail
        go_cut [24] (fun v wx => v = .bool (!VX.eqB x y) ∧ Below wr.heap.size wr wx)
        case first =>
          refine region_class (fun w' => ∃ z : Later wr, w' = z.at) (by kernel_rfl) (by kernel_rfl) ⟨⟨_, (Below.refl _ _).drew⟩, rfl⟩ ?_
          repeat (go_big_quiet_step (fail))
          refine wpQuiet_nil ?_
          rintro w' ⟨z, rfl⟩
          go_wp2_with fail
          go_meet
          case rel => exact ⟨rfl, Later.below z⟩
        case rest =>
          obtain ⟨hv0, hBx⟩ := hcut
          subst hv0
          clear hq
          cases hv : VX.eqB x y
          · go_wp2
            go_returns
            exact ⟨ret_bool (allZ_bad hx hy hv).symm, hB.trans (hBx.mono hB.size)⟩
          · go_wp2
            go_roundw
            case rel => exact ⟨i + 1, by go_num, by omega, upToZ_next hall.out hx hy hv, hB.trans (hBx.mono hB.size)⟩
            case measure => simp [intOf]; omega
      · go_wp2
        go_returns
        exact ⟨ret_bool (upToZ_all hall.out (by omega) (by omega)).symm, hB⟩
  · go_enter Try.func81, Try.ntmps81
    go_wp2_with fail
    all_goals first | (exfalso; omega) | skip
    go_returns
    exact ⟨ret_bool (allZ_len _ ks us (by omega)).symm, Below.refl _ _⟩
set_option maxRecDepth 10000 in
set_option maxHeartbeats 2000000 in
theorem eqsC (ks us : List CX) (a a' : Option Addr) (c c' : Nat) (ok : Nat → Prop) (w : World) (hok : ∀ b, ok b → b < w.heap.size)
    (hcl : CX.Row ok w a ks) (hcl' : CX.Row ok w a' us) (hlen : ks.length ≤ 1099511627776) (hlen' : us.length ≤ 1099511627776) :
    Calls Try.prog 82 #[.slice a ks.length c, .slice a' us.length c'] w fun e w' => e = .returned (.bool (allZ CX.eqB ks us)) ∧ Below w.heap.size w w' := by
  obtain ⟨len, hl⟩ : ∃ len, ks.length = len := ⟨_, rfl⟩
  obtain ⟨len', hl'⟩ : ∃ len', us.length = len' := ⟨_, rfl⟩
  rw [hl] at hlen ⊢
  rw [hl'] at hlen' ⊢
  by_cases hne : len = len'
  · subst hne
    go_enter Try.func82, Try.ntmps82
    go_wp2_with fail
    go_loopw [13] (fun v13 wr => ∃ (i : Nat), v13 = .int .i64 i ∧ i ≤ len ∧ Hid (upToZ CX.eqB ks us i) ∧ Below w.heap.size w wr) (fun v13 _ => len - (intOf v13).toNat)
    case atStart => exact ⟨0, rfl, by omega, fun j x y h => by omega, Below.refl _ _⟩
    case round =>
      obtain ⟨i, rfl, hi, hall, hB⟩ := hrel
      by_cases hlt : i < len
      · obtain ⟨x, hx⟩ : ∃ x, ks[i]? = some x := ⟨_, List.getElem?_eq_getElem (by omega)⟩
        obtain ⟨y, hy⟩ : ∃ y, us[i]? = some y := ⟨_, List.getElem?_eq_getElem (by omega)⟩
        obtain ⟨b1, o1, hbase1, hok1, hc1⟩ := hcl i x hx
        obtain ⟨b2, o2, hbase2, hok2, hc2⟩ := hcl' i y hy
        have hd1 := hc1.below hB (hok b1 hok1)
        have hd2 := hc2.below hB (hok b2 hok2)
        subst hbase1
        subst hbase2
        haveI : Nonempty (Later wr) := ⟨⟨wr, Below.refl _ _⟩⟩
        have e0 := Later.cell hd1.c0
        have e1 := Later.cell hd1.c1
        have e2 := Later.cell hd1.c2
        have e3 := Later.cell hd1.c3
        have g0 := Later.cell hd2.c0
        have g1 := Later.cell hd2.c1
        have g2 := Later.cell hd2.c2
        have g3 := Later.cell hd2.c3
        have hq := CX.equal x y
        have hg := guardC
        go_wp2_with fail
        go_cut [24] (fun v wx => v = .bool (!CX.eqB x y) ∧ Below wr.heap.size wr wx)
        case first =>
          refine region_class (fun w' => ∃ z : Later wr, w' = z.at) (by kernel_rfl) (by kernel_rfl) ⟨⟨_, (Below.refl _ _).drew⟩, rfl⟩ ?_
          repeat (go_big_quiet_step (fail))
          refine wpQuiet_nil ?_
          rintro w' ⟨z, rfl⟩
          go_wp2_with fail
          go_meet
          case rel => exact ⟨rfl, Later.below z⟩
        case rest =>
          obtain ⟨hv0, hBx⟩ := hcut
          subst hv0
          clear hq
          cases hv : CX.eqB x y
          · go_wp2
            go_returns
            exact ⟨ret_bool (allZ_bad hx hy hv).symm, hB.trans (hBx.mono hB.size)⟩
          · go_wp2
            go_roundw
            case rel => exact ⟨i + 1, by go_num, by omega, upToZ_next hall.out hx hy hv, hB.trans (hBx.mono hB.size)⟩
            case measure => simp [intOf]; omega
      · go_wp2
        go_returns
        exact ⟨ret_bool (upToZ_all hall.out (by omega) (by omega)).symm, hB⟩
  · go_enter Try.func82, Try.ntmps82
    go_wp2_with fail
    all_goals first | (exfalso; omega) | skip
    go_returns
    exact ⟨ret_bool (allZ_len _ ks us (by omega)).symm, Below.refl _ _⟩
set_option maxRecDepth 10000 in
set_option maxHeartbeats 2000000 in
theorem eqsN (ks us : List ByteArray) (a a' : Option Addr) (c c' : Nat) (ok : Nat → Prop) (w : World) (hok : ∀ b, ok b → b < w.heap.size)
    (hcl : NRow ok w a ks) (hcl' : NRow ok w a' us) (hlen : ks.length ≤ 1099511627776) (hlen' : us.length ≤ 1099511627776) :
    Calls Try.prog 83 #[.slice a ks.length c, .slice a' us.length c'] w fun e w' => e = .returned (.bool (allZ eqN1 ks us)) ∧ Below w.heap.size w w' := by
  obtain ⟨len, hl⟩ : ∃ len, ks.length = len := ⟨_, rfl⟩
  obtain ⟨len', hl'⟩ : ∃ len', us.length = len' := ⟨_, rfl⟩
  rw [hl] at hlen ⊢
  rw [hl'] at hlen' ⊢
  by_cases hne : len = len'
  · subst hne
    go_enter Try.func83, Try.ntmps83
    go_wp2_with fail
    go_loopw [13] (fun v13 wr => ∃ (i : Nat), v13 = .int .i64 i ∧ i ≤ len ∧ Hid (upToZ eqN1 ks us i) ∧ Below w.heap.size w wr) (fun v13 _ => len - (intOf v13).toNat)
    case atStart => exact ⟨0, rfl, by omega, fun j x y h => by omega, Below.refl _ _⟩
    case round =>
      obtain ⟨i, rfl, hi, hall, hB⟩ := hrel
      by_cases hlt : i < len
      · obtain ⟨x, hx⟩ : ∃ x, ks[i]? = some x := ⟨_, List.getElem?_eq_getElem (by omega)⟩
        obtain ⟨y, hy⟩ : ∃ y, us[i]? = some y := ⟨_, List.getElem?_eq_getElem (by omega)⟩
        obtain ⟨b1, o1, hbase1, hok1, hc1⟩ := hcl i x hx
        obtain ⟨b2, o2, hbase2, hok2, hc2⟩ := hcl' i y hy
        have hd1 := below_cell hB hc1 (hok b1 hok1)
        have hd2 := below_cell hB hc2 (hok b2 hok2)
        subst hbase1
        subst hbase2
        haveI : Nonempty (Later wr) := ⟨⟨wr, Below.refl _ _⟩⟩
        have e0 := Later.cell hd1
        have g0 := Later.cell hd2
        have hq : (x.toList == y.toList) = eqN1 x y := rfl
        go_wp2_with fail
        go_cut [24] (fun v wx => v = .bool (!eqN1 x y) ∧ Below wr.heap.size wr wx)
        case first =>
          refine region_class (fun w' => ∃ z : Later wr, w' = z.at) (by kernel_rfl) (by kernel_rfl) ⟨⟨_, (Below.refl _ _).drew⟩, rfl⟩ ?_
          repeat (go_big_quiet_step (fail))
          refine wpQuiet_nil ?_
          rintro w' ⟨z, rfl⟩
          go_wp2_with fail
          go_meet
          case rel => exact ⟨rfl, Later.below z⟩
        case rest =>
          obtain ⟨hv0, hBx⟩ := hcut
          subst hv0
          clear hq
          cases hv : eqN1 x y
          · go_wp2
            go_returns
            exact ⟨ret_bool (allZ_bad hx hy hv).symm, hB.trans (hBx.mono hB.size)⟩
          · go_wp2
            go_roundw
            case rel => exact ⟨i + 1, by go_num, by omega, upToZ_next hall.out hx hy hv, hB.trans (hBx.mono hB.size)⟩
            case measure => simp [intOf]; omega
      · go_wp2
        go_returns
        exact ⟨ret_bool (upToZ_all hall.out (by omega) (by omega)).symm, hB⟩
  · go_enter Try.func83, Try.ntmps83
    go_wp2_with fail
    all_goals first | (exfalso; omega) | skip
    go_returns
    exact ⟨ret_bool (allZ_len _ ks us (by omega)).symm, Below.refl _ _⟩
end Go.Proofs.Ytiabnpbhhiacmaa
