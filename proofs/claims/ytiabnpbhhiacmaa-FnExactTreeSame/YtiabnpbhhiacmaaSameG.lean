/-
  The specification's comparison of two programs.
-/
import Derived.Test.YtiabnpbhhiacmaaSameF
namespace Go.Proofs.Ytiabnpbhhiacmaa
open Go.RowKit Go.Shelf
set_option linter.unusedSimpArgs false
set_option linter.unusedVariables false
attribute [local go_sem] Oper.semAt_some

set_option maxRecDepth 20000 in
set_option maxHeartbeats 8000000 in
theorem PX.specSame (p q : PX) (hm : p.Fine) (hm' : q.Fine) (ok : Nat → Prop) (w : World) (hok : ∀ b, ok b → b < w.heap.size) (hL : PX.Lies ok w p) (hU : PX.Lies ok w q) :
    Calls Try.prog 30 #[p.val, q.val] w fun e w' => e = .returned (.bool (p.sameB q)) ∧ Below w.heap.size w w' := by
  obtain ⟨vb, vc, vars, cb, cc, chans, nb, nc, locks, tb, tc, tasks⟩ := p
  obtain ⟨vb', vc', vars', cb', cc', chans', nb', nc', locks', tb', tc', tasks'⟩ := q
  obtain ⟨⟨ml0, ml1, ml2, ml3, hmt⟩, hft⟩ := hm
  obtain ⟨⟨ml0', ml1', ml2', ml3', hmt'⟩, hft'⟩ := hm'
  obtain ⟨hLv, hLc, hLn, hLt, hLk⟩ := hL
  obtain ⟨hUv, hUc, hUn, hUt, hUk⟩ := hU
  dsimp only at ml0 ml1 ml2 ml3 ml0' ml1' ml2' ml3' hft hft' hLv hLc hLn hLt hLk hUv hUc hUn hUt hUk
  dsimp only [PX.val, PX.sameB]
  obtain ⟨lv, hlv⟩ : ∃ n, vars.length = n := ⟨_, rfl⟩
  obtain ⟨lv', hlv'⟩ : ∃ n, vars'.length = n := ⟨_, rfl⟩
  obtain ⟨lc, hlc⟩ : ∃ n, chans.length = n := ⟨_, rfl⟩
  obtain ⟨lc', hlc'⟩ : ∃ n, chans'.length = n := ⟨_, rfl⟩
  obtain ⟨ln, hln⟩ : ∃ n, locks.length = n := ⟨_, rfl⟩
  obtain ⟨ln', hln'⟩ : ∃ n, locks'.length = n := ⟨_, rfl⟩
  obtain ⟨lt, hlt⟩ : ∃ n, tasks.length = n := ⟨_, rfl⟩
  obtain ⟨lt', hlt'⟩ : ∃ n, tasks'.length = n := ⟨_, rfl⟩
  rw [hlv, hlv', hlc, hlc', hln, hln', hlt, hlt']
  rw [hlv] at ml0
  rw [hlc] at ml1
  rw [hln] at ml2
  rw [hlt] at ml3
  rw [hlv'] at ml0'
  rw [hlc'] at ml1'
  rw [hln'] at ml2'
  rw [hlt'] at ml3'
  obtain ⟨W1, hW1⟩ : ∃ W1, w.alloc (.cells #[.slice vb lv vc, .slice cb lc cc, .slice nb ln nc, .slice tb lt tc] 49) = W1 := ⟨_, rfl⟩
  obtain ⟨W2, hW2⟩ : ∃ W2, W1.alloc (.cells #[.slice vb' lv' vc', .slice cb' lc' cc', .slice nb' ln' nc', .slice tb' lt' tc'] 49) = W2 := ⟨_, rfl⟩
  have hs1 : w.heap.size + 1 = W1.heap.size := by rw [← hW1]; simp
  have hs2 : W1.heap.size + 1 = W2.heap.size := by rw [← hW2]; simp
  have hB1 : Below w.heap.size w W1 := by rw [← hW1]; exact (Below.refl _ w).alloc (Nat.le_refl _) _
  have hB2 : Below w.heap.size w W2 := by rw [← hW2]; exact hB1.alloc (by omega) _
  have hC : Hid (∀ x, Below W2.heap.size W2 x → x.cell? ⟨w.heap.size, 0, none⟩ = some (.slice vb lv vc) ∧ x.cell? ⟨w.heap.size, 1, none⟩ = some (.slice cb lc cc) ∧ x.cell? ⟨w.heap.size, 2, none⟩ = some (.slice nb ln nc) ∧ x.cell? ⟨w.heap.size, 3, none⟩ = some (.slice tb lt tc) ∧
      x.cell? ⟨W1.heap.size, 0, none⟩ = some (.slice vb' lv' vc') ∧ x.cell? ⟨W1.heap.size, 1, none⟩ = some (.slice cb' lc' cc') ∧ x.cell? ⟨W1.heap.size, 2, none⟩ = some (.slice nb' ln' nc') ∧ x.cell? ⟨W1.heap.size, 3, none⟩ = some (.slice tb' lt' tc')) := by
    intro x hx
    have a : ∀ (i : Nat) (v : Value), W1.cell? ⟨w.heap.size, i, none⟩ = some v → x.cell? ⟨w.heap.size, i, none⟩ = some v := fun i v h =>
      below_cell hx (below_cell (n := W1.heap.size) (by rw [← hW2]; exact (Below.refl _ _).alloc (Nat.le_refl _) _) h (by dsimp only; omega)) (by dsimp only; omega)
    have b : ∀ (i : Nat) (v : Value), W2.cell? ⟨W1.heap.size, i, none⟩ = some v → x.cell? ⟨W1.heap.size, i, none⟩ = some v := fun i v h => below_cell hx h (by dsimp only; omega)
    refine ⟨a 0 _ ?_, a 1 _ ?_, a 2 _ ?_, a 3 _ ?_, b 0 _ ?_, b 1 _ ?_, b 2 _ ?_, b 3 _ ?_⟩
    · rw [← hW1]; exact World.cell?_alloc_new w _ _ 0
    · rw [← hW1]; exact World.cell?_alloc_new w _ _ 1
    · rw [← hW1]; exact World.cell?_alloc_new w _ _ 2
    · rw [← hW1]; exact World.cell?_alloc_new w _ _ 3
    · rw [← hW2]; exact World.cell?_alloc_new W1 _ _ 0
    · rw [← hW2]; exact World.cell?_alloc_new W1 _ _ 1
    · rw [← hW2]; exact World.cell?_alloc_new W1 _ _ 2
    · rw [← hW2]; exact World.cell?_alloc_new W1 _ _ 3
  have hX := Below.refl W2.heap.size W2
  obtain ⟨c0, c1, c2, c3, d0, d1, d2, d3⟩ := hC.out W2 hX
  by_cases hdv : lv = lv'
  case neg =>
    have hz : allZ VX.eqB vars vars' = false := allZ_len _ _ _ (by omega)
    go_enter Try.func30, Try.ntmps30
    go_wp2_with fail
    all_goals first | (exfalso; omega) | skip
    go_returns
    exact ⟨ret_bool (by first | rfl | (rw [hz]; simp) | simp [hz]), hB2⟩
  subst hdv
  by_cases hdc : lc = lc'
  case neg =>
    have hz : allZ CX.eqB chans chans' = false := allZ_len _ _ _ (by omega)
    go_enter Try.func30, Try.ntmps30
    go_wp2_with fail
    all_goals first | (exfalso; omega) | skip
    go_returns
    exact ⟨ret_bool (by first | rfl | (rw [hz]; simp) | simp [hz]), hB2⟩
  subst hdc
  by_cases hdn : ln = ln'
  case neg =>
    have hz : allZ eqN1 locks locks' = false := allZ_len _ _ _ (by omega)
    go_enter Try.func30, Try.ntmps30
    go_wp2_with fail
    all_goals first | (exfalso; omega) | skip
    go_returns
    exact ⟨ret_bool (by first | rfl | (rw [hz]; simp) | simp [hz]), hB2⟩
  subst hdn
  by_cases hdt : lt = lt'
  case neg =>
    have hz : allZ LX.sameB tasks tasks' = false := allZ_len _ _ _ (by omega)
    go_enter Try.func30, Try.ntmps30
    go_wp2_with fail
    all_goals first | (exfalso; omega) | skip
    go_returns
    exact ⟨ret_bool (by first | rfl | (rw [hz]; simp) | simp [hz]), hB2⟩
  subst hdt
  go_enter Try.func30, Try.ntmps30
  go_wp2_with fail
  all_goals first | (exfalso; omega) | skip
  clear c0 c1 c2 c3 d0 d1 d2 d3
  go_loopw [5] (fun v5 wr => ∃ (i : Nat), v5 = .int .i64 i ∧ i ≤ lv ∧ Hid (upToZ VX.eqB vars vars' i) ∧ Below W2.heap.size W2 wr) (fun v5 _ => lv - (intOf v5).toNat)
  case atStart => exact ⟨0, rfl, by omega, fun j x y h => by omega, Below.refl _ _⟩
  case round =>
    obtain ⟨i, rfl, hi, hall, hB⟩ := hrel
    rename World => wv
    have hBw : Below w.heap.size w wv := hB2.trans (hB.mono (by omega))
    obtain ⟨c0, c1, c2, c3, d0, d1, d2, d3⟩ := hC.out wv hB
    by_cases hlt : i < lv
    · obtain ⟨x, hx⟩ : ∃ x, vars[i]? = some x := ⟨_, List.getElem?_eq_getElem (by omega)⟩
      obtain ⟨y, hy⟩ : ∃ y, vars'[i]? = some y := ⟨_, List.getElem?_eq_getElem (by omega)⟩
      obtain ⟨b1, o1, hbase1, hok1, hc1⟩ := hLv i x hx
      obtain ⟨b2, o2, hbase2, hok2, hc2⟩ := hUv i y hy
      have hd1 := hc1.below hBw (hok b1 hok1)
      have hd2 := hc2.below hBw (hok b2 hok2)
      subst hbase1
      subst hbase2
      haveI : Nonempty (Later wv) := ⟨⟨wv, Below.refl _ _⟩⟩
      have e0 := Later.cell hd1.c0
      have g0 := Later.cell hd2.c0
      have e1 := Later.cell hd1.c1
      have g1 := Later.cell hd2.c1
      have e2 := Later.cell hd1.c2
      have g2 := Later.cell hd2.c2
      have e3 := Later.cell hd1.c3
      have g3 := Later.cell hd2.c3
      have e4 := Later.cell hd1.c4
      have g4 := Later.cell hd2.c4
      have e5 := Later.cell hd1.c5
      have g5 := Later.cell hd2.c5
      have e6 := Later.cell hd1.c6
      have g6 := Later.cell hd2.c6
      have hq := VX.equal x y
      have hg := guardV
      have c0' := Later.cell c0
      have d0' := Later.cell d0
      go_wp2_with fail
      go_cut [60] (fun v wx => v = .bool (!VX.eqB x y) ∧ Below wv.heap.size wv wx)
      case first =>
        refine region_class (fun w' => ∃ z : Later wv, w' = z.at) (by kernel_rfl) (by kernel_rfl) ⟨⟨_, (Below.refl _ _).drew⟩, rfl⟩ ?_
        repeat (go_big_quiet_step (fail))
        refine wpQuiet_nil ?_
        rintro w' ⟨z, rfl⟩
        go_wp2_with fail
        go_meet
        case rel => exact ⟨rfl, Later.below z⟩
      case rest =>
        obtain ⟨hv0, hBx⟩ := hcut
        subst hv0
        clear hq
        cases hv : VX.eqB x y
        · go_wp2
          go_returns
          exact ⟨ret_bool (by have hz := allZ_bad hx hy hv; first | (rw [hz]; simp; done) | (simp [hz]; done)), hBw.trans (hBx.mono hBw.size)⟩
        · go_wp2
          go_roundw
          case rel => exact ⟨i + 1, by go_num, by omega, upToZ_next hall.out hx hy hv, hB.trans (hBx.mono hB.size)⟩
          case measure => simp [intOf]; omega
    · have hzv : allZ VX.eqB vars vars' = true := upToZ_all hall.out (by omega) (by omega)
      go_wp2_with fail
      all_goals first | (exfalso; omega) | skip
      clear c0 c1 c2 c3 d0 d1 d2 d3
      go_loopw [6] (fun v5 wr => ∃ (i : Nat), v5 = .int .i64 i ∧ i ≤ lc ∧ Hid (upToZ CX.eqB chans chans' i) ∧ Below W2.heap.size W2 wr) (fun v5 _ => lc - (intOf v5).toNat)
      case atStart => exact ⟨0, rfl, by omega, fun j x y h => by omega, hB⟩
      case round =>
        obtain ⟨i, rfl, hi, hall, hB⟩ := hrel
        rename World => wc
        have hBw : Below w.heap.size w wc := hB2.trans (hB.mono (by omega))
        obtain ⟨c0, c1, c2, c3, d0, d1, d2, d3⟩ := hC.out wc hB
        by_cases hlt : i < lc
        · obtain ⟨x, hx⟩ : ∃ x, chans[i]? = some x := ⟨_, List.getElem?_eq_getElem (by omega)⟩
          obtain ⟨y, hy⟩ : ∃ y, chans'[i]? = some y := ⟨_, List.getElem?_eq_getElem (by omega)⟩
          obtain ⟨b1, o1, hbase1, hok1, hc1⟩ := hLc i x hx
          obtain ⟨b2, o2, hbase2, hok2, hc2⟩ := hUc i y hy
          have hd1 := hc1.below hBw (hok b1 hok1)
          have hd2 := hc2.below hBw (hok b2 hok2)
          subst hbase1
          subst hbase2
          haveI : Nonempty (Later wc) := ⟨⟨wc, Below.refl _ _⟩⟩
          have e0 := Later.cell hd1.c0
          have g0 := Later.cell hd2.c0
          have e1 := Later.cell hd1.c1
          have g1 := Later.cell hd2.c1
          have e2 := Later.cell hd1.c2
          have g2 := Later.cell hd2.c2
          have e3 := Later.cell hd1.c3
          have g3 := Later.cell hd2.c3
          have hq := CX.equal x y
          have hg := guardC
          have c1' := Later.cell c1
          have d1' := Later.cell d1
          go_wp2_with fail
          go_cut [78] (fun v wx => v = .bool (!CX.eqB x y) ∧ Below wc.heap.size wc wx)
          case first =>
            refine region_class (fun w' => ∃ z : Later wc, w' = z.at) (by kernel_rfl) (by kernel_rfl) ⟨⟨_, (Below.refl _ _).drew⟩, rfl⟩ ?_
            repeat (go_big_quiet_step (fail))
            refine wpQuiet_nil ?_
            rintro w' ⟨z, rfl⟩
            go_wp2_with fail
            go_meet
            case rel => exact ⟨rfl, Later.below z⟩
          case rest =>
            obtain ⟨hv0, hBx⟩ := hcut
            subst hv0
            clear hq
            cases hv : CX.eqB x y
            · go_wp2
              go_returns
              exact ⟨ret_bool (by have hz := allZ_bad hx hy hv; first | (rw [hz]; simp; done) | (simp [hz]; done)), hBw.trans (hBx.mono hBw.size)⟩
            · go_wp2
              go_roundw
              case rel => exact ⟨i + 1, by go_num, by omega, upToZ_next hall.out hx hy hv, hB.trans (hBx.mono hB.size)⟩
              case measure => simp [intOf]; omega
        · have hzc : allZ CX.eqB chans chans' = true := upToZ_all hall.out (by omega) (by omega)
          go_wp2_with fail
          all_goals first | (exfalso; omega) | skip
          clear c0 c1 c2 c3 d0 d1 d2 d3
          go_loopw [7] (fun v5 wr => ∃ (i : Nat), v5 = .int .i64 i ∧ i ≤ ln ∧ Hid (upToZ eqN1 locks locks' i) ∧ Below W2.heap.size W2 wr) (fun v5 _ => ln - (intOf v5).toNat)
          case atStart => exact ⟨0, rfl, by omega, fun j x y h => by omega, hB⟩
          case round =>
            obtain ⟨i, rfl, hi, hall, hB⟩ := hrel
            rename World => wn
            have hBw : Below w.heap.size w wn := hB2.trans (hB.mono (by omega))
            obtain ⟨c0, c1, c2, c3, d0, d1, d2, d3⟩ := hC.out wn hB
            by_cases hlt : i < ln
            · obtain ⟨x, hx⟩ : ∃ x, locks[i]? = some x := ⟨_, List.getElem?_eq_getElem (by omega)⟩
              obtain ⟨y, hy⟩ : ∃ y, locks'[i]? = some y := ⟨_, List.getElem?_eq_getElem (by omega)⟩
              obtain ⟨b1, o1, hbase1, hok1, hc1⟩ := hLn i x hx
              obtain ⟨b2, o2, hbase2, hok2, hc2⟩ := hUn i y hy
              have hd1 := below_cell hBw hc1 (hok b1 hok1)
              have hd2 := below_cell hBw hc2 (hok b2 hok2)
              subst hbase1
              subst hbase2
              haveI : Nonempty (Later wn) := ⟨⟨wn, Below.refl _ _⟩⟩
              have e0 := Later.cell hd1
              have g0 := Later.cell hd2
              have hq : (x.toList == y.toList) = eqN1 x y := rfl
              have c2' := Later.cell c2
              have d2' := Later.cell d2
              go_wp2_with fail
              go_cut [96] (fun v wx => v = .bool (!eqN1 x y) ∧ Below wn.heap.size wn wx)
              case first =>
                refine region_class (fun w' => ∃ z : Later wn, w' = z.at) (by kernel_rfl) (by kernel_rfl) ⟨⟨_, (Below.refl _ _).drew⟩, rfl⟩ ?_
                repeat (go_big_quiet_step (fail))
                refine wpQuiet_nil ?_
                rintro w' ⟨z, rfl⟩
                go_wp2_with fail
                go_meet
                case rel => exact ⟨rfl, Later.below z⟩
              case rest =>
                obtain ⟨hv0, hBx⟩ := hcut
                subst hv0
                clear hq
                cases hv : eqN1 x y
                · go_wp2
                  go_returns
                  exact ⟨ret_bool (by have hz := allZ_bad hx hy hv; first | (rw [hz]; simp; done) | (simp [hz]; done)), hBw.trans (hBx.mono hBw.size)⟩
                · go_wp2
                  go_roundw
                  case rel => exact ⟨i + 1, by go_num, by omega, upToZ_next hall.out hx hy hv, hB.trans (hBx.mono hB.size)⟩
                  case measure => simp [intOf]; omega
            · have hzn : allZ eqN1 locks locks' = true := upToZ_all hall.out (by omega) (by omega)
              go_wp2_with fail
              all_goals first | (exfalso; omega) | skip
              clear c0 c1 c2 c3 d0 d1 d2 d3
              go_loopw [8] (fun v5 wr => ∃ (i : Nat), v5 = .int .i64 i ∧ i ≤ lt ∧ Hid (upToZ LX.sameB tasks tasks' i) ∧ Below W2.heap.size W2 wr) (fun v5 _ => lt - (intOf v5).toNat)
              case atStart => exact ⟨0, rfl, by omega, fun j x y h => by omega, hB⟩
              case round =>
                obtain ⟨i, rfl, hi, hall, hB⟩ := hrel
                rename World => wt
                have hBw : Below w.heap.size w wt := hB2.trans (hB.mono (by omega))
                obtain ⟨c0, c1, c2, c3, d0, d1, d2, d3⟩ := hC.out wt hB
                by_cases hlt : i < lt
                · obtain ⟨x, hx⟩ : ∃ x, tasks[i]? = some x := ⟨_, List.getElem?_eq_getElem (by omega)⟩
                  obtain ⟨y, hy⟩ : ∃ y, tasks'[i]? = some y := ⟨_, List.getElem?_eq_getElem (by omega)⟩
                  obtain ⟨b1, o1, hbase1, hok1, hc1⟩ := hLt i x hx
                  obtain ⟨b2, o2, hbase2, hok2, hc2⟩ := hUt i y hy
                  have hd1 := below_cell hBw hc1 (hok b1 hok1)
                  have hd2 := below_cell hBw hc2 (hok b2 hok2)
                  subst hbase1
                  subst hbase2
                  haveI : Nonempty (Later wt) := ⟨⟨wt, Below.refl _ _⟩⟩
                  have e0 := Later.cell hd1
                  have g0 := Later.cell hd2
                  have hokr : ∀ b, ok b → b < wt.heap.size := fun b hb => Nat.lt_of_lt_of_le (hok b hb) hBw.size
                  have hLx := (hLk i x hx).under hBw hok
                  have hLy := (hUk i y hy).under hBw hok
                  have mx := (hft i x hx).small
                  have my := (hft' i y hy).small
                  have m1 := mx.len
                  have m2 := my.len
                  have H' : Hid (∀ z : Later wt, Calls Try.prog 80 #[.slice x.base x.l.length x.cap, .slice y.base y.l.length y.cap] z.at fun e w'' => e = .returned (.bool (x.sameB y)) ∧ Below z.at.heap.size z.at w'') := fun z => by
                    have hz := Later.below z
                    exact specSameL _ x.l y.l (Nat.le_refl _) (by omega) (by omega) mx.kid my.kid _ _ _ _ ok z.at (fun b hb => Nat.lt_of_lt_of_le (hokr b hb) hz.size) (hLx.row.under hz hokr) (hLy.row.under hz hokr) (fun i k hk => (hLx.kid i k hk).under hz hokr) (fun i k hk => (hLy.kid i k hk).under hz hokr)
                  have hq : True := trivial
                  clear hLx hLy
                  have c3' := Later.cell c3
                  have d3' := Later.cell d3
                  go_wp2_with fail
                  go_cut [115] (fun v wx => v = .bool (!LX.sameB x y) ∧ Below wt.heap.size wt wx)
                  case first =>
                    refine region_class (fun w' => ∃ z : Later wt, w' = z.at) (by kernel_rfl) (by kernel_rfl) ⟨⟨_, (Below.refl _ _).drew⟩, rfl⟩ ?_
                    repeat (go_big_quiet_step ((go_at_call 80; refine (H'.out _).mono ?_; rintro e w2 ⟨rfl, hb⟩; exact ⟨rfl, ⟨_, bstep (Later.below _) hb⟩, rfl⟩)))
                    refine wpQuiet_nil ?_
                    rintro w' ⟨z, rfl⟩
                    go_wp2_with fail
                    go_meet
                    case rel => exact ⟨rfl, Later.below z⟩
                  case rest =>
                    obtain ⟨hv0, hBx⟩ := hcut
                    subst hv0
                    clear hq
                    cases hv : LX.sameB x y
                    · go_wp2
                      go_returns
                      exact ⟨ret_bool (by have hz := allZ_bad hx hy hv; first | (rw [hz]; simp; done) | (simp [hz]; done)), hBw.trans (hBx.mono hBw.size)⟩
                    · go_wp2
                      go_roundw
                      case rel => exact ⟨i + 1, by go_num, by omega, upToZ_next hall.out hx hy hv, hB.trans (hBx.mono hB.size)⟩
                      case measure => simp [intOf]; omega
                · have hzt : allZ LX.sameB tasks tasks' = true := upToZ_all hall.out (by omega) (by omega)
                  go_wp2_with fail
                  all_goals first | (exfalso; omega) | skip
                  clear c0 c1 c2 c3 d0 d1 d2 d3
                  go_returns
                  exact ⟨ret_bool (by first | rfl | (rw [hzv, hzc, hzn, hzt]; simp; done) | (simp [hzv, hzc, hzn, hzt]; done)), hBw⟩
end Go.Proofs.Ytiabnpbhhiacmaa
