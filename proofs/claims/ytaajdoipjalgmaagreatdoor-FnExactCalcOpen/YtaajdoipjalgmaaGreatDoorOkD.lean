/-
  What the specification answers of what is declared.
-/
import Derived.Test.YtaajdoipjalgmaaGreatDoorOkC
namespace Go.Proofs.YtaajdoipjalgmaaGreatDoor
open Go.RowKit
set_option linter.unusedSimpArgs false
set_option linter.unusedVariables false
attribute [local go_sem] Oper.semAt_some

structure PX.Names (p : PX) : Prop where
  v : ∀ (i : Nat) (k : VX), p.vars[i]? = some k → k.name.size ≤ 1048576 ∧ k.lock.size ≤ 1048576
  c : ∀ (i : Nat) (k : CX), p.chans[i]? = some k → k.name.size ≤ 1048576
  n : ∀ (i : Nat) (k : ByteArray), p.locks[i]? = some k → k.size ≤ 1048576
theorem PX.names {p : PX} (h : p.tot ≤ 1048576) : p.Names := by
  unfold PX.tot at h
  refine ⟨fun i k hk => ?_, fun i k hk => ?_, fun i k hk => ?_⟩
  · have h1 := sumOf_get VX.tot hk
    have h2 : k.tot = k.name.size + k.lock.size := rfl
    omega
  · have h1 := sumOf_get CX.tot hk
    have h2 : k.tot = k.name.size := rfl
    omega
  · have := sumOf_get ByteArray.size hk
    omega
set_option maxRecDepth 10000 in
set_option maxHeartbeats 4000000 in
theorem PX.specDecls (p : PX) (hm : p.Small) (hN : p.Names) (ok : Nat → Prop) (w : World) (hok : ∀ b, ok b → b < w.heap.size) (hL : PX.Lies ok w p) :
    Calls Tryz.prog 89 #[p.val] w fun e w' => e = .returned (.bool (p.vars.all (fun v => v.okB (mxI 1 p.tasks.length)) && (p.chans.all (fun v => v.okB) && p.locks.all (fun v => nameB v)))) ∧ Below w.heap.size w w' := by
  obtain ⟨vb, vc, vars, cb, cc, chans, nb, nc, locks, tb, tc, tasks⟩ := p
  obtain ⟨m1, m2, m3, m4, m5⟩ := hm
  obtain ⟨nv, ncn, nn⟩ := hN
  dsimp only at m1 m2 m3 m4 nv ncn nn ⊢
  obtain ⟨W1, hW1⟩ : ∃ W1, w.alloc (.cells #[.slice vb vars.length vc, .slice cb chans.length cc, .slice nb locks.length nc, .slice tb tasks.length tc] 35) = W1 := ⟨_, rfl⟩
  have hs1 : w.heap.size + 1 = W1.heap.size := by rw [← hW1]; simp
  have hB1 : Below w.heap.size w W1 := by rw [← hW1]; exact (Below.refl _ w).alloc (Nat.le_refl _) _
  have hP : PX.At W1 w.heap.size ⟨vb, vc, vars, cb, cc, chans, nb, nc, locks, tb, tc, tasks⟩ := by rw [← hW1]; exact PX.At.new w ⟨vb, vc, vars, cb, cc, chans, nb, nc, locks, tb, tc, tasks⟩ _
  have hok1 : ∀ b, ok b → b < W1.heap.size := fun b hb => by have := hok b hb; omega
  obtain ⟨lv, lc, ln, lt, lk⟩ := hL.under hB1 hok
  dsimp only at lv lc ln
  obtain ⟨tl, htl⟩ : ∃ tl, tasks.length = tl := ⟨_, rfl⟩
  obtain ⟨n1, hn1⟩ : ∃ n, vars.length = n := ⟨_, rfl⟩
  obtain ⟨n2, hn2⟩ : ∃ n, chans.length = n := ⟨_, rfl⟩
  obtain ⟨n3, hn3⟩ : ∃ n, locks.length = n := ⟨_, rfl⟩
  obtain ⟨a0, a1, a2, a3⟩ := hP
  dsimp only at a0 a1 a2 a3
  rw [hn1] at a0
  rw [hn2] at a1
  rw [hn3] at a2
  rw [htl] at a3
  have cells : ∀ W, Below W1.heap.size W1 W → W.cell? ⟨w.heap.size, 0, none⟩ = some (.slice vb n1 vc) ∧ W.cell? ⟨w.heap.size, 1, none⟩ = some (.slice cb n2 cc) ∧ W.cell? ⟨w.heap.size, 2, none⟩ = some (.slice nb n3 nc) ∧ W.cell? ⟨w.heap.size, 3, none⟩ = some (.slice tb tl tc) := fun W hB =>
    ⟨below_cell hB a0 (by dsimp only; omega), below_cell hB a1 (by dsimp only; omega), below_cell hB a2 (by dsimp only; omega), below_cell hB a3 (by dsimp only; omega)⟩
  try dsimp only [PX.val]
  rw [hn1, hn2, hn3, htl] at hW1 ⊢
  go_enter Tryz.func89, Tryz.ntmps89
  go_wp2
  go_loopw [3] (fun v3 wr => ∃ (i : Nat), v3 = .int .i64 i ∧ i ≤ n1 ∧ (vars.take i).all (fun v => v.okB (mxI 1 tl)) = true ∧ Below W1.heap.size W1 wr) (fun v3 _ => n1 - (intOf v3).toNat)
  case atStart => exact ⟨0, rfl, by omega, by simp, Below.refl _ _⟩
  case round =>
    obtain ⟨i, rfl, hi, hall, hB⟩ := hrel
    obtain ⟨f0, f1, f2, f3⟩ := cells wr hB
    by_cases hlt : i < n1
    · obtain ⟨v, hx⟩ : ∃ x, vars[i]? = some x := ⟨_, List.getElem?_eq_getElem (by omega)⟩
      obtain ⟨b1, o1, hbase1, hokb, hc1⟩ := lv i v hx
      have hd := hc1.below hB (hok1 b1 hokb)
      have hsm := nv i v hx
      subst hbase1
      haveI : Nonempty (Later wr) := ⟨⟨wr, Below.refl _ _⟩⟩
      have g0 := Later.cell f0
      have g3 := Later.cell f3
      have e0 := Later.cell hd.c0
      have e1 := Later.cell hd.c1
      have e2 := Later.cell hd.c2
      have e3 := Later.cell hd.c3
      have e4 := Later.cell hd.c4
      have e5 := Later.cell hd.c5
      have e6 := Later.cell hd.c6
      go_wp2_with fail
      refine region_class (fun w' => ∃ x : Later wr, w' = x.at) (by kernel_rfl) (by kernel_rfl) ⟨⟨_, (Below.refl _ _).drew⟩, rfl⟩ ?_
      repeat (go_big_quiet_step (first | (go_at_call 79; refine (l1Max _ _ _).mono ?_; rintro e w2 ⟨rfl, hw2⟩; subst w2; exact ⟨rfl, _, rfl⟩) | (go_at_call 115; refine (VX.specOk v hsm.1 hsm.2 _ _).mono ?_; rintro e w2 ⟨rfl, hb⟩; exact ⟨rfl, ⟨_, bstep (Subtype.property _) hb⟩, rfl⟩)))
      refine wpQuiet_nil ?_
      rintro w' ⟨z, rfl⟩
      have hBz := hB.trans ((Later.below z).mono hB.size)
      cases hv : v.okB (mxI 1 tl)
      · go_wp2
        go_returns
        exact ⟨ret_bool (by rw [all_bad (fun v => v.okB (mxI 1 tl)) hx hv]; rfl), hB1.trans (hBz.mono (by omega))⟩
      · go_wp2
        go_roundw
        case rel => exact ⟨i + 1, by go_num, by omega, all_take (fun v => v.okB (mxI 1 tl)) hx hall hv, hBz⟩
        case measure => simp [intOf]; omega
    · have hfull : vars.take i = vars := List.take_of_length_le (by omega)
      rw [hfull] at hall
      have hB0 := hB
      go_wp2
      go_loopw [4] (fun v4 wr => ∃ (j : Nat), v4 = .int .i64 j ∧ j ≤ n2 ∧ (chans.take j).all (fun v => v.okB) = true ∧ Below W1.heap.size W1 wr) (fun v4 _ => n2 - (intOf v4).toNat)
      case atStart => exact ⟨0, rfl, by omega, by simp, hB⟩
      case round =>
        clear f0 f1 f2 f3
        obtain ⟨j, rfl, hj, hall2, hB⟩ := hrel
        obtain ⟨f0, f1, f2, f3⟩ := cells _ hB
        by_cases hlt2 : j < n2
        · obtain ⟨v, hx⟩ : ∃ x, chans[j]? = some x := ⟨_, List.getElem?_eq_getElem (by omega)⟩
          obtain ⟨b1, o1, hbase1, hokb, hc1⟩ := lc j v hx
          obtain ⟨e0, e1, e2, e3⟩ := hc1.below hB (hok1 b1 hokb)
          have hsm := ncn j v hx
          subst hbase1
          obtain ⟨W4, hW4⟩ : ∃ W4, wr.alloc (.cells #[.string v.name, .int .i64 v.cap, .int .i64 v.lo, .int .i64 v.hi] 101) = W4 := ⟨_, rfl⟩
          have hs4 : wr.heap.size + 1 = W4.heap.size := by rw [← hW4]; simp
          have hC4 : CX.At W4 wr.heap.size 0 v := by rw [← hW4]; exact ⟨World.cell?_alloc_new wr _ _ 0, World.cell?_alloc_new wr _ _ 1, World.cell?_alloc_new wr _ _ 2, World.cell?_alloc_new wr _ _ 3⟩
          have hB4 : Below W1.heap.size W1 W4 := by rw [← hW4]; exact balloc hB _
          have hX := Below.refl W4.heap.size W4
          obtain ⟨c0, c1, c2, c3⟩ := hC4.below hX (by omega)
          cases q1 : nameB v.name
          · skip
            go_wp2_with (first | (go_at_call 116; refine (specName v.name _ hsm).mono ?_; rintro e wn ⟨rfl, hb⟩; (replace hX := hX.trans (hb.mono hX.size)); (obtain ⟨c0, c1, c2, c3⟩ := hC4.below hX (by omega)); (clear hb)) | (go_at_call 117; refine (specOk v.lo v.hi _).mono ?_; rintro e wn ⟨rfl, hb⟩; (replace hX := hX.trans (hb.mono hX.size)); (obtain ⟨c0, c1, c2, c3⟩ := hC4.below hX (by omega)); (clear hb)))
            all_goals first | (exfalso; omega) | skip
            go_returns
            exact ⟨ret_bool (by rw [hall, all_bad (fun v => v.okB) hx (by simp [CX.okB, q1])]; rfl), hB1.trans ((hB4.trans (hX.mono hB4.size)).mono (by omega))⟩
          by_cases q2 : v.cap < 1
          · skip
            go_wp2_with (first | (go_at_call 116; refine (specName v.name _ hsm).mono ?_; rintro e wn ⟨rfl, hb⟩; (replace hX := hX.trans (hb.mono hX.size)); (obtain ⟨c0, c1, c2, c3⟩ := hC4.below hX (by omega)); (clear hb)) | (go_at_call 117; refine (specOk v.lo v.hi _).mono ?_; rintro e wn ⟨rfl, hb⟩; (replace hX := hX.trans (hb.mono hX.size)); (obtain ⟨c0, c1, c2, c3⟩ := hC4.below hX (by omega)); (clear hb)))
            all_goals first | (exfalso; omega) | skip
            go_returns
            exact ⟨ret_bool (by rw [hall, all_bad (fun v => v.okB) hx (by rw [CX.okB, show decide (1 ≤ v.cap ∧ v.cap ≤ 4) = false from decide_eq_false (by omega)]; simp)]; rfl), hB1.trans ((hB4.trans (hX.mono hB4.size)).mono (by omega))⟩
          by_cases q3 : 4 < v.cap
          · skip
            go_wp2_with (first | (go_at_call 116; refine (specName v.name _ hsm).mono ?_; rintro e wn ⟨rfl, hb⟩; (replace hX := hX.trans (hb.mono hX.size)); (obtain ⟨c0, c1, c2, c3⟩ := hC4.below hX (by omega)); (clear hb)) | (go_at_call 117; refine (specOk v.lo v.hi _).mono ?_; rintro e wn ⟨rfl, hb⟩; (replace hX := hX.trans (hb.mono hX.size)); (obtain ⟨c0, c1, c2, c3⟩ := hC4.below hX (by omega)); (clear hb)))
            all_goals first | (exfalso; omega) | skip
            go_returns
            exact ⟨ret_bool (by rw [hall, all_bad (fun v => v.okB) hx (by rw [CX.okB, show decide (1 ≤ v.cap ∧ v.cap ≤ 4) = false from decide_eq_false (by omega)]; simp)]; rfl), hB1.trans ((hB4.trans (hX.mono hB4.size)).mono (by omega))⟩
          cases q4 : Go.Proofs.YtaajdoipjalgmaaGreatDoor.okB v.lo v.hi
          · skip
            go_wp2_with (first | (go_at_call 116; refine (specName v.name _ hsm).mono ?_; rintro e wn ⟨rfl, hb⟩; (replace hX := hX.trans (hb.mono hX.size)); (obtain ⟨c0, c1, c2, c3⟩ := hC4.below hX (by omega)); (clear hb)) | (go_at_call 117; refine (specOk v.lo v.hi _).mono ?_; rintro e wn ⟨rfl, hb⟩; (replace hX := hX.trans (hb.mono hX.size)); (obtain ⟨c0, c1, c2, c3⟩ := hC4.below hX (by omega)); (clear hb)))
            all_goals first | (exfalso; omega) | skip
            go_returns
            exact ⟨ret_bool (by rw [hall, all_bad (fun v => v.okB) hx (by simp [CX.okB, q4])]; rfl), hB1.trans ((hB4.trans (hX.mono hB4.size)).mono (by omega))⟩
          go_wp2_with (first | (go_at_call 116; refine (specName v.name _ hsm).mono ?_; rintro e wn ⟨rfl, hb⟩; (replace hX := hX.trans (hb.mono hX.size)); (obtain ⟨c0, c1, c2, c3⟩ := hC4.below hX (by omega)); (clear hb)) | (go_at_call 117; refine (specOk v.lo v.hi _).mono ?_; rintro e wn ⟨rfl, hb⟩; (replace hX := hX.trans (hb.mono hX.size)); (obtain ⟨c0, c1, c2, c3⟩ := hC4.below hX (by omega)); (clear hb)))
          all_goals first | (exfalso; omega) | skip
          go_roundw
          case rel => exact ⟨j + 1, by go_num, by omega, all_take (fun v => v.okB) hx hall2 (by simp [CX.okB, q1, q4]; omega), hB4.trans (hX.mono hB4.size)⟩
          case measure => simp [intOf]; omega
        · have hfull2 : chans.take j = chans := List.take_of_length_le (by omega)
          rw [hfull2] at hall2
          go_wp2
          go_loopw [6] (fun v6 wr => ∃ (k : Nat), v6 = .int .i64 k ∧ k ≤ n3 ∧ (locks.take k).all (fun v => nameB v) = true ∧ Below W1.heap.size W1 wr) (fun v6 _ => n3 - (intOf v6).toNat)
          case atStart => exact ⟨0, rfl, by omega, by simp, hB⟩
          case round =>
            clear f0 f1 f2 f3
            obtain ⟨k, rfl, hk, hall3, hB⟩ := hrel
            obtain ⟨f0, f1, f2, f3⟩ := cells _ hB
            by_cases hlt3 : k < n3
            · obtain ⟨v, hx⟩ : ∃ x, locks[k]? = some x := ⟨_, List.getElem?_eq_getElem (by omega)⟩
              obtain ⟨b1, o1, hbase1, hokb, hc1⟩ := ln k v hx
              have e0 := below_cell hB hc1 (hok1 b1 hokb)
              have hsm := nn k v hx
              subst hbase1
              cases hv : nameB v
              · go_wp2_with (go_at_call 116; refine (specName v _ hsm).mono ?_; rintro e wn ⟨rfl, hb⟩; rw [hv])
                go_returns
                exact ⟨ret_bool (by rw [hall, hall2, all_bad (fun v => nameB v) hx hv]; rfl), hB1.trans ((bstep hB hb).mono (by omega))⟩
              · go_wp2_with (go_at_call 116; refine (specName v _ hsm).mono ?_; rintro e wn ⟨rfl, hb⟩; rw [hv])
                go_roundw
                case rel => exact ⟨k + 1, by go_num, by omega, all_take (fun v => nameB v) hx hall3 hv, bstep hB hb⟩
                case measure => simp [intOf]; omega
            · have hfull3 : locks.take k = locks := List.take_of_length_le (by omega)
              rw [hfull3] at hall3
              go_wp2
              go_returns
              exact ⟨ret_bool (by rw [hall, hall2, hall3]; rfl), hB1.trans (hB.mono (by omega))⟩
end Go.Proofs.YtaajdoipjalgmaaGreatDoor
