/-
  What the specification answers of a program: what the program answers.
-/
import Derived.Test.YtiabnpbhhiacmaaOkO
import Derived.Test.YtiabnpbhhiacmaaOkK
namespace Go.Proofs.Ytiabnpbhhiacmaa
open Go.RowKit Go.Shelf
set_option linter.unusedSimpArgs false
set_option linter.unusedVariables false
attribute [local go_sem] Oper.semAt_some

theorem mxI_comm (a b : Int) : mxI a b = mxI b a := by
  unfold mxI
  repeat' split
  all_goals omega
set_option maxRecDepth 10000 in
set_option maxHeartbeats 2000000 in
theorem PX.specOk (p : PX) (hm : p.Small) (hN : p.Names) (hT : ∀ (i : Nat) (t : LX), p.tasks[i]? = some t → SX.sizeAll t.l ≤ 1048577) (ok : Nat → Prop) (w : World) (hok : ∀ b, ok b → b < w.heap.size) (hL : PX.Lies ok w p) :
    Calls Try.prog 19 #[p.val] w fun e w' => e = .returned (.bool p.okI) ∧ Below w.heap.size w w' := by
  obtain ⟨vb, vc, vars, cb, cc, chans, nb, nc, locks, tb, tc, tasks⟩ := p
  dsimp only at hT
  obtain ⟨W1, hW1⟩ : ∃ W1, w.alloc (.cells #[.slice vb vars.length vc, .slice cb chans.length cc, .slice nb locks.length nc, .slice tb tasks.length tc] 49) = W1 := ⟨_, rfl⟩
  have hB1 : Below w.heap.size w W1 := by rw [← hW1]; exact (Below.refl _ w).alloc (Nat.le_refl _) _
  have hs1 : W1.heap.size = w.heap.size + 1 := by rw [← hW1]; simp
  have hA : PX.At W1 w.heap.size (PX.mk vb vc vars cb cc chans nb nc locks tb tc tasks) := by rw [← hW1]; exact PX.At.new w (PX.mk vb vc vars cb cc chans nb nc locks tb tc tasks) _
  have hL1 := hL.under hB1 hok
  have hok1 : ∀ b, ok b → b < W1.heap.size := fun b hb => by have := hok b hb; omega
  have HD : Hid (∀ x, Below W1.heap.size W1 x → Calls Try.prog 53 #[(PX.mk vb vc vars cb cc chans nb nc locks tb tc tasks).val] x fun e w' => e = .returned (.bool (vars.all (fun v => v.okB (mxI tasks.length 1)) && (chans.all (fun v => v.okB) && locks.all (fun v => nameB v)))) ∧ Below x.heap.size x w') := fun x hx => by
    have h := PX.specDecls (PX.mk vb vc vars cb cc chans nb nc locks tb tc tasks) hm hN ok x (fun b hb => Nat.lt_of_lt_of_le (hok1 b hb) hx.size) (hL1.under hx hok1)
    rw [mxI_comm] at h
    exact h
  obtain ⟨vl, cl, nl, tl, hmt⟩ := hm
  dsimp only at vl cl nl tl hmt
  have HT : Hid (∀ (i : Nat) (t : LX) x, tasks[i]? = some t → Below W1.heap.size W1 x → ∃ n m : Nat, Calls Try.prog 54 #[.slice t.base t.l.length t.cap, .int .i64 1] x fun e w' => e = .returned (.tuple #[.int .i64 n, .int .i64 m, .bool (taskI t.l)]) ∧ Below x.heap.size x w') := fun i t x ht hx => by
    have hLt := (hL1.k i t ht).under hx hok1
    have h := specList _ t.l (Nat.le_refl _) (hT i t ht) (hmt i t ht).kid t.base t.cap ok x (fun b hb => Nat.lt_of_lt_of_le (hok1 b hb) hx.size) hLt.row hLt.kid 1 (by omega)
    rw [task_same t.l (hmt i t ht).kid] at h
    exact ⟨_, _, h⟩
  have hlens : vars.length ≤ 6 → chans.length ≤ 3 → locks.length ≤ 3 → tasks.length ≤ 4 → (PX.mk vb vc vars cb cc chans nb nc locks tb tc tasks).lens = true := fun h1 h2 h3 h4 => by simp [PX.lens, h1, h2, h3, h4]
  have hlens' : ¬ (vars.length ≤ 6 ∧ chans.length ≤ 3 ∧ locks.length ≤ 3 ∧ tasks.length ≤ 4) → (PX.mk vb vc vars cb cc chans nb nc locks tb tc tasks).okI = false := fun h => by unfold PX.okI PX.lens; rw [decide_eq_false h, Bool.false_and]
  obtain ⟨bd, qd⟩ : ∃ b, (vars.all (fun v => v.okB (mxI tasks.length 1)) && (chans.all (fun v => v.okB) && locks.all (fun v => nameB v))) = b := ⟨_, rfl⟩
  have hokI : (PX.mk vb vc vars cb cc chans nb nc locks tb tc tasks).okI = ((PX.mk vb vc vars cb cc chans nb nc locks tb tc tasks).lens && (bd && tasks.all (fun t => taskI t.l))) := by
    rw [← qd]
    unfold PX.okI
    simp only [Bool.and_assoc]
  obtain ⟨c0, c1, c2, c3⟩ := hA.below (Below.refl W1.heap.size W1) (by omega)
  have hrl : ∀ b, (PX.mk vb vc vars cb cc chans nb nc locks tb tc tasks).lens = true → ((PX.mk vb vc vars cb cc chans nb nc locks tb tc tasks).lens && b) = b := fun b h => by rw [h, Bool.true_and]
  have hOK : Hid ((PX.mk vb vc vars cb cc chans nb nc locks tb tc tasks).okI = ((PX.mk vb vc vars cb cc chans nb nc locks tb tc tasks).lens && (bd && tasks.all (fun t => taskI t.l)))) := hokI
  clear hokI
  have hOut : Hid (¬ (vars.length ≤ 6 ∧ chans.length ≤ 3 ∧ locks.length ≤ 3 ∧ tasks.length ≤ 4) → (PX.mk vb vc vars cb cc chans nb nc locks tb tc tasks).okI = false) := hlens'
  clear hlens'
  dsimp only [PX.val]
  dsimp only at c0 c1 c2 c3
  go_enter Try.func19, Try.ntmps19
  go_wp2_with fail
  · have hl : (PX.mk vb vc vars cb cc chans nb nc locks tb tc tasks).lens = true := hlens (by omega) (by omega) (by omega) (by omega)
    go_at_call 53
    refine (HD.out _ (Below.refl W1.heap.size W1)).mono ?_
    rintro e w2 ⟨rfl, hX2⟩
    rw [qd]
    clear c0 c1 c2 c3
    obtain ⟨c0, c1, c2, c3⟩ := hA.below hX2 (by omega)
    dsimp only at c0 c1 c2 c3
    cases bd
    · have hr : (PX.mk vb vc vars cb cc chans nb nc locks tb tc tasks).okI = false := by rw [hOK.out]; simp
      go_wp2
      go_returns
      exact ⟨ret_bool hr.symm, hB1.trans (hX2.mono (by omega))⟩
    · have hr : Hid ((PX.mk vb vc vars cb cc chans nb nc locks tb tc tasks).okI = tasks.all (fun t => taskI t.l)) := by show _ = _; rw [hOK.out, hl]; simp
      clear hOK
      go_wp2_with fail
      go_loopw [3] (fun v3 wr => ∃ (i : Nat), v3 = .int .i64 i ∧ i ≤ tasks.length ∧ (tasks.take i).all (fun t => taskI t.l) = true ∧ Below W1.heap.size W1 wr) (fun v3 _ => tasks.length - (intOf v3).toNat)
      case atStart => exact ⟨0, rfl, by omega, by simp, hX2⟩
      case round =>
        obtain ⟨i, rfl, hi, hall, hX⟩ := hrel
        clear c0 c1 c2 c3
        obtain ⟨c0, c1, c2, c3⟩ := hA.below hX (by omega)
        dsimp only at c0 c1 c2 c3
        by_cases hlt : i < tasks.length
        · obtain ⟨t, ht⟩ : ∃ t, tasks[i]? = some t := ⟨_, List.getElem?_eq_getElem hlt⟩
          obtain ⟨b1, o1, hbase1, hob, hc1⟩ := hL1.t i t ht
          dsimp only at hbase1
          have d0 := below_cell hX hc1 (hok1 b1 hob)
          obtain ⟨n1, n2, hcall⟩ := HT.out i t wr ht hX
          subst hbase1
          cases hv : taskI t.l
          · rw [hv] at hcall
            go_wp2_with (go_at_call 54; refine hcall.mono ?_; rintro e w5 ⟨rfl, hb⟩)
            all_goals first | (exfalso; omega) | skip
            go_returns
            refine ⟨ret_bool ?_, hB1.trans ((bstep hX hb).mono (by omega))⟩
            rw [hr.out, all_bad (fun t : LX => taskI t.l) ht hv]
          · rw [hv] at hcall
            go_wp2_with (go_at_call 54; refine hcall.mono ?_; rintro e w5 ⟨rfl, hb⟩)
            all_goals first | (exfalso; omega) | skip
            exact ⟨⟨i + 1, by go_num, by omega, all_take (fun t : LX => taskI t.l) ht hall hv, bstep hX hb⟩, by simp [intOf]; omega⟩
        · have hfull : tasks.take i = tasks := List.take_of_length_le (by omega)
          rw [hfull] at hall
          go_wp2
          all_goals first | (exfalso; omega) | skip
          go_returns
          exact ⟨ret_bool (by rw [hr.out, hall]), hB1.trans (hX.mono (by omega))⟩
  all_goals
    go_returns
    exact ⟨ret_bool (hOut.out (by omega)).symm, hB1⟩
end Go.Proofs.Ytiabnpbhhiacmaa
