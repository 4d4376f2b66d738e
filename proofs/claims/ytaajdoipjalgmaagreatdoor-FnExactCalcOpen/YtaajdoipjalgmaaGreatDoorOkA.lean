/-
  What both sides answer of one variable and of one channel.
-/
import Derived.Test.YtaajdoipjalgmaaGreatDoorProgD
namespace Go.Proofs.YtaajdoipjalgmaaGreatDoor
open Go.RowKit
set_option linter.unusedSimpArgs false
set_option linter.unusedVariables false
attribute [local go_sem] Oper.semAt_some

def VX.ownB (v : VX) (tasks : Int) : Bool := if v.lock.toList.isEmpty then decide (0 ≤ v.task ∧ v.task < tasks) else (nameB v.lock && (v.task == 0))
theorem decide_and (p q : Prop) [Decidable p] [Decidable q] : decide (p ∧ q) = (decide p && decide q) := by by_cases hp : p <;> by_cases hq : q <;> simp [hp, hq]
def VX.okB (v : VX) (tasks : Int) : Bool := nameB v.name && (decide (0 ≤ v.size ∧ v.size ≤ 6) && ((Go.Proofs.YtaajdoipjalgmaaGreatDoor.okB v.lo v.hi && hasB v.lo v.hi v.init) && v.ownB tasks))
def CX.okB (v : CX) : Bool := nameB v.name && (decide (1 ≤ v.cap ∧ v.cap ≤ 4) && Go.Proofs.YtaajdoipjalgmaaGreatDoor.okB v.lo v.hi)
theorem VX.span (v : VX) (w : World) : Calls Tryz.prog 163 #[v.val] w fun e w' => e = .returned (.agg #[.int .i64 v.lo, .int .i64 v.hi]) ∧ Below w.heap.size w w' := by
  go_enter Tryz.func163, Tryz.ntmps163
  go_wp2
  first | go_returns | (refine bodyPost_ret (by simp [results, Tryz.results163, go_sem, *]; try rfl) rfl ?_)
  refine ⟨rfl, ?_⟩
  repeat' (first | (with_reducible exact Below.refl _ _) | (with_reducible assumption) | (with_reducible refine balloc ?_ _) | (with_reducible refine bdrew ?_) | (with_reducible refine Below.setCell ?_ ?_ _) | (with_reducible refine bstep ?_ (by with_reducible assumption)) | go_size)
theorem CX.span (v : CX) (w : World) : Calls Tryz.prog 166 #[v.val] w fun e w' => e = .returned (.agg #[.int .i64 v.lo, .int .i64 v.hi]) ∧ Below w.heap.size w w' := by
  go_enter Tryz.func166, Tryz.ntmps166
  go_wp2
  first | go_returns | (refine bodyPost_ret (by simp [results, Tryz.results166, go_sem, *]; try rfl) rfl ?_)
  refine ⟨rfl, ?_⟩
  repeat' (first | (with_reducible exact Below.refl _ _) | (with_reducible assumption) | (with_reducible refine balloc ?_ _) | (with_reducible refine bdrew ?_) | (with_reducible refine Below.setCell ?_ ?_ _) | (with_reducible refine bstep ?_ (by with_reducible assumption)) | go_size)
set_option maxHeartbeats 2000000 in
theorem VX.implOwn (v : VX) (hl : v.lock.size ≤ 1048576) (t : Int) (w : World) : Calls Tryz.prog 164 #[v.val, .int .i64 t] w fun e w' => e = .returned (.bool (v.ownB (mxI t 1))) ∧ Below w.heap.size w w' := by
  obtain ⟨W1, hW1⟩ : ∃ W1, w.alloc (.cells #[.string v.name, .int .i64 v.size, .int .i64 v.init, .int .i64 v.lo, .int .i64 v.hi, .string v.lock, .int .i64 v.task] 58) = W1 := ⟨_, rfl⟩
  have hs1 : w.heap.size + 1 = W1.heap.size := by rw [← hW1]; simp
  have hB1 : Below w.heap.size w W1 := by rw [← hW1]; exact (Below.refl _ w).alloc (Nat.le_refl _) _
  have hC : VX.At W1 w.heap.size 0 v := by
    rw [← hW1]
    exact ⟨World.cell?_alloc_new w _ _ 0, World.cell?_alloc_new w _ _ 1, World.cell?_alloc_new w _ _ 2, World.cell?_alloc_new w _ _ 3, World.cell?_alloc_new w _ _ 4, World.cell?_alloc_new w _ _ 5, World.cell?_alloc_new w _ _ 6⟩
  have hX := Below.refl W1.heap.size W1
  obtain ⟨c0, c1, c2, c3, c4, c5, c6⟩ := hC.below hX (by omega)
  go_enter Tryz.func164, Tryz.ntmps164
  cases hlk : v.lock.toList.isEmpty
  · go_wp2_with (go_at_call 132; refine (implName v.lock _ hl).mono ?_; rintro e wn ⟨rfl, hw⟩; subst wn)
    all_goals
      go_returns
      refine ⟨ret_bool ?_, hB1.trans (hX.mono (by omega))⟩
      first | (simp_all [VX.ownB]; done) | (rw [Bool.eq_iff_iff]; simp_all [VX.ownB]; done)
  · go_wp2_with fail
    haveI : Nonempty (Later W1) := ⟨⟨W1, Below.refl _ _⟩⟩
    have e0 := Later.cell hC.c0
    have e1 := Later.cell hC.c1
    have e2 := Later.cell hC.c2
    have e3 := Later.cell hC.c3
    have e4 := Later.cell hC.c4
    have e5 := Later.cell hC.c5
    have e6 := Later.cell hC.c6
    refine region_class (fun w' => ∃ x : Later W1, w' = x.at) (by kernel_rfl) (by kernel_rfl) ⟨⟨_, hX.drew⟩, rfl⟩ ?_
    repeat (go_big_quiet_step (first | (go_at_call 107; refine (greater _ _ _).mono ?_; rintro e w2 ⟨rfl, hw2⟩; subst w2; exact ⟨rfl, _, rfl⟩)))
    cases q0 : (decide (0 ≤ v.task))
    · repeat (go_big_quiet_step (first | (go_at_call 107; refine (greater _ _ _).mono ?_; rintro e w2 ⟨rfl, hw2⟩; subst w2; exact ⟨rfl, _, rfl⟩)))
      refine wpQuiet_nil ?_
      rintro w' ⟨x, rfl⟩
      go_wp2_with fail
      go_returns
      exact ⟨ret_bool (by simp [VX.ownB, decide_and, hlk, q0]), hB1.trans (x.2.mono (by omega))⟩
    · skip
      repeat (go_big_quiet_step (first | (go_at_call 107; refine (greater _ _ _).mono ?_; rintro e w2 ⟨rfl, hw2⟩; subst w2; exact ⟨rfl, _, rfl⟩)))
      cases q1 : (decide (v.task < mxI t 1))
      · repeat (go_big_quiet_step (first | (go_at_call 107; refine (greater _ _ _).mono ?_; rintro e w2 ⟨rfl, hw2⟩; subst w2; exact ⟨rfl, _, rfl⟩)))
        refine wpQuiet_nil ?_
        rintro w' ⟨x, rfl⟩
        go_wp2_with fail
        go_returns
        exact ⟨ret_bool (by simp [VX.ownB, decide_and, hlk, q0, q1]), hB1.trans (x.2.mono (by omega))⟩
      · skip
        repeat (go_big_quiet_step (first | (go_at_call 107; refine (greater _ _ _).mono ?_; rintro e w2 ⟨rfl, hw2⟩; subst w2; exact ⟨rfl, _, rfl⟩)))
        refine wpQuiet_nil ?_
        rintro w' ⟨x, rfl⟩
        go_wp2_with fail
        go_returns
        exact ⟨ret_bool (by simp [VX.ownB, decide_and, hlk, q0, q1]), hB1.trans (x.2.mono (by omega))⟩
set_option maxHeartbeats 2000000 in
theorem VX.implOk (v : VX) (hn : v.name.size ≤ 1048576) (hl : v.lock.size ≤ 1048576) (t : Int) (w : World) : Calls Tryz.prog 128 #[v.val, .int .i64 t] w fun e w' => e = .returned (.bool (v.okB (mxI t 1))) ∧ Below w.heap.size w w' := by
  obtain ⟨W1, hW1⟩ : ∃ W1, w.alloc (.cells #[.string v.name, .int .i64 v.size, .int .i64 v.init, .int .i64 v.lo, .int .i64 v.hi, .string v.lock, .int .i64 v.task] 58) = W1 := ⟨_, rfl⟩
  have hs1 : w.heap.size + 1 = W1.heap.size := by rw [← hW1]; simp
  have hB1 : Below w.heap.size w W1 := by rw [← hW1]; exact (Below.refl _ w).alloc (Nat.le_refl _) _
  have hC : VX.At W1 w.heap.size 0 v := by
    rw [← hW1]
    exact ⟨World.cell?_alloc_new w _ _ 0, World.cell?_alloc_new w _ _ 1, World.cell?_alloc_new w _ _ 2, World.cell?_alloc_new w _ _ 3, World.cell?_alloc_new w _ _ 4, World.cell?_alloc_new w _ _ 5, World.cell?_alloc_new w _ _ 6⟩
  have hX := Below.refl W1.heap.size W1
  obtain ⟨c0, c1, c2, c3, c4, c5, c6⟩ := hC.below hX (by omega)
  haveI : Nonempty (Later W1) := ⟨⟨W1, Below.refl _ _⟩⟩
  have e0 := Later.cell hC.c0
  have e1 := Later.cell hC.c1
  have e2 := Later.cell hC.c2
  have e3 := Later.cell hC.c3
  have e4 := Later.cell hC.c4
  have e5 := Later.cell hC.c5
  have e6 := Later.cell hC.c6
  go_enter Tryz.func128, Tryz.ntmps128
  go_wp2_with fail
  refine region_class (fun w' => ∃ x : Later W1, w' = x.at) (by kernel_rfl) (by kernel_rfl) ⟨⟨_, hX.drew⟩, rfl⟩ ?_
  repeat (go_big_quiet_step (first | (go_at_call 132; refine (implName v.name _ hn).mono ?_; rintro e w2 ⟨rfl, hw2⟩; subst w2; exact ⟨rfl, _, rfl⟩) | (go_at_call 163; refine (VX.span v _).mono ?_; rintro e w2 ⟨rfl, hb⟩; exact ⟨rfl, ⟨_, bstep (Subtype.property _) hb⟩, rfl⟩) | (go_at_call 162; refine (implHas _ _ _ _).mono ?_; rintro e w2 ⟨rfl, hb⟩; exact ⟨rfl, ⟨_, bstep (Subtype.property _) hb⟩, rfl⟩) | (go_at_call 164; refine (VX.implOwn v hl _ _).mono ?_; rintro e w2 ⟨rfl, hb⟩; exact ⟨rfl, ⟨_, bstep (Subtype.property _) hb⟩, rfl⟩)))
  cases q0 : (nameB v.name)
  · repeat (go_big_quiet_step (first | (go_at_call 132; refine (implName v.name _ hn).mono ?_; rintro e w2 ⟨rfl, hw2⟩; subst w2; exact ⟨rfl, _, rfl⟩) | (go_at_call 163; refine (VX.span v _).mono ?_; rintro e w2 ⟨rfl, hb⟩; exact ⟨rfl, ⟨_, bstep (Subtype.property _) hb⟩, rfl⟩) | (go_at_call 162; refine (implHas _ _ _ _).mono ?_; rintro e w2 ⟨rfl, hb⟩; exact ⟨rfl, ⟨_, bstep (Subtype.property _) hb⟩, rfl⟩) | (go_at_call 164; refine (VX.implOwn v hl _ _).mono ?_; rintro e w2 ⟨rfl, hb⟩; exact ⟨rfl, ⟨_, bstep (Subtype.property _) hb⟩, rfl⟩)))
    refine wpQuiet_nil ?_
    rintro w' ⟨x, rfl⟩
    go_wp2_with fail
    go_returns
    exact ⟨ret_bool (by simp [VX.okB, decide_and, q0]), hB1.trans (x.2.mono (by omega))⟩
  · skip
    repeat (go_big_quiet_step (first | (go_at_call 132; refine (implName v.name _ hn).mono ?_; rintro e w2 ⟨rfl, hw2⟩; subst w2; exact ⟨rfl, _, rfl⟩) | (go_at_call 163; refine (VX.span v _).mono ?_; rintro e w2 ⟨rfl, hb⟩; exact ⟨rfl, ⟨_, bstep (Subtype.property _) hb⟩, rfl⟩) | (go_at_call 162; refine (implHas _ _ _ _).mono ?_; rintro e w2 ⟨rfl, hb⟩; exact ⟨rfl, ⟨_, bstep (Subtype.property _) hb⟩, rfl⟩) | (go_at_call 164; refine (VX.implOwn v hl _ _).mono ?_; rintro e w2 ⟨rfl, hb⟩; exact ⟨rfl, ⟨_, bstep (Subtype.property _) hb⟩, rfl⟩)))
    cases q1 : (decide (0 ≤ v.size))
    · repeat (go_big_quiet_step (first | (go_at_call 132; refine (implName v.name _ hn).mono ?_; rintro e w2 ⟨rfl, hw2⟩; subst w2; exact ⟨rfl, _, rfl⟩) | (go_at_call 163; refine (VX.span v _).mono ?_; rintro e w2 ⟨rfl, hb⟩; exact ⟨rfl, ⟨_, bstep (Subtype.property _) hb⟩, rfl⟩) | (go_at_call 162; refine (implHas _ _ _ _).mono ?_; rintro e w2 ⟨rfl, hb⟩; exact ⟨rfl, ⟨_, bstep (Subtype.property _) hb⟩, rfl⟩) | (go_at_call 164; refine (VX.implOwn v hl _ _).mono ?_; rintro e w2 ⟨rfl, hb⟩; exact ⟨rfl, ⟨_, bstep (Subtype.property _) hb⟩, rfl⟩)))
      refine wpQuiet_nil ?_
      rintro w' ⟨x, rfl⟩
      go_wp2_with fail
      go_returns
      exact ⟨ret_bool (by simp [VX.okB, decide_and, q0, q1]), hB1.trans (x.2.mono (by omega))⟩
    · skip
      repeat (go_big_quiet_step (first | (go_at_call 132; refine (implName v.name _ hn).mono ?_; rintro e w2 ⟨rfl, hw2⟩; subst w2; exact ⟨rfl, _, rfl⟩) | (go_at_call 163; refine (VX.span v _).mono ?_; rintro e w2 ⟨rfl, hb⟩; exact ⟨rfl, ⟨_, bstep (Subtype.property _) hb⟩, rfl⟩) | (go_at_call 162; refine (implHas _ _ _ _).mono ?_; rintro e w2 ⟨rfl, hb⟩; exact ⟨rfl, ⟨_, bstep (Subtype.property _) hb⟩, rfl⟩) | (go_at_call 164; refine (VX.implOwn v hl _ _).mono ?_; rintro e w2 ⟨rfl, hb⟩; exact ⟨rfl, ⟨_, bstep (Subtype.property _) hb⟩, rfl⟩)))
      cases q2 : (decide (v.size ≤ 6))
      · repeat (go_big_quiet_step (first | (go_at_call 132; refine (implName v.name _ hn).mono ?_; rintro e w2 ⟨rfl, hw2⟩; subst w2; exact ⟨rfl, _, rfl⟩) | (go_at_call 163; refine (VX.span v _).mono ?_; rintro e w2 ⟨rfl, hb⟩; exact ⟨rfl, ⟨_, bstep (Subtype.property _) hb⟩, rfl⟩) | (go_at_call 162; refine (implHas _ _ _ _).mono ?_; rintro e w2 ⟨rfl, hb⟩; exact ⟨rfl, ⟨_, bstep (Subtype.property _) hb⟩, rfl⟩) | (go_at_call 164; refine (VX.implOwn v hl _ _).mono ?_; rintro e w2 ⟨rfl, hb⟩; exact ⟨rfl, ⟨_, bstep (Subtype.property _) hb⟩, rfl⟩)))
        refine wpQuiet_nil ?_
        rintro w' ⟨x, rfl⟩
        go_wp2_with fail
        go_returns
        exact ⟨ret_bool (by simp [VX.okB, decide_and, q0, q1, q2]), hB1.trans (x.2.mono (by omega))⟩
      · skip
        repeat (go_big_quiet_step (first | (go_at_call 132; refine (implName v.name _ hn).mono ?_; rintro e w2 ⟨rfl, hw2⟩; subst w2; exact ⟨rfl, _, rfl⟩) | (go_at_call 163; refine (VX.span v _).mono ?_; rintro e w2 ⟨rfl, hb⟩; exact ⟨rfl, ⟨_, bstep (Subtype.property _) hb⟩, rfl⟩) | (go_at_call 162; refine (implHas _ _ _ _).mono ?_; rintro e w2 ⟨rfl, hb⟩; exact ⟨rfl, ⟨_, bstep (Subtype.property _) hb⟩, rfl⟩) | (go_at_call 164; refine (VX.implOwn v hl _ _).mono ?_; rintro e w2 ⟨rfl, hb⟩; exact ⟨rfl, ⟨_, bstep (Subtype.property _) hb⟩, rfl⟩)))
        cases q3 : (Go.Proofs.YtaajdoipjalgmaaGreatDoor.okB v.lo v.hi && hasB v.lo v.hi v.init)
        · repeat (go_big_quiet_step (first | (go_at_call 132; refine (implName v.name _ hn).mono ?_; rintro e w2 ⟨rfl, hw2⟩; subst w2; exact ⟨rfl, _, rfl⟩) | (go_at_call 163; refine (VX.span v _).mono ?_; rintro e w2 ⟨rfl, hb⟩; exact ⟨rfl, ⟨_, bstep (Subtype.property _) hb⟩, rfl⟩) | (go_at_call 162; refine (implHas _ _ _ _).mono ?_; rintro e w2 ⟨rfl, hb⟩; exact ⟨rfl, ⟨_, bstep (Subtype.property _) hb⟩, rfl⟩) | (go_at_call 164; refine (VX.implOwn v hl _ _).mono ?_; rintro e w2 ⟨rfl, hb⟩; exact ⟨rfl, ⟨_, bstep (Subtype.property _) hb⟩, rfl⟩)))
          refine wpQuiet_nil ?_
          rintro w' ⟨x, rfl⟩
          go_wp2_with fail
          go_returns
          exact ⟨ret_bool (by simp [VX.okB, decide_and, q0, q1, q2, q3]), hB1.trans (x.2.mono (by omega))⟩
        · skip
          repeat (go_big_quiet_step (first | (go_at_call 132; refine (implName v.name _ hn).mono ?_; rintro e w2 ⟨rfl, hw2⟩; subst w2; exact ⟨rfl, _, rfl⟩) | (go_at_call 163; refine (VX.span v _).mono ?_; rintro e w2 ⟨rfl, hb⟩; exact ⟨rfl, ⟨_, bstep (Subtype.property _) hb⟩, rfl⟩) | (go_at_call 162; refine (implHas _ _ _ _).mono ?_; rintro e w2 ⟨rfl, hb⟩; exact ⟨rfl, ⟨_, bstep (Subtype.property _) hb⟩, rfl⟩) | (go_at_call 164; refine (VX.implOwn v hl _ _).mono ?_; rintro e w2 ⟨rfl, hb⟩; exact ⟨rfl, ⟨_, bstep (Subtype.property _) hb⟩, rfl⟩)))
          cases q4 : (v.ownB (mxI t 1))
          · repeat (go_big_quiet_step (first | (go_at_call 132; refine (implName v.name _ hn).mono ?_; rintro e w2 ⟨rfl, hw2⟩; subst w2; exact ⟨rfl, _, rfl⟩) | (go_at_call 163; refine (VX.span v _).mono ?_; rintro e w2 ⟨rfl, hb⟩; exact ⟨rfl, ⟨_, bstep (Subtype.property _) hb⟩, rfl⟩) | (go_at_call 162; refine (implHas _ _ _ _).mono ?_; rintro e w2 ⟨rfl, hb⟩; exact ⟨rfl, ⟨_, bstep (Subtype.property _) hb⟩, rfl⟩) | (go_at_call 164; refine (VX.implOwn v hl _ _).mono ?_; rintro e w2 ⟨rfl, hb⟩; exact ⟨rfl, ⟨_, bstep (Subtype.property _) hb⟩, rfl⟩)))
            refine wpQuiet_nil ?_
            rintro w' ⟨x, rfl⟩
            go_wp2_with fail
            go_returns
            exact ⟨ret_bool (by simp [VX.okB, decide_and, q0, q1, q2, q3, q4]), hB1.trans (x.2.mono (by omega))⟩
          · skip
            repeat (go_big_quiet_step (first | (go_at_call 132; refine (implName v.name _ hn).mono ?_; rintro e w2 ⟨rfl, hw2⟩; subst w2; exact ⟨rfl, _, rfl⟩) | (go_at_call 163; refine (VX.span v _).mono ?_; rintro e w2 ⟨rfl, hb⟩; exact ⟨rfl, ⟨_, bstep (Subtype.property _) hb⟩, rfl⟩) | (go_at_call 162; refine (implHas _ _ _ _).mono ?_; rintro e w2 ⟨rfl, hb⟩; exact ⟨rfl, ⟨_, bstep (Subtype.property _) hb⟩, rfl⟩) | (go_at_call 164; refine (VX.implOwn v hl _ _).mono ?_; rintro e w2 ⟨rfl, hb⟩; exact ⟨rfl, ⟨_, bstep (Subtype.property _) hb⟩, rfl⟩)))
            refine wpQuiet_nil ?_
            rintro w' ⟨x, rfl⟩
            go_wp2_with fail
            go_returns
            exact ⟨ret_bool (by simp [VX.okB, decide_and, q0, q1, q2, q3, q4]), hB1.trans (x.2.mono (by omega))⟩
set_option maxHeartbeats 2000000 in
theorem CX.implOk (v : CX) (hn : v.name.size ≤ 1048576) (w : World) : Calls Tryz.prog 130 #[v.val] w fun e w' => e = .returned (.bool v.okB) ∧ Below w.heap.size w w' := by
  obtain ⟨W1, hW1⟩ : ∃ W1, w.alloc (.cells #[.string v.name, .int .i64 v.cap, .int .i64 v.lo, .int .i64 v.hi] 101) = W1 := ⟨_, rfl⟩
  have hs1 : w.heap.size + 1 = W1.heap.size := by rw [← hW1]; simp
  have hB1 : Below w.heap.size w W1 := by rw [← hW1]; exact (Below.refl _ w).alloc (Nat.le_refl _) _
  have hC : CX.At W1 w.heap.size 0 v := by
    rw [← hW1]
    exact ⟨World.cell?_alloc_new w _ _ 0, World.cell?_alloc_new w _ _ 1, World.cell?_alloc_new w _ _ 2, World.cell?_alloc_new w _ _ 3⟩
  have hX := Below.refl W1.heap.size W1
  obtain ⟨c0, c1, c2, c3⟩ := hC.below hX (by omega)
  go_enter Tryz.func130, Tryz.ntmps130
  go_wp2_with (first | (go_at_call 132; refine (implName v.name _ hn).mono ?_; rintro e wn ⟨rfl, hw⟩; subst wn) | (go_at_call 166; refine (CX.span v _).mono ?_; rintro e wn ⟨rfl, hb⟩; (replace hX := hX.trans (hb.mono hX.size)); (obtain ⟨c0, c1, c2, c3⟩ := hC.below hX (by omega)); (clear hb)) | (go_at_call 165; refine (implSpanOk _ _ _).mono ?_; rintro e wn ⟨rfl, hb⟩; (replace hX := hX.trans (hb.mono hX.size)); (obtain ⟨c0, c1, c2, c3⟩ := hC.below hX (by omega)); (clear hb)))
  all_goals
    go_returns
    refine ⟨ret_bool ?_, hB1.trans (hX.mono (by omega))⟩
    first | rfl | (simp_all [CX.okB]; done) | (rw [Bool.eq_iff_iff]; simp_all [CX.okB]; done) | (rw [Bool.eq_iff_iff]; simp_all [CX.okB]; omega)
end Go.Proofs.YtaajdoipjalgmaaGreatDoor
