/-
  CalcTwo of the program and of the specification: at every kind and every two numbers the same number and fault.
-/
import Derived.Test.YtkgmkoejplgjoaaDoorTwoA
namespace Go.Proofs.YtkgmkoejplgjoaaDoor
open Go.RowKit
set_option linter.unusedSimpArgs false
set_option linter.unusedVariables false
theorem ok_le {n : Int} (h : okN n = true) : -1000000 ≤ n ∧ n ≤ 1000000 := by simpa [okN] using h
theorem ok_gt {n : Int} (h : okN n = false) : n < -1000000 ∨ 1000000 < n := by
  simp only [okN, decide_eq_false_iff_not] at h
  omega
abbrev twoV (p : Int × Int) : Value := .tuple #[.int .i64 p.1, .int .i64 p.2]
theorem two_num {n m : Int} (h : n = m) : Ending.returned (.tuple #[.int .i64 n, .int .i64 0]) = .returned (twoV (Res.ans (.num m))) := by rw [h]; rfl
set_option maxRecDepth 10000 in
set_option maxHeartbeats 4000000 in
theorem specBad (k a b : Int) (w : World) (h : (okN a && okN b) = false) :
    Calls Tryd.prog 6 #[.int .i64 k, .int .i64 a, .int .i64 b] w fun e w' => e = .returned (twoV (reck k a b).ans) ∧ w' = w := by
  rw [reck_bad h]
  have hb : (a < -1000000 ∨ 1000000 < a) ∨ (b < -1000000 ∨ 1000000 < b) := by
    cases ha : okN a
    · exact .inl (ok_gt ha)
    · rw [ha] at h
      exact .inr (ok_gt h)
  go_enter Tryd.func6, Tryd.ntmps6
  go_wp2_with fail
  all_goals first | (exfalso; omega) | skip
  all_goals
    go_returns
    exact ⟨rfl, rfl⟩
set_option maxRecDepth 10000 in
set_option maxHeartbeats 4000000 in
theorem spec4t (a b : Int) (w : World) (ha : -1000000 ≤ a ∧ a ≤ 1000000) (hb : -1000000 ≤ b ∧ b ≤ 1000000) :
    Calls Tryd.prog 6 #[.int .i64 4, .int .i64 a, .int .i64 b] w fun e w' => e = .returned (twoV (reckB 4 a b).ans) ∧ w' = w := by
  rw [show reckB 4 a b = bnd (wrap64 (a + b)) from rfl]
  rw [show wrap64 (a + b) = a + b from by unfold wrap64; omega]
  have hl := fun w => l5ToldT (a + b) w
  go_enter Tryd.func6, Tryd.ntmps6
  go_wp2_with fail
  all_goals first | (exfalso; omega) | skip
  go_at_call 17
  refine (hl _).mono ?_
  rintro e w1 ⟨rfl, hw1⟩
  subst w1
  go_wp2
  go_returns
  exact ⟨rfl, rfl⟩
set_option maxRecDepth 10000 in
set_option maxHeartbeats 4000000 in
theorem spec5t (a b : Int) (w : World) (ha : -1000000 ≤ a ∧ a ≤ 1000000) (hb : -1000000 ≤ b ∧ b ≤ 1000000) :
    Calls Tryd.prog 6 #[.int .i64 5, .int .i64 a, .int .i64 b] w fun e w' => e = .returned (twoV (reckB 5 a b).ans) ∧ w' = w := by
  rw [show reckB 5 a b = bnd (wrap64 (a - b)) from rfl]
  rw [show wrap64 (a - b) = a - b from by unfold wrap64; omega]
  have hl := fun w => l5ToldT (a - b) w
  go_enter Tryd.func6, Tryd.ntmps6
  go_wp2_with fail
  all_goals first | (exfalso; omega) | skip
  go_at_call 17
  refine (hl _).mono ?_
  rintro e w1 ⟨rfl, hw1⟩
  subst w1
  go_wp2
  go_returns
  exact ⟨rfl, rfl⟩
set_option maxRecDepth 10000 in
set_option maxHeartbeats 4000000 in
theorem spec6t (a b : Int) (w : World) (ha : -1000000 ≤ a ∧ a ≤ 1000000) (hb : -1000000 ≤ b ∧ b ≤ 1000000) :
    Calls Tryd.prog 6 #[.int .i64 6, .int .i64 a, .int .i64 b] w fun e w' => e = .returned (twoV (reckB 6 a b).ans) ∧ w' = w := by
  rw [show reckB 6 a b = bnd (wrap64 (a * b)) from rfl]
  have hl := fun w => l5ToldT (wrap64 (a * b)) w
  go_enter Tryd.func6, Tryd.ntmps6
  go_wp2_with fail
  all_goals first | (exfalso; omega) | skip
  go_at_call 17
  refine (hl _).mono ?_
  rintro e w1 ⟨rfl, hw1⟩
  subst w1
  go_wp2
  go_returns
  exact ⟨rfl, rfl⟩
set_option maxRecDepth 10000 in
set_option maxHeartbeats 4000000 in
theorem spec7t (a b : Int) (w : World) (ha : -1000000 ≤ a ∧ a ≤ 1000000) (hb : -1000000 ≤ b ∧ b ≤ 1000000) :
    Calls Tryd.prog 6 #[.int .i64 7, .int .i64 a, .int .i64 b] w fun e w' => e = .returned (twoV (reckB 7 a b).ans) ∧ w' = w := by
  by_cases hb0 : b = 0
  · subst hb0
    rw [show reckB 7 a 0 = .err 2 from by simp [reckB]]
    go_enter Tryd.func6, Tryd.ntmps6
    go_wp2_with fail
    all_goals first | (exfalso; omega) | skip
    go_returns
    exact ⟨rfl, rfl⟩
  · rw [show reckB 7 a b = .num (quoI a b) from by simp [reckB, hb0]]
    unfold quoI
    go_enter Tryd.func6, Tryd.ntmps6
    go_wp2_with fail
    all_goals first | (exfalso; omega) | skip
    go_returns
    exact ⟨by first | rfl | (rw [wrap_eq]; rfl), rfl⟩
set_option maxRecDepth 10000 in
set_option maxHeartbeats 4000000 in
theorem spec8t (a b : Int) (w : World) (ha : -1000000 ≤ a ∧ a ≤ 1000000) (hb : -1000000 ≤ b ∧ b ≤ 1000000) :
    Calls Tryd.prog 6 #[.int .i64 8, .int .i64 a, .int .i64 b] w fun e w' => e = .returned (twoV (reckB 8 a b).ans) ∧ w' = w := by
  rw [show reckB 8 a b = .num (flagI (decide (a < b))) from rfl]
  go_enter Tryd.func6, Tryd.ntmps6
  go_wp2_with fail
  all_goals first | (exfalso; omega) | skip
  go_at_call 18
  refine (l5FlagT _ _).mono ?_
  rintro e w1 ⟨rfl, hw1⟩
  subst w1
  go_wp2
  go_returns
  exact ⟨two_num (by first | rfl | (congr 1; simp; done)), rfl⟩
set_option maxRecDepth 10000 in
set_option maxHeartbeats 4000000 in
theorem spec9t (a b : Int) (w : World) (ha : -1000000 ≤ a ∧ a ≤ 1000000) (hb : -1000000 ≤ b ∧ b ≤ 1000000) :
    Calls Tryd.prog 6 #[.int .i64 9, .int .i64 a, .int .i64 b] w fun e w' => e = .returned (twoV (reckB 9 a b).ans) ∧ w' = w := by
  rw [show reckB 9 a b = .num (flagI (decide (a = b))) from rfl]
  go_enter Tryd.func6, Tryd.ntmps6
  go_wp2_with fail
  all_goals first | (exfalso; omega) | skip
  go_at_call 18
  refine (l5FlagT _ _).mono ?_
  rintro e w1 ⟨rfl, hw1⟩
  subst w1
  go_wp2
  go_returns
  exact ⟨two_num (by first | rfl | (congr 1; simp; done)), rfl⟩
set_option maxRecDepth 10000 in
set_option maxHeartbeats 4000000 in
theorem spec10t (a b : Int) (w : World) (ha : -1000000 ≤ a ∧ a ≤ 1000000) (hb : -1000000 ≤ b ∧ b ≤ 1000000) :
    Calls Tryd.prog 6 #[.int .i64 10, .int .i64 a, .int .i64 b] w fun e w' => e = .returned (twoV (reckB 10 a b).ans) ∧ w' = w := by
  rw [show reckB 10 a b = .num (flagI (!decide (a = 0) && !decide (b = 0))) from rfl]
  cases hx : decide (a = 0) <;> cases hy : decide (b = 0)
  all_goals
    have hx' := hx
    have hy' := hy
    simp only [decide_eq_true_eq, decide_eq_false_iff_not] at hx' hy'
    go_enter Tryd.func6, Tryd.ntmps6
    go_wp2_with fail
    all_goals first | (exfalso; omega) | skip
    go_at_call 18
    refine (l5FlagT _ _).mono ?_
    rintro e w1 ⟨rfl, hw1⟩
    subst w1
    go_wp2
    go_returns
    exact ⟨two_num (by first | rfl | (congr 1; simp [hx']; done) | (congr 1; simp [hx', hy']; done) | (simp [hx', hy']; done)), rfl⟩
set_option maxRecDepth 10000 in
set_option maxHeartbeats 4000000 in
theorem spec11t (a b : Int) (w : World) (ha : -1000000 ≤ a ∧ a ≤ 1000000) (hb : -1000000 ≤ b ∧ b ≤ 1000000) :
    Calls Tryd.prog 6 #[.int .i64 11, .int .i64 a, .int .i64 b] w fun e w' => e = .returned (twoV (reckB 11 a b).ans) ∧ w' = w := by
  rw [show reckB 11 a b = .num (flagI (!decide (a = 0) || !decide (b = 0))) from rfl]
  cases hx : decide (a = 0) <;> cases hy : decide (b = 0)
  all_goals
    have hx' := hx
    have hy' := hy
    simp only [decide_eq_true_eq, decide_eq_false_iff_not] at hx' hy'
    go_enter Tryd.func6, Tryd.ntmps6
    go_wp2_with fail
    all_goals first | (exfalso; omega) | skip
    go_at_call 18
    refine (l5FlagT _ _).mono ?_
    rintro e w1 ⟨rfl, hw1⟩
    subst w1
    go_wp2
    go_returns
    exact ⟨two_num (by first | rfl | (congr 1; simp [hx']; done) | (congr 1; simp [hx', hy']; done) | (simp [hx', hy']; done)), rfl⟩
set_option maxRecDepth 10000 in
set_option maxHeartbeats 4000000 in
theorem specTwo (k a b : Int) (w : World) :
    Calls Tryd.prog 6 #[.int .i64 k, .int .i64 a, .int .i64 b] w fun e w' => e = .returned (twoV (reck k a b).ans) ∧ w' = w := by
  cases h : okN a && okN b
  · exact specBad k a b w h
  rw [reck_ok h]
  obtain ⟨ha, hb⟩ : (-1000000 ≤ a ∧ a ≤ 1000000) ∧ (-1000000 ≤ b ∧ b ≤ 1000000) := by
    rw [Bool.and_eq_true] at h
    exact ⟨ok_le h.1, ok_le h.2⟩
  clear h
  by_cases h4 : k = 4
  · subst h4
    exact spec4t a b w ha hb
  by_cases h5 : k = 5
  · subst h5
    exact spec5t a b w ha hb
  by_cases h6 : k = 6
  · subst h6
    exact spec6t a b w ha hb
  by_cases h7 : k = 7
  · subst h7
    exact spec7t a b w ha hb
  by_cases h8 : k = 8
  · subst h8
    exact spec8t a b w ha hb
  by_cases h9 : k = 9
  · subst h9
    exact spec9t a b w ha hb
  by_cases h10 : k = 10
  · subst h10
    exact spec10t a b w ha hb
  by_cases h11 : k = 11
  · subst h11
    exact spec11t a b w ha hb
  rw [show reckB k a b = .err 9 from by simp [reckB, h4, h5, h6, h7, h8, h9, h10, h11]]
  go_enter Tryd.func6, Tryd.ntmps6
  go_wp2_with fail
  all_goals first | (exfalso; omega) | skip
  go_returns
  exact ⟨rfl, rfl⟩
set_option maxRecDepth 10000 in
set_option maxHeartbeats 400000 in
theorem implTwo1 (p q r : Nat) (k a b : Int) (w : World) (h0 : w.cell? ⟨p, 0, none⟩ = some (.int .i64 k)) (h1 : w.cell? ⟨q, 0, none⟩ = some (.int .i64 a)) (h2 : w.cell? ⟨r, 0, none⟩ = some (.int .i64 b)) :
    Calls Tryd.prog 15 #[.pointer (some ⟨p, 0, none⟩), .pointer (some ⟨q, 0, none⟩), .pointer (some ⟨r, 0, none⟩)] w fun e w' => (reck k a b).told e ∧ Below w.heap.size w w' := by
  have h := reckoned k a b w
  cases hr : reck k a b with
  | pan c =>
    rw [hr] at h
    replace h : Calls Tryd.prog 16 #[.int .i64 k, .int .i64 a, .int .i64 b] w fun e w' => e = .panicked [{ v := faultV c, recovered := false }] ∧ w' = w := h
    go_enter Tryd.func15, Tryd.ntmps15
    go_wp2_with (go_at_call 16; refine h.mono ?_; rintro e w1 ⟨rfl, hw1⟩; subst w1)
    exact ⟨rfl, rfl, Below.refl _ _⟩
  | num n =>
    rw [hr] at h
    replace h : Calls Tryd.prog 16 #[.int .i64 k, .int .i64 a, .int .i64 b] w fun e w' => e = .returned (.tuple #[.int .i64 n, .nilIface]) ∧ w' = w := h
    go_enter Tryd.func15, Tryd.ntmps15
    go_wp2_with (go_at_call 16; refine h.mono ?_; rintro e w1 ⟨rfl, hw1⟩; subst w1)
    go_returns
    exact ⟨rfl, Below.refl _ _⟩
  | err c =>
    rw [hr] at h
    replace h : Calls Tryd.prog 16 #[.int .i64 k, .int .i64 a, .int .i64 b] w fun e w' => e = .returned (.tuple #[.int .i64 0, faultV c]) ∧ w' = w := h
    go_enter Tryd.func15, Tryd.ntmps15
    go_wp2_with (go_at_call 16; refine h.mono ?_; rintro e w1 ⟨rfl, hw1⟩; subst w1)
    go_returns
    exact ⟨rfl, Below.refl _ _⟩
set_option maxRecDepth 10000 in
set_option maxHeartbeats 400000 in
theorem implTwo (k a b : Int) (w : World) (hg : ErrG w) :
    Calls Tryd.prog 5 #[.int .i64 k, .int .i64 a, .int .i64 b] w fun e w' => e = .returned (twoV (reck k a b).ans) ∧ Below w.heap.size w w' := by
  have hmf : ∀ (fn : Fn) (first cap : Array Value) (w : World), (Instr.makeFunc fn first cap).run Tryd.prog w = .ok (.func fn first cap) w := fun _ _ _ _ => rfl
  obtain ⟨W3, hW3⟩ : ∃ W3, ((w.alloc (.cells #[.int .i64 k] 3)).alloc (.cells #[.int .i64 a] 3)).alloc (.cells #[.int .i64 b] 3) = W3 := ⟨_, rfl⟩
  have hs3 : w.heap.size + 1 + 1 + 1 = W3.heap.size := by rw [← hW3]; simp
  have hB3 : Below w.heap.size w W3 := by rw [← hW3]; exact (((Below.refl _ w).alloc (Nat.le_refl _) _).alloc (by simp) _).alloc (by simp; omega) _
  have c0 : W3.cell? ⟨w.heap.size, 0, none⟩ = some (.int .i64 k) := by
    rw [← hW3, World.cell?_alloc_lt _ _ ⟨w.heap.size, 0, none⟩ (by first | (simp; done) | (simp; omega)), World.cell?_alloc_lt _ _ ⟨w.heap.size, 0, none⟩ (by first | (simp; done) | (simp; omega))]
    simp
  have c1 : W3.cell? ⟨w.heap.size + 1, 0, none⟩ = some (.int .i64 a) := by
    rw [← hW3, World.cell?_alloc_lt _ _ ⟨w.heap.size + 1, 0, none⟩ (by first | (simp; done) | (simp; omega))]
    simp
  have c2 : W3.cell? ⟨w.heap.size + 1 + 1, 0, none⟩ = some (.int .i64 b) := by rw [← hW3, World.cell?_alloc_at _ _ _ _ (by simp)]; rfl
  have hA := answeredTwo #[.pointer (some ⟨w.heap.size, 0, none⟩), .pointer (some ⟨w.heap.size + 1, 0, none⟩), .pointer (some ⟨w.heap.size + 1 + 1, 0, none⟩)] (reck k a b) W3 (hg.of hB3) (fun W hB => implTwo1 _ _ _ k a b W (cellB hB c0 (by omega)) (cellB hB c1 (by omega)) (cellB hB c2 (by omega)))
  go_enter Tryd.func5, Tryd.ntmps5
  go_wp2_with fail
  go_at_call 14
  refine hA.mono ?_
  rintro e w1 ⟨rfl, hB1⟩
  go_wp2
  go_returns
  exact ⟨rfl, hB3.trans (hB1.mono (by omega))⟩
end Go.Proofs.YtkgmkoejplgjoaaDoor
