/-
  What the program reckons with two numbers: a number, an error that is a fault, or a panic with a fault; and what the specification answers.
-/
import Derived.Test.YtkgmkoejplgjoaaDoorAsC
import Derived.WalkSmall
namespace Go.Proofs.YtkgmkoejplgjoaaDoor
open Go.RowKit
set_option linter.unusedSimpArgs false
set_option linter.unusedVariables false
def okN (n : Int) : Bool := decide (-1000000 ≤ n ∧ n ≤ 1000000)
def flagI (b : Bool) : Int := if b then 1 else 0
@[irreducible] def quoI (a b : Int) : Int := wrap64 (a.tdiv b)
def bnd (n : Int) : Res := if okN n then .num n else .pan 3
def reckB (k a b : Int) : Res :=
  if k = 4 then bnd (wrap64 (a + b)) else if k = 5 then bnd (wrap64 (a - b)) else if k = 6 then bnd (wrap64 (a * b))
  else if k = 7 then (if b = 0 then .err 2 else .num (quoI a b))
  else if k = 8 then .num (flagI (decide (a < b))) else if k = 9 then .num (flagI (decide (a = b)))
  else if k = 10 then .num (flagI (!decide (a = 0) && !decide (b = 0))) else if k = 11 then .num (flagI (!decide (a = 0) || !decide (b = 0)))
  else .err 9
def reck (k a b : Int) : Res := if okN a && okN b then reckB k a b else .err 9
theorem numOkT (n : Int) (w : World) :
    Calls Tryd.prog 28 #[.int .i64 n] w fun e w' => e = .returned (.bool (okN n)) ∧ w' = w := by
  go_enter Tryd.func28, Tryd.ntmps28
  go_wp2
  all_goals
    go_returns
    exact ⟨ret_bool (by unfold okN; rw [Bool.eq_iff_iff]; simp; omega), rfl⟩
theorem boundedT (n : Int) (w : World) (h : okN n = true) :
    Calls Tryd.prog 29 #[.int .i64 n] w fun e w' => e = .returned (.int .i64 n) ∧ w' = w := by
  go_enter Tryd.func29, Tryd.ntmps29
  go_wp2_with (go_at_call 28; refine (numOkT _ _).mono ?_; rintro e w1 ⟨rfl, hw1⟩; subst w1)
  go_returns
  exact ⟨rfl, rfl⟩
theorem boundedF (n : Int) (w : World) (h : okN n = false) :
    Calls Tryd.prog 29 #[.int .i64 n] w fun e w' => e = .panicked [{ v := faultV 3, recovered := false }] ∧ w' = w := by
  go_enter Tryd.func29, Tryd.ntmps29
  go_wp2_with (go_at_call 28; refine (numOkT _ _).mono ?_; rintro e w1 ⟨rfl, hw1⟩; subst w1)
  exact ⟨rfl, rfl, rfl⟩
theorem flagT (b : Bool) (w : World) :
    Calls Tryd.prog 31 #[.bool b] w fun e w' => e = .returned (.int .i64 (flagI b)) ∧ w' = w := by
  cases b
  all_goals
    go_enter Tryd.func31, Tryd.ntmps31
    go_wp2
    go_returns
    exact ⟨rfl, rfl⟩
theorem l5FlagT (b : Bool) (w : World) :
    Calls Tryd.prog 18 #[.bool b] w fun e w' => e = .returned (.int .i64 (flagI b)) ∧ w' = w := by
  cases b
  all_goals
    go_enter Tryd.func18, Tryd.ntmps18
    go_wp2
    go_returns
    exact ⟨rfl, rfl⟩
theorem l5ToldT (n : Int) (w : World) :
    Calls Tryd.prog 17 #[.int .i64 n] w fun e w' => e = .returned (.tuple #[.int .i64 (bnd n).ans.1, .int .i64 (bnd n).ans.2]) ∧ w' = w := by
  cases h : okN n
  all_goals
    have h' := h
    simp only [okN, decide_eq_false_iff_not, decide_eq_true_eq] at h'
    simp only [bnd, h, if_true, Bool.false_eq_true, if_false, Res.ans]
    go_enter Tryd.func17, Tryd.ntmps17
    go_wp2
    all_goals first | (exfalso; omega) | skip
    all_goals
      go_returns
      exact ⟨rfl, rfl⟩
theorem quotient0 (a b : Int) (w : World) (hb : b = 0) :
    Calls Tryd.prog 30 #[.int .i64 a, .int .i64 b] w fun e w' => e = .returned (.tuple #[.int .i64 0, faultV 2]) ∧ w' = w := by
  go_enter Tryd.func30, Tryd.ntmps30
  go_wp2
  go_returns
  exact ⟨rfl, rfl⟩
theorem quotientT (a b : Int) (w : World) (hb : ¬ b = 0) :
    Calls Tryd.prog 30 #[.int .i64 a, .int .i64 b] w fun e w' => e = .returned (.tuple #[.int .i64 (quoI a b), .nilIface]) ∧ w' = w := by
  unfold quoI
  go_enter Tryd.func30, Tryd.ntmps30
  go_wp2
  go_returns
  exact ⟨by first | rfl | rw [wrap_eq], rfl⟩
theorem reck_bad {k a b : Int} (h : (okN a && okN b) = false) : reck k a b = .err 9 := by unfold reck; rw [h]; rfl
theorem reck_ok {k a b : Int} (h : (okN a && okN b) = true) : reck k a b = reckB k a b := by unfold reck; rw [h]; rfl
theorem told_num {n m : Int} (h : n = m) : Res.told (.num m) (.returned (.tuple #[.int .i64 n, .nilIface])) := by rw [h]; rfl
set_option maxRecDepth 10000 in
set_option maxHeartbeats 4000000 in
theorem reckonedBad (k a b : Int) (w : World) (h : (okN a && okN b) = false) :
    Calls Tryd.prog 16 #[.int .i64 k, .int .i64 a, .int .i64 b] w fun e w' => (reck k a b).told e ∧ w' = w := by
  rw [reck_bad h]
  cases ha : okN a
  · go_enter Tryd.func16, Tryd.ntmps16
    go_wp2_with (go_at_call 28; refine (numOkT _ _).mono ?_; rintro e w1 ⟨rfl, hw1⟩; subst w1)
    go_returns
    exact ⟨rfl, rfl⟩
  · have hb : okN b = false := by rw [ha] at h; exact h
    go_enter Tryd.func16, Tryd.ntmps16
    go_wp2_with (go_at_call 28; refine (numOkT _ _).mono ?_; rintro e w1 ⟨rfl, hw1⟩; subst w1)
    go_returns
    exact ⟨rfl, rfl⟩
set_option maxRecDepth 10000 in
set_option maxHeartbeats 4000000 in
theorem reck4 (a b : Int) (w : World) (ha : okN a = true) (hb : okN b = true) :
    Calls Tryd.prog 16 #[.int .i64 4, .int .i64 a, .int .i64 b] w fun e w' => (reckB 4 a b).told e ∧ w' = w := by
  rw [show reckB 4 a b = bnd (wrap64 (a + b)) from rfl]
  unfold bnd
  cases ho : okN (wrap64 (a + b))
  · go_enter Tryd.func16, Tryd.ntmps16
    go_wp2_with (first | (go_at_call 28; refine (numOkT _ _).mono ?_; rintro e w1 ⟨rfl, hw1⟩; subst w1) | (go_at_call 29; refine (boundedF _ _ ho).mono ?_; rintro e w1 ⟨rfl, hw1⟩; subst w1))
    exact ⟨rfl, rfl, rfl⟩
  · go_enter Tryd.func16, Tryd.ntmps16
    go_wp2_with (first | (go_at_call 28; refine (numOkT _ _).mono ?_; rintro e w1 ⟨rfl, hw1⟩; subst w1) | (go_at_call 29; refine (boundedT _ _ ho).mono ?_; rintro e w1 ⟨rfl, hw1⟩; subst w1))
    go_returns
    exact ⟨rfl, rfl⟩
set_option maxRecDepth 10000 in
set_option maxHeartbeats 4000000 in
theorem reck5 (a b : Int) (w : World) (ha : okN a = true) (hb : okN b = true) :
    Calls Tryd.prog 16 #[.int .i64 5, .int .i64 a, .int .i64 b] w fun e w' => (reckB 5 a b).told e ∧ w' = w := by
  rw [show reckB 5 a b = bnd (wrap64 (a - b)) from rfl]
  unfold bnd
  cases ho : okN (wrap64 (a - b))
  · go_enter Tryd.func16, Tryd.ntmps16
    go_wp2_with (first | (go_at_call 28; refine (numOkT _ _).mono ?_; rintro e w1 ⟨rfl, hw1⟩; subst w1) | (go_at_call 29; refine (boundedF _ _ ho).mono ?_; rintro e w1 ⟨rfl, hw1⟩; subst w1))
    exact ⟨rfl, rfl, rfl⟩
  · go_enter Tryd.func16, Tryd.ntmps16
    go_wp2_with (first | (go_at_call 28; refine (numOkT _ _).mono ?_; rintro e w1 ⟨rfl, hw1⟩; subst w1) | (go_at_call 29; refine (boundedT _ _ ho).mono ?_; rintro e w1 ⟨rfl, hw1⟩; subst w1))
    go_returns
    exact ⟨rfl, rfl⟩
set_option maxRecDepth 10000 in
set_option maxHeartbeats 4000000 in
theorem reck6 (a b : Int) (w : World) (ha : okN a = true) (hb : okN b = true) :
    Calls Tryd.prog 16 #[.int .i64 6, .int .i64 a, .int .i64 b] w fun e w' => (reckB 6 a b).told e ∧ w' = w := by
  rw [show reckB 6 a b = bnd (wrap64 (a * b)) from rfl]
  unfold bnd
  cases ho : okN (wrap64 (a * b))
  · go_enter Tryd.func16, Tryd.ntmps16
    go_wp2_with (first | (go_at_call 28; refine (numOkT _ _).mono ?_; rintro e w1 ⟨rfl, hw1⟩; subst w1) | (go_at_call 29; refine (boundedF _ _ ho).mono ?_; rintro e w1 ⟨rfl, hw1⟩; subst w1))
    exact ⟨rfl, rfl, rfl⟩
  · go_enter Tryd.func16, Tryd.ntmps16
    go_wp2_with (first | (go_at_call 28; refine (numOkT _ _).mono ?_; rintro e w1 ⟨rfl, hw1⟩; subst w1) | (go_at_call 29; refine (boundedT _ _ ho).mono ?_; rintro e w1 ⟨rfl, hw1⟩; subst w1))
    go_returns
    exact ⟨rfl, rfl⟩
set_option maxRecDepth 10000 in
set_option maxHeartbeats 4000000 in
theorem reck7 (a b : Int) (w : World) (ha : okN a = true) (hb : okN b = true) :
    Calls Tryd.prog 16 #[.int .i64 7, .int .i64 a, .int .i64 b] w fun e w' => (reckB 7 a b).told e ∧ w' = w := by
  by_cases hb0 : b = 0
  · subst hb0
    have hq := fun w => quotient0 a 0 w rfl
    rw [show reckB 7 a 0 = .err 2 from by simp [reckB]]
    go_enter Tryd.func16, Tryd.ntmps16
    go_wp2_with (first | (go_at_call 28; refine (numOkT _ _).mono ?_; rintro e w1 ⟨rfl, hw1⟩; subst w1) | (go_at_call 30; refine (hq _).mono ?_; rintro e w1 ⟨rfl, hw1⟩; subst w1))
    go_returns
    exact ⟨rfl, rfl⟩
  · have hq := fun w => quotientT a b w hb0
    rw [show reckB 7 a b = .num (quoI a b) from by simp [reckB, hb0]]
    go_enter Tryd.func16, Tryd.ntmps16
    go_wp2_with (first | (go_at_call 28; refine (numOkT _ _).mono ?_; rintro e w1 ⟨rfl, hw1⟩; subst w1) | (go_at_call 30; refine (hq _).mono ?_; rintro e w1 ⟨rfl, hw1⟩; subst w1))
    go_returns
    exact ⟨rfl, rfl⟩
set_option maxRecDepth 10000 in
set_option maxHeartbeats 4000000 in
theorem reck8 (a b : Int) (w : World) (ha : okN a = true) (hb : okN b = true) :
    Calls Tryd.prog 16 #[.int .i64 8, .int .i64 a, .int .i64 b] w fun e w' => (reckB 8 a b).told e ∧ w' = w := by
  rw [show reckB 8 a b = .num (flagI (decide (a < b))) from rfl]
  go_enter Tryd.func16, Tryd.ntmps16
  go_wp2_with (first | (go_at_call 28; refine (numOkT _ _).mono ?_; rintro e w1 ⟨rfl, hw1⟩; subst w1) | (go_at_call 31; refine (flagT _ _).mono ?_; rintro e w1 ⟨rfl, hw1⟩; subst w1))
  go_returns
  exact ⟨told_num (by first | rfl | (congr 1; simp)), rfl⟩
set_option maxRecDepth 10000 in
set_option maxHeartbeats 4000000 in
theorem reck9 (a b : Int) (w : World) (ha : okN a = true) (hb : okN b = true) :
    Calls Tryd.prog 16 #[.int .i64 9, .int .i64 a, .int .i64 b] w fun e w' => (reckB 9 a b).told e ∧ w' = w := by
  rw [show reckB 9 a b = .num (flagI (decide (a = b))) from rfl]
  go_enter Tryd.func16, Tryd.ntmps16
  go_wp2_with (first | (go_at_call 28; refine (numOkT _ _).mono ?_; rintro e w1 ⟨rfl, hw1⟩; subst w1) | (go_at_call 31; refine (flagT _ _).mono ?_; rintro e w1 ⟨rfl, hw1⟩; subst w1))
  go_returns
  exact ⟨told_num (by first | rfl | (congr 1; simp)), rfl⟩
set_option maxRecDepth 10000 in
set_option maxHeartbeats 4000000 in
theorem reck10 (a b : Int) (w : World) (ha : okN a = true) (hb : okN b = true) :
    Calls Tryd.prog 16 #[.int .i64 10, .int .i64 a, .int .i64 b] w fun e w' => (reckB 10 a b).told e ∧ w' = w := by
  rw [show reckB 10 a b = .num (flagI (!decide (a = 0) && !decide (b = 0))) from rfl]
  cases hx : decide (a = 0) <;> cases hy : decide (b = 0)
  all_goals
    have hx' := hx
    have hy' := hy
    simp only [decide_eq_true_eq, decide_eq_false_iff_not] at hx' hy'
    go_enter Tryd.func16, Tryd.ntmps16
    go_wp2_with (first | (go_at_call 28; refine (numOkT _ _).mono ?_; rintro e w1 ⟨rfl, hw1⟩; subst w1) | (go_at_call 31; refine (flagT _ _).mono ?_; rintro e w1 ⟨rfl, hw1⟩; subst w1))
    go_returns
    exact ⟨told_num (by first | rfl | (congr 1; simp [hx']; done) | (congr 1; simp [hx', hy']; done) | (simp [hx', hy']; done)), rfl⟩
set_option maxRecDepth 10000 in
set_option maxHeartbeats 4000000 in
theorem reck11 (a b : Int) (w : World) (ha : okN a = true) (hb : okN b = true) :
    Calls Tryd.prog 16 #[.int .i64 11, .int .i64 a, .int .i64 b] w fun e w' => (reckB 11 a b).told e ∧ w' = w := by
  rw [show reckB 11 a b = .num (flagI (!decide (a = 0) || !decide (b = 0))) from rfl]
  cases hx : decide (a = 0) <;> cases hy : decide (b = 0)
  all_goals
    have hx' := hx
    have hy' := hy
    simp only [decide_eq_true_eq, decide_eq_false_iff_not] at hx' hy'
    go_enter Tryd.func16, Tryd.ntmps16
    go_wp2_with (first | (go_at_call 28; refine (numOkT _ _).mono ?_; rintro e w1 ⟨rfl, hw1⟩; subst w1) | (go_at_call 31; refine (flagT _ _).mono ?_; rintro e w1 ⟨rfl, hw1⟩; subst w1))
    go_returns
    exact ⟨told_num (by first | rfl | (congr 1; simp [hx']; done) | (congr 1; simp [hx', hy']; done) | (simp [hx', hy']; done)), rfl⟩
set_option maxRecDepth 10000 in
set_option maxHeartbeats 4000000 in
theorem reckonedOk (k a b : Int) (w : World) (h : (okN a && okN b) = true) :
    Calls Tryd.prog 16 #[.int .i64 k, .int .i64 a, .int .i64 b] w fun e w' => (reck k a b).told e ∧ w' = w := by
  rw [reck_ok h]
  obtain ⟨ha, hb⟩ : okN a = true ∧ okN b = true := by simpa using h
  clear h
  by_cases h4 : k = 4
  · subst h4
    exact reck4 a b w ha hb
  by_cases h5 : k = 5
  · subst h5
    exact reck5 a b w ha hb
  by_cases h6 : k = 6
  · subst h6
    exact reck6 a b w ha hb
  by_cases h7 : k = 7
  · subst h7
    exact reck7 a b w ha hb
  by_cases h8 : k = 8
  · subst h8
    exact reck8 a b w ha hb
  by_cases h9 : k = 9
  · subst h9
    exact reck9 a b w ha hb
  by_cases h10 : k = 10
  · subst h10
    exact reck10 a b w ha hb
  by_cases h11 : k = 11
  · subst h11
    exact reck11 a b w ha hb
  rw [show reckB k a b = .err 9 from by simp [reckB, h4, h5, h6, h7, h8, h9, h10, h11]]
  go_enter Tryd.func16, Tryd.ntmps16
  go_wp2_with (go_at_call 28; refine (numOkT _ _).mono ?_; rintro e w1 ⟨rfl, hw1⟩; subst w1)
  go_returns
  exact ⟨rfl, rfl⟩
theorem reckoned (k a b : Int) (w : World) :
    Calls Tryd.prog 16 #[.int .i64 k, .int .i64 a, .int .i64 b] w fun e w' => (reck k a b).told e ∧ w' = w := by
  cases h : okN a && okN b
  · exact reckonedBad k a b w h
  · exact reckonedOk k a b w h
end Go.Proofs.YtkgmkoejplgjoaaDoor
