/-
  What the program's functions on expressions answer: an expression is ok just if it has at most 160 parts, none deeper than 6, each of which has what its kind has.
-/
import Derived.Test.YtimfdfeleoaehaaTreeS
namespace Go.Proofs.Ytimfdfeleoaehaa
open Go.RowKit Go.Shelf
set_option linter.unusedSimpArgs false
set_option linter.unusedVariables false
attribute [local go_sem] Oper.semAt_some

theorem numOk (n : Int) (w : World) :
    Calls Try.prog 123 #[.int .i64 n] w fun e w' => e = .returned (.bool (decide (-1000000 ≤ n ∧ n ≤ 1000000))) ∧ w' = w := by
  go_enter Try.func123, Try.ntmps123
  go_wp2
  all_goals
    go_returns
    exact ⟨ret_bool (by rw [Bool.eq_iff_iff]; simp; omega), rfl⟩
set_option maxHeartbeats 1000000 in
theorem fitNum (k n : Int) (s : ByteArray) (a : Option Addr) (len c : Nat) (w : World) :
    Calls Try.prog 122 #[.agg #[.int .i64 k, .int .i64 n, .string s, .slice a len c]] w fun e w' => e = .returned (.bool (decide (-1000000 ≤ n ∧ n ≤ 1000000) && (s.toList.isEmpty && decide (len = 0)))) ∧ Below w.heap.size w w' := by
  have hB : ∀ o, Below w.heap.size w (w.alloc o) := fun o => (Below.refl _ w).alloc (Nat.le_refl _) o
  go_enter Try.func122, Try.ntmps122
  go_wp2_with (go_at_call 123; refine (numOk _ _).mono ?_; rintro e w1 ⟨rfl, hw⟩; subst w1)
  all_goals
    go_returns
    refine ⟨ret_bool ?_, hB _⟩
    first | rfl | (simp_all; done) | (rw [Bool.eq_iff_iff]; simp_all; done) | (rw [Bool.eq_iff_iff]; simp_all; omega)
set_option maxHeartbeats 1000000 in
theorem fitVar (k n : Int) (s : ByteArray) (a : Option Addr) (len c : Nat) (w : World) (hs : s.size ≤ 1048576) :
    Calls Try.prog 124 #[.agg #[.int .i64 k, .int .i64 n, .string s, .slice a len c]] w fun e w' => e = .returned (.bool ((n == 0) && (nameB s && decide (len = 0)))) ∧ Below w.heap.size w w' := by
  have hB : ∀ o, Below w.heap.size w (w.alloc o) := fun o => (Below.refl _ w).alloc (Nat.le_refl _) o
  go_enter Try.func124, Try.ntmps124
  go_wp2_with (go_at_call 103; refine (implName s _ hs).mono ?_; rintro e w1 ⟨rfl, hw⟩; subst w1)
  all_goals
    go_returns
    refine ⟨ret_bool ?_, hB _⟩
    first | rfl | (simp_all; done) | (rw [Bool.eq_iff_iff]; simp_all; done) | (rw [Bool.eq_iff_iff]; simp_all; omega)
set_option maxHeartbeats 1000000 in
theorem fitAt (k n : Int) (s : ByteArray) (a : Option Addr) (len c : Nat) (w : World) (hs : s.size ≤ 1048576) :
    Calls Try.prog 125 #[.agg #[.int .i64 k, .int .i64 n, .string s, .slice a len c]] w fun e w' => e = .returned (.bool ((n == 0) && (nameB s && decide (len = 1)))) ∧ Below w.heap.size w w' := by
  have hB : ∀ o, Below w.heap.size w (w.alloc o) := fun o => (Below.refl _ w).alloc (Nat.le_refl _) o
  go_enter Try.func125, Try.ntmps125
  go_wp2_with (go_at_call 103; refine (implName s _ hs).mono ?_; rintro e w1 ⟨rfl, hw⟩; subst w1)
  all_goals
    go_returns
    refine ⟨ret_bool ?_, hB _⟩
    first | rfl | (simp_all; done) | (rw [Bool.eq_iff_iff]; simp_all; done) | (rw [Bool.eq_iff_iff]; simp_all; omega)
set_option maxHeartbeats 1000000 in
theorem fitTwo (k n : Int) (s : ByteArray) (a : Option Addr) (len c : Nat) (w : World) :
    Calls Try.prog 126 #[.agg #[.int .i64 k, .int .i64 n, .string s, .slice a len c]] w fun e w' => e = .returned (.bool ((n == 0) && (s.toList.isEmpty && decide (len = 2)))) ∧ Below w.heap.size w w' := by
  have hB : ∀ o, Below w.heap.size w (w.alloc o) := fun o => (Below.refl _ w).alloc (Nat.le_refl _) o
  go_enter Try.func126, Try.ntmps126
  go_wp2_with fail
  all_goals
    go_returns
    refine ⟨ret_bool ?_, hB _⟩
    first | rfl | (simp_all; done) | (rw [Bool.eq_iff_iff]; simp_all; done) | (rw [Bool.eq_iff_iff]; simp_all; omega)
set_option maxHeartbeats 1000000 in
theorem fitNot (k n : Int) (s : ByteArray) (a : Option Addr) (len c : Nat) (w : World) :
    Calls Try.prog 127 #[.agg #[.int .i64 k, .int .i64 n, .string s, .slice a len c]] w fun e w' => e = .returned (.bool ((n == 0) && (s.toList.isEmpty && decide (len = 1)))) ∧ Below w.heap.size w w' := by
  have hB : ∀ o, Below w.heap.size w (w.alloc o) := fun o => (Below.refl _ w).alloc (Nat.le_refl _) o
  go_enter Try.func127, Try.ntmps127
  go_wp2_with fail
  all_goals
    go_returns
    refine ⟨ret_bool ?_, hB _⟩
    first | rfl | (simp_all; done) | (rw [Bool.eq_iff_iff]; simp_all; done) | (rw [Bool.eq_iff_iff]; simp_all; omega)
set_option maxHeartbeats 1000000 in
theorem fitNone (k n : Int) (s : ByteArray) (a : Option Addr) (len c : Nat) (w : World) :
    Calls Try.prog 128 #[.agg #[.int .i64 k, .int .i64 n, .string s, .slice a len c]] w fun e w' => e = .returned (.bool (false)) ∧ Below w.heap.size w w' := by
  have hB : ∀ o, Below w.heap.size w (w.alloc o) := fun o => (Below.refl _ w).alloc (Nat.le_refl _) o
  go_enter Try.func128, Try.ntmps128
  go_wp2_with fail
  all_goals
    go_returns
    refine ⟨ret_bool ?_, hB _⟩
    first | rfl | (simp_all; done) | (rw [Bool.eq_iff_iff]; simp_all; done) | (rw [Bool.eq_iff_iff]; simp_all; omega)

def typeI (k : Int) : Nat := if k = 1 then 166 else if k = 2 then 167 else if k = 3 then 168 else if 4 ≤ k ∧ k ≤ 11 then 169 else if k = 12 then 170 else 171
set_option maxHeartbeats 2000000 in
theorem typed (k n : Int) (s : ByteArray) (a : Option Addr) (len c : Nat) (w : World) :
    Calls Try.prog 108 #[.agg #[.int .i64 k, .int .i64 n, .string s, .slice a len c]] w fun e w' => e = .returned (.iface (typeI k) (.agg #[.int .i64 k, .int .i64 n, .string s, .slice a len c])) ∧ Below w.heap.size w w' := by
  have hB : ∀ o, Below w.heap.size w (w.alloc o) := fun o => (Below.refl _ w).alloc (Nat.le_refl _) o
  go_enter Try.func108, Try.ntmps108
  go_wp2
  all_goals
    go_returns
    refine ⟨congrArg (fun T => Ending.returned (Value.iface T (.agg #[.int .i64 k, .int .i64 n, .string s, .slice a len c]))) ?_, hB _⟩
    simp only [beq_iff_eq, beq_eq_false_iff_ne, ne_eq, Bool.not_eq_true] at *
    unfold typeI
    (repeat' split) <;> first | rfl | omega
end Go.Proofs.Ytimfdfeleoaehaa
