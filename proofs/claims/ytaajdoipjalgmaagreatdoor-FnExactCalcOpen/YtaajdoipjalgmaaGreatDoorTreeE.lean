/-
  What the program's functions on expressions answer: an expression is ok just if it has at most 160 parts, none deeper than 6, each of which has what its kind has.
-/
import Derived.Test.YtaajdoipjalgmaaGreatDoorTreeS
namespace Go.Proofs.YtaajdoipjalgmaaGreatDoor
open Go.RowKit Go.Shelf
set_option linter.unusedSimpArgs false
set_option linter.unusedVariables false
attribute [local go_sem] Oper.semAt_some

theorem numOk (n : Int) (w : World) :
    Calls Tryz.prog 81 #[.int .i64 n] w fun e w' => e = .returned (.bool (decide (-1000000 ≤ n ∧ n ≤ 1000000))) ∧ w' = w := by
  go_enter Tryz.func81, Tryz.ntmps81
  go_wp2
  all_goals
    go_returns
    exact ⟨ret_bool (by rw [Bool.eq_iff_iff]; simp; omega), rfl⟩
set_option maxHeartbeats 1000000 in
theorem fitNum (k n : Int) (s : ByteArray) (a : Option Addr) (len c : Nat) (w : World) :
    Calls Tryz.prog 236 #[.agg #[.int .i64 k, .int .i64 n, .string s, .slice a len c]] w fun e w' => e = .returned (.bool (decide (-1000000 ≤ n ∧ n ≤ 1000000) && (s.toList.isEmpty && decide (len = 0)))) ∧ Below w.heap.size w w' := by
  have hB : ∀ o, Below w.heap.size w (w.alloc o) := fun o => (Below.refl _ w).alloc (Nat.le_refl _) o
  go_enter Tryz.func236, Tryz.ntmps236
  go_wp2_with (go_at_call 81; refine (numOk _ _).mono ?_; rintro e w1 ⟨rfl, hw⟩; subst w1)
  all_goals
    go_returns
    refine ⟨ret_bool ?_, hB _⟩
    first | rfl | (simp_all; done) | (rw [Bool.eq_iff_iff]; simp_all; done) | (rw [Bool.eq_iff_iff]; simp_all; omega)
set_option maxHeartbeats 1000000 in
theorem fitVar (k n : Int) (s : ByteArray) (a : Option Addr) (len c : Nat) (w : World) (hs : s.size ≤ 1048576) :
    Calls Tryz.prog 237 #[.agg #[.int .i64 k, .int .i64 n, .string s, .slice a len c]] w fun e w' => e = .returned (.bool ((n == 0) && (nameB s && decide (len = 0)))) ∧ Below w.heap.size w w' := by
  have hB : ∀ o, Below w.heap.size w (w.alloc o) := fun o => (Below.refl _ w).alloc (Nat.le_refl _) o
  go_enter Tryz.func237, Tryz.ntmps237
  go_wp2_with (go_at_call 132; refine (implName s _ hs).mono ?_; rintro e w1 ⟨rfl, hw⟩; subst w1)
  all_goals
    go_returns
    refine ⟨ret_bool ?_, hB _⟩
    first | rfl | (simp_all; done) | (rw [Bool.eq_iff_iff]; simp_all; done) | (rw [Bool.eq_iff_iff]; simp_all; omega)
set_option maxHeartbeats 1000000 in
theorem fitAt (k n : Int) (s : ByteArray) (a : Option Addr) (len c : Nat) (w : World) (hs : s.size ≤ 1048576) :
    Calls Tryz.prog 238 #[.agg #[.int .i64 k, .int .i64 n, .string s, .slice a len c]] w fun e w' => e = .returned (.bool ((n == 0) && (nameB s && decide (len = 1)))) ∧ Below w.heap.size w w' := by
  have hB : ∀ o, Below w.heap.size w (w.alloc o) := fun o => (Below.refl _ w).alloc (Nat.le_refl _) o
  go_enter Tryz.func238, Tryz.ntmps238
  go_wp2_with (go_at_call 132; refine (implName s _ hs).mono ?_; rintro e w1 ⟨rfl, hw⟩; subst w1)
  all_goals
    go_returns
    refine ⟨ret_bool ?_, hB _⟩
    first | rfl | (simp_all; done) | (rw [Bool.eq_iff_iff]; simp_all; done) | (rw [Bool.eq_iff_iff]; simp_all; omega)
set_option maxHeartbeats 1000000 in
theorem fitTwo (k n : Int) (s : ByteArray) (a : Option Addr) (len c : Nat) (w : World) :
    Calls Tryz.prog 239 #[.agg #[.int .i64 k, .int .i64 n, .string s, .slice a len c]] w fun e w' => e = .returned (.bool ((n == 0) && (s.toList.isEmpty && decide (len = 2)))) ∧ Below w.heap.size w w' := by
  have hB : ∀ o, Below w.heap.size w (w.alloc o) := fun o => (Below.refl _ w).alloc (Nat.le_refl _) o
  go_enter Tryz.func239, Tryz.ntmps239
  go_wp2_with fail
  all_goals
    go_returns
    refine ⟨ret_bool ?_, hB _⟩
    first | rfl | (simp_all; done) | (rw [Bool.eq_iff_iff]; simp_all; done) | (rw [Bool.eq_iff_iff]; simp_all; omega)
set_option maxHeartbeats 1000000 in
theorem fitNot (k n : Int) (s : ByteArray) (a : Option Addr) (len c : Nat) (w : World) :
    Calls Tryz.prog 240 #[.agg #[.int .i64 k, .int .i64 n, .string s, .slice a len c]] w fun e w' => e = .returned (.bool ((n == 0) && (s.toList.isEmpty && decide (len = 1)))) ∧ Below w.heap.size w w' := by
  have hB : ∀ o, Below w.heap.size w (w.alloc o) := fun o => (Below.refl _ w).alloc (Nat.le_refl _) o
  go_enter Tryz.func240, Tryz.ntmps240
  go_wp2_with fail
  all_goals
    go_returns
    refine ⟨ret_bool ?_, hB _⟩
    first | rfl | (simp_all; done) | (rw [Bool.eq_iff_iff]; simp_all; done) | (rw [Bool.eq_iff_iff]; simp_all; omega)
set_option maxHeartbeats 1000000 in
theorem fitNone (k n : Int) (s : ByteArray) (a : Option Addr) (len c : Nat) (w : World) :
    Calls Tryz.prog 241 #[.agg #[.int .i64 k, .int .i64 n, .string s, .slice a len c]] w fun e w' => e = .returned (.bool (false)) ∧ Below w.heap.size w w' := by
  have hB : ∀ o, Below w.heap.size w (w.alloc o) := fun o => (Below.refl _ w).alloc (Nat.le_refl _) o
  go_enter Tryz.func241, Tryz.ntmps241
  go_wp2_with fail
  all_goals
    go_returns
    refine ⟨ret_bool ?_, hB _⟩
    first | rfl | (simp_all; done) | (rw [Bool.eq_iff_iff]; simp_all; done) | (rw [Bool.eq_iff_iff]; simp_all; omega)

def typeI (k : Int) : Nat := if k = 1 then 289 else if k = 2 then 290 else if k = 3 then 291 else if 4 ≤ k ∧ k ≤ 11 then 292 else if k = 12 then 293 else 294
set_option maxHeartbeats 2000000 in
theorem typed (k n : Int) (s : ByteArray) (a : Option Addr) (len c : Nat) (w : World) :
    Calls Tryz.prog 224 #[.agg #[.int .i64 k, .int .i64 n, .string s, .slice a len c]] w fun e w' => e = .returned (.iface (typeI k) (.agg #[.int .i64 k, .int .i64 n, .string s, .slice a len c])) ∧ Below w.heap.size w w' := by
  have hB : ∀ o, Below w.heap.size w (w.alloc o) := fun o => (Below.refl _ w).alloc (Nat.le_refl _) o
  go_enter Tryz.func224, Tryz.ntmps224
  go_wp2
  all_goals
    go_returns
    refine ⟨congrArg (fun T => Ending.returned (Value.iface T (.agg #[.int .i64 k, .int .i64 n, .string s, .slice a len c]))) ?_, hB _⟩
    simp only [beq_iff_eq, beq_eq_false_iff_ne, ne_eq, Bool.not_eq_true] at *
    unfold typeI
    (repeat' split) <;> first | rfl | omega
end Go.Proofs.YtaajdoipjalgmaaGreatDoor
