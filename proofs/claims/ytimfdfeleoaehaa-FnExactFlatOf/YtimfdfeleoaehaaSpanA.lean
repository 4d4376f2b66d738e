/-
  What the functions of chapter 1, and the specification's of the same names, answer at every argument: one contract a function; no condition.
-/
import Derived.Test.YtimfdfeleoaehaaProg
import Derived.WalkKit
import Derived.WalkSpells
import Derived.ProofKit
import Derived.Handy
import Derived.Below
namespace Go.Proofs.Ytimfdfeleoaehaa
open Go.RowKit
set_option linter.unusedSimpArgs false
set_option linter.unusedVariables false

theorem bcell {W w1 : World} (hb : Below W.heap.size W w1) : (∀ b o, b < W.heap.size → w1.cell? ⟨b, o, none⟩ = W.cell? ⟨b, o, none⟩) ∧ (∀ b o, b < W.heap.size → w1.frozen? ⟨b, o, none⟩ = W.frozen? ⟨b, o, none⟩) :=
  ⟨fun b o h => hb.cell (p := ⟨b, o, none⟩) h, fun b o h => hb.frozen (p := ⟨b, o, none⟩) h⟩
theorem bsize {W w1 : World} (hb : Below W.heap.size W w1) : ∀ b, b < W.heap.size → b < w1.heap.size := fun b h => Nat.lt_of_lt_of_le h hb.size
theorem bstep {w W w1 : World} (h : Below w.heap.size w W) (hb : Below W.heap.size W w1) : Below w.heap.size w w1 := h.trans (hb.mono h.size)
theorem balloc {w W : World} (h : Below w.heap.size w W) (o : Obj) : Below w.heap.size w (W.alloc o) := h.alloc h.size o
theorem bdrew {w W : World} (h : Below w.heap.size w W) : Below w.heap.size w W.drew := h.drew

theorem apart1 (n : Nat) : ¬ n = n + 1 := by omega
theorem apart2 (n : Nat) : ¬ n = n + 1 + 1 := by omega
theorem apart3 (n : Nat) : ¬ n = n + 1 + 1 + 1 := by omega
theorem apart4 (n : Nat) : ¬ n = n + 1 + 1 + 1 + 1 := by omega
theorem apart5 (n : Nat) : ¬ n + 1 + 1 = n := by omega
theorem apart6 (n : Nat) : ¬ n + 1 + 1 + 1 = n := by omega

theorem wrap_eq (n : Int) : IntKind.i64.wrap n = wrap64 n := by simp only [wrap64, IntKind.wrap_i64]

def okB (lo hi : Int) : Bool := decide (-1000000 ≤ lo ∧ lo ≤ hi ∧ hi ≤ 1000000)
def hasB (lo hi n : Int) : Bool := decide (lo ≤ n ∧ n ≤ hi)
def mnI (a b : Int) : Int := if a < b then a else b
def mxI (a b : Int) : Int := if a < b then b else a
def selI (t : Bool) (x : Int) : Int := if t then x else 0
def inB (a b c d : Int) : Bool := okB a b && (okB c d && decide (c ≤ a ∧ b ≤ d))
theorem okB_iff (a b : Int) : okB a b = true ↔ (-1000000 ≤ a ∧ a ≤ b ∧ b ≤ 1000000) := by simp [okB]
theorem okB_not (a b : Int) : okB a b = false ↔ ¬ (-1000000 ≤ a ∧ a ≤ b ∧ b ≤ 1000000) := by simp [okB]
theorem hasB_iff (a b n : Int) : hasB a b n = true ↔ (a ≤ n ∧ n ≤ b) := by simp [hasB]
theorem hasB_not (a b n : Int) : hasB a b n = false ↔ ¬ (a ≤ n ∧ n ≤ b) := by simp [hasB]

theorem ret_bool {a b : Bool} (h : a = b) : Ending.returned (.bool a) = .returned (.bool b) := by rw [h]
theorem ret_int {k : IntKind} {a b : Int} (h : a = b) : Ending.returned (.int k a) = .returned (.int k b) := by rw [h]

theorem l1Max (a b : Int) (w : World) :
    Calls Try.prog 86 #[.int .i64 a, .int .i64 b] w fun e w' => e = .returned (.int .i64 (mxI a b)) ∧ w' = w := by
  go_enter Try.func86, Try.ntmps86
  go_wp2
  all_goals
    go_returns
    exact ⟨ret_int (by unfold mxI; omega), rfl⟩
end Go.Proofs.Ytimfdfeleoaehaa
