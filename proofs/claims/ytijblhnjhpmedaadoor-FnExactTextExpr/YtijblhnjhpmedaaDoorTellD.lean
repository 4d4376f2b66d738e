/-
  The words of kinds of expressions, as the program has them; what it tells of what an expression has within it.
-/
import Derived.Test.YtijblhnjhpmedaaDoorTellC
import Derived.Test.YtijblhnjhpmedaaDoorTellB
namespace Go.Proofs.YtijblhnjhpmedaaDoor
open Go.RowKit Go.Shelf
set_option linter.unusedSimpArgs false
set_option linter.unusedVariables false
attribute [local go_sem] Oper.semAt_some

def wordE (k : Int) : List UInt8 := if 3 ≤ k ∧ k ≤ 12 then wordX k else []
def exprL : List (List UInt8) := [[], [], [], [97, 116], [97, 100, 100], [115, 117, 98], [109, 117, 108], [100, 105, 118], [108, 101, 115, 115], [101, 113, 117, 97, 108], [97, 110, 100], [111, 114], [110, 111, 116]]
theorem wordE_get {k : Int} (h : 0 ≤ k ∧ k < 13) : exprL[k.toNat]? = some (wordE k) := by
  obtain ⟨n, rfl⟩ : ∃ n : Nat, k = (n : Int) := ⟨k.toNat, by omega⟩
  have hn : n < 13 := by omega
  rw [Int.toNat_natCast]
  rcases n with _ | _ | _ | _ | _ | _ | _ | _ | _ | _ | _ | _ | _ | n
  all_goals first | (exfalso; omega) | rfl
theorem wordE_none {k : Int} (h : k < 0 ∨ 13 ≤ k) : wordE k = [] := by unfold wordE; rw [if_neg (by omega)]
theorem wordE_empty (k : Int) : wordE k = [] ↔ (k < 3 ∨ 12 < k) := by
  unfold wordE
  constructor
  · intro h
    by_cases h1 : 3 ≤ k ∧ k ≤ 12
    · rw [if_pos h1] at h
      exfalso
      obtain ⟨n, rfl⟩ : ∃ n : Nat, k = (n : Int) + 3 := ⟨(k - 3).toNat, by omega⟩
      have hn : n < 10 := by omega
      unfold wordX at h
      rw [show ((n : Int) + 3 - 3).toNat = n by omega] at h
      rcases n with _ | _ | _ | _ | _ | _ | _ | _ | _ | _ | n
      all_goals first | (exfalso; omega) | simp [wX] at h
    · omega
  · intro h
    rw [if_neg (by omega)]
set_option maxHeartbeats 1000000 in
theorem exprWords (w : World) :
    Calls Tryd.prog 20 #[] w fun e w' => e = .returned (.slice (some ⟨w.heap.size, 0, none⟩) 13 13) ∧ Below w.heap.size w w' ∧ ∀ i x, exprL[i]? = some x → w'.cell? ⟨w.heap.size, i, none⟩ = some (.string (ba x)) := by
  go_enter Tryd.func20, Tryd.ntmps20
  go_wp2
  go_returns
  refine ⟨rfl, by go_grown, fun i x h => ?_⟩
  rcases i with _ | _ | _ | _ | _ | _ | _ | _ | _ | _ | _ | _ | _ | i
  all_goals (simp only [exprL, List.getElem?_cons_succ, List.getElem?_cons_zero, List.getElem?_nil, Option.some.injEq, reduceCtorEq, Nat.zero_add, Nat.reduceAdd] at h)
  all_goals (subst h; simp [go_sem, ba])
theorem wordOf (g : Nat) (k : Int) (w : World) (hc : ∀ i x, exprL[i]? = some x → w.cell? ⟨g, i, none⟩ = some (.string (ba x))) :
    Calls Tryd.prog 19 #[.slice (some ⟨g, 0, none⟩) 13 13, .int .i64 k] w fun e w' => e = .returned (.string (ba (wordE k))) ∧ w' = w := by
  by_cases hk : 0 ≤ k ∧ k < 13
  · have h1 := hc _ _ (wordE_get hk)
    have g1 : (0 : Int) ≤ k := hk.1
    have g2 : k < (13 : Int) := hk.2
    clear hc
    go_enter Tryd.func19, Tryd.ntmps19
    go_wp2
    all_goals first | (exfalso; omega) | skip
    go_returns
    exact ⟨rfl, rfl⟩
  · rw [wordE_none (by omega)]
    clear hc
    go_enter Tryd.func19, Tryd.ntmps19
    go_wp2
    all_goals first | (exfalso; omega) | skip
    all_goals (go_returns; exact ⟨rfl, rfl⟩)
theorem wordKind (k : Int) (w : World) : Calls Tryd.prog 20 #[] w fun e w' => e = .returned (.slice (some ⟨w.heap.size, 0, none⟩) 13 13) ∧ Below w.heap.size w w' ∧ ∀ W, Below w'.heap.size w' W → Calls Tryd.prog 19 #[.slice (some ⟨w.heap.size, 0, none⟩) 13 13, .int .i64 k] W fun e w' => e = .returned (.string (ba (wordE k))) ∧ w' = W :=
  (exprWords w).mono fun e w' ⟨h1, h2, h3⟩ => ⟨h1, h2, fun W hW => wordOf w.heap.size k W (fun i x hx => below_cell hW (h3 i x hx) (World.block_lt_of_cell? w' _ (h3 i x hx)))⟩
end Go.Proofs.YtijblhnjhpmedaaDoor
