/-
  What the program answers of a task.
-/
import Derived.Test.YtimfdfeleoaehaaOkG
import Derived.Test.YtimfdfeleoaehaaOkH
import Derived.Test.YtimfdfeleoaehaaOkI
import Derived.Test.YtimfdfeleoaehaaOkR
namespace Go.Proofs.Ytimfdfeleoaehaa
open Go.RowKit Go.Shelf
set_option linter.unusedSimpArgs false
set_option linter.unusedVariables false
attribute [local go_sem] Oper.semAt_some

theorem SX.within_all (Q : SX → Prop) (hA : ∀ s, Q s → (∀ (i : Nat) (k : SX), s.la[i]? = some k → Q k) ∧ (∀ (i : Nat) (k : SX), s.lb[i]? = some k → Q k)) (sz : Nat) :
    ∀ ks : List SX, SX.sizeAll ks ≤ sz → (∀ (i : Nat) (k : SX), ks[i]? = some k → Q k) → ∀ r, ∀ x ∈ SX.withinAll ks r, Q x.2 := by
  induction sz using Nat.strongRecOn with
  | _ sz ih =>
  intro ks
  induction ks with
  | nil => intro _ _ r x hx; simp [SX.withinAll] at hx
  | cons s ss ihs =>
    intro hsz hQ r x hx
    have hs := hQ 0 s rfl
    obtain ⟨ha, hb⟩ := hA s hs
    have h1 := s.size_eq
    simp only [SX.sizeAll] at hsz
    rw [SX.withinAll, List.mem_append, SX.within_eq, List.mem_cons, List.mem_append] at hx
    rcases hx with (rfl | hx | hx) | hx
    · exact hs
    · exact ih (SX.sizeAll s.la) (by omega) s.la (Nat.le_refl _) ha _ x hx
    · exact ih (SX.sizeAll s.lb) (by omega) s.lb (Nat.le_refl _) hb _ x hx
    · exact ihs (by omega) (fun i k hk => hQ (i + 1) k (by simpa using hk)) r x hx

theorem wrapN {n : Int} (h0 : 0 ≤ n) (h1 : n < 1000000000000) : IntKind.i64.wrap n = n := by
  rw [IntKind.wrap_i64]
  omega
def goodS (x : Int × SX) : Bool := decide (x.1 ≤ 4) && x.2.fitB
def nodesOf (l : List (Int × SX)) : Nat := (l.map (fun x => x.2.e.size + x.2.f.size)).sum
theorem nodesOf_append (a b : List (Int × SX)) : nodesOf (a ++ b) = nodesOf a + nodesOf b := by simp [nodesOf]
theorem nodesOf_one (x : Int × SX) : nodesOf [x] = x.2.e.size + x.2.f.size := by simp [nodesOf]
def taskI (ks : List SX) : Bool := (SX.withinAll ks 0).all goodS && decide ((SX.withinAll ks 0).length ≤ 40 ∧ nodesOf (SX.withinAll ks 0) ≤ 640)
theorem taskI_bad {ks : List SX} {pre : List (Int × SX)} {x : Int × SX} (h : pre ++ [x] <+: SX.withinAll ks 0) (hx : goodS x = false) : taskI ks = false := by
  have h1 : (SX.withinAll ks 0).all goodS = false := by
    rw [List.all_eq_false]
    exact ⟨x, h.subset (by simp), by simp [hx]⟩
  simp [taskI, h1]
theorem taskI_long {ks : List SX} {pre : List (Int × SX)} (h : pre <+: SX.withinAll ks 0) (hx : ¬ (pre.length ≤ 40 ∧ nodesOf pre ≤ 640)) : taskI ks = false := by
  obtain ⟨q, hq⟩ := h
  have h1 : ¬ ((SX.withinAll ks 0).length ≤ 40 ∧ nodesOf (SX.withinAll ks 0) ≤ 640) := by
    rw [← hq, List.length_append, nodesOf_append]
    omega
  unfold taskI
  rw [decide_eq_false h1, Bool.and_false]

end Go.Proofs.Ytimfdfeleoaehaa
