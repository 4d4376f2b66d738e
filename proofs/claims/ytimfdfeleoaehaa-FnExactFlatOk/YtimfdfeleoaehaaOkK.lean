/-
  What the program answers of a program.
-/
import Derived.Test.YtimfdfeleoaehaaOkJ
import Derived.Test.YtimfdfeleoaehaaOkD
namespace Go.Proofs.Ytimfdfeleoaehaa
open Go.RowKit Go.Shelf
set_option linter.unusedSimpArgs false
set_option linter.unusedVariables false
attribute [local go_sem] Oper.semAt_some

theorem SX.size_tot (sz : Nat) : ∀ s : SX, s.size ≤ sz → s.size ≤ 1 + s.tot := by
  induction sz with
  | zero => intro s h; rw [SX.size_eq] at h; omega
  | succ sz ih =>
    have hl : ∀ l : List SX, SX.sizeAll l ≤ sz → SX.sizeAll l ≤ l.length + SX.totAll l := by
      intro l
      induction l with
      | nil => intro _; simp [SX.sizeAll]
      | cons x xs ihx =>
        intro h
        simp only [SX.sizeAll] at h
        have h1 := ih x (by omega)
        have h2 := ihx (by omega)
        simp only [SX.sizeAll, SX.totAll, List.length_cons]
        omega
    intro s h
    rw [SX.size_eq] at h ⊢
    rw [SX.tot_eq]
    have h1 := hl s.la (by omega)
    have h2 := hl s.lb (by omega)
    omega
theorem SX.sizeAll_tot (l : List SX) : SX.sizeAll l ≤ l.length + SX.totAll l := by
  induction l with
  | nil => simp [SX.sizeAll]
  | cons x xs ih =>
    have h1 := SX.size_tot _ x (Nat.le_refl _)
    simp only [SX.sizeAll, SX.totAll, List.length_cons]
    omega
def PX.lens (p : PX) : Bool := decide (p.vars.length ≤ 6 ∧ p.chans.length ≤ 3 ∧ p.locks.length ≤ 3 ∧ p.tasks.length ≤ 4)
def PX.okI (p : PX) : Bool := p.lens && (p.vars.all (fun v => v.okB (mxI p.tasks.length 1)) && (p.chans.all (fun v => v.okB) && (p.locks.all (fun v => nameB v) && p.tasks.all (fun t => taskI t.l))))
end Go.Proofs.Ytimfdfeleoaehaa
