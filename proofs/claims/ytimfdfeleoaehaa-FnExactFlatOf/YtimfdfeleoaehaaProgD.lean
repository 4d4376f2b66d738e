/-
  What is read of an argument that is a program of the laws' own type: it lies in memory, and its names and lists are no longer than Go allows.
-/
import Derived.Test.YtimfdfeleoaehaaProgC
import Derived.Test.YtimfdfeleoaehaaStmtE
namespace Go.Proofs.Ytimfdfeleoaehaa
open Go.RowKit
set_option linter.unusedSimpArgs false
set_option linter.unusedVariables false

theorem add_one (b o i : Nat) : (Addr.add ⟨b, o, none⟩ (i * 1)).add 0 = ⟨b, o + i, none⟩ := by
  rw [add_add]
  simp
end Go.Proofs.Ytimfdfeleoaehaa
