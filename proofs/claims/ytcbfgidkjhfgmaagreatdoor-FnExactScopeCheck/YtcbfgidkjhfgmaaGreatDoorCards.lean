/-
  DERIVED. GIVEN WITH THE SEED: THE CARDS: each row of YtcbfgidkjhfgmaaGreatDoorRows.lean that lists a variable, with what it lists TIED to the program's text (the seventh form; the later family's looks); each row that meets fmt, with fmt's text TOLD by the authors' own Lean function (tested against real Go, not proved from fmt's source: count such statements apart). THE CARD IS WHAT COUNTS. Prove the row's statement (the work); the ties are given (YtcbfgidkjhfgmaaGreatDoorTie.lean); close each card by the builder's one call (the guide's Derived/Test/ToyasCard.lean, 'card_holds'). Laid BY PROGRAM, IN A SANDBOX (cutbox-door.mjs). By AI agents, Wed Nov 11 2026. No macro, syntax, notation, axiom, sorry.
-/
import Derived.Test.YtcbfgidkjhfgmaaGreatDoorRows
import GoSem.ClaimSeven
namespace Go.Proofs.YtcbfgidkjhfgmaaGreatDoor
namespace Rows

/-- THE TIED CARD OF 'laws.FnExactScopeCheck'. -/
def fnExactScopeCheckCard : Claim7 := { stood := { row := fnExactScopeCheckRow, standIns := [], harness := (true, "1cad05feadb9f29ada6eb07c9842ef49ded22c4be6a4d1c7d389fd748b77c7dc"), looks := true }, kinds := [], alts := [], laidByText := true, laidKinds := [.handle], laidTests := true, laidLooks := .later }
def FnExactScopeCheckCardSaid : Prop := Claim7.holds Tryz.pinned (.plain (OpenSpec.ofChange fnExactScopeCheckSpec)) fnExactScopeCheckCard

/-- THE SECOND FORM's CARD OF 'laws.FnExactScopeCheck'. -/
def fnExactScopeCheckUptoCard : Claim7 := { stood := { row := fnExactScopeCheckUptoRow, standIns := [], harness := (true, "1cad05feadb9f29ada6eb07c9842ef49ded22c4be6a4d1c7d389fd748b77c7dc"), looks := true }, kinds := [], alts := [], laidByText := true, laidKinds := [.handle], laidTests := true, laidLooks := .later }
def FnExactScopeCheckUptoCardSaid : Prop := Claim7.holds Tryz.pinned (.plain (OpenSpec.upto fnExactScopeCheckSpec)) fnExactScopeCheckUptoCard
end Rows
end Go.Proofs.YtcbfgidkjhfgmaaGreatDoor
