/-
  DERIVED. GIVEN WITH THE SEED: THE CARDS: each row of YtaajdoipjalgmaaGreatDoorRows.lean that lists a variable, with what it lists TIED to the program's text (the seventh form; the later family's looks); each row that meets fmt, with fmt's text TOLD by the authors' own Lean function (tested against real Go, not proved from fmt's source: count such statements apart). THE CARD IS WHAT COUNTS. Prove the row's statement (the work); the ties are given (YtaajdoipjalgmaaGreatDoorTie.lean); close each card by the builder's one call (the guide's Derived/Test/ToyasCard.lean, 'card_holds'). Laid BY PROGRAM, IN A SANDBOX (cutbox-door.mjs). By AI agents, Wed Nov 11 2026. No macro, syntax, notation, axiom, sorry.
-/
import Derived.Test.YtaajdoipjalgmaaGreatDoorRows
import GoSem.ClaimSeven
namespace Go.Proofs.YtaajdoipjalgmaaGreatDoor
namespace Rows

/-- THE TIED CARD OF 'laws.FnExactCalcOpen'. -/
def fnExactCalcOpenCard : Claim7 := { stood := { row := fnExactCalcOpenRow, standIns := [], harness := (true, "21ddcf629d334db6503a17f3abca3fd2dd5c3420f28ba903285f42c0e163d00b"), looks := true }, kinds := [], alts := [], laidByText := true, laidKinds := [.handle], laidTests := true, laidLooks := .later }
def FnExactCalcOpenCardSaid : Prop := Claim7.holds Tryz.pinned (.plain (OpenSpec.ofChange fnExactCalcOpenSpec)) fnExactCalcOpenCard

/-- THE TIED CARD OF 'laws.FnExactCalcOk'. -/
def fnExactCalcOkCard : Claim7 := { stood := { row := fnExactCalcOkRow, standIns := [], harness := (true, "21ddcf629d334db6503a17f3abca3fd2dd5c3420f28ba903285f42c0e163d00b"), looks := true }, kinds := [], alts := [], laidByText := true, laidKinds := [.handle], laidTests := true, laidLooks := .later }
def FnExactCalcOkCardSaid : Prop := Claim7.holds Tryz.pinned (.plain (OpenSpec.ofChange fnExactCalcOkSpec)) fnExactCalcOkCard

/-- THE TIED CARD OF 'laws.FnExactWalkOpen'. -/
def fnExactWalkOpenCard : Claim7 := { stood := { row := fnExactWalkOpenRow, standIns := [], harness := (true, "21ddcf629d334db6503a17f3abca3fd2dd5c3420f28ba903285f42c0e163d00b"), looks := true }, kinds := [], alts := [], laidByText := true, laidKinds := [.handle], laidTests := true, laidLooks := .later }
def FnExactWalkOpenCardSaid : Prop := Claim7.holds Tryz.pinned (.plain (OpenSpec.ofChange fnExactWalkOpenSpec)) fnExactWalkOpenCard

/-- THE SECOND FORM's CARD OF 'laws.FnExactCalcOpen'. -/
def fnExactCalcOpenUptoCard : Claim7 := { stood := { row := fnExactCalcOpenUptoRow, standIns := [], harness := (true, "21ddcf629d334db6503a17f3abca3fd2dd5c3420f28ba903285f42c0e163d00b"), looks := true }, kinds := [], alts := [], laidByText := true, laidKinds := [.handle], laidTests := true, laidLooks := .later }
def FnExactCalcOpenUptoCardSaid : Prop := Claim7.holds Tryz.pinned (.plain (OpenSpec.upto fnExactCalcOpenSpec)) fnExactCalcOpenUptoCard

/-- THE SECOND FORM's CARD OF 'laws.FnExactCalcOk'. -/
def fnExactCalcOkUptoCard : Claim7 := { stood := { row := fnExactCalcOkUptoRow, standIns := [], harness := (true, "21ddcf629d334db6503a17f3abca3fd2dd5c3420f28ba903285f42c0e163d00b"), looks := true }, kinds := [], alts := [], laidByText := true, laidKinds := [.handle], laidTests := true, laidLooks := .later }
def FnExactCalcOkUptoCardSaid : Prop := Claim7.holds Tryz.pinned (.plain (OpenSpec.upto fnExactCalcOkSpec)) fnExactCalcOkUptoCard

/-- THE SECOND FORM's CARD OF 'laws.FnExactWalkOpen'. -/
def fnExactWalkOpenUptoCard : Claim7 := { stood := { row := fnExactWalkOpenUptoRow, standIns := [], harness := (true, "21ddcf629d334db6503a17f3abca3fd2dd5c3420f28ba903285f42c0e163d00b"), looks := true }, kinds := [], alts := [], laidByText := true, laidKinds := [.handle], laidTests := true, laidLooks := .later }
def FnExactWalkOpenUptoCardSaid : Prop := Claim7.holds Tryz.pinned (.plain (OpenSpec.upto fnExactWalkOpenSpec)) fnExactWalkOpenUptoCard
end Rows
end Go.Proofs.YtaajdoipjalgmaaGreatDoor
