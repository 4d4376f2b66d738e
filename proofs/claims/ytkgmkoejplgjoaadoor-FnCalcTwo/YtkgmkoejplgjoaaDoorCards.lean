/-
  DERIVED. GIVEN WITH THE SEED: THE CARDS: each row of YtkgmkoejplgjoaaDoorRows.lean that lists a variable, with what it lists TIED to the program's text (the seventh form; the later family's looks); each row that meets fmt, with fmt's text TOLD by the authors' own Lean function (tested against real Go, not proved from fmt's source: count such statements apart). THE CARD IS WHAT COUNTS. Prove the row's statement (the work); the ties are given (YtkgmkoejplgjoaaDoorTie.lean); close each card by the builder's one call (the guide's Derived/Test/ToyasCard.lean, 'card_holds'). Laid BY PROGRAM, IN A SANDBOX (cutbox-door.mjs). By AI agents, Wed Nov 11 2026. No macro, syntax, notation, axiom, sorry.
-/
import Derived.Test.YtkgmkoejplgjoaaDoorRows
import GoSem.ClaimSeven
namespace Go.Proofs.YtkgmkoejplgjoaaDoor
namespace Rows

/-- THE TIED CARD OF 'laws.FnCalcTwo'. -/
def fnCalcTwoCard : Claim7 := { stood := { row := fnCalcTwoRow, standIns := [], harness := (true, "ad0e1c23c7922564c8a4a3978afab69238da0749e30a4a958f5c2d449111f1e1"), looks := true }, kinds := [], alts := [], laidByText := true, laidKinds := [.handle], laidTests := true, laidLooks := .later }
def FnCalcTwoCardSaid : Prop := Claim7.holds Tryd.pinned (.plain (OpenSpec.ofChange fnCalcTwoSpec)) fnCalcTwoCard

/-- THE SECOND FORM's CARD OF 'laws.FnCalcTwo'. -/
def fnCalcTwoUptoCard : Claim7 := { stood := { row := fnCalcTwoUptoRow, standIns := [], harness := (true, "ad0e1c23c7922564c8a4a3978afab69238da0749e30a4a958f5c2d449111f1e1"), looks := true }, kinds := [], alts := [], laidByText := true, laidKinds := [.handle], laidTests := true, laidLooks := .later }
def FnCalcTwoUptoCardSaid : Prop := Claim7.holds Tryd.pinned (.plain (OpenSpec.upto fnCalcTwoSpec)) fnCalcTwoUptoCard
end Rows
end Go.Proofs.YtkgmkoejplgjoaaDoor
