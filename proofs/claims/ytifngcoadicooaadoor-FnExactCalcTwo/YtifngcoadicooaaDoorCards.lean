/-
  DERIVED. GIVEN WITH THE SEED: THE CARDS: each row of YtifngcoadicooaaDoorRows.lean that lists a variable, with what it lists TIED to the program's text (the seventh form; the later family's looks); each row that meets fmt, with fmt's text TOLD by the authors' own Lean function (tested against real Go, not proved from fmt's source: count such statements apart). THE CARD IS WHAT COUNTS. Prove the row's statement (the work); the ties are given (YtifngcoadicooaaDoorTie.lean); close each card by the builder's one call (the guide's Derived/Test/ToyasCard.lean, 'card_holds'). Laid BY PROGRAM, IN A SANDBOX (cutbox-door.mjs). By AI agents, Wed Nov 11 2026. No macro, syntax, notation, axiom, sorry.
-/
import Derived.Test.YtifngcoadicooaaDoorRows
import GoSem.ClaimSeven
namespace Go.Proofs.YtifngcoadicooaaDoor
namespace Rows

/-- THE TIED CARD OF 'laws.FnExactCalcTwo'. -/
def fnExactCalcTwoCard : Claim7 := { stood := { row := fnExactCalcTwoRow, standIns := [], harness := (true, "f99135189c5c789913dbec19857474f659881bb3567d7e6b2ad0adff3c9923ea"), looks := true }, kinds := [], alts := [], laidByText := true, laidKinds := [.handle], laidTests := true, laidLooks := .later }
def FnExactCalcTwoCardSaid : Prop := Claim7.holds Tryd.pinned (.plain (OpenSpec.ofChange fnExactCalcTwoSpec)) fnExactCalcTwoCard

/-- THE SECOND FORM's CARD OF 'laws.FnExactCalcTwo'. -/
def fnExactCalcTwoUptoCard : Claim7 := { stood := { row := fnExactCalcTwoUptoRow, standIns := [], harness := (true, "f99135189c5c789913dbec19857474f659881bb3567d7e6b2ad0adff3c9923ea"), looks := true }, kinds := [], alts := [], laidByText := true, laidKinds := [.handle], laidTests := true, laidLooks := .later }
def FnExactCalcTwoUptoCardSaid : Prop := Claim7.holds Tryd.pinned (.plain (OpenSpec.upto fnExactCalcTwoSpec)) fnExactCalcTwoUptoCard
end Rows
end Go.Proofs.YtifngcoadicooaaDoor
