/-
  DERIVED. GIVEN WITH THE SEED: THE CARDS: each row of YtbcgjnaoefgmiaaDoorRows.lean that lists a variable, with what it lists TIED to the program's text (the seventh form; the later family's looks); each row that meets fmt, with fmt's text TOLD by the authors' own Lean function (tested against real Go, not proved from fmt's source: count such statements apart). THE CARD IS WHAT COUNTS. Prove the row's statement (the work); the ties are given (YtbcgjnaoefgmiaaDoorTie.lean); close each card by the builder's one call (the guide's Derived/Test/ToyasCard.lean, 'card_holds'). Laid BY PROGRAM, IN A SANDBOX (cutbox-door.mjs). By AI agents, Wed Nov 11 2026. No macro, syntax, notation, axiom, sorry.
-/
import Derived.Test.YtbcgjnaoefgmiaaDoorRows
import GoSem.ClaimSeven
namespace Go.Proofs.YtbcgjnaoefgmiaaDoor
namespace Rows

/-- THE TIED CARD OF 'laws.FnTextName'. -/
def fnTextNameCard : Claim7 := { stood := { row := fnTextNameRow, standIns := [], harness := (true, "8107984c3f4e96adde8bd72fe858072900ef758f06de5f9fe312dc4697b1c33c"), looks := true }, kinds := [], alts := [], laidByText := true, laidKinds := [.data, .data, .data, .sentinel, .sentinel], laidTests := true, laidLooks := .later }
def FnTextNameCardSaid : Prop := Claim7.holds Tryd.pinned (.plain (OpenSpec.ofChange fnTextNameSpec)) fnTextNameCard

/-- THE SECOND FORM's CARD OF 'laws.FnTextName'. -/
def fnTextNameUptoCard : Claim7 := { stood := { row := fnTextNameUptoRow, standIns := [], harness := (true, "8107984c3f4e96adde8bd72fe858072900ef758f06de5f9fe312dc4697b1c33c"), looks := true }, kinds := [], alts := [], laidByText := true, laidKinds := [.data, .data, .data, .sentinel, .sentinel], laidTests := true, laidLooks := .later }
def FnTextNameUptoCardSaid : Prop := Claim7.holds Tryd.pinned (.plain (OpenSpec.upto fnTextNameSpec)) fnTextNameUptoCard
end Rows
end Go.Proofs.YtbcgjnaoefgmiaaDoor
