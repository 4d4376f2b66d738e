/-
  DERIVED. GIVEN WITH THE SEED: THE CARDS: each row of YtijblhnjhpmedaaDoorRows.lean that lists a variable, with what it lists TIED to the program's text (the seventh form; the later family's looks); each row that meets fmt, with fmt's text TOLD by the authors' own Lean function (tested against real Go, not proved from fmt's source: count such statements apart). THE CARD IS WHAT COUNTS. Prove the row's statement (the work); the ties are given (YtijblhnjhpmedaaDoorTie.lean); close each card by the builder's one call (the guide's Derived/Test/ToyasCard.lean, 'card_holds'). Laid BY PROGRAM, IN A SANDBOX (cutbox-door.mjs). By AI agents, Wed Nov 11 2026. No macro, syntax, notation, axiom, sorry.
-/
import Derived.Test.YtijblhnjhpmedaaDoorRows
import GoSem.ClaimSeven
namespace Go.Proofs.YtijblhnjhpmedaaDoor
namespace Rows

/-- THE TIED CARD OF 'laws.FnExactTextExpr'. -/
def fnExactTextExprCard : Claim7 := { stood := { row := fnExactTextExprRow, standIns := [], harness := (true, "95ce59067454b680b3536a65680eafa7ed0b6138ec9b12fc78da73f53ea4b7af"), looks := false }, kinds := [], alts := [], laidByText := true, laidKinds := [.data, .data, .data], laidTests := true, laidLooks := .later }
def FnExactTextExprCardSaid : Prop := Claim7.holds Tryd.pinned (.plain (OpenSpec.ofChange fnExactTextExprSpec)) fnExactTextExprCard

/-- THE SECOND FORM's CARD OF 'laws.FnExactTextExpr'. -/
def fnExactTextExprUptoCard : Claim7 := { stood := { row := fnExactTextExprUptoRow, standIns := [], harness := (true, "95ce59067454b680b3536a65680eafa7ed0b6138ec9b12fc78da73f53ea4b7af"), looks := false }, kinds := [], alts := [], laidByText := true, laidKinds := [.data, .data, .data], laidTests := true, laidLooks := .later }
def FnExactTextExprUptoCardSaid : Prop := Claim7.holds Tryd.pinned (.plain (OpenSpec.upto fnExactTextExprSpec)) fnExactTextExprUptoCard
end Rows
end Go.Proofs.YtijblhnjhpmedaaDoor
