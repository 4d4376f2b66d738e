/-
  No cell of these rows narrows 'for every input' (looked for: loops, veiled, ifaces, maps, wideKeys, modest, calm, conditions, laid).
  DERIVED. THE GIVEN ROWS OF THIS SEAT. 9 by the template 'for every input the law returns true; each argument reads behind the call as it read before'; 0 by the template 'total and deterministic' (their statements: YtanglbpdfmanpaaTotals.lean).
  GIVEN WITH THE SEED: the statements are not yours to turn. If you find one false, say at which input.
  Laid BY PROGRAM, IN A SANDBOX (cutbox-rows.mjs): the forced cells as the released guide's own fill.sh prints them over the translation 4e666450f21a9bbb… (all of the seat's roots in one cut). By AI agents, Wed Nov 11 2026. No macro, syntax, notation, axiom, sorry.
-/
import Derived.Test.YtanglbpdfmanpaaChecked
import GoSem.Claim
import GoSem.ClaimJoined
import GoSem.ClaimMapViews
import Derived.JoinedTies
import Derived.KernelRfl
namespace Go.Proofs.Ytanglbpdfmanpaa
/- THE CELL 'sum', in the pinned program and in every row, IS THE sha256 OF THE DUMP (.gsa) THAT YtanglbpdfmanpaaProg.lean LOADS. Nothing in Lean hashes anything: it is a label: what it is worth is what the hold of that sum in a sandbox is worth. -/
noncomputable def Try.pinned : Pinned := { name := "ytanglbpdfmanpaa", sum := "4e666450f21a9bbb2959b0a4421508a8cf4f0a46d31951d9297a81511fcf8774", checked := Try.checked }
namespace Rows
def none {H : Type} : Left H := { results := [], args := [] }

/-- 'laws.FnExactSpanOk': WHATEVER THE INPUT: true; the input reads as it did. -/
def fnExactSpanOkSpec : ChangeSpec := { name := "fnExactSpanOk", fn := fun _ => fun
  | [d] => { results := [.lit (.bool true)], args := [d] }
  | _ => none }
def fnExactSpanOkRow : OpenClaim := { program := "ytanglbpdfmanpaa", sum := "4e666450f21a9bbb2959b0a4421508a8cf4f0a46d31951d9297a81511fcf8774", func := "loop.example/hedge/laws.FnExactSpanOk", spec := "fnExactSpanOk", apart := false }
def FnExactSpanOkSaid : Prop := fnExactSpanOkRow.holds Try.pinned (OpenSpec.ofChange fnExactSpanOkSpec)

/-- ITS FALSE NEIGHBOUR: 'it returns false'. Refute it at one input. -/
def fnExactSpanOkWrong : ChangeSpec := { name := "fnExactSpanOk", fn := fun _ => fun
  | [d] => { results := [.lit (.bool false)], args := [d] }
  | _ => none }
def FnExactSpanOkWrongFalsely : Prop := fnExactSpanOkRow.holds Try.pinned (OpenSpec.ofChange fnExactSpanOkWrong)

/-- 'laws.FnExactSpanHas': WHATEVER THE INPUT: true; the input reads as it did. -/
def fnExactSpanHasSpec : ChangeSpec := { name := "fnExactSpanHas", fn := fun _ => fun
  | [d1, d2] => { results := [.lit (.bool true)], args := [d1, d2] }
  | _ => none }
def fnExactSpanHasRow : OpenClaim := { program := "ytanglbpdfmanpaa", sum := "4e666450f21a9bbb2959b0a4421508a8cf4f0a46d31951d9297a81511fcf8774", func := "loop.example/hedge/laws.FnExactSpanHas", spec := "fnExactSpanHas", apart := false }
def FnExactSpanHasSaid : Prop := fnExactSpanHasRow.holds Try.pinned (OpenSpec.ofChange fnExactSpanHasSpec)

/-- ITS FALSE NEIGHBOUR: 'it returns false'. Refute it at one input. -/
def fnExactSpanHasWrong : ChangeSpec := { name := "fnExactSpanHas", fn := fun _ => fun
  | [d1, d2] => { results := [.lit (.bool false)], args := [d1, d2] }
  | _ => none }
def FnExactSpanHasWrongFalsely : Prop := fnExactSpanHasRow.holds Try.pinned (OpenSpec.ofChange fnExactSpanHasWrong)

/-- 'laws.FnExactSpanIn': WHATEVER THE INPUT: true; the input reads as it did. -/
def fnExactSpanInSpec : ChangeSpec := { name := "fnExactSpanIn", fn := fun _ => fun
  | [d1, d2] => { results := [.lit (.bool true)], args := [d1, d2] }
  | _ => none }
def fnExactSpanInRow : OpenClaim := { program := "ytanglbpdfmanpaa", sum := "4e666450f21a9bbb2959b0a4421508a8cf4f0a46d31951d9297a81511fcf8774", func := "loop.example/hedge/laws.FnExactSpanIn", spec := "fnExactSpanIn", apart := false }
def FnExactSpanInSaid : Prop := fnExactSpanInRow.holds Try.pinned (OpenSpec.ofChange fnExactSpanInSpec)

/-- ITS FALSE NEIGHBOUR: 'it returns false'. Refute it at one input. -/
def fnExactSpanInWrong : ChangeSpec := { name := "fnExactSpanIn", fn := fun _ => fun
  | [d1, d2] => { results := [.lit (.bool false)], args := [d1, d2] }
  | _ => none }
def FnExactSpanInWrongFalsely : Prop := fnExactSpanInRow.holds Try.pinned (OpenSpec.ofChange fnExactSpanInWrong)

/-- 'laws.FnExactSpanJoin': WHATEVER THE INPUT: true; the input reads as it did. -/
def fnExactSpanJoinSpec : ChangeSpec := { name := "fnExactSpanJoin", fn := fun _ => fun
  | [d1, d2] => { results := [.lit (.bool true)], args := [d1, d2] }
  | _ => none }
def fnExactSpanJoinRow : OpenClaim := { program := "ytanglbpdfmanpaa", sum := "4e666450f21a9bbb2959b0a4421508a8cf4f0a46d31951d9297a81511fcf8774", func := "loop.example/hedge/laws.FnExactSpanJoin", spec := "fnExactSpanJoin", apart := false }
def FnExactSpanJoinSaid : Prop := fnExactSpanJoinRow.holds Try.pinned (OpenSpec.ofChange fnExactSpanJoinSpec)

/-- ITS FALSE NEIGHBOUR: 'it returns false'. Refute it at one input. -/
def fnExactSpanJoinWrong : ChangeSpec := { name := "fnExactSpanJoin", fn := fun _ => fun
  | [d1, d2] => { results := [.lit (.bool false)], args := [d1, d2] }
  | _ => none }
def FnExactSpanJoinWrongFalsely : Prop := fnExactSpanJoinRow.holds Try.pinned (OpenSpec.ofChange fnExactSpanJoinWrong)

/-- 'laws.FnExactSpanMeet': WHATEVER THE INPUT: true; the input reads as it did. -/
def fnExactSpanMeetSpec : ChangeSpec := { name := "fnExactSpanMeet", fn := fun _ => fun
  | [d1, d2] => { results := [.lit (.bool true)], args := [d1, d2] }
  | _ => none }
def fnExactSpanMeetRow : OpenClaim := { program := "ytanglbpdfmanpaa", sum := "4e666450f21a9bbb2959b0a4421508a8cf4f0a46d31951d9297a81511fcf8774", func := "loop.example/hedge/laws.FnExactSpanMeet", spec := "fnExactSpanMeet", apart := false }
def FnExactSpanMeetSaid : Prop := fnExactSpanMeetRow.holds Try.pinned (OpenSpec.ofChange fnExactSpanMeetSpec)

/-- ITS FALSE NEIGHBOUR: 'it returns false'. Refute it at one input. -/
def fnExactSpanMeetWrong : ChangeSpec := { name := "fnExactSpanMeet", fn := fun _ => fun
  | [d1, d2] => { results := [.lit (.bool false)], args := [d1, d2] }
  | _ => none }
def FnExactSpanMeetWrongFalsely : Prop := fnExactSpanMeetRow.holds Try.pinned (OpenSpec.ofChange fnExactSpanMeetWrong)

/-- 'laws.FnExactSpanAdd': WHATEVER THE INPUT: true; the input reads as it did. -/
def fnExactSpanAddSpec : ChangeSpec := { name := "fnExactSpanAdd", fn := fun _ => fun
  | [d1, d2] => { results := [.lit (.bool true)], args := [d1, d2] }
  | _ => none }
def fnExactSpanAddRow : OpenClaim := { program := "ytanglbpdfmanpaa", sum := "4e666450f21a9bbb2959b0a4421508a8cf4f0a46d31951d9297a81511fcf8774", func := "loop.example/hedge/laws.FnExactSpanAdd", spec := "fnExactSpanAdd", apart := false }
def FnExactSpanAddSaid : Prop := fnExactSpanAddRow.holds Try.pinned (OpenSpec.ofChange fnExactSpanAddSpec)

/-- ITS FALSE NEIGHBOUR: 'it returns false'. Refute it at one input. -/
def fnExactSpanAddWrong : ChangeSpec := { name := "fnExactSpanAdd", fn := fun _ => fun
  | [d1, d2] => { results := [.lit (.bool false)], args := [d1, d2] }
  | _ => none }
def FnExactSpanAddWrongFalsely : Prop := fnExactSpanAddRow.holds Try.pinned (OpenSpec.ofChange fnExactSpanAddWrong)

/-- 'laws.FnExactSpanSub': WHATEVER THE INPUT: true; the input reads as it did. -/
def fnExactSpanSubSpec : ChangeSpec := { name := "fnExactSpanSub", fn := fun _ => fun
  | [d1, d2] => { results := [.lit (.bool true)], args := [d1, d2] }
  | _ => none }
def fnExactSpanSubRow : OpenClaim := { program := "ytanglbpdfmanpaa", sum := "4e666450f21a9bbb2959b0a4421508a8cf4f0a46d31951d9297a81511fcf8774", func := "loop.example/hedge/laws.FnExactSpanSub", spec := "fnExactSpanSub", apart := false }
def FnExactSpanSubSaid : Prop := fnExactSpanSubRow.holds Try.pinned (OpenSpec.ofChange fnExactSpanSubSpec)

/-- ITS FALSE NEIGHBOUR: 'it returns false'. Refute it at one input. -/
def fnExactSpanSubWrong : ChangeSpec := { name := "fnExactSpanSub", fn := fun _ => fun
  | [d1, d2] => { results := [.lit (.bool false)], args := [d1, d2] }
  | _ => none }
def FnExactSpanSubWrongFalsely : Prop := fnExactSpanSubRow.holds Try.pinned (OpenSpec.ofChange fnExactSpanSubWrong)

/-- 'laws.FnExactSpanMul': WHATEVER THE INPUT: true; the input reads as it did. -/
def fnExactSpanMulSpec : ChangeSpec := { name := "fnExactSpanMul", fn := fun _ => fun
  | [d1, d2] => { results := [.lit (.bool true)], args := [d1, d2] }
  | _ => none }
def fnExactSpanMulRow : OpenClaim := { program := "ytanglbpdfmanpaa", sum := "4e666450f21a9bbb2959b0a4421508a8cf4f0a46d31951d9297a81511fcf8774", func := "loop.example/hedge/laws.FnExactSpanMul", spec := "fnExactSpanMul", apart := false }
def FnExactSpanMulSaid : Prop := fnExactSpanMulRow.holds Try.pinned (OpenSpec.ofChange fnExactSpanMulSpec)

/-- ITS FALSE NEIGHBOUR: 'it returns false'. Refute it at one input. -/
def fnExactSpanMulWrong : ChangeSpec := { name := "fnExactSpanMul", fn := fun _ => fun
  | [d1, d2] => { results := [.lit (.bool false)], args := [d1, d2] }
  | _ => none }
def FnExactSpanMulWrongFalsely : Prop := fnExactSpanMulRow.holds Try.pinned (OpenSpec.ofChange fnExactSpanMulWrong)

/-- 'laws.FnExactSpanDiv': WHATEVER THE INPUT: true; the input reads as it did. -/
def fnExactSpanDivSpec : ChangeSpec := { name := "fnExactSpanDiv", fn := fun _ => fun
  | [d1, d2] => { results := [.lit (.bool true)], args := [d1, d2] }
  | _ => none }
def fnExactSpanDivRow : OpenClaim := { program := "ytanglbpdfmanpaa", sum := "4e666450f21a9bbb2959b0a4421508a8cf4f0a46d31951d9297a81511fcf8774", func := "loop.example/hedge/laws.FnExactSpanDiv", spec := "fnExactSpanDiv", apart := false }
def FnExactSpanDivSaid : Prop := fnExactSpanDivRow.holds Try.pinned (OpenSpec.ofChange fnExactSpanDivSpec)

/-- ITS FALSE NEIGHBOUR: 'it returns false'. Refute it at one input. -/
def fnExactSpanDivWrong : ChangeSpec := { name := "fnExactSpanDiv", fn := fun _ => fun
  | [d1, d2] => { results := [.lit (.bool false)], args := [d1, d2] }
  | _ => none }
def FnExactSpanDivWrongFalsely : Prop := fnExactSpanDivRow.holds Try.pinned (OpenSpec.ofChange fnExactSpanDivWrong)

/- THE SECOND FORM. 'bulk': how many values and letters a reading holds, each counted each time it is reached (what is shared counts as often as it is met; a slice's spare places count too). A statement '..UptoSaid' is the law's where the arguments, and the package variables that the reading takes, are together of bulk at most 1048576: NARROWER than '..Said'. Prove '..Said' where nothing that the law and all that it calls make is longer than what came in: it says more and counts as full. Else prove '..UptoSaid'. A law counts once. -/
mutual
def uptoBulk {H : Type} : DataW H → Nat
  | .lit (.string bytes) => bytes.length + 1
  | .lit _ => 1
  | .nil => 1
  | .ptr d => uptoBulk d + 1
  | .slice elems spare => uptoBulkAll elems + uptoBulkAll spare + 1
  | .agg parts => uptoBulkAll parts + 1
  | .iface _ d => uptoBulk d + 1
  | .map entries => uptoBulkEntries entries + 1
  | .held _ => 1
def uptoBulkAll {H : Type} : List (DataW H) → Nat
  | [] => 0
  | d :: r => uptoBulk d + uptoBulkAll r
def uptoBulkEntries {H : Type} : List (Lit × DataW H) → Nat
  | [] => 0
  | x :: r => uptoBulkEntry x + uptoBulkEntries r
def uptoBulkEntry {H : Type} : Lit × DataW H → Nat
  | (.string bytes, d) => bytes.length + uptoBulk d + 1
  | (_, d) => uptoBulk d + 1
 end
def uptoSmall : (H : Type) → List (DataW H) → Bool := fun _ ds => decide (uptoBulkAll ds ≤ 1048576)
def OpenSpec.upto (s : _root_.Go.ChangeSpec) : _root_.Go.OpenSpec := { _root_.Go.OpenSpec.ofChange s with cond := some uptoSmall }

/-- 'laws.FnExactSpanOk', WHERE WHAT IT READS IS OF BULK AT MOST 1048576: true; the input reads as it did. -/
def fnExactSpanOkUptoRow : OpenClaim := { program := "ytanglbpdfmanpaa", sum := "4e666450f21a9bbb2959b0a4421508a8cf4f0a46d31951d9297a81511fcf8774", func := "loop.example/hedge/laws.FnExactSpanOk", spec := "fnExactSpanOk", apart := false, narrowed := true }
def FnExactSpanOkUptoSaid : Prop := fnExactSpanOkUptoRow.holds Try.pinned (OpenSpec.upto fnExactSpanOkSpec)

/-- 'laws.FnExactSpanHas', WHERE WHAT IT READS IS OF BULK AT MOST 1048576: true; the input reads as it did. -/
def fnExactSpanHasUptoRow : OpenClaim := { program := "ytanglbpdfmanpaa", sum := "4e666450f21a9bbb2959b0a4421508a8cf4f0a46d31951d9297a81511fcf8774", func := "loop.example/hedge/laws.FnExactSpanHas", spec := "fnExactSpanHas", apart := false, narrowed := true }
def FnExactSpanHasUptoSaid : Prop := fnExactSpanHasUptoRow.holds Try.pinned (OpenSpec.upto fnExactSpanHasSpec)

/-- 'laws.FnExactSpanIn', WHERE WHAT IT READS IS OF BULK AT MOST 1048576: true; the input reads as it did. -/
def fnExactSpanInUptoRow : OpenClaim := { program := "ytanglbpdfmanpaa", sum := "4e666450f21a9bbb2959b0a4421508a8cf4f0a46d31951d9297a81511fcf8774", func := "loop.example/hedge/laws.FnExactSpanIn", spec := "fnExactSpanIn", apart := false, narrowed := true }
def FnExactSpanInUptoSaid : Prop := fnExactSpanInUptoRow.holds Try.pinned (OpenSpec.upto fnExactSpanInSpec)

/-- 'laws.FnExactSpanJoin', WHERE WHAT IT READS IS OF BULK AT MOST 1048576: true; the input reads as it did. -/
def fnExactSpanJoinUptoRow : OpenClaim := { program := "ytanglbpdfmanpaa", sum := "4e666450f21a9bbb2959b0a4421508a8cf4f0a46d31951d9297a81511fcf8774", func := "loop.example/hedge/laws.FnExactSpanJoin", spec := "fnExactSpanJoin", apart := false, narrowed := true }
def FnExactSpanJoinUptoSaid : Prop := fnExactSpanJoinUptoRow.holds Try.pinned (OpenSpec.upto fnExactSpanJoinSpec)

/-- 'laws.FnExactSpanMeet', WHERE WHAT IT READS IS OF BULK AT MOST 1048576: true; the input reads as it did. -/
def fnExactSpanMeetUptoRow : OpenClaim := { program := "ytanglbpdfmanpaa", sum := "4e666450f21a9bbb2959b0a4421508a8cf4f0a46d31951d9297a81511fcf8774", func := "loop.example/hedge/laws.FnExactSpanMeet", spec := "fnExactSpanMeet", apart := false, narrowed := true }
def FnExactSpanMeetUptoSaid : Prop := fnExactSpanMeetUptoRow.holds Try.pinned (OpenSpec.upto fnExactSpanMeetSpec)

/-- 'laws.FnExactSpanAdd', WHERE WHAT IT READS IS OF BULK AT MOST 1048576: true; the input reads as it did. -/
def fnExactSpanAddUptoRow : OpenClaim := { program := "ytanglbpdfmanpaa", sum := "4e666450f21a9bbb2959b0a4421508a8cf4f0a46d31951d9297a81511fcf8774", func := "loop.example/hedge/laws.FnExactSpanAdd", spec := "fnExactSpanAdd", apart := false, narrowed := true }
def FnExactSpanAddUptoSaid : Prop := fnExactSpanAddUptoRow.holds Try.pinned (OpenSpec.upto fnExactSpanAddSpec)

/-- 'laws.FnExactSpanSub', WHERE WHAT IT READS IS OF BULK AT MOST 1048576: true; the input reads as it did. -/
def fnExactSpanSubUptoRow : OpenClaim := { program := "ytanglbpdfmanpaa", sum := "4e666450f21a9bbb2959b0a4421508a8cf4f0a46d31951d9297a81511fcf8774", func := "loop.example/hedge/laws.FnExactSpanSub", spec := "fnExactSpanSub", apart := false, narrowed := true }
def FnExactSpanSubUptoSaid : Prop := fnExactSpanSubUptoRow.holds Try.pinned (OpenSpec.upto fnExactSpanSubSpec)

/-- 'laws.FnExactSpanMul', WHERE WHAT IT READS IS OF BULK AT MOST 1048576: true; the input reads as it did. -/
def fnExactSpanMulUptoRow : OpenClaim := { program := "ytanglbpdfmanpaa", sum := "4e666450f21a9bbb2959b0a4421508a8cf4f0a46d31951d9297a81511fcf8774", func := "loop.example/hedge/laws.FnExactSpanMul", spec := "fnExactSpanMul", apart := false, narrowed := true }
def FnExactSpanMulUptoSaid : Prop := fnExactSpanMulUptoRow.holds Try.pinned (OpenSpec.upto fnExactSpanMulSpec)

/-- 'laws.FnExactSpanDiv', WHERE WHAT IT READS IS OF BULK AT MOST 1048576: true; the input reads as it did. -/
def fnExactSpanDivUptoRow : OpenClaim := { program := "ytanglbpdfmanpaa", sum := "4e666450f21a9bbb2959b0a4421508a8cf4f0a46d31951d9297a81511fcf8774", func := "loop.example/hedge/laws.FnExactSpanDiv", spec := "fnExactSpanDiv", apart := false, narrowed := true }
def FnExactSpanDivUptoSaid : Prop := fnExactSpanDivUptoRow.holds Try.pinned (OpenSpec.upto fnExactSpanDivSpec)

end Rows
end Go.Proofs.Ytanglbpdfmanpaa
