/-
  NARROWER THAN 'FOR EVERY INPUT', by the rows' own cells (each row's printed sentence says how): FnExactTreeExprOk: loops · FnExactTreeOk: loops · FnExactTreeStmtsOf: loops · FnExactTreeSame: loops.
  DERIVED. THE GIVEN ROWS OF THIS SEAT. 7 by the template 'for every input the law returns true; each argument reads behind the call as it read before'; 0 by the template 'total and deterministic' (their statements: YtiabnpbhhiacmaaTotals.lean).
  GIVEN WITH THE SEED: the statements are not yours to turn. If you find one false, say at which input.
  Laid BY PROGRAM, IN A SANDBOX (cutbox-rows.mjs): the forced cells as the released guide's own fill.sh prints them over the translation 882ed10c5bd6b78a… (all of the seat's roots in one cut). By AI agents, Wed Nov 11 2026. No macro, syntax, notation, axiom, sorry.
-/
import Derived.Test.YtiabnpbhhiacmaaChecked
import GoSem.Claim
import GoSem.ClaimJoined
import GoSem.ClaimMapViews
import Derived.JoinedTies
import Derived.KernelRfl
namespace Go.Proofs.Ytiabnpbhhiacmaa
/- THE CELL 'sum', in the pinned program and in every row, IS THE sha256 OF THE DUMP (.gsa) THAT YtiabnpbhhiacmaaProg.lean LOADS. Nothing in Lean hashes anything: it is a label: what it is worth is what the hold of that sum in a sandbox is worth. -/
noncomputable def Try.pinned : Pinned := { name := "ytiabnpbhhiacmaa", sum := "882ed10c5bd6b78ac7cba89efe2ba7f9dccee0bd948d11349f8caff297d4c4c6", checked := Try.checked }
namespace Rows
def none {H : Type} : Left H := { results := [], args := [] }

/-- 'laws.FnTreeParts': WHATEVER THE INPUT: true; the input reads as it did. -/
def fnTreePartsSpec : ChangeSpec := { name := "fnTreeParts", fn := fun _ => fun
  | [d] => { results := [.lit (.bool true)], args := [d] }
  | _ => none }
def fnTreePartsRow : OpenClaim := { program := "ytiabnpbhhiacmaa", sum := "882ed10c5bd6b78ac7cba89efe2ba7f9dccee0bd948d11349f8caff297d4c4c6", func := "loop.example/hedge/laws.FnTreeParts", spec := "fnTreeParts", unfollowed := true, recurses := true, apart := false }
def FnTreePartsSaid : Prop := fnTreePartsRow.holds Try.pinned (OpenSpec.ofChange fnTreePartsSpec)

/-- ITS FALSE NEIGHBOUR: 'it returns false'. Refute it at one input. -/
def fnTreePartsWrong : ChangeSpec := { name := "fnTreeParts", fn := fun _ => fun
  | [d] => { results := [.lit (.bool false)], args := [d] }
  | _ => none }
def FnTreePartsWrongFalsely : Prop := fnTreePartsRow.holds Try.pinned (OpenSpec.ofChange fnTreePartsWrong)

/-- 'laws.FnExactTreeName': WHATEVER THE INPUT: true; the input reads as it did. -/
def fnExactTreeNameSpec : ChangeSpec := { name := "fnExactTreeName", fn := fun _ => fun
  | [d] => { results := [.lit (.bool true)], args := [d] }
  | _ => none }
def fnExactTreeNameRow : OpenClaim := { program := "ytiabnpbhhiacmaa", sum := "882ed10c5bd6b78ac7cba89efe2ba7f9dccee0bd948d11349f8caff297d4c4c6", func := "loop.example/hedge/laws.FnExactTreeName", spec := "fnExactTreeName", apart := false }
def FnExactTreeNameSaid : Prop := fnExactTreeNameRow.holds Try.pinned (OpenSpec.ofChange fnExactTreeNameSpec)

/-- ITS FALSE NEIGHBOUR: 'it returns false'. Refute it at one input. -/
def fnExactTreeNameWrong : ChangeSpec := { name := "fnExactTreeName", fn := fun _ => fun
  | [d] => { results := [.lit (.bool false)], args := [d] }
  | _ => none }
def FnExactTreeNameWrongFalsely : Prop := fnExactTreeNameRow.holds Try.pinned (OpenSpec.ofChange fnExactTreeNameWrong)

/-- 'laws.FnExactTreeExprOk': WHATEVER THE INPUT: true; the input reads as it did. -/
def fnExactTreeExprOkSpec : ChangeSpec := { name := "fnExactTreeExprOk", fn := fun _ => fun
  | [d] => { results := [.lit (.bool true)], args := [d] }
  | _ => none }
def fnExactTreeExprOkRow : OpenClaim := { program := "ytiabnpbhhiacmaa", sum := "882ed10c5bd6b78ac7cba89efe2ba7f9dccee0bd948d11349f8caff297d4c4c6", func := "loop.example/hedge/laws.FnExactTreeExprOk", spec := "fnExactTreeExprOk", unfollowed := true, recurses := true, loops := true, apart := false }
def FnExactTreeExprOkSaid : Prop := fnExactTreeExprOkRow.holds Try.pinned (OpenSpec.ofChange fnExactTreeExprOkSpec)

/-- ITS FALSE NEIGHBOUR: 'it returns false'. Refute it at one input. -/
def fnExactTreeExprOkWrong : ChangeSpec := { name := "fnExactTreeExprOk", fn := fun _ => fun
  | [d] => { results := [.lit (.bool false)], args := [d] }
  | _ => none }
def FnExactTreeExprOkWrongFalsely : Prop := fnExactTreeExprOkRow.holds Try.pinned (OpenSpec.ofChange fnExactTreeExprOkWrong)

/-- 'laws.FnExactTreeOk': WHATEVER THE INPUT: true; the input reads as it did. -/
def fnExactTreeOkSpec : ChangeSpec := { name := "fnExactTreeOk", fn := fun _ => fun
  | [d] => { results := [.lit (.bool true)], args := [d] }
  | _ => none }
def fnExactTreeOkRow : OpenClaim := { program := "ytiabnpbhhiacmaa", sum := "882ed10c5bd6b78ac7cba89efe2ba7f9dccee0bd948d11349f8caff297d4c4c6", func := "loop.example/hedge/laws.FnExactTreeOk", spec := "fnExactTreeOk", unfollowed := true, recurses := true, loops := true, apart := false }
def FnExactTreeOkSaid : Prop := fnExactTreeOkRow.holds Try.pinned (OpenSpec.ofChange fnExactTreeOkSpec)

/-- ITS FALSE NEIGHBOUR: 'it returns false'. Refute it at one input. -/
def fnExactTreeOkWrong : ChangeSpec := { name := "fnExactTreeOk", fn := fun _ => fun
  | [d] => { results := [.lit (.bool false)], args := [d] }
  | _ => none }
def FnExactTreeOkWrongFalsely : Prop := fnExactTreeOkRow.holds Try.pinned (OpenSpec.ofChange fnExactTreeOkWrong)

/-- 'laws.FnExactTreeStmtsOf': WHATEVER THE INPUT: true; the input reads as it did. -/
def fnExactTreeStmtsOfSpec : ChangeSpec := { name := "fnExactTreeStmtsOf", fn := fun _ => fun
  | [d] => { results := [.lit (.bool true)], args := [d] }
  | _ => none }
def fnExactTreeStmtsOfRow : OpenClaim := { program := "ytiabnpbhhiacmaa", sum := "882ed10c5bd6b78ac7cba89efe2ba7f9dccee0bd948d11349f8caff297d4c4c6", func := "loop.example/hedge/laws.FnExactTreeStmtsOf", spec := "fnExactTreeStmtsOf", unfollowed := true, recurses := true, loops := true, apart := false }
def FnExactTreeStmtsOfSaid : Prop := fnExactTreeStmtsOfRow.holds Try.pinned (OpenSpec.ofChange fnExactTreeStmtsOfSpec)

/-- ITS FALSE NEIGHBOUR: 'it returns false'. Refute it at one input. -/
def fnExactTreeStmtsOfWrong : ChangeSpec := { name := "fnExactTreeStmtsOf", fn := fun _ => fun
  | [d] => { results := [.lit (.bool false)], args := [d] }
  | _ => none }
def FnExactTreeStmtsOfWrongFalsely : Prop := fnExactTreeStmtsOfRow.holds Try.pinned (OpenSpec.ofChange fnExactTreeStmtsOfWrong)

/-- 'laws.FnExactTreeSame': WHATEVER THE INPUT: true; the input reads as it did. -/
def fnExactTreeSameSpec : ChangeSpec := { name := "fnExactTreeSame", fn := fun _ => fun
  | [d1, d2] => { results := [.lit (.bool true)], args := [d1, d2] }
  | _ => none }
def fnExactTreeSameRow : OpenClaim := { program := "ytiabnpbhhiacmaa", sum := "882ed10c5bd6b78ac7cba89efe2ba7f9dccee0bd948d11349f8caff297d4c4c6", func := "loop.example/hedge/laws.FnExactTreeSame", spec := "fnExactTreeSame", unfollowed := true, recurses := true, loops := true, apart := false }
def FnExactTreeSameSaid : Prop := fnExactTreeSameRow.holds Try.pinned (OpenSpec.ofChange fnExactTreeSameSpec)

/-- ITS FALSE NEIGHBOUR: 'it returns false'. Refute it at one input. -/
def fnExactTreeSameWrong : ChangeSpec := { name := "fnExactTreeSame", fn := fun _ => fun
  | [d1, d2] => { results := [.lit (.bool false)], args := [d1, d2] }
  | _ => none }
def FnExactTreeSameWrongFalsely : Prop := fnExactTreeSameRow.holds Try.pinned (OpenSpec.ofChange fnExactTreeSameWrong)

/-- 'laws.FnExactTextWords': WHATEVER THE INPUT: true; the input reads as it did. -/
def fnExactTextWordsSpec : ChangeSpec := { name := "fnExactTextWords", fn := fun _ => fun
  | [d] => { results := [.lit (.bool true)], args := [d] }
  | _ => none }
def fnExactTextWordsRow : OpenClaim := { program := "ytiabnpbhhiacmaa", sum := "882ed10c5bd6b78ac7cba89efe2ba7f9dccee0bd948d11349f8caff297d4c4c6", func := "loop.example/hedge/laws.FnExactTextWords", spec := "fnExactTextWords", unfollowed := true, recurses := true, apart := false }
def FnExactTextWordsSaid : Prop := fnExactTextWordsRow.holds Try.pinned (OpenSpec.ofChange fnExactTextWordsSpec)

/-- ITS FALSE NEIGHBOUR: 'it returns false'. Refute it at one input. -/
def fnExactTextWordsWrong : ChangeSpec := { name := "fnExactTextWords", fn := fun _ => fun
  | [d] => { results := [.lit (.bool false)], args := [d] }
  | _ => none }
def FnExactTextWordsWrongFalsely : Prop := fnExactTextWordsRow.holds Try.pinned (OpenSpec.ofChange fnExactTextWordsWrong)

/- THE SECOND FORM. 'bulk': how many values and letters a reading holds, each counted each time it is reached (what is shared counts as often as it is met; a slice's spare places count too). A statement '..UptoSaid' is the law's where the arguments, and the package variables that the reading takes, are together of bulk at most 1048576: NARROWER than '..Said'. Prove '..Said' where nothing that the law and all that it calls make is longer than what came in: it says more and counts as full. Else prove '..UptoSaid'. A law counts once. -/
mutual
def uptoBulk {H : Type} : DataW H → Nat
  | .lit (.string bytes) => bytes.length + 1
  | .lit _ => 1
  | .nil => 1
  | .ptr d => uptoBulk d + 1
  | .slice elems spare => uptoBulkAll elems + uptoBulkAll spare + 1
  | .agg parts => uptoBulkAll parts + 1
  | .iface _ d => uptoBulk d + 1
  | .map entries => uptoBulkEntries entries + 1
  | .held _ => 1
def uptoBulkAll {H : Type} : List (DataW H) → Nat
  | [] => 0
  | d :: r => uptoBulk d + uptoBulkAll r
def uptoBulkEntries {H : Type} : List (Lit × DataW H) → Nat
  | [] => 0
  | x :: r => uptoBulkEntry x + uptoBulkEntries r
def uptoBulkEntry {H : Type} : Lit × DataW H → Nat
  | (.string bytes, d) => bytes.length + uptoBulk d + 1
  | (_, d) => uptoBulk d + 1
 end
def uptoSmall : (H : Type) → List (DataW H) → Bool := fun _ ds => decide (uptoBulkAll ds ≤ 1048576)
def OpenSpec.upto (s : _root_.Go.ChangeSpec) : _root_.Go.OpenSpec := { _root_.Go.OpenSpec.ofChange s with cond := some uptoSmall }

/-- 'laws.FnTreeParts', WHERE WHAT IT READS IS OF BULK AT MOST 1048576: true; the input reads as it did. -/
def fnTreePartsUptoRow : OpenClaim := { program := "ytiabnpbhhiacmaa", sum := "882ed10c5bd6b78ac7cba89efe2ba7f9dccee0bd948d11349f8caff297d4c4c6", func := "loop.example/hedge/laws.FnTreeParts", spec := "fnTreeParts", unfollowed := true, recurses := true, apart := false, narrowed := true }
def FnTreePartsUptoSaid : Prop := fnTreePartsUptoRow.holds Try.pinned (OpenSpec.upto fnTreePartsSpec)

/-- 'laws.FnExactTreeName', WHERE WHAT IT READS IS OF BULK AT MOST 1048576: true; the input reads as it did. -/
def fnExactTreeNameUptoRow : OpenClaim := { program := "ytiabnpbhhiacmaa", sum := "882ed10c5bd6b78ac7cba89efe2ba7f9dccee0bd948d11349f8caff297d4c4c6", func := "loop.example/hedge/laws.FnExactTreeName", spec := "fnExactTreeName", apart := false, narrowed := true }
def FnExactTreeNameUptoSaid : Prop := fnExactTreeNameUptoRow.holds Try.pinned (OpenSpec.upto fnExactTreeNameSpec)

/-- 'laws.FnExactTreeExprOk', WHERE WHAT IT READS IS OF BULK AT MOST 1048576: true; the input reads as it did. -/
def fnExactTreeExprOkUptoRow : OpenClaim := { program := "ytiabnpbhhiacmaa", sum := "882ed10c5bd6b78ac7cba89efe2ba7f9dccee0bd948d11349f8caff297d4c4c6", func := "loop.example/hedge/laws.FnExactTreeExprOk", spec := "fnExactTreeExprOk", unfollowed := true, recurses := true, loops := true, apart := false, narrowed := true }
def FnExactTreeExprOkUptoSaid : Prop := fnExactTreeExprOkUptoRow.holds Try.pinned (OpenSpec.upto fnExactTreeExprOkSpec)

/-- 'laws.FnExactTreeOk', WHERE WHAT IT READS IS OF BULK AT MOST 1048576: true; the input reads as it did. -/
def fnExactTreeOkUptoRow : OpenClaim := { program := "ytiabnpbhhiacmaa", sum := "882ed10c5bd6b78ac7cba89efe2ba7f9dccee0bd948d11349f8caff297d4c4c6", func := "loop.example/hedge/laws.FnExactTreeOk", spec := "fnExactTreeOk", unfollowed := true, recurses := true, loops := true, apart := false, narrowed := true }
def FnExactTreeOkUptoSaid : Prop := fnExactTreeOkUptoRow.holds Try.pinned (OpenSpec.upto fnExactTreeOkSpec)

/-- 'laws.FnExactTreeStmtsOf', WHERE WHAT IT READS IS OF BULK AT MOST 1048576: true; the input reads as it did. -/
def fnExactTreeStmtsOfUptoRow : OpenClaim := { program := "ytiabnpbhhiacmaa", sum := "882ed10c5bd6b78ac7cba89efe2ba7f9dccee0bd948d11349f8caff297d4c4c6", func := "loop.example/hedge/laws.FnExactTreeStmtsOf", spec := "fnExactTreeStmtsOf", unfollowed := true, recurses := true, loops := true, apart := false, narrowed := true }
def FnExactTreeStmtsOfUptoSaid : Prop := fnExactTreeStmtsOfUptoRow.holds Try.pinned (OpenSpec.upto fnExactTreeStmtsOfSpec)

/-- 'laws.FnExactTreeSame', WHERE WHAT IT READS IS OF BULK AT MOST 1048576: true; the input reads as it did. -/
def fnExactTreeSameUptoRow : OpenClaim := { program := "ytiabnpbhhiacmaa", sum := "882ed10c5bd6b78ac7cba89efe2ba7f9dccee0bd948d11349f8caff297d4c4c6", func := "loop.example/hedge/laws.FnExactTreeSame", spec := "fnExactTreeSame", unfollowed := true, recurses := true, loops := true, apart := false, narrowed := true }
def FnExactTreeSameUptoSaid : Prop := fnExactTreeSameUptoRow.holds Try.pinned (OpenSpec.upto fnExactTreeSameSpec)

/-- 'laws.FnExactTextWords', WHERE WHAT IT READS IS OF BULK AT MOST 1048576: true; the input reads as it did. -/
def fnExactTextWordsUptoRow : OpenClaim := { program := "ytiabnpbhhiacmaa", sum := "882ed10c5bd6b78ac7cba89efe2ba7f9dccee0bd948d11349f8caff297d4c4c6", func := "loop.example/hedge/laws.FnExactTextWords", spec := "fnExactTextWords", unfollowed := true, recurses := true, apart := false, narrowed := true }
def FnExactTextWordsUptoSaid : Prop := fnExactTextWordsUptoRow.holds Try.pinned (OpenSpec.upto fnExactTextWordsSpec)

end Rows
end Go.Proofs.Ytiabnpbhhiacmaa
