/-
  No cell of these rows narrows 'for every input' (looked for: loops, veiled, ifaces, maps, wideKeys, modest, calm, conditions, laid).
  DERIVED. THE GIVEN ROWS OF THIS SEAT. 5 by the template 'for every input the law returns true; each argument reads behind the call as it read before'; 0 by the template 'total and deterministic' (their statements: YtdlkmekdeiajhaaTotals.lean).
  GIVEN WITH THE SEED: the statements are not yours to turn. If you find one false, say at which input.
  Laid BY PROGRAM, IN A SANDBOX (cutbox-rows.mjs): the forced cells as the released guide's own fill.sh prints them over the translation 5cfbd96913df90bf… (all of the seat's roots in one cut). By AI agents, Wed Nov 11 2026. No macro, syntax, notation, axiom, sorry.
-/
import Derived.Test.YtdlkmekdeiajhaaChecked
import GoSem.Claim
import GoSem.ClaimJoined
import GoSem.ClaimMapViews
import Derived.JoinedTies
import Derived.KernelRfl
namespace Go.Proofs.Ytdlkmekdeiajhaa
/- THE CELL 'sum', in the pinned program and in every row, IS THE sha256 OF THE DUMP (.gsa) THAT YtdlkmekdeiajhaaProg.lean LOADS. Nothing in Lean hashes anything: it is a label: what it is worth is what the hold of that sum in a sandbox is worth. -/
noncomputable def Try.pinned : Pinned := { name := "ytdlkmekdeiajhaa", sum := "5cfbd96913df90bf5416793116ee18945c7930bb576d4b502c9fc996fca6b2c4", checked := Try.checked }
namespace Rows
def none {H : Type} : Left H := { results := [], args := [] }

/-- 'laws.FnSpanSound': WHATEVER THE INPUT: true; the input reads as it did. -/
def fnSpanSoundSpec : ChangeSpec := { name := "fnSpanSound", fn := fun _ => fun
  | [d1, d2] => { results := [.lit (.bool true)], args := [d1, d2] }
  | _ => none }
def fnSpanSoundRow : OpenClaim := { program := "ytdlkmekdeiajhaa", sum := "5cfbd96913df90bf5416793116ee18945c7930bb576d4b502c9fc996fca6b2c4", func := "loop.example/hedge/laws.FnSpanSound", spec := "fnSpanSound", apart := false }
def FnSpanSoundSaid : Prop := fnSpanSoundRow.holds Try.pinned (OpenSpec.ofChange fnSpanSoundSpec)

/-- ITS FALSE NEIGHBOUR: 'it returns false'. Refute it at one input. -/
def fnSpanSoundWrong : ChangeSpec := { name := "fnSpanSound", fn := fun _ => fun
  | [d1, d2] => { results := [.lit (.bool false)], args := [d1, d2] }
  | _ => none }
def FnSpanSoundWrongFalsely : Prop := fnSpanSoundRow.holds Try.pinned (OpenSpec.ofChange fnSpanSoundWrong)

/-- 'laws.FnSpanJoin': WHATEVER THE INPUT: true; the input reads as it did. -/
def fnSpanJoinSpec : ChangeSpec := { name := "fnSpanJoin", fn := fun _ => fun
  | [d1, d2] => { results := [.lit (.bool true)], args := [d1, d2] }
  | _ => none }
def fnSpanJoinRow : OpenClaim := { program := "ytdlkmekdeiajhaa", sum := "5cfbd96913df90bf5416793116ee18945c7930bb576d4b502c9fc996fca6b2c4", func := "loop.example/hedge/laws.FnSpanJoin", spec := "fnSpanJoin", apart := false }
def FnSpanJoinSaid : Prop := fnSpanJoinRow.holds Try.pinned (OpenSpec.ofChange fnSpanJoinSpec)

/-- ITS FALSE NEIGHBOUR: 'it returns false'. Refute it at one input. -/
def fnSpanJoinWrong : ChangeSpec := { name := "fnSpanJoin", fn := fun _ => fun
  | [d1, d2] => { results := [.lit (.bool false)], args := [d1, d2] }
  | _ => none }
def FnSpanJoinWrongFalsely : Prop := fnSpanJoinRow.holds Try.pinned (OpenSpec.ofChange fnSpanJoinWrong)

/-- 'laws.FnSpanOrder': WHATEVER THE INPUT: true; the input reads as it did. -/
def fnSpanOrderSpec : ChangeSpec := { name := "fnSpanOrder", fn := fun _ => fun
  | [d1, d2] => { results := [.lit (.bool true)], args := [d1, d2] }
  | _ => none }
def fnSpanOrderRow : OpenClaim := { program := "ytdlkmekdeiajhaa", sum := "5cfbd96913df90bf5416793116ee18945c7930bb576d4b502c9fc996fca6b2c4", func := "loop.example/hedge/laws.FnSpanOrder", spec := "fnSpanOrder", apart := false }
def FnSpanOrderSaid : Prop := fnSpanOrderRow.holds Try.pinned (OpenSpec.ofChange fnSpanOrderSpec)

/-- ITS FALSE NEIGHBOUR: 'it returns false'. Refute it at one input. -/
def fnSpanOrderWrong : ChangeSpec := { name := "fnSpanOrder", fn := fun _ => fun
  | [d1, d2] => { results := [.lit (.bool false)], args := [d1, d2] }
  | _ => none }
def FnSpanOrderWrongFalsely : Prop := fnSpanOrderRow.holds Try.pinned (OpenSpec.ofChange fnSpanOrderWrong)

/-- 'laws.FnSpanTight': WHATEVER THE INPUT: true; the input reads as it did. -/
def fnSpanTightSpec : ChangeSpec := { name := "fnSpanTight", fn := fun _ => fun
  | [d] => { results := [.lit (.bool true)], args := [d] }
  | _ => none }
def fnSpanTightRow : OpenClaim := { program := "ytdlkmekdeiajhaa", sum := "5cfbd96913df90bf5416793116ee18945c7930bb576d4b502c9fc996fca6b2c4", func := "loop.example/hedge/laws.FnSpanTight", spec := "fnSpanTight", apart := false }
def FnSpanTightSaid : Prop := fnSpanTightRow.holds Try.pinned (OpenSpec.ofChange fnSpanTightSpec)

/-- ITS FALSE NEIGHBOUR: 'it returns false'. Refute it at one input. -/
def fnSpanTightWrong : ChangeSpec := { name := "fnSpanTight", fn := fun _ => fun
  | [d] => { results := [.lit (.bool false)], args := [d] }
  | _ => none }
def FnSpanTightWrongFalsely : Prop := fnSpanTightRow.holds Try.pinned (OpenSpec.ofChange fnSpanTightWrong)

/-- 'laws.FnSpanHas': WHATEVER THE INPUT: true; the input reads as it did. -/
def fnSpanHasSpec : ChangeSpec := { name := "fnSpanHas", fn := fun _ => fun
  | [d1, d2] => { results := [.lit (.bool true)], args := [d1, d2] }
  | _ => none }
def fnSpanHasRow : OpenClaim := { program := "ytdlkmekdeiajhaa", sum := "5cfbd96913df90bf5416793116ee18945c7930bb576d4b502c9fc996fca6b2c4", func := "loop.example/hedge/laws.FnSpanHas", spec := "fnSpanHas", apart := false }
def FnSpanHasSaid : Prop := fnSpanHasRow.holds Try.pinned (OpenSpec.ofChange fnSpanHasSpec)

/-- ITS FALSE NEIGHBOUR: 'it returns false'. Refute it at one input. -/
def fnSpanHasWrong : ChangeSpec := { name := "fnSpanHas", fn := fun _ => fun
  | [d1, d2] => { results := [.lit (.bool false)], args := [d1, d2] }
  | _ => none }
def FnSpanHasWrongFalsely : Prop := fnSpanHasRow.holds Try.pinned (OpenSpec.ofChange fnSpanHasWrong)

/- THE SECOND FORM. 'bulk': how many values and letters a reading holds, each counted each time it is reached (what is shared counts as often as it is met; a slice's spare places count too). A statement '..UptoSaid' is the law's where the arguments, and the package variables that the reading takes, are together of bulk at most 1048576: NARROWER than '..Said'. Prove '..Said' where nothing that the law and all that it calls make is longer than what came in: it says more and counts as full. Else prove '..UptoSaid'. A law counts once. -/
mutual
def uptoBulk {H : Type} : DataW H → Nat
  | .lit (.string bytes) => bytes.length + 1
  | .lit _ => 1
  | .nil => 1
  | .ptr d => uptoBulk d + 1
  | .slice elems spare => uptoBulkAll elems + uptoBulkAll spare + 1
  | .agg parts => uptoBulkAll parts + 1
  | .iface _ d => uptoBulk d + 1
  | .map entries => uptoBulkEntries entries + 1
  | .held _ => 1
def uptoBulkAll {H : Type} : List (DataW H) → Nat
  | [] => 0
  | d :: r => uptoBulk d + uptoBulkAll r
def uptoBulkEntries {H : Type} : List (Lit × DataW H) → Nat
  | [] => 0
  | x :: r => uptoBulkEntry x + uptoBulkEntries r
def uptoBulkEntry {H : Type} : Lit × DataW H → Nat
  | (.string bytes, d) => bytes.length + uptoBulk d + 1
  | (_, d) => uptoBulk d + 1
 end
def uptoSmall : (H : Type) → List (DataW H) → Bool := fun _ ds => decide (uptoBulkAll ds ≤ 1048576)
def OpenSpec.upto (s : _root_.Go.ChangeSpec) : _root_.Go.OpenSpec := { _root_.Go.OpenSpec.ofChange s with cond := some uptoSmall }

/-- 'laws.FnSpanSound', WHERE WHAT IT READS IS OF BULK AT MOST 1048576: true; the input reads as it did. -/
def fnSpanSoundUptoRow : OpenClaim := { program := "ytdlkmekdeiajhaa", sum := "5cfbd96913df90bf5416793116ee18945c7930bb576d4b502c9fc996fca6b2c4", func := "loop.example/hedge/laws.FnSpanSound", spec := "fnSpanSound", apart := false, narrowed := true }
def FnSpanSoundUptoSaid : Prop := fnSpanSoundUptoRow.holds Try.pinned (OpenSpec.upto fnSpanSoundSpec)

/-- 'laws.FnSpanJoin', WHERE WHAT IT READS IS OF BULK AT MOST 1048576: true; the input reads as it did. -/
def fnSpanJoinUptoRow : OpenClaim := { program := "ytdlkmekdeiajhaa", sum := "5cfbd96913df90bf5416793116ee18945c7930bb576d4b502c9fc996fca6b2c4", func := "loop.example/hedge/laws.FnSpanJoin", spec := "fnSpanJoin", apart := false, narrowed := true }
def FnSpanJoinUptoSaid : Prop := fnSpanJoinUptoRow.holds Try.pinned (OpenSpec.upto fnSpanJoinSpec)

/-- 'laws.FnSpanOrder', WHERE WHAT IT READS IS OF BULK AT MOST 1048576: true; the input reads as it did. -/
def fnSpanOrderUptoRow : OpenClaim := { program := "ytdlkmekdeiajhaa", sum := "5cfbd96913df90bf5416793116ee18945c7930bb576d4b502c9fc996fca6b2c4", func := "loop.example/hedge/laws.FnSpanOrder", spec := "fnSpanOrder", apart := false, narrowed := true }
def FnSpanOrderUptoSaid : Prop := fnSpanOrderUptoRow.holds Try.pinned (OpenSpec.upto fnSpanOrderSpec)

/-- 'laws.FnSpanTight', WHERE WHAT IT READS IS OF BULK AT MOST 1048576: true; the input reads as it did. -/
def fnSpanTightUptoRow : OpenClaim := { program := "ytdlkmekdeiajhaa", sum := "5cfbd96913df90bf5416793116ee18945c7930bb576d4b502c9fc996fca6b2c4", func := "loop.example/hedge/laws.FnSpanTight", spec := "fnSpanTight", apart := false, narrowed := true }
def FnSpanTightUptoSaid : Prop := fnSpanTightUptoRow.holds Try.pinned (OpenSpec.upto fnSpanTightSpec)

/-- 'laws.FnSpanHas', WHERE WHAT IT READS IS OF BULK AT MOST 1048576: true; the input reads as it did. -/
def fnSpanHasUptoRow : OpenClaim := { program := "ytdlkmekdeiajhaa", sum := "5cfbd96913df90bf5416793116ee18945c7930bb576d4b502c9fc996fca6b2c4", func := "loop.example/hedge/laws.FnSpanHas", spec := "fnSpanHas", apart := false, narrowed := true }
def FnSpanHasUptoSaid : Prop := fnSpanHasUptoRow.holds Try.pinned (OpenSpec.upto fnSpanHasSpec)

end Rows
end Go.Proofs.Ytdlkmekdeiajhaa
