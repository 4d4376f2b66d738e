/-
  NARROWER THAN 'FOR EVERY INPUT', by the rows' own cells (each row's printed sentence says how): FnExactTreeStmtsOf: loops · FnExactScopeVar: loops · FnExactScopeChan: loops · FnExactScopeLock: loops · FnExactScopeMay: loops.
  DERIVED. THE GIVEN ROWS OF THIS SEAT. 5 by the template 'for every input the law returns true; each argument reads behind the call as it read before'; 0 by the template 'total and deterministic' (their statements: YtgpjpeepamaibaaTotals.lean).
  GIVEN WITH THE SEED: the statements are not yours to turn. If you find one false, say at which input.
  Laid BY PROGRAM, IN A SANDBOX (cutbox-rows.mjs): the forced cells as the released guide's own fill.sh prints them over the translation 887b610a1775c337… (all of the seat's roots in one cut). By AI agents, Wed Nov 11 2026. No macro, syntax, notation, axiom, sorry.
-/
import Derived.Test.YtgpjpeepamaibaaChecked
import GoSem.Claim
import GoSem.ClaimJoined
import GoSem.ClaimMapViews
import Derived.JoinedTies
import Derived.KernelRfl
namespace Go.Proofs.Ytgpjpeepamaibaa
/- THE CELL 'sum', in the pinned program and in every row, IS THE sha256 OF THE DUMP (.gsa) THAT YtgpjpeepamaibaaProg.lean LOADS. Nothing in Lean hashes anything: it is a label: what it is worth is what the hold of that sum in a sandbox is worth. -/
noncomputable def Try.pinned : Pinned := { name := "ytgpjpeepamaibaa", sum := "887b610a1775c33708faf7756a0afb24e581a9e852c387199d14eb4722afb4e6", checked := Try.checked }
namespace Rows
def none {H : Type} : Left H := { results := [], args := [] }

/-- 'laws.FnExactTreeStmtsOf': WHATEVER THE INPUT: true; the input reads as it did. -/
def fnExactTreeStmtsOfSpec : ChangeSpec := { name := "fnExactTreeStmtsOf", fn := fun _ => fun
  | [d] => { results := [.lit (.bool true)], args := [d] }
  | _ => none }
def fnExactTreeStmtsOfRow : OpenClaim := { program := "ytgpjpeepamaibaa", sum := "887b610a1775c33708faf7756a0afb24e581a9e852c387199d14eb4722afb4e6", func := "loop.example/hedge/laws.FnExactTreeStmtsOf", spec := "fnExactTreeStmtsOf", unfollowed := true, recurses := true, loops := true, apart := false }
def FnExactTreeStmtsOfSaid : Prop := fnExactTreeStmtsOfRow.holds Try.pinned (OpenSpec.ofChange fnExactTreeStmtsOfSpec)

/-- ITS FALSE NEIGHBOUR: 'it returns false'. Refute it at one input. -/
def fnExactTreeStmtsOfWrong : ChangeSpec := { name := "fnExactTreeStmtsOf", fn := fun _ => fun
  | [d] => { results := [.lit (.bool false)], args := [d] }
  | _ => none }
def FnExactTreeStmtsOfWrongFalsely : Prop := fnExactTreeStmtsOfRow.holds Try.pinned (OpenSpec.ofChange fnExactTreeStmtsOfWrong)

/-- 'laws.FnExactScopeVar': WHATEVER THE INPUT: true; the input reads as it did. -/
def fnExactScopeVarSpec : ChangeSpec := { name := "fnExactScopeVar", fn := fun _ => fun
  | [d1, d2] => { results := [.lit (.bool true)], args := [d1, d2] }
  | _ => none }
def fnExactScopeVarRow : OpenClaim := { program := "ytgpjpeepamaibaa", sum := "887b610a1775c33708faf7756a0afb24e581a9e852c387199d14eb4722afb4e6", func := "loop.example/hedge/laws.FnExactScopeVar", spec := "fnExactScopeVar", unfollowed := true, recurses := true, loops := true, apart := false }
def FnExactScopeVarSaid : Prop := fnExactScopeVarRow.holds Try.pinned (OpenSpec.ofChange fnExactScopeVarSpec)

/-- ITS FALSE NEIGHBOUR: 'it returns false'. Refute it at one input. -/
def fnExactScopeVarWrong : ChangeSpec := { name := "fnExactScopeVar", fn := fun _ => fun
  | [d1, d2] => { results := [.lit (.bool false)], args := [d1, d2] }
  | _ => none }
def FnExactScopeVarWrongFalsely : Prop := fnExactScopeVarRow.holds Try.pinned (OpenSpec.ofChange fnExactScopeVarWrong)

/-- 'laws.FnExactScopeChan': WHATEVER THE INPUT: true; the input reads as it did. -/
def fnExactScopeChanSpec : ChangeSpec := { name := "fnExactScopeChan", fn := fun _ => fun
  | [d1, d2] => { results := [.lit (.bool true)], args := [d1, d2] }
  | _ => none }
def fnExactScopeChanRow : OpenClaim := { program := "ytgpjpeepamaibaa", sum := "887b610a1775c33708faf7756a0afb24e581a9e852c387199d14eb4722afb4e6", func := "loop.example/hedge/laws.FnExactScopeChan", spec := "fnExactScopeChan", unfollowed := true, recurses := true, loops := true, apart := false }
def FnExactScopeChanSaid : Prop := fnExactScopeChanRow.holds Try.pinned (OpenSpec.ofChange fnExactScopeChanSpec)

/-- ITS FALSE NEIGHBOUR: 'it returns false'. Refute it at one input. -/
def fnExactScopeChanWrong : ChangeSpec := { name := "fnExactScopeChan", fn := fun _ => fun
  | [d1, d2] => { results := [.lit (.bool false)], args := [d1, d2] }
  | _ => none }
def FnExactScopeChanWrongFalsely : Prop := fnExactScopeChanRow.holds Try.pinned (OpenSpec.ofChange fnExactScopeChanWrong)

/-- 'laws.FnExactScopeLock': WHATEVER THE INPUT: true; the input reads as it did. -/
def fnExactScopeLockSpec : ChangeSpec := { name := "fnExactScopeLock", fn := fun _ => fun
  | [d1, d2] => { results := [.lit (.bool true)], args := [d1, d2] }
  | _ => none }
def fnExactScopeLockRow : OpenClaim := { program := "ytgpjpeepamaibaa", sum := "887b610a1775c33708faf7756a0afb24e581a9e852c387199d14eb4722afb4e6", func := "loop.example/hedge/laws.FnExactScopeLock", spec := "fnExactScopeLock", recurses := true, loops := true, apart := false }
def FnExactScopeLockSaid : Prop := fnExactScopeLockRow.holds Try.pinned (OpenSpec.ofChange fnExactScopeLockSpec)

/-- ITS FALSE NEIGHBOUR: 'it returns false'. Refute it at one input. -/
def fnExactScopeLockWrong : ChangeSpec := { name := "fnExactScopeLock", fn := fun _ => fun
  | [d1, d2] => { results := [.lit (.bool false)], args := [d1, d2] }
  | _ => none }
def FnExactScopeLockWrongFalsely : Prop := fnExactScopeLockRow.holds Try.pinned (OpenSpec.ofChange fnExactScopeLockWrong)

/-- 'laws.FnExactScopeMay': WHATEVER THE INPUT: true; the input reads as it did. -/
def fnExactScopeMaySpec : ChangeSpec := { name := "fnExactScopeMay", fn := fun _ => fun
  | [d1, d2, d3] => { results := [.lit (.bool true)], args := [d1, d2, d3] }
  | _ => none }
def fnExactScopeMayRow : OpenClaim := { program := "ytgpjpeepamaibaa", sum := "887b610a1775c33708faf7756a0afb24e581a9e852c387199d14eb4722afb4e6", func := "loop.example/hedge/laws.FnExactScopeMay", spec := "fnExactScopeMay", recurses := true, loops := true, apart := false }
def FnExactScopeMaySaid : Prop := fnExactScopeMayRow.holds Try.pinned (OpenSpec.ofChange fnExactScopeMaySpec)

/-- ITS FALSE NEIGHBOUR: 'it returns false'. Refute it at one input. -/
def fnExactScopeMayWrong : ChangeSpec := { name := "fnExactScopeMay", fn := fun _ => fun
  | [d1, d2, d3] => { results := [.lit (.bool false)], args := [d1, d2, d3] }
  | _ => none }
def FnExactScopeMayWrongFalsely : Prop := fnExactScopeMayRow.holds Try.pinned (OpenSpec.ofChange fnExactScopeMayWrong)

/- THE SECOND FORM. 'bulk': how many values and letters a reading holds, each counted each time it is reached (what is shared counts as often as it is met; a slice's spare places count too). A statement '..UptoSaid' is the law's where the arguments, and the package variables that the reading takes, are together of bulk at most 1048576: NARROWER than '..Said'. Prove '..Said' where nothing that the law and all that it calls make is longer than what came in: it says more and counts as full. Else prove '..UptoSaid'. A law counts once. -/
mutual
def uptoBulk {H : Type} : DataW H → Nat
  | .lit (.string bytes) => bytes.length + 1
  | .lit _ => 1
  | .nil => 1
  | .ptr d => uptoBulk d + 1
  | .slice elems spare => uptoBulkAll elems + uptoBulkAll spare + 1
  | .agg parts => uptoBulkAll parts + 1
  | .iface _ d => uptoBulk d + 1
  | .map entries => uptoBulkEntries entries + 1
  | .held _ => 1
def uptoBulkAll {H : Type} : List (DataW H) → Nat
  | [] => 0
  | d :: r => uptoBulk d + uptoBulkAll r
def uptoBulkEntries {H : Type} : List (Lit × DataW H) → Nat
  | [] => 0
  | x :: r => uptoBulkEntry x + uptoBulkEntries r
def uptoBulkEntry {H : Type} : Lit × DataW H → Nat
  | (.string bytes, d) => bytes.length + uptoBulk d + 1
  | (_, d) => uptoBulk d + 1
 end
def uptoSmall : (H : Type) → List (DataW H) → Bool := fun _ ds => decide (uptoBulkAll ds ≤ 1048576)
def OpenSpec.upto (s : _root_.Go.ChangeSpec) : _root_.Go.OpenSpec := { _root_.Go.OpenSpec.ofChange s with cond := some uptoSmall }

/-- 'laws.FnExactTreeStmtsOf', WHERE WHAT IT READS IS OF BULK AT MOST 1048576: true; the input reads as it did. -/
def fnExactTreeStmtsOfUptoRow : OpenClaim := { program := "ytgpjpeepamaibaa", sum := "887b610a1775c33708faf7756a0afb24e581a9e852c387199d14eb4722afb4e6", func := "loop.example/hedge/laws.FnExactTreeStmtsOf", spec := "fnExactTreeStmtsOf", unfollowed := true, recurses := true, loops := true, apart := false, narrowed := true }
def FnExactTreeStmtsOfUptoSaid : Prop := fnExactTreeStmtsOfUptoRow.holds Try.pinned (OpenSpec.upto fnExactTreeStmtsOfSpec)

/-- 'laws.FnExactScopeVar', WHERE WHAT IT READS IS OF BULK AT MOST 1048576: true; the input reads as it did. -/
def fnExactScopeVarUptoRow : OpenClaim := { program := "ytgpjpeepamaibaa", sum := "887b610a1775c33708faf7756a0afb24e581a9e852c387199d14eb4722afb4e6", func := "loop.example/hedge/laws.FnExactScopeVar", spec := "fnExactScopeVar", unfollowed := true, recurses := true, loops := true, apart := false, narrowed := true }
def FnExactScopeVarUptoSaid : Prop := fnExactScopeVarUptoRow.holds Try.pinned (OpenSpec.upto fnExactScopeVarSpec)

/-- 'laws.FnExactScopeChan', WHERE WHAT IT READS IS OF BULK AT MOST 1048576: true; the input reads as it did. -/
def fnExactScopeChanUptoRow : OpenClaim := { program := "ytgpjpeepamaibaa", sum := "887b610a1775c33708faf7756a0afb24e581a9e852c387199d14eb4722afb4e6", func := "loop.example/hedge/laws.FnExactScopeChan", spec := "fnExactScopeChan", unfollowed := true, recurses := true, loops := true, apart := false, narrowed := true }
def FnExactScopeChanUptoSaid : Prop := fnExactScopeChanUptoRow.holds Try.pinned (OpenSpec.upto fnExactScopeChanSpec)

/-- 'laws.FnExactScopeLock', WHERE WHAT IT READS IS OF BULK AT MOST 1048576: true; the input reads as it did. -/
def fnExactScopeLockUptoRow : OpenClaim := { program := "ytgpjpeepamaibaa", sum := "887b610a1775c33708faf7756a0afb24e581a9e852c387199d14eb4722afb4e6", func := "loop.example/hedge/laws.FnExactScopeLock", spec := "fnExactScopeLock", recurses := true, loops := true, apart := false, narrowed := true }
def FnExactScopeLockUptoSaid : Prop := fnExactScopeLockUptoRow.holds Try.pinned (OpenSpec.upto fnExactScopeLockSpec)

/-- 'laws.FnExactScopeMay', WHERE WHAT IT READS IS OF BULK AT MOST 1048576: true; the input reads as it did. -/
def fnExactScopeMayUptoRow : OpenClaim := { program := "ytgpjpeepamaibaa", sum := "887b610a1775c33708faf7756a0afb24e581a9e852c387199d14eb4722afb4e6", func := "loop.example/hedge/laws.FnExactScopeMay", spec := "fnExactScopeMay", recurses := true, loops := true, apart := false, narrowed := true }
def FnExactScopeMayUptoSaid : Prop := fnExactScopeMayUptoRow.holds Try.pinned (OpenSpec.upto fnExactScopeMaySpec)

end Rows
end Go.Proofs.Ytgpjpeepamaibaa
