/-
  The uses of names of a statement and of an expression, and of a list of statements: what the program's functions 'use' answer.
-/
import Derived.Test.YtaajdoipjalgmaaGreatDoorOkI
import Derived.Test.YtaajdoipjalgmaaGreatDoorOkR
import Derived.Test.YtaajdoipjalgmaaGreatDoorIterN
namespace Go.Proofs.YtaajdoipjalgmaaGreatDoor
open Go.RowKit Go.Shelf
set_option linter.unusedSimpArgs false
set_option linter.unusedVariables false
attribute [local go_sem] Oper.semAt_some

/-- A use: a name, and what it must stand for. -/
structure UX where
  name : ByteArray
  as_ : Int
abbrev UX.val (u : UX) : Value := .agg #[.string u.name, .int .i64 u.as_]
def useK (k : Int) : Int := if k = 1 then 1 else if k = 2 then 2 else if k = 5 then 4 else if k = 6 then 4 else if k = 7 then 3 else if k = 8 then 3 else 0
def useKE (k : Int) : Int := if k = 2 then 1 else if k = 3 then 2 else 0
def useS (s : SX) : UX := ⟨if useK s.kind = 0 then ⟨#[]⟩ else s.name, useK s.kind⟩
def useE (t : XT) : UX := ⟨if useKE t.kind = 0 then ⟨#[]⟩ else t.name, useKE t.kind⟩
def usesE (t : XT) : List UX := (t.parts 1).map (fun x => useE x.2)
def usesOf1 (s : SX) : List UX := useS s :: (usesE s.e ++ usesE s.f)
def usesL (l : List (Int × SX)) : List UX := l.flatMap (fun x => usesOf1 x.2)
abbrev useV (u : UX) : Array Value := #[u.val]
theorem usesL_append (a b : List (Int × SX)) : usesL (a ++ b) = usesL a ++ usesL b := by simp [usesL]
theorem use_eq {a b : ByteArray} {k m : Int} (h : a = b) (hk : k = m) : Ending.returned (.agg #[.string a, .int .i64 k]) = .returned (UX.val ⟨b, m⟩) := by rw [h, hk]
set_option maxRecDepth 10000 in
set_option maxHeartbeats 4000000 in
theorem useS0 (k : Int) (n : ByteArray) (ek en : Int) (es : ByteArray) (eb : Option Addr) (el ec : Nat) (fk fn : Int) (fs : ByteArray) (fb : Option Addr) (fl fc : Nat) (ab : Option Addr) (al ac : Nat) (bb : Option Addr) (bl bc : Nat) (w : World) :
    Calls Tryz.prog 142 #[.agg #[.int .i64 k, .string n, .int .i64 ek, .int .i64 en, .string es, .slice eb el ec, .int .i64 fk, .int .i64 fn, .string fs, .slice fb fl fc, .slice ab al ac, .slice bb bl bc]] w fun e w' => e = .returned (UX.val ⟨if useK k = 0 then ⟨#[]⟩ else n, useK k⟩) ∧ Below w.heap.size w w' := by
  have hB1 : ∀ o o', Below w.heap.size w ((w.alloc o).alloc o') := fun o o' => ((Below.refl _ w).alloc (Nat.le_refl _) _).alloc (by simp) _
  go_enter Tryz.func142, Tryz.ntmps142
  go_wp2
  all_goals
    go_returns
    refine ⟨use_eq ?_ ?_, by repeat' (first | exact hB1 _ _ | refine Below.setCell ?_ (by simp) _)⟩
    all_goals
      (try simp only [beq_iff_eq, beq_eq_false_iff_ne, ne_eq, Bool.not_eq_true] at *) <;> first | rfl | (simp [useK, *]; done) | (simp_all [useK]; done) | (unfold useK; (repeat' split) <;> first | rfl | omega)
theorem implUseS (s : SX) (w : World) :
    Calls Tryz.prog 142 #[s.val] w fun e w' => e = .returned (useS s).val ∧ Below w.heap.size w w' := useS0 _ _ _ _ _ _ _ _ _ _ _ _ _ _ _ _ _ _ _ _ _
set_option maxRecDepth 10000 in
set_option maxHeartbeats 4000000 in
theorem useE0 (k n : Int) (s : ByteArray) (a : Option Addr) (len c : Nat) (w : World) :
    Calls Tryz.prog 144 #[.agg #[.int .i64 k, .int .i64 n, .string s, .slice a len c]] w fun e w' => e = .returned (UX.val ⟨if useKE k = 0 then ⟨#[]⟩ else s, useKE k⟩) ∧ Below w.heap.size w w' := by
  have hB1 : ∀ o o', Below w.heap.size w ((w.alloc o).alloc o') := fun o o' => ((Below.refl _ w).alloc (Nat.le_refl _) _).alloc (by simp) _
  go_enter Tryz.func144, Tryz.ntmps144
  go_wp2
  all_goals
    go_returns
    refine ⟨use_eq ?_ ?_, by repeat' (first | exact hB1 _ _ | refine Below.setCell ?_ (by simp) _)⟩
    all_goals
      (try simp only [beq_iff_eq, beq_eq_false_iff_ne, ne_eq, Bool.not_eq_true] at *) <;> first | rfl | (simp [useKE, *]; done) | (simp_all [useKE]; done) | (unfold useKE; (repeat' split) <;> first | rfl | omega)
theorem implUseE (t : XT) (w : World) :
    Calls Tryz.prog 144 #[t.val] w fun e w' => e = .returned (useE t).val ∧ Below w.heap.size w w' := useE0 _ _ _ _ _ _ _
end Go.Proofs.YtaajdoipjalgmaaGreatDoor
