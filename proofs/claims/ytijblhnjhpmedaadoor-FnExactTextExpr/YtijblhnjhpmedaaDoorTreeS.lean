/-
  What the specification's functions on expressions answer: the contracts, over expressions that lie in memory.
-/
import Derived.Test.YtijblhnjhpmedaaDoorTreeP
import Derived.Deep.QuietTactic
import Derived.BigQuiet
import Derived.Deep.DeepCutAuto
import Derived.LoopTactic
namespace Go.Proofs.YtijblhnjhpmedaaDoor
open Go.RowKit
set_option linter.unusedSimpArgs false
set_option linter.unusedVariables false

def kidsN (k : Int) : Int := if k = 1 ∨ k = 2 then 0 else if k = 3 ∨ k = 12 then 1 else if 4 ≤ k ∧ k ≤ 11 then 2 else -1
theorem region_class {P : Program} {id : Nat} {Q : Exit → Act → World → Prop} {a : Act} {w : World} {l : List Oper} (C : World → Prop) (hm : P.follows .mixedOrders = true) (hB : Region.lexB .any l.toArray = true) (hC : C { w with drawn := w.drawn + 1 })
    (h : wpQuiet P l.toArray C (fun a' => ∀ w', C w' → Q .normal a' w') l a) : (Code.region id l.toArray true).wp P Q a w :=
  wp_region_quiet hm hB hC (by simpa using h)

/-- The worlds that are as w was in all that lay there. -/
def Later (w : World) : Type := { w' : World // Below w.heap.size w w' }
def Later.at {w : World} (x : Later w) : World := x.1
theorem Later.below {w : World} (x : Later w) : Below w.heap.size w x.at := x.2
theorem Later.cell {w : World} {a : Addr} {v : Value} (h : w.cell? a = some v) : ∀ x : Later w, x.at.cell? a = some v := fun x => below_cell x.2 h (World.block_lt_of_cell? w a h)

def fitS (k n : Int) (s : ByteArray) (len : Nat) : Bool := ((len : Int) == kidsN k) && (((k == 2 || k == 3) == !s.toList.isEmpty) && ((!(k == 2 || k == 3) || nameB s) && ((k == 1 || n == 0) && (decide (-1000000 ≤ n) && decide (n ≤ 1000000)))))

mutual
def XT.specR : XT → Nat × Nat × Bool
  | .mk k n s a c ks => ((XT.specL ks (1, 0, fitS k n s ks.length)).1, (XT.specL ks (1, 0, fitS k n s ks.length)).2.1 + 1, (XT.specL ks (1, 0, fitS k n s ks.length)).2.2)
def XT.specL : List XT → Nat × Nat × Bool → Nat × Nat × Bool
  | [], r => r
  | t :: ts, r => if r.2.2 then XT.specL ts (r.1 + (XT.specR t).1, max r.2.1 (XT.specR t).2.1, (XT.specR t).2.2 && decide (r.1 + (XT.specR t).1 ≤ 160)) else r
end
theorem XT.specL_false (ts : List XT) (n d : Nat) : XT.specL ts (n, d, false) = (n, d, false) := by
  cases ts <;> simp [XT.specL]
theorem XT.spec_le (sz : Nat) : ∀ t : XT, t.size ≤ sz → t.specR.1 ≤ t.size ∧ t.specR.2.1 ≤ t.size := by
  induction sz with
  | zero => intro t h; rw [XT.size_eq] at h; omega
  | succ sz ih =>
    have hl : ∀ ts : List XT, XT.sizeAll ts ≤ sz → ∀ r, (XT.specL ts r).1 ≤ r.1 + XT.sizeAll ts ∧ (XT.specL ts r).2.1 ≤ r.2.1 + XT.sizeAll ts := by
      intro ts
      induction ts with
      | nil => intro _ r; simp [XT.specL]
      | cons x xs ihx =>
        intro hs r
        simp only [XT.sizeAll] at hs ⊢
        have hx := ih x (by omega)
        rw [XT.specL]
        split
        · have h := ihx (by omega) (r.1 + x.specR.1, max r.2.1 x.specR.2.1, x.specR.2.2 && decide (r.1 + x.specR.1 ≤ 160))
          simp only at h
          omega
        · omega
    intro t ht
    cases t with
    | mk k n s a c ks =>
      simp only [XT.size] at ht
      have h := hl ks (by omega) (1, 0, fitS k n s ks.length)
      simp only [XT.specR, XT.size]
      simp only at h
      omega
inductive Good : XT → Prop
  | mk (t : XT) (hn : t.name.size ≤ 1048576) (hk : ∀ (i : Nat) (k : XT), t.kids[i]? = some k → Good k) : Good t
theorem Good.name {t : XT} (h : Good t) : t.name.size ≤ 1048576 := by cases h; assumption
theorem Good.kid {t : XT} (h : Good t) : ∀ (i : Nat) (k : XT), t.kids[i]? = some k → Good k := by cases h; assumption
theorem drop_get {α : Type} {l : List α} {i : Nat} {x : α} (h : l[i]? = some x) : l.drop i = x :: l.drop (i + 1) := by
  obtain ⟨hi, hx⟩ := List.getElem?_eq_some_iff.1 h
  rw [List.drop_eq_getElem_cons hi, hx]
theorem XT.sizeAll_drop {ks : List XT} {i : Nat} {t : XT} (h : ks[i]? = some t) : XT.sizeAll (ks.drop i) = t.size + XT.sizeAll (ks.drop (i + 1)) := by
  rw [drop_get h, XT.sizeAll]
theorem mxI_nat (a b : Nat) : mxI (a : Int) (b : Int) = ((max a b : Nat) : Int) := by
  unfold mxI
  split <;> omega

end Go.Proofs.YtijblhnjhpmedaaDoor
