/-
  Two statements that are the same in all parts are told to be so; what a bound on all of a statement says of its parts.
-/
import Derived.Test.YtijblhnjhpmedaaDoorStmtA
namespace Go.Proofs.YtijblhnjhpmedaaDoor
open Go.RowKit
set_option linter.unusedSimpArgs false
set_option linter.unusedVariables false

inductive SmallS : SX → Prop
  | mk (s : SX) (hn : s.name.size ≤ 1048576) (he : s.e.size ≤ 1048577 ∧ Good s.e) (hf : s.f.size ≤ 1048577 ∧ Good s.f) (hl : s.la.length ≤ 1048576 ∧ s.lb.length ≤ 1048576) (hka : ∀ (i : Nat) (k : SX), s.la[i]? = some k → SmallS k) (hkb : ∀ (i : Nat) (k : SX), s.lb[i]? = some k → SmallS k) : SmallS s
theorem SmallS.parts {s : SX} (h : SmallS s) : s.name.size ≤ 1048576 ∧ (s.e.size ≤ 1048577 ∧ Good s.e) ∧ (s.f.size ≤ 1048577 ∧ Good s.f) ∧ (s.la.length ≤ 1048576 ∧ s.lb.length ≤ 1048576) ∧ (∀ (i : Nat) (k : SX), s.la[i]? = some k → SmallS k) ∧ (∀ (i : Nat) (k : SX), s.lb[i]? = some k → SmallS k) := by
  cases h; exact ⟨‹_›, ‹_›, ‹_›, ‹_›, ‹_›, ‹_›⟩
theorem SX.tot_get {ks : List SX} {i : Nat} {t : SX} (h : ks[i]? = some t) : t.tot ≤ SX.totAll ks := by
  have h1 := SX.totAll_take h
  have h2 := SX.totAll_le ks (i + 1)
  omega
theorem SX.small (sz : Nat) : ∀ s : SX, s.size ≤ sz → s.tot ≤ 1048576 → SmallS s := by
  induction sz with
  | zero => intro s h; rw [SX.size_eq] at h; omega
  | succ sz ih =>
    intro s h ht
    have h1 := s.tot_eq
    have h2 := s.size_eq
    have he := XT.tot_bounds _ s.e (Nat.le_refl _) (by omega)
    have hf := XT.tot_bounds _ s.f (Nat.le_refl _) (by omega)
    exact .mk s (by omega) ⟨by omega, he.2⟩ ⟨by omega, hf.2⟩ ⟨by omega, by omega⟩ (fun i k hk => ih k (by have := SX.size_get hk; omega) (by have := SX.tot_get hk; omega)) (fun i k hk => ih k (by have := SX.size_get hk; omega) (by have := SX.tot_get hk; omega))

inductive SameS : SX → SX → Prop
  | mk (s u : SX) (h1 : u.kind = s.kind) (h2 : u.name = s.name) (h3 : Same s.e u.e) (h4 : Same s.f u.f) (h5 : u.la.length = s.la.length) (h6 : u.lb.length = s.lb.length)
      (ha : ∀ (i : Nat) (x y : SX), s.la[i]? = some x → u.la[i]? = some y → SameS x y) (hb : ∀ (i : Nat) (x y : SX), s.lb[i]? = some x → u.lb[i]? = some y → SameS x y) : SameS s u
theorem SameS.parts {s u : SX} (h : SameS s u) : u.kind = s.kind ∧ u.name = s.name ∧ Same s.e u.e ∧ Same s.f u.f ∧ u.la.length = s.la.length ∧ u.lb.length = s.lb.length ∧
    (∀ (i : Nat) (x y : SX), s.la[i]? = some x → u.la[i]? = some y → SameS x y) ∧ (∀ (i : Nat) (x y : SX), s.lb[i]? = some x → u.lb[i]? = some y → SameS x y) := by
  cases h; exact ⟨‹_›, ‹_›, ‹_›, ‹_›, ‹_›, ‹_›, ‹_›, ‹_›⟩
theorem SameS.join (sz : Nat) : ∀ t : SX, t.size ≤ sz → ∀ u v : SX, SameS t u → SameS t v → SameS u v := by
  induction sz with
  | zero => intro t h; rw [SX.size_eq] at h; omega
  | succ sz ih =>
    intro t h u v hu hv
    have hse := t.size_eq
    obtain ⟨a1, a2, a3, a4, a5, a6, a7, a8⟩ := hu.parts
    obtain ⟨b1, b2, b3, b4, b5, b6, b7, b8⟩ := hv.parts
    refine .mk u v (by rw [a1, b1]) (by rw [a2, b2]) (Same.join _ t.e (Nat.le_refl _) u.e v.e a3 b3) (Same.join _ t.f (Nat.le_refl _) u.f v.f a4 b4) (by omega) (by omega) ?_ ?_
    · intro i x y hx hy
      have hi : i < t.la.length := by have := (List.getElem?_eq_some_iff.1 hx).1; omega
      have hc := List.getElem?_eq_getElem hi
      exact ih _ (by have := SX.size_get hc; omega) x y (a7 i _ x hc hx) (b7 i _ y hc hy)
    · intro i x y hx hy
      have hi : i < t.lb.length := by have := (List.getElem?_eq_some_iff.1 hx).1; omega
      have hc := List.getElem?_eq_getElem hi
      exact ih _ (by have := SX.size_get hc; omega) x y (a8 i _ x hc hx) (b8 i _ y hc hy)

end Go.Proofs.YtijblhnjhpmedaaDoor
