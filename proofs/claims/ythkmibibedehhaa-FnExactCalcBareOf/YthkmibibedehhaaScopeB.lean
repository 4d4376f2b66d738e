/-
  What the program and the specification answer of places of variables, channels and locks: one contract a function.
-/
import Derived.Test.YthkmibibedehhaaScopeA
import Derived.Maps.OwnSet
namespace Go.Proofs.Ythkmibibedehhaa
open Go.RowKit Go.Shelf Go.Maps Go.WideMaps
set_option linter.unusedSimpArgs false
set_option linter.unusedVariables false
attribute [local go_sem] Oper.semAt_some

theorem find_hit {l : List ByteArray} {i : Nat} {x s : ByteArray} (h : l[i]? = some x) (hn : findOf (l.take i) s = none) (hx : isIt s x = true) : findOf l s = some i := by
  have hi := (List.getElem?_eq_some_iff.1 h).1
  have e : l = l.take i ++ x :: l.drop (i + 1) := by
    rw [← (List.getElem?_eq_some_iff.1 h).2, List.getElem_cons_drop, List.take_append_drop]
  have hn' : List.findIdx? (isIt s) (l.take i) = none := hn
  rw [e]
  unfold findOf
  rw [List.findIdx?_append, hn', List.findIdx?_cons, hx]
  simp
  omega
theorem find_step {l : List ByteArray} {i : Nat} {x s : ByteArray} (h : l[i]? = some x) (hn : findOf (l.take i) s = none) (hx : isIt s x = false) : findOf (l.take (i + 1)) s = none := by
  rw [List.take_add_one, h]
  simp only [Option.toList]
  rw [findOf_snoc, hn, hx]
  rfl
theorem first_hit {l : List ByteArray} {i : Nat} {x s : ByteArray} (h : l[i]? = some x) (hn : findOf (l.take i) s = none) (hx : isIt s x = true) : firstOf l s = i := by
  unfold firstOf
  rw [find_hit h hn hx]
theorem first_none {l : List ByteArray} {i : Nat} {s : ByteArray} (hi : l.length ≤ i) (hn : findOf (l.take i) s = none) : firstOf l s = -1 := by
  rw [List.take_of_length_le hi] at hn
  unfold firstOf
  rw [hn]
theorem news1 (w : World) (s : ByteArray) (T : TypeId) : ∀ j u, [Value.string s][j]? = some u → (w.alloc (.cells #[.string s] T)).cell? ((⟨w.heap.size, 0, none⟩ : Addr).add j) = some u := by
  intro j u hj
  have hadd : (⟨w.heap.size, 0, none⟩ : Addr).add j = ⟨w.heap.size, j, none⟩ := by unfold Addr.add; split <;> simp_all
  rw [hadd]
  have h := World.cell?_alloc_new w #[.string s] T j
  rw [h]
  simpa using hj
theorem names_row {W : World} {base : Nat} {v : Value} {l : List ByteArray} (h : W.ownsRow base 9 1 v l.length (l.map Value.string)) : ∃ a c, v = .slice a l.length c ∧ NRow (fun b => base ≤ b ∧ b < W.heap.size) W a l := by
  rcases h.2 with ⟨rfl, h0⟩ | ⟨g, cap, cur, rfl, hb, hg, hnc, hcm, hcs, htk⟩
  · have : l = [] := List.length_eq_zero_iff.1 h0
    subst this
    exact ⟨none, 0, rfl, fun i k hk => by simp at hk⟩
  · refine ⟨_, cap, rfl, fun i k hk => ⟨g, 0, rfl, ⟨hb, (Array.getElem?_eq_some_iff.1 hg).1⟩, ?_⟩⟩
    have h1 := h.cells (g := g) rfl i (.string k) (by simp [hk])
    have hadd : (⟨g, 0, none⟩ : Addr).add i = ⟨g, 0 + i, none⟩ := by unfold Addr.add; split <;> simp_all
    rw [hadd] at h1
    exact h1
end Go.Proofs.Ythkmibibedehhaa
