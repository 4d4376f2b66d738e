/-
  An expression read off a list of one word that is no numeral and no word of an expression: it is the variable of that name.
-/
import Derived.Test.YtbcgjnaoefgmiaaDoorReadA
namespace Go.Proofs.YtbcgjnaoefgmiaaDoor
open Go.RowKit Go.Shelf
set_option linter.unusedSimpArgs false
set_option linter.unusedVariables false
attribute [local go_sem] Oper.semAt_some

set_option maxRecDepth 100000 in
set_option maxHeartbeats 4000000 in
theorem exprOne (g b cap : Nat) (s : ByteArray) (hl : s.size ≤ 18) (ha : Lib.atoi s.data.toList = none) (hn : ∀ x ∈ exprW, (s.toList == x.toList) = false) (tp : TypeId) (p : Value) (w : World)
    (hv : w.cell? ⟨0, 0, none⟩ = some (.iface tp p)) (h0 : w.cell? ⟨g, 0, none⟩ = some (.slice (some ⟨b, 0, none⟩) 1 cap)) (h1 : w.cell? ⟨g, 1, none⟩ = some (.int .i64 0)) (hf : w.frozen? ⟨g, 1, none⟩ = false) (hb : w.cell? ⟨b, 0, none⟩ = some (.string s)) (hg : ¬ 0 = g) :
    Calls Tryd.prog 13 #[.pointer (some ⟨g, 0, none⟩)] w fun e w' => e = .returned (.agg #[.int .i64 2, .int .i64 0, .string s, .slice none 0 0]) ∧ Adv g w w' ∧ w'.cell? ⟨g, 0, none⟩ = some (.slice (some ⟨b, 0, none⟩) 1 cap) ∧ w'.cell? ⟨g, 1, none⟩ = some (.int .i64 1) := by
  have lg := World.block_lt_of_cell? w _ h0
  have lb := World.block_lt_of_cell? w _ hb
  have lv := World.block_lt_of_cell? w _ hv
  dsimp only at lg lb lv
  obtain ⟨W1, hW1⟩ : ∃ W1, w.alloc (.cells #[.int .i64 0, .int .i64 0, .string ⟨#[]⟩, .slice none 0 0] 27) = W1 := ⟨_, rfl⟩
  have hB1 : Below w.heap.size w W1 := by rw [← hW1]; exact (Below.refl _ _).alloc (Nat.le_refl _) _
  have hR1 : W1.heap[w.heap.size]? = some (.cells #[.int .i64 0, .int .i64 0, .string ⟨#[]⟩, .slice none 0 0] 27) := by rw [← hW1]; exact Array.getElem?_push_size
  have hz1 : w.heap.size < W1.heap.size := by rw [← hW1, World.size_alloc]; omega
  have q0 := below_cell hB1 h0 lg
  have q1 := below_cell hB1 h1 lg
  have qf := (hB1.frozen (p := ⟨g, 1, none⟩) lg).trans hf
  have qb := below_cell hB1 hb lb
  have qv := below_cell hB1 hv lv
  go_enter Tryd.func13, Tryd.ntmps13
  go_wp2_with (go_at_call 19; refine (next0 g b cap s _ q0 q1 qf qb).mono ?_; rintro e W2 ⟨rfl, hA2, c0, c1⟩; (have qv2 := hA2.cell (p := ⟨0, 0, none⟩) hg qv); (have hz2 := hA2.size))
  go_wp2_with (go_at_call 20; refine (numberOf s hl ha tp p _ qv2).mono ?_; rintro e W3 ⟨rfl, hb3⟩; (have hz3 := hb3.size))
  go_wp2_with (go_at_call 22; refine (exprWords _).mono ?_; rintro e W4 ⟨rfl, hb4, hw4⟩; (have hz4 := hb4.size))
  have hR4 : W4.heap[w.heap.size]? = some (.cells #[.int .i64 0, .int .i64 0, .string ⟨#[]⟩, .slice none 0 0] 27) := by
    rw [hb4.block _ (by omega), hb3.block _ (by omega), hA2.block _ (by omega) (by omega)]
    exact hR1
  obtain ⟨W5, hW5⟩ : ∃ W5, W4.alloc (.cells #[.int .i64 0, .int .i64 0, .string ⟨#[]⟩, .slice none 0 0] 27) = W5 := ⟨_, rfl⟩
  have hB5 : Below W4.heap.size W4 W5 := by rw [← hW5]; exact (Below.refl _ _).alloc (Nat.le_refl _) _
  have hz5 : W4.heap.size < W5.heap.size := by rw [← hW5, World.size_alloc]; omega
  have hR5 : W5.heap[w.heap.size]? = some (.cells #[.int .i64 0, .int .i64 0, .string ⟨#[]⟩, .slice none 0 0] 27) := (hB5.block _ (by omega)).trans hR4
  have hN5 : W5.heap[W4.heap.size]? = some (.cells #[.int .i64 0, .int .i64 0, .string ⟨#[]⟩, .slice none 0 0] 27) := by rw [← hW5]; exact Array.getElem?_push_size
  have r0 : W5.cell? ⟨w.heap.size, 0, none⟩ = some (.int .i64 0) := by simp [World.cell?, hR5]
  have r1 : W5.cell? ⟨w.heap.size, 1, none⟩ = some (.int .i64 0) := by simp [World.cell?, hR5]
  have r2 : W5.cell? ⟨w.heap.size, 2, none⟩ = some (.string ⟨#[]⟩) := by simp [World.cell?, hR5]
  have r3 : W5.cell? ⟨w.heap.size, 3, none⟩ = some (.slice none 0 0) := by simp [World.cell?, hR5]
  have n0 : W5.cell? ⟨W4.heap.size, 0, none⟩ = some (.int .i64 0) := by simp [World.cell?, hN5]
  have n1 : W5.cell? ⟨W4.heap.size, 1, none⟩ = some (.int .i64 0) := by simp [World.cell?, hN5]
  have n2 : W5.cell? ⟨W4.heap.size, 2, none⟩ = some (.string ⟨#[]⟩) := by simp [World.cell?, hN5]
  have n3 : W5.cell? ⟨W4.heap.size, 3, none⟩ = some (.slice none 0 0) := by simp [World.cell?, hN5]
  have rf : ∀ i, W5.frozen? ⟨w.heap.size, i, none⟩ = false := fun i => by simp [World.frozen?, hR5]
  have nf : ∀ i, W5.frozen? ⟨W4.heap.size, i, none⟩ = false := fun i => by simp [World.frozen?, hN5]
  have ne1 : ¬ w.heap.size = W4.heap.size := by omega
  have ne2 : ¬ W4.heap.size = w.heap.size := by omega
  clear hR4 hR5 hN5 hR1
  have hi := index W3.heap.size 13 13 exprW s W4 rfl (by decide) hw4 hn
  clear hn hw4
  go_wp2_with (go_at_call 21; refine hi.mono ?_; rintro e wI ⟨rfl, hwI⟩; subst wI)
  first | go_returns | (refine bodyPost_ret (by simp [results, Tryd.results13, go_sem, *]; try rfl) rfl ?_)
  have hBF : Below w.heap.size W2 W5 := ((hb3.mono (by omega)).trans (hb4.mono (by omega))).trans (hB5.mono (by omega))
  have hBG := ((((((((hBF.setCell (p := ⟨W4.heap.size, 0, none⟩) (by dsimp only; omega) (.int .i64 (-1))).setCell (p := ⟨W4.heap.size, 1, none⟩) (by dsimp only; omega) (.int .i64 0)).setCell (p := ⟨W4.heap.size, 2, none⟩) (by dsimp only; omega) (.string ⟨#[]⟩)).setCell (p := ⟨W4.heap.size, 3, none⟩) (by dsimp only; omega) (.slice none 0 0)).setCell (p := ⟨w.heap.size, 0, none⟩) (Nat.le_refl _) (.int .i64 2)).setCell (p := ⟨w.heap.size, 1, none⟩) (Nat.le_refl _) (.int .i64 0)).setCell (p := ⟨w.heap.size, 2, none⟩) (Nat.le_refl _) (.string s)).setCell (p := ⟨w.heap.size, 3, none⟩) (Nat.le_refl _) (.slice none 0 0))
  have hA := (((Adv.refl g w).below hB1).trans hA2)
  refine ⟨rfl, ⟨hBG.os.trans hA.os, hBG.tape.trans hA.tape, hBG.output.trans hA.output, Nat.le_trans hA.size hBG.size, fun k hk hkg => (hBG.block k hk).trans (hA.block k hk hkg)⟩, below_cell hBG c0 lg, below_cell hBG c1 lg⟩

set_option maxRecDepth 100000 in
theorem exprNone (g : Nat) (a : Option Addr) (cap : Nat) (w : World) (h0 : w.cell? ⟨g, 0, none⟩ = some (.slice a 0 cap)) (h1 : w.cell? ⟨g, 1, none⟩ = some (.int .i64 0)) :
    Calls Tryd.prog 13 #[.pointer (some ⟨g, 0, none⟩)] w fun e w' => ∃ u pv, e = .panicked [{ v := .iface u pv, recovered := false }] ∧ Below w.heap.size w w' := by
  have lg := World.block_lt_of_cell? w _ h0
  dsimp only at lg
  obtain ⟨W1, hW1⟩ : ∃ W1, w.alloc (.cells #[.int .i64 0, .int .i64 0, .string ⟨#[]⟩, .slice none 0 0] 27) = W1 := ⟨_, rfl⟩
  have hB1 : Below w.heap.size w W1 := by rw [← hW1]; exact (Below.refl _ _).alloc (Nat.le_refl _) _
  have q0 := below_cell hB1 h0 lg
  have q1 := below_cell hB1 h1 lg
  go_enter Tryd.func13, Tryd.ntmps13
  go_wp2_with (go_at_call 19; refine (nextNone g a cap _ q0 q1).mono ?_; rintro e W2 ⟨u, pv, rfl, hb2⟩)
  exact ⟨rfl, _, _, rfl, hB1.trans (hb2.mono hB1.size)⟩
end Go.Proofs.YtbcgjnaoefgmiaaDoor
