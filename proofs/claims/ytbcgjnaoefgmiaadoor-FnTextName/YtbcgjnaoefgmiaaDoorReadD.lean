/-
  A text of one word that is no numeral and no word of an expression is read as the variable of that name, just if that is an expression; the empty text is read as nothing.
-/
import Derived.Test.YtbcgjnaoefgmiaaDoorReadC
import Derived.Laws.OwnMore
namespace Go.Proofs.YtbcgjnaoefgmiaaDoor
open Go.RowKit Go.Shelf
set_option linter.unusedSimpArgs false
set_option linter.unusedVariables false
attribute [local go_sem] Oper.semAt_some

abbrev varX (s : ByteArray) : XT := .mk 2 0 s none 0 []
set_option maxRecDepth 100000 in
set_option maxHeartbeats 4000000 in
theorem exprRead1 (s : ByteArray) (hl : s.size ≤ 18) (ha : Lib.atoi s.data.toList = none) (hn : ∀ x ∈ exprW, (s.toList == x.toList) = false) (hwd : wds s = [s]) (tp : TypeId) (p : Value) (w : World) (hv : w.cell? ⟨0, 0, none⟩ = some (.iface tp p)) (b : Bool) (hb : (varX s).okI = b) :
    Calls Tryd.prog 6 #[.string s] w fun e w' => e = .returned (.tuple #[.agg #[.int .i64 (if b then 2 else 0), .int .i64 0, .string (if b then s else ⟨#[]⟩), .slice none 0 0], .bool b]) ∧ Below w.heap.size w w' := by
  have lv := World.block_lt_of_cell? w _ hv
  dsimp only at lv
  have hmf : ∀ (fn : Fn) (first cap : Array Value) (w : World), (Instr.makeFunc fn first cap).run Tryd.prog w = .ok (.func fn first cap) w := fun _ _ _ _ => rfl
  obtain ⟨W1, hW1⟩ : ∃ W1, w.alloc (.cells #[.int .i64 0, .int .i64 0, .string ⟨#[]⟩, .slice none 0 0] 27) = W1 := ⟨_, rfl⟩
  obtain ⟨W2, hW2⟩ : ∃ W2, W1.alloc (.cells #[.bool false] 4) = W2 := ⟨_, rfl⟩
  have s1 : W1.heap.size = w.heap.size + 1 := by rw [← hW1]; simp
  have s2 : W2.heap.size = w.heap.size + 2 := by rw [← hW2]; simp [s1]
  have hB2 : Below w.heap.size w W2 := by rw [← hW2, ← hW1]; exact ((Below.refl _ w).alloc (Nat.le_refl _) _).alloc (by simp) _
  have hR1 : W2.heap[w.heap.size]? = some (.cells #[.int .i64 0, .int .i64 0, .string ⟨#[]⟩, .slice none 0 0] 27) := by
    rw [← hW2]
    refine (Below.heap_alloc _ _ _ (by omega)).trans ?_
    rw [← hW1]
    exact Array.getElem?_push_size
  have hR2 : W2.heap[w.heap.size + 1]? = some (.cells #[.bool false] 4) := by rw [← hW2, ← s1]; exact Array.getElem?_push_size
  have hv2 := below_cell hB2 hv lv
  go_enter_defers Tryd.func6, Tryd.ntmps6
  go_wp2_with (go_at_call 12; refine (readerOf1 s _ (by omega) hwd).mono ?_; rintro e w1 ⟨g, b1, cap, rfl, hg, hbb, hB1, k0, k1, kf, kb⟩; (have hv3 := below_cell hB1 hv2 (by dsimp only; omega)); (have q1 := (hB1.block _ (by omega)).trans hR1); (have q2 := (hB1.block _ (by omega)).trans hR2); (have hz1 := hB1.size))
  have hgv : ¬ 0 = g := by omega
  go_at_call 13
  refine (exprOne g b1 cap s hl ha hn tp p w1 hv3 k0 k1 kf kb hgv).mono ?_
  rintro e w2 ⟨rfl, hA2, c0, c1⟩
  have hz2 := hA2.size
  have p1 := (hA2.block w.heap.size (by omega) (by omega)).trans q1
  have p2 := (hA2.block (w.heap.size + 1) (by omega) (by omega)).trans q2
  clear q1 q2 hv3 k0 k1 kf kb hR1 hR2 hv2 hn ha hwd
  have r0 : w2.cell? ⟨w.heap.size, 0, none⟩ = some (.int .i64 0) := by simp [World.cell?, p1]
  have r1 : w2.cell? ⟨w.heap.size, 1, none⟩ = some (.int .i64 0) := by simp [World.cell?, p1]
  have r2 : w2.cell? ⟨w.heap.size, 2, none⟩ = some (.string ⟨#[]⟩) := by simp [World.cell?, p1]
  have r3 : w2.cell? ⟨w.heap.size, 3, none⟩ = some (.slice none 0 0) := by simp [World.cell?, p1]
  have fr : ∀ i, w2.frozen? ⟨w.heap.size, i, none⟩ = false := fun i => by simp [World.frozen?, p1]
  obtain ⟨W3, hW3⟩ : ∃ W3, (((w2.setCell ⟨w.heap.size, 0, none⟩ (.int .i64 2)).setCell ⟨w.heap.size, 1, none⟩ (.int .i64 0)).setCell ⟨w.heap.size, 2, none⟩ (.string s)).setCell ⟨w.heap.size, 3, none⟩ (.slice none 0 0) = W3 := ⟨_, rfl⟩
  have q1 : W3.heap[w.heap.size]? = some (.cells #[.int .i64 2, .int .i64 0, .string s, .slice none 0 0] 27) := by
    rw [← hW3]
    exact heap_setCell_same _ _ 3 _ _ _ (heap_setCell_same _ _ 2 _ _ _ (heap_setCell_same _ _ 1 _ _ _ (heap_setCell_same _ _ 0 _ _ _ p1)))
  have hK3' : Kept (fun k => k = w.heap.size) w2 W3 := by
    rw [← hW3]
    exact ((((Kept.refl (fun k => k = w.heap.size) w2).setCell (p := ⟨w.heap.size, 0, none⟩) rfl _).setCell (p := ⟨w.heap.size, 1, none⟩) rfl _).setCell (p := ⟨w.heap.size, 2, none⟩) rfl _).setCell (p := ⟨w.heap.size, 3, none⟩) rfl _
  have hz3 := hK3'.size
  have m0 := hK3'.cell c0 (by dsimp only; omega)
  have m1 := hK3'.cell c1 (by dsimp only; omega)
  have p3 := (hK3'.block (w.heap.size + 1) (by omega) (by omega)).trans p2
  have hB3 : Below w.heap.size w W3 := by
    have h1 : Below w.heap.size w w2 := ⟨hA2.os.trans (hB2.trans (hB1.mono (by omega))).os, hA2.tape.trans (hB2.trans (hB1.mono (by omega))).tape, hA2.output.trans (hB2.trans (hB1.mono (by omega))).output, by omega, fun k hk => (hA2.block k (by omega) (by omega)).trans ((hB2.trans (hB1.mono (by omega))).block k hk)⟩
    exact h1.trans (hK3'.below (by omega) (fun k h => by omega))
  clear hA2 hB1 hB2 p1 p2
  have hm := more g (some ⟨b1, 0, none⟩) 1 cap 1 W3 m0 m1
  rw [show decide ((1 : Int) < ((1 : Nat) : Int)) = false from rfl] at hm
  go_wp2_with fail
  go_at_call 14
  refine hm.mono ?_
  clear hm
  rintro e w4 ⟨rfl, hb4⟩
  have hz4 := hb4.size
  have q4 := (hb4.block _ (by omega)).trans q1
  have p4 := (hb4.block _ (by omega)).trans p3
  clear m0 m1 hW3 q1 p3 r0 r1 r2 r3 fr c0 c1
  have t0 : w4.cell? ⟨w.heap.size, 0, none⟩ = some (.int .i64 2) := by simp [World.cell?, q4]
  have t1 : w4.cell? ⟨w.heap.size, 1, none⟩ = some (.int .i64 0) := by simp [World.cell?, q4]
  have t2 : w4.cell? ⟨w.heap.size, 2, none⟩ = some (.string s) := by simp [World.cell?, q4]
  have t3 : w4.cell? ⟨w.heap.size, 3, none⟩ = some (.slice none 0 0) := by simp [World.cell?, q4]
  have HT : Calls Tryd.prog 15 #[.agg #[.int .i64 2, .int .i64 0, .string s, .slice none 0 0]] w4 fun e w' => e = .returned (.bool b) ∧ Below w4.heap.size w4 w' := by
    rw [← hb]
    exact implOk1 (varX s) (by simp [XT.size_eq, XT.kids, XT.sizeAll]) (.mk _ (by simp [XT.name]; omega) (fun i k hk => by simp [XT.kids] at hk)) (fun _ => False) w4 (fun b h => h.elim) (.mk _ (fun i k hk => by simp [XT.kids] at hk) (fun i k hk => by simp [XT.kids] at hk))
  go_wp2_with fail
  go_at_call 15
  refine HT.mono ?_
  clear HT t0 t1 t2 t3
  rintro e w5 ⟨rfl, hb5⟩
  have hz5 := hb5.size
  have q5 := (hb5.block _ (by omega)).trans q4
  have p5 := (hb5.block _ (by omega)).trans p4
  have hB5 : Below w.heap.size w w5 := (hB3.trans (hb4.mono (by omega))).trans (hb5.mono (by omega))
  clear q4 p4 hb4 hb5 hB3 hb
  have t0 : w5.cell? ⟨w.heap.size, 0, none⟩ = some (.int .i64 2) := by simp [World.cell?, q5]
  have t1 : w5.cell? ⟨w.heap.size, 1, none⟩ = some (.int .i64 0) := by simp [World.cell?, q5]
  have t2 : w5.cell? ⟨w.heap.size, 2, none⟩ = some (.string s) := by simp [World.cell?, q5]
  have t3 : w5.cell? ⟨w.heap.size, 3, none⟩ = some (.slice none 0 0) := by simp [World.cell?, q5]
  have t4 : w5.cell? ⟨w.heap.size + 1, 0, none⟩ = some (.bool false) := by simp [World.cell?, p5]
  have fr : ∀ i, w5.frozen? ⟨w.heap.size, i, none⟩ = false := fun i => by simp [World.frozen?, q5]
  have fs : w5.frozen? ⟨w.heap.size + 1, 0, none⟩ = false := by simp [World.frozen?, p5]
  cases b
  · go_wp2_with fail
    have hBf := ((((hB5.setCell (p := ⟨w.heap.size, 0, none⟩) (Nat.le_refl _) (.int .i64 0)).setCell (p := ⟨w.heap.size, 1, none⟩) (Nat.le_refl _) (.int .i64 0)).setCell (p := ⟨w.heap.size, 2, none⟩) (Nat.le_refl _) (.string ⟨#[]⟩)).setCell (p := ⟨w.heap.size, 3, none⟩) (Nat.le_refl _) (.slice none 0 0)).setCell (p := ⟨w.heap.size + 1, 0, none⟩) (Nat.le_succ _) (.bool false)
    refine leaves_cons (f := 11) (args := #[.pointer (some ⟨w.heap.size, 0, none⟩), .pointer (some ⟨w.heap.size + 1, 0, none⟩)]) (by simp) (by simp [go_sem]) ?_
    refine (readIdle _ _ _).mono ?_
    rintro e u' w6 ⟨rfl, rfl, hw6⟩
    subst w6
    simp [Leaves, settle, results, Tryd.results6, go_sem, t0, t1, t2, t3, t4, fr, fs]
    exact hBf
  · go_wp2_with fail
    have hBf := ((((hB5.setCell (p := ⟨w.heap.size, 0, none⟩) (Nat.le_refl _) (.int .i64 2)).setCell (p := ⟨w.heap.size, 1, none⟩) (Nat.le_refl _) (.int .i64 0)).setCell (p := ⟨w.heap.size, 2, none⟩) (Nat.le_refl _) (.string s)).setCell (p := ⟨w.heap.size, 3, none⟩) (Nat.le_refl _) (.slice none 0 0)).setCell (p := ⟨w.heap.size + 1, 0, none⟩) (Nat.le_succ _) (.bool true)
    refine leaves_cons (f := 11) (args := #[.pointer (some ⟨w.heap.size, 0, none⟩), .pointer (some ⟨w.heap.size + 1, 0, none⟩)]) (by simp) (by simp [go_sem]) ?_
    refine (readIdle _ _ _).mono ?_
    rintro e u' w6 ⟨rfl, rfl, hw6⟩
    subst w6
    simp [Leaves, settle, results, Tryd.results6, go_sem, t0, t1, t2, t3, t4, fr, fs]
    exact hBf

set_option maxRecDepth 100000 in
set_option maxHeartbeats 4000000 in
theorem exprRead0 (w : World) :
    Calls Tryd.prog 6 #[.string ⟨#[]⟩] w fun e w' => e = .returned (.tuple #[.agg #[.int .i64 0, .int .i64 0, .string ⟨#[]⟩, .slice none 0 0], .bool false]) ∧ Below w.heap.size w w' := by
  have hmf : ∀ (fn : Fn) (first cap : Array Value) (w : World), (Instr.makeFunc fn first cap).run Tryd.prog w = .ok (.func fn first cap) w := fun _ _ _ _ => rfl
  obtain ⟨W1, hW1⟩ : ∃ W1, w.alloc (.cells #[.int .i64 0, .int .i64 0, .string ⟨#[]⟩, .slice none 0 0] 27) = W1 := ⟨_, rfl⟩
  obtain ⟨W2, hW2⟩ : ∃ W2, W1.alloc (.cells #[.bool false] 4) = W2 := ⟨_, rfl⟩
  have s1 : W1.heap.size = w.heap.size + 1 := by rw [← hW1]; simp
  have s2 : W2.heap.size = w.heap.size + 2 := by rw [← hW2]; simp [s1]
  have hB2 : Below w.heap.size w W2 := by rw [← hW2, ← hW1]; exact ((Below.refl _ w).alloc (Nat.le_refl _) _).alloc (by simp) _
  have hR1 : W2.heap[w.heap.size]? = some (.cells #[.int .i64 0, .int .i64 0, .string ⟨#[]⟩, .slice none 0 0] 27) := by
    rw [← hW2]
    refine (Below.heap_alloc _ _ _ (by omega)).trans ?_
    rw [← hW1]
    exact Array.getElem?_push_size
  have hR2 : W2.heap[w.heap.size + 1]? = some (.cells #[.bool false] 4) := by rw [← hW2, ← s1]; exact Array.getElem?_push_size
  go_enter_defers Tryd.func6, Tryd.ntmps6
  go_wp2_with (go_at_call 12; refine (readerOf0 _).mono ?_; rintro e w1 ⟨g, a, cap, rfl, hg, hB1, k0, k1⟩; (have q1 := (hB1.block _ (by omega)).trans hR1); (have q2 := (hB1.block _ (by omega)).trans hR2); (have hz1 := hB1.size))
  go_at_call 13
  refine (exprNone g a cap w1 k0 k1).mono ?_
  rintro e w2 ⟨u, pv, rfl, hB3⟩
  have hz2 := hB3.size
  have p1 := (hB3.block _ (by omega)).trans q1
  have p2 := (hB3.block _ (by omega)).trans q2
  have hB5 : Below w.heap.size w w2 := (hB2.trans (hB1.mono (by omega))).trans (hB3.mono (by omega))
  have t0 : w2.cell? ⟨w.heap.size, 0, none⟩ = some (.int .i64 0) := by simp [World.cell?, p1]
  have t1 : w2.cell? ⟨w.heap.size, 1, none⟩ = some (.int .i64 0) := by simp [World.cell?, p1]
  have t2 : w2.cell? ⟨w.heap.size, 2, none⟩ = some (.string ⟨#[]⟩) := by simp [World.cell?, p1]
  have t3 : w2.cell? ⟨w.heap.size, 3, none⟩ = some (.slice none 0 0) := by simp [World.cell?, p1]
  have t4 : w2.cell? ⟨w.heap.size + 1, 0, none⟩ = some (.bool false) := by simp [World.cell?, p2]
  have fr : ∀ i, w2.frozen? ⟨w.heap.size, i, none⟩ = false := fun i => by simp [World.frozen?, p1]
  have fs : w2.frozen? ⟨w.heap.size + 1, 0, none⟩ = false := by simp [World.frozen?, p2]
  have hBf := ((((hB5.setCell (p := ⟨w.heap.size, 0, none⟩) (Nat.le_refl _) (.int .i64 0)).setCell (p := ⟨w.heap.size, 1, none⟩) (Nat.le_refl _) (.int .i64 0)).setCell (p := ⟨w.heap.size, 2, none⟩) (Nat.le_refl _) (.string ⟨#[]⟩)).setCell (p := ⟨w.heap.size, 3, none⟩) (Nat.le_refl _) (.slice none 0 0)).setCell (p := ⟨w.heap.size + 1, 0, none⟩) (Nat.le_succ _) (.bool false)
  dsimp only
  refine leaves_cons (f := 11) (args := #[.pointer (some ⟨w.heap.size, 0, none⟩), .pointer (some ⟨w.heap.size + 1, 0, none⟩)]) (by simp) (by simp [go_sem]) ?_
  refine (readCatch w.heap.size (w.heap.size + 1) u pv [] w2 0 0 ⟨#[]⟩ (.slice none 0 0) false t0 t1 t2 t3 t4 fr fs (by omega)).mono ?_
  rintro e u' w6 ⟨rfl, rfl, hw6⟩
  subst w6
  simp [Leaves, settle, results, Tryd.results6, go_sem, t0, t1, t2, t3, t4, fr, fs]
  exact hBf
end Go.Proofs.YtbcgjnaoefgmiaaDoor
