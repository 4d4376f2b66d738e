/-
  Lists of variables, channels and words as they lie in memory: their sizes, copies of them, and that the same are told to be so.
-/
import Derived.Test.YtimfdfeleoaehaaStmtD
namespace Go.Proofs.Ytimfdfeleoaehaa
open Go.RowKit
set_option linter.unusedSimpArgs false
set_option linter.unusedVariables false

def sumOf {α : Type} (f : α → Nat) : List α → Nat
  | [] => 0
  | x :: xs => f x + sumOf f xs
theorem sumOf_append {α : Type} (f : α → Nat) (us bs : List α) : sumOf f (us ++ bs) = sumOf f us + sumOf f bs := by
  induction us with
  | nil => simp [sumOf]
  | cons x xs ih => simp [sumOf, ih]; omega
theorem sumOf_take {α : Type} (f : α → Nat) {ks : List α} {i : Nat} {t : α} (h : ks[i]? = some t) : sumOf f (ks.take (i + 1)) = sumOf f (ks.take i) + f t := by
  rw [List.take_add_one, h, sumOf_append]
  simp [sumOf]
theorem sumOf_le {α : Type} (f : α → Nat) (ks : List α) (i : Nat) : sumOf f (ks.take i) ≤ sumOf f ks := by
  have h := sumOf_append f (ks.take i) (ks.drop i)
  rw [List.take_append_drop] at h
  omega
structure VX where
  name : ByteArray
  size : Int
  init : Int
  lo : Int
  hi : Int
  lock : ByteArray
  task : Int
abbrev VX.val (v : VX) : Value := .agg #[.string v.name, .int .i64 v.size, .int .i64 v.init, .int .i64 v.lo, .int .i64 v.hi, .string v.lock, .int .i64 v.task]
def VX.tot (v : VX) : Nat := v.name.size + v.lock.size
def VX.Wide (v : VX) : Prop := v.name.size ≤ maxLen ∧ v.lock.size ≤ maxLen
structure VX.At (W : World) (b o : Nat) (v : VX) : Prop where
  c0 : W.cell? ⟨b, o, none⟩ = some (.string v.name)
  c1 : W.cell? ⟨b, o + 1, none⟩ = some (.int .i64 v.size)
  c2 : W.cell? ⟨b, o + 2, none⟩ = some (.int .i64 v.init)
  c3 : W.cell? ⟨b, o + 3, none⟩ = some (.int .i64 v.lo)
  c4 : W.cell? ⟨b, o + 4, none⟩ = some (.int .i64 v.hi)
  c5 : W.cell? ⟨b, o + 5, none⟩ = some (.string v.lock)
  c6 : W.cell? ⟨b, o + 6, none⟩ = some (.int .i64 v.task)
theorem VX.At.lt {W : World} {b o : Nat} {v : VX} (h : VX.At W b o v) : b < W.heap.size := World.block_lt_of_cell? W _ h.c0
theorem VX.At.below {n : Nat} {A B : World} {b o : Nat} {v : VX} (h : VX.At A b o v) (hk : Below n A B) (hs : b < n) : VX.At B b o v :=
  ⟨below_cell hk h.c0 hs, below_cell hk h.c1 hs, below_cell hk h.c2 hs, below_cell hk h.c3 hs, below_cell hk h.c4 hs, below_cell hk h.c5 hs, below_cell hk h.c6 hs⟩
theorem VX.At.of_block {A B : World} {b o : Nat} {v : VX} (h : VX.At A b o v) (hb : B.heap[b]? = A.heap[b]?) : VX.At B b o v :=
  ⟨(cell_of_block (a := ⟨b, _, none⟩) hb).trans h.c0, (cell_of_block (a := ⟨b, _, none⟩) hb).trans h.c1, (cell_of_block (a := ⟨b, _, none⟩) hb).trans h.c2, (cell_of_block (a := ⟨b, _, none⟩) hb).trans h.c3, (cell_of_block (a := ⟨b, _, none⟩) hb).trans h.c4, (cell_of_block (a := ⟨b, _, none⟩) hb).trans h.c5, (cell_of_block (a := ⟨b, _, none⟩) hb).trans h.c6⟩
def VX.Row (ok : Nat → Prop) (W : World) (base : Option Addr) (l : List VX) : Prop := ∀ (i : Nat) (k : VX), l[i]? = some k → ∃ b o, base = some ⟨b, o, none⟩ ∧ ok b ∧ VX.At W b (o + i * 7) k
theorem VX.Row.mono {ok ok' : Nat → Prop} {A B : World} {base : Option Addr} {l : List VX} (h : VX.Row ok A base l) (hb : ∀ b, ok b → b < A.heap.size → ok' b ∧ B.heap[b]? = A.heap[b]?) : VX.Row ok' B base l := by
  intro i k hk
  obtain ⟨b, o, h1, h2, h3⟩ := h i k hk
  obtain ⟨h4, h5⟩ := hb b h2 h3.lt
  exact ⟨b, o, h1, h4, h3.of_block h5⟩
theorem VX.Row.under {ok : Nat → Prop} {n : Nat} {A B : World} {base : Option Addr} {l : List VX} (h : VX.Row ok A base l) (hk : Below n A B) (hs : ∀ b, ok b → b < n) : VX.Row ok B base l := h.mono fun b ho hb => ⟨ho, hk.block b (hs b ho)⟩
theorem VX.Row.kept {S ok : Nat → Prop} {A B : World} {base : Option Addr} {l : List VX} (h : VX.Row ok A base l) (hk : Kept S A B) (hs : ∀ b, ok b → ¬ S b) : VX.Row ok B base l := h.mono fun b ho hb => ⟨ho, hk.block b hb (hs b ho)⟩
theorem VX.put {W : World} {g N : Nat} {t : TypeId} (h0 : RowAt W g N t) (i : Nat) (hi : i * 7 + 6 < N) (v : VX) :
    RowAt (((((((W.setCell ⟨g, i * 7, none⟩ (.string v.name)).setCell ⟨g, i * 7 + 1, none⟩ (.int .i64 v.size)).setCell ⟨g, i * 7 + 2, none⟩ (.int .i64 v.init)).setCell ⟨g, i * 7 + 3, none⟩ (.int .i64 v.lo)).setCell ⟨g, i * 7 + 4, none⟩ (.int .i64 v.hi)).setCell ⟨g, i * 7 + 5, none⟩ (.string v.lock)).setCell ⟨g, i * 7 + 6, none⟩ (.int .i64 v.task)) g N t ∧ Kept (fun k => k = g) W (((((((W.setCell ⟨g, i * 7, none⟩ (.string v.name)).setCell ⟨g, i * 7 + 1, none⟩ (.int .i64 v.size)).setCell ⟨g, i * 7 + 2, none⟩ (.int .i64 v.init)).setCell ⟨g, i * 7 + 3, none⟩ (.int .i64 v.lo)).setCell ⟨g, i * 7 + 4, none⟩ (.int .i64 v.hi)).setCell ⟨g, i * 7 + 5, none⟩ (.string v.lock)).setCell ⟨g, i * 7 + 6, none⟩ (.int .i64 v.task)) ∧ VX.At (((((((W.setCell ⟨g, i * 7, none⟩ (.string v.name)).setCell ⟨g, i * 7 + 1, none⟩ (.int .i64 v.size)).setCell ⟨g, i * 7 + 2, none⟩ (.int .i64 v.init)).setCell ⟨g, i * 7 + 3, none⟩ (.int .i64 v.lo)).setCell ⟨g, i * 7 + 4, none⟩ (.int .i64 v.hi)).setCell ⟨g, i * 7 + 5, none⟩ (.string v.lock)).setCell ⟨g, i * 7 + 6, none⟩ (.int .i64 v.task)) g (0 + i * 7) v ∧
    ∀ (j : Nat) (x : VX), j ≠ i → VX.At W g (0 + j * 7) x → VX.At (((((((W.setCell ⟨g, i * 7, none⟩ (.string v.name)).setCell ⟨g, i * 7 + 1, none⟩ (.int .i64 v.size)).setCell ⟨g, i * 7 + 2, none⟩ (.int .i64 v.init)).setCell ⟨g, i * 7 + 3, none⟩ (.int .i64 v.lo)).setCell ⟨g, i * 7 + 4, none⟩ (.int .i64 v.hi)).setCell ⟨g, i * 7 + 5, none⟩ (.string v.lock)).setCell ⟨g, i * 7 + 6, none⟩ (.int .i64 v.task)) g (0 + j * 7) x := by
  have h1 := h0.set (i * 7) (.string v.name)
  have h2 := h1.set (i * 7 + 1) (.int .i64 v.size)
  have h3 := h2.set (i * 7 + 2) (.int .i64 v.init)
  have h4 := h3.set (i * 7 + 3) (.int .i64 v.lo)
  have h5 := h4.set (i * 7 + 4) (.int .i64 v.hi)
  have h6 := h5.set (i * 7 + 5) (.string v.lock)
  have h7 := h6.set (i * 7 + 6) (.int .i64 v.task)
  refine ⟨h7, ((((((((Kept.refl (fun k => k = g) W).setCell (p := ⟨g, i * 7, none⟩) rfl _).setCell (p := ⟨g, i * 7 + 1, none⟩) rfl _).setCell (p := ⟨g, i * 7 + 2, none⟩) rfl _).setCell (p := ⟨g, i * 7 + 3, none⟩) rfl _).setCell (p := ⟨g, i * 7 + 4, none⟩) rfl _).setCell (p := ⟨g, i * 7 + 5, none⟩) rfl _).setCell (p := ⟨g, i * 7 + 6, none⟩) rfl _), ?_, ?_⟩
  · rw [Nat.zero_add]
    refine ⟨?_, ?_, ?_, ?_, ?_, ?_, ?_⟩
    · rw [set_far (by omega), set_far (by omega), set_far (by omega), set_far (by omega), set_far (by omega), set_far (by omega)]
      exact h0.put (by omega) _
    · rw [set_far (by omega), set_far (by omega), set_far (by omega), set_far (by omega), set_far (by omega)]
      exact h1.put (by omega) _
    · rw [set_far (by omega), set_far (by omega), set_far (by omega), set_far (by omega)]
      exact h2.put (by omega) _
    · rw [set_far (by omega), set_far (by omega), set_far (by omega)]
      exact h3.put (by omega) _
    · rw [set_far (by omega), set_far (by omega)]
      exact h4.put (by omega) _
    · rw [set_far (by omega)]
      exact h5.put (by omega) _
    · exact h6.put (by omega) _
  · intro j x hj hc
    rw [Nat.zero_add] at hc ⊢
    refine ⟨?_, ?_, ?_, ?_, ?_, ?_, ?_⟩
    · rw [set_far (by omega), set_far (by omega), set_far (by omega), set_far (by omega), set_far (by omega), set_far (by omega), set_far (by omega)]; exact hc.c0
    · rw [set_far (by omega), set_far (by omega), set_far (by omega), set_far (by omega), set_far (by omega), set_far (by omega), set_far (by omega)]; exact hc.c1
    · rw [set_far (by omega), set_far (by omega), set_far (by omega), set_far (by omega), set_far (by omega), set_far (by omega), set_far (by omega)]; exact hc.c2
    · rw [set_far (by omega), set_far (by omega), set_far (by omega), set_far (by omega), set_far (by omega), set_far (by omega), set_far (by omega)]; exact hc.c3
    · rw [set_far (by omega), set_far (by omega), set_far (by omega), set_far (by omega), set_far (by omega), set_far (by omega), set_far (by omega)]; exact hc.c4
    · rw [set_far (by omega), set_far (by omega), set_far (by omega), set_far (by omega), set_far (by omega), set_far (by omega), set_far (by omega)]; exact hc.c5
    · rw [set_far (by omega), set_far (by omega), set_far (by omega), set_far (by omega), set_far (by omega), set_far (by omega), set_far (by omega)]; exact hc.c6
structure CX where
  name : ByteArray
  cap : Int
  lo : Int
  hi : Int
abbrev CX.val (v : CX) : Value := .agg #[.string v.name, .int .i64 v.cap, .int .i64 v.lo, .int .i64 v.hi]
def CX.tot (v : CX) : Nat := v.name.size
def CX.Wide (v : CX) : Prop := v.name.size ≤ maxLen
structure CX.At (W : World) (b o : Nat) (v : CX) : Prop where
  c0 : W.cell? ⟨b, o, none⟩ = some (.string v.name)
  c1 : W.cell? ⟨b, o + 1, none⟩ = some (.int .i64 v.cap)
  c2 : W.cell? ⟨b, o + 2, none⟩ = some (.int .i64 v.lo)
  c3 : W.cell? ⟨b, o + 3, none⟩ = some (.int .i64 v.hi)
theorem CX.At.lt {W : World} {b o : Nat} {v : CX} (h : CX.At W b o v) : b < W.heap.size := World.block_lt_of_cell? W _ h.c0
theorem CX.At.below {n : Nat} {A B : World} {b o : Nat} {v : CX} (h : CX.At A b o v) (hk : Below n A B) (hs : b < n) : CX.At B b o v :=
  ⟨below_cell hk h.c0 hs, below_cell hk h.c1 hs, below_cell hk h.c2 hs, below_cell hk h.c3 hs⟩
theorem CX.At.of_block {A B : World} {b o : Nat} {v : CX} (h : CX.At A b o v) (hb : B.heap[b]? = A.heap[b]?) : CX.At B b o v :=
  ⟨(cell_of_block (a := ⟨b, _, none⟩) hb).trans h.c0, (cell_of_block (a := ⟨b, _, none⟩) hb).trans h.c1, (cell_of_block (a := ⟨b, _, none⟩) hb).trans h.c2, (cell_of_block (a := ⟨b, _, none⟩) hb).trans h.c3⟩
def CX.Row (ok : Nat → Prop) (W : World) (base : Option Addr) (l : List CX) : Prop := ∀ (i : Nat) (k : CX), l[i]? = some k → ∃ b o, base = some ⟨b, o, none⟩ ∧ ok b ∧ CX.At W b (o + i * 4) k
theorem CX.Row.mono {ok ok' : Nat → Prop} {A B : World} {base : Option Addr} {l : List CX} (h : CX.Row ok A base l) (hb : ∀ b, ok b → b < A.heap.size → ok' b ∧ B.heap[b]? = A.heap[b]?) : CX.Row ok' B base l := by
  intro i k hk
  obtain ⟨b, o, h1, h2, h3⟩ := h i k hk
  obtain ⟨h4, h5⟩ := hb b h2 h3.lt
  exact ⟨b, o, h1, h4, h3.of_block h5⟩
theorem CX.Row.under {ok : Nat → Prop} {n : Nat} {A B : World} {base : Option Addr} {l : List CX} (h : CX.Row ok A base l) (hk : Below n A B) (hs : ∀ b, ok b → b < n) : CX.Row ok B base l := h.mono fun b ho hb => ⟨ho, hk.block b (hs b ho)⟩
theorem CX.Row.kept {S ok : Nat → Prop} {A B : World} {base : Option Addr} {l : List CX} (h : CX.Row ok A base l) (hk : Kept S A B) (hs : ∀ b, ok b → ¬ S b) : CX.Row ok B base l := h.mono fun b ho hb => ⟨ho, hk.block b hb (hs b ho)⟩
theorem CX.put {W : World} {g N : Nat} {t : TypeId} (h0 : RowAt W g N t) (i : Nat) (hi : i * 4 + 3 < N) (v : CX) :
    RowAt ((((W.setCell ⟨g, i * 4, none⟩ (.string v.name)).setCell ⟨g, i * 4 + 1, none⟩ (.int .i64 v.cap)).setCell ⟨g, i * 4 + 2, none⟩ (.int .i64 v.lo)).setCell ⟨g, i * 4 + 3, none⟩ (.int .i64 v.hi)) g N t ∧ Kept (fun k => k = g) W ((((W.setCell ⟨g, i * 4, none⟩ (.string v.name)).setCell ⟨g, i * 4 + 1, none⟩ (.int .i64 v.cap)).setCell ⟨g, i * 4 + 2, none⟩ (.int .i64 v.lo)).setCell ⟨g, i * 4 + 3, none⟩ (.int .i64 v.hi)) ∧ CX.At ((((W.setCell ⟨g, i * 4, none⟩ (.string v.name)).setCell ⟨g, i * 4 + 1, none⟩ (.int .i64 v.cap)).setCell ⟨g, i * 4 + 2, none⟩ (.int .i64 v.lo)).setCell ⟨g, i * 4 + 3, none⟩ (.int .i64 v.hi)) g (0 + i * 4) v ∧
    ∀ (j : Nat) (x : CX), j ≠ i → CX.At W g (0 + j * 4) x → CX.At ((((W.setCell ⟨g, i * 4, none⟩ (.string v.name)).setCell ⟨g, i * 4 + 1, none⟩ (.int .i64 v.cap)).setCell ⟨g, i * 4 + 2, none⟩ (.int .i64 v.lo)).setCell ⟨g, i * 4 + 3, none⟩ (.int .i64 v.hi)) g (0 + j * 4) x := by
  have h1 := h0.set (i * 4) (.string v.name)
  have h2 := h1.set (i * 4 + 1) (.int .i64 v.cap)
  have h3 := h2.set (i * 4 + 2) (.int .i64 v.lo)
  have h4 := h3.set (i * 4 + 3) (.int .i64 v.hi)
  refine ⟨h4, (((((Kept.refl (fun k => k = g) W).setCell (p := ⟨g, i * 4, none⟩) rfl _).setCell (p := ⟨g, i * 4 + 1, none⟩) rfl _).setCell (p := ⟨g, i * 4 + 2, none⟩) rfl _).setCell (p := ⟨g, i * 4 + 3, none⟩) rfl _), ?_, ?_⟩
  · rw [Nat.zero_add]
    refine ⟨?_, ?_, ?_, ?_⟩
    · rw [set_far (by omega), set_far (by omega), set_far (by omega)]
      exact h0.put (by omega) _
    · rw [set_far (by omega), set_far (by omega)]
      exact h1.put (by omega) _
    · rw [set_far (by omega)]
      exact h2.put (by omega) _
    · exact h3.put (by omega) _
  · intro j x hj hc
    rw [Nat.zero_add] at hc ⊢
    refine ⟨?_, ?_, ?_, ?_⟩
    · rw [set_far (by omega), set_far (by omega), set_far (by omega), set_far (by omega)]; exact hc.c0
    · rw [set_far (by omega), set_far (by omega), set_far (by omega), set_far (by omega)]; exact hc.c1
    · rw [set_far (by omega), set_far (by omega), set_far (by omega), set_far (by omega)]; exact hc.c2
    · rw [set_far (by omega), set_far (by omega), set_far (by omega), set_far (by omega)]; exact hc.c3
end Go.Proofs.Ytimfdfeleoaehaa
