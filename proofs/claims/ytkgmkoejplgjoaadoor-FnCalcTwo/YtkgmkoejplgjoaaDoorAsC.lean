/-
  What 'answered' answers of a function that tells a number, an error that is a fault, or panics with a fault: the number and no fault, or 0 and the fault.
-/
import Derived.Test.YtkgmkoejplgjoaaDoorAsB
import Derived.Test.YtkgmkoejplgjoaaDoorTreeR
import Derived.Laws.OwnMore
namespace Go.Proofs.YtkgmkoejplgjoaaDoor
open Go.RowKit Go.Extern.Stop Go.Stop Go.Extern
set_option linter.unusedSimpArgs false
set_option linter.unusedVariables false
inductive Res where
  | num (n : Int)
  | err (c : Int)
  | pan (c : Int)
def Res.ans : Res → Int × Int
  | .num n => (n, 0)
  | .err c => (0, c)
  | .pan c => (0, c)
def Res.told : Res → Ending → Prop
  | .num n, e => e = .returned (.tuple #[.int .i64 n, .nilIface])
  | .err c, e => e = .returned (.tuple #[.int .i64 0, faultV c])
  | .pan c, e => e = .panicked [{ v := faultV c, recovered := false }]
theorem cellOf {A : World} {b : Nat} {v : Value} {t : TypeId} (h : A.heap[b]? = some (.cells #[v] t)) : A.cell? ⟨b, 0, none⟩ = some v ∧ A.frozen? ⟨b, 0, none⟩ = false := ⟨by simp [World.cell?, h], by simp [World.frozen?, h]⟩
theorem noNeq (c : Int) (w : World) : (binOp BinOp.neq 39 (faultV c) .nilIface).run Tryd.prog w = .ok (.bool true) w := by kernel_rfl
theorem nilNeq (w : World) : (binOp BinOp.neq 39 .nilIface .nilIface).run Tryd.prog w = .ok (.bool false) w := by kernel_rfl
theorem results2 (p q : Nat) (a b : Int) (W : World) (r : List Value) (h0 : W.cell? ⟨p, 0, none⟩ = some (.int .i64 a)) (h1 : W.cell? ⟨q, 0, none⟩ = some (.int .i64 b)) : True := trivial
set_option maxRecDepth 100000 in
set_option maxHeartbeats 4000000 in
theorem answeredTwo (caps : Array Value) (r : Res) (w : World) (hg : ErrG w) (H : ∀ W, Below w.heap.size w W → Calls Tryd.prog 15 caps W fun e w' => r.told e ∧ Below W.heap.size W w') :
    Calls Tryd.prog 14 #[.func (.func 15) #[] caps] w fun e w' => e = .returned (.tuple #[.int .i64 r.ans.1, .int .i64 r.ans.2]) ∧ Below w.heap.size w w' := by
  have hmf : ∀ (fn : Fn) (first cap : Array Value) (w : World), (Instr.makeFunc fn first cap).run Tryd.prog w = .ok (.func fn first cap) w := fun _ _ _ _ => rfl
  obtain ⟨W1, hW1⟩ : ∃ W1, w.alloc (.cells #[.int .i64 0] 3) = W1 := ⟨_, rfl⟩
  obtain ⟨W2, hW2⟩ : ∃ W2, W1.alloc (.cells #[.int .i64 0] 3) = W2 := ⟨_, rfl⟩
  have s1 : W1.heap.size = w.heap.size + 1 := by rw [← hW1]; simp
  have s2 : W2.heap.size = w.heap.size + 2 := by rw [← hW2]; simp [s1]
  have hB2 : Below w.heap.size w W2 := by rw [← hW2, ← hW1]; exact ((Below.refl _ w).alloc (Nat.le_refl _) _).alloc (by simp) _
  have p0 : W2.heap[w.heap.size]? = some (.cells #[.int .i64 0] 3) := by
    rw [← hW2]
    refine (Below.heap_alloc _ _ _ (by omega)).trans ?_
    rw [← hW1]
    exact Array.getElem?_push_size
  have p1 : W2.heap[w.heap.size + 1]? = some (.cells #[.int .i64 0] 3) := by rw [← hW2, ← s1]; exact Array.getElem?_push_size
  have hg2 := hg.of hB2
  have HN := H W2 hB2
  clear H
  have q1 := noNeq
  have q2 := nilNeq
  go_enter_defers Tryd.func14, Tryd.ntmps14
  go_wp2_with fail
  go_at_call 15
  refine HN.mono ?_
  clear HN hW1 hW2
  rintro e w3 ⟨he, hB3⟩
  have hz3 := hB3.size
  have hg3 := hg2.of hB3
  replace p0 := (hB3.block _ (by omega)).trans p0
  replace p1 := (hB3.block _ (by omega)).trans p1
  have hB3' := hB2.trans (hB3.mono (by omega))
  obtain ⟨c0, f0⟩ := cellOf p0
  obtain ⟨c1, f1⟩ := cellOf p1
  cases r with
  | num n =>
    obtain rfl : e = _ := he
    dsimp only [Res.ans]
    go_wp2_with fail
    refine leaves_cons (f := 26) (args := #[.pointer (some ⟨w.heap.size, 0, none⟩), .pointer (some ⟨w.heap.size + 1, 0, none⟩)]) (by simp) (by simp [go_sem]) ?_
    refine (ansIdle _ _ _).mono ?_
    rintro e u' w6 ⟨rfl, rfl, hw6⟩
    subst w6
    simp [Leaves, settle, results, Tryd.results14, go_sem, c0, c1, f0, f1]
    exact ⟨⟨rfl, rfl⟩, ((hB3'.setCell (p := ⟨w.heap.size, 0, none⟩) (Nat.le_refl _) _).setCell (p := ⟨w.heap.size, 0, none⟩) (Nat.le_refl _) _).setCell (p := ⟨w.heap.size + 1, 0, none⟩) (Nat.le_succ _) _⟩
  | err c =>
    obtain rfl : e = _ := he
    dsimp only [Res.ans]
    have hc : c0 = c0 := rfl
    have hgX : ∀ v, ErrG (w3.setCell ⟨w.heap.size, 0, none⟩ v) := fun v => hg3.below ((Below.refl w.heap.size w3).setCell (p := ⟨w.heap.size, 0, none⟩) (Nat.le_refl _) v) hg.lt
    go_wp2_with fail
    go_at_call 27
    refine (faultOf c _ (hgX _)).mono ?_
    rintro e w4 ⟨rfl, hB4⟩
    have hz4 := hB4.size
    have p0' := (hB4.block w.heap.size (by simp; omega)).trans (heap_setCell_same _ _ 0 _ _ _ p0)
    have p1' := (hB4.block (w.heap.size + 1) (by simp; omega)).trans ((((Kept.refl (fun k => k = w.heap.size) w3).setCell (p := ⟨w.heap.size, 0, none⟩) rfl (.int .i64 0)).block (w.heap.size + 1) (by omega) (by omega)).trans p1)
    have hB4' := (hB3'.setCell (p := ⟨w.heap.size, 0, none⟩) (Nat.le_refl _) (.int .i64 0)).trans (hB4.mono (by simp; omega))
    clear p0 p1 c0 c1 f0 f1
    obtain ⟨c0, f0⟩ := cellOf p0'
    obtain ⟨c1, f1⟩ := cellOf p1'
    go_wp2_with fail
    refine leaves_cons (f := 26) (args := #[.pointer (some ⟨w.heap.size, 0, none⟩), .pointer (some ⟨w.heap.size + 1, 0, none⟩)]) (by simp) (by simp [go_sem]) ?_
    refine (ansIdle _ _ _).mono ?_
    rintro e u' w6 ⟨rfl, rfl, hw6⟩
    subst w6
    simp [Leaves, settle, results, Tryd.results14, go_sem, c0, c1, f0, f1]
    exact ⟨⟨rfl, rfl⟩, (hB4'.setCell (p := ⟨w.heap.size, 0, none⟩) (Nat.le_refl _) _).setCell (p := ⟨w.heap.size + 1, 0, none⟩) (Nat.le_succ _) _⟩
  | pan c =>
    obtain rfl : e = _ := he
    dsimp only [Res.ans]
    refine leaves_cons (f := 26) (args := #[.pointer (some ⟨w.heap.size, 0, none⟩), .pointer (some ⟨w.heap.size + 1, 0, none⟩)]) (by simp) (by simp [go_sem]) ?_
    refine (ansCatch w.heap.size (w.heap.size + 1) c 0 0 [] w3 hg3 c0 c1 f0 f1 (by omega)).mono ?_
    rintro e u' w6 ⟨rfl, rfl, W6, hB6, hw6⟩
    have hz6 := hB6.size
    obtain ⟨d0, e0⟩ := cellOf ((hB6.block _ (by omega)).trans p0)
    obtain ⟨d1, e1⟩ := cellOf ((hB6.block _ (by omega)).trans p1)
    subst w6
    simp [Leaves, settle, results, Tryd.results14, go_sem, d0, d1, e0, e1]
    exact ⟨⟨rfl, rfl⟩, ((hB3'.trans (hB6.mono (by omega))).setCell (p := ⟨w.heap.size, 0, none⟩) (Nat.le_refl _) _).setCell (p := ⟨w.heap.size + 1, 0, none⟩) (Nat.le_succ _) _⟩
end Go.Proofs.YtkgmkoejplgjoaaDoor
