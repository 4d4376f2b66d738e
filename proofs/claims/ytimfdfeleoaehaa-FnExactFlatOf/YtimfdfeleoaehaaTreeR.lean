/-
  A range over a function whose rounds end or return, at the wide fence: what the rounds may write is a set of blocks, and an iterator may itself range over a function; no condition on the program.
-/
import Derived.RangeFuncNested
import Derived.RangeFuncBound
import Derived.RangeFuncCalls
import Derived.RangeFuncLeaves
import Derived.Shelf.Abstract
import Derived.Shelf.RegionOpen
import Derived.WalkKit
import Derived.OwnWalkIn
import Derived.TacticsInMore
import Derived.LoopNIn
import Derived.LoopIn
namespace Go.Proofs.Ytimfdfeleoaehaa
open Go.RowKit Go.Shelf
set_option linter.unusedSimpArgs false
set_option linter.unusedVariables false

structure Kept (S : Nat → Prop) (A B : World) : Prop where
  os : B.os = A.os
  tape : B.tape = A.tape
  output : B.output = A.output
  size : A.heap.size ≤ B.heap.size
  block : ∀ k, k < A.heap.size → ¬ S k → B.heap[k]? = A.heap[k]?

theorem Kept.refl (S : Nat → Prop) (A : World) : Kept S A A := ⟨rfl, rfl, rfl, Nat.le_refl _, fun _ _ _ => rfl⟩
theorem Kept.trans {S : Nat → Prop} {A B C : World} (h : Kept S A B) (k : Kept S B C) : Kept S A C :=
  ⟨k.os.trans h.os, k.tape.trans h.tape, k.output.trans h.output, Nat.le_trans h.size k.size, fun i hi hs => (k.block i (Nat.lt_of_lt_of_le hi h.size) hs).trans (h.block i hi hs)⟩
theorem Kept.mono {S T : Nat → Prop} {A B : World} (h : Kept S A B) (hs : ∀ k, k < A.heap.size → S k → T k) : Kept T A B :=
  ⟨h.os, h.tape, h.output, h.size, fun k hk ht => h.block k hk (fun s => ht (hs k hk s))⟩
theorem Kept.join {S T : Nat → Prop} {A B C : World} (h : Kept S A B) (k : Kept T B C) (hT : ∀ k, k < A.heap.size → T k → S k) : Kept S A C :=
  ⟨k.os.trans h.os, k.tape.trans h.tape, k.output.trans h.output, Nat.le_trans h.size k.size, fun i hi hs => (k.block i (Nat.lt_of_lt_of_le hi h.size) (fun ht => hs (hT i hi ht))).trans (h.block i hi hs)⟩
theorem Kept.below {S : Nat → Prop} {A B : World} {n : Nat} (h : Kept S A B) (hn : n ≤ A.heap.size) (hs : ∀ k, S k → n ≤ k) : Below n A B :=
  ⟨h.os, h.tape, h.output, h.size, fun k hk => h.block k (by omega) (fun s => by have := hs k s; omega)⟩
theorem Kept.of_below {A B : World} {n : Nat} (S : Nat → Prop) (h : Below n A B) (hn : ∀ k, k < A.heap.size → ¬ S k → k < n) : Kept S A B :=
  ⟨h.os, h.tape, h.output, h.size, fun k hk hs => h.block k (hn k hk hs)⟩
theorem Kept.of_new {A B : World} (S : Nat → Prop) (h : Below A.heap.size A B) : Kept S A B := Kept.of_below S h (fun _ hk _ => hk)
theorem Kept.alloc {S : Nat → Prop} {A B : World} (h : Kept S A B) (o : Obj) : Kept S A (B.alloc o) := h.trans (Kept.of_new S ((Below.refl _ B).alloc (Nat.le_refl _) o))
theorem Kept.putObj {S : Nat → Prop} {A B : World} (h : Kept S A B) {l : Nat} (hl : S l) (o : Obj) : Kept S A (B.putObj l o) :=
  h.trans ⟨rfl, rfl, rfl, by simp, fun k hk hs => World.putObj_heap_other (fun e => hs (e ▸ hl))⟩
theorem Kept.setCell {S : Nat → Prop} {A B : World} (h : Kept S A B) {p : Addr} (hp : S p.block) (u : Value) : Kept S A (B.setCell p u) :=
  h.trans ⟨rfl, rfl, rfl, by simp [World.setCell], fun k hk hs => Below.heap_setCell _ _ _ _ (fun e => hs (e ▸ hp))⟩
theorem cell_of_block {A B : World} {a : Addr} (h : B.heap[a.block]? = A.heap[a.block]?) : B.cell? a = A.cell? a := by
  unfold World.cell?
  rw [h]
theorem frozen_of_block {A B : World} {a : Addr} (h : B.heap[a.block]? = A.heap[a.block]?) : B.frozen? a = A.frozen? a := by
  unfold World.frozen?
  rw [h]
theorem Kept.cell {S : Nat → Prop} {A B : World} (h : Kept S A B) {a : Addr} {v : Value} (hc : A.cell? a = some v) (hs : ¬ S a.block) : B.cell? a = some v :=
  (cell_of_block (h.block _ (World.block_lt_of_cell? A a hc) hs)).trans hc
theorem below_cell {A B : World} {n : Nat} (h : Below n A B) {a : Addr} {v : Value} (hc : A.cell? a = some v) (hn : a.block < n) : B.cell? a = some v := (h.cell hn).trans hc

def Iter {α : Type} (P : Program) (gf : Nat) (lb : Array Value) (encs : α → Array Value) (xs : List α) (S : Nat → Prop) (W : World) : Prop :=
  ∀ (n l : Nat) (J Jx : List α → World → Prop),
    (∀ pre A B, Below W.heap.size A B → J pre A → J pre B) → (∀ pre A B, Below W.heap.size A B → Jx pre A → Jx pre B) →
    (∀ m pre x W1, J pre W1 → pre ++ [x] <+: xs → YieldAt Fence.wide m P l (encs x) W1 fun e W' =>
      Kept S W1 W' ∧ ((e = .returned (.bool true) ∧ J (pre ++ [x]) W') ∨ (e = .returned (.bool false) ∧ Jx (pre ++ [x]) W'))) →
    J [] W →
    CallsIn Fence.wide n P gf (#[.func (.yield l) #[] #[]] ++ lb) W fun e W' => (∃ v, e = .returned v) ∧ Kept S W W' ∧ (J xs W' ∨ ∃ pre, pre <+: xs ∧ Jx pre W')

def roundQ {α : Type} (S : Nat → Prop) (I Ix : List α → World → Prop) (xs : List α) (W : World) : Exit → Act → World → Prop
  | .normal, _, W' => Kept S W W' ∧ I xs W'
  | .ret, _, W' => Kept S W W' ∧ Ix xs W'
  | _, _, _ => False

abbrev mark (D : Nat) : Deferred := { target := .collected D, args := #[] }

theorem range_law {α : Type} {P : Program} {n : Nat} {g : Operand} {ps : Array Tmp} {assign body : Code} {Q : Exit → Act → World → Prop} {a : Act} {w : World} {gf : Nat} {lb : Array Value}
    (hg : a.eval g = .func (.func gf) #[] lb) (eg : ∀ args w, (callFunc gf args).run P w = .ok (.enter gf args) w)
    (encs : α → Array Value) (hps : ∀ x, (encs x).size = ps.size) (xs : List α) (S : Nat → Prop) (I Ix : List α → World → Prop)
    (hS : ∀ k, S k → k < w.heap.size)
    (hI : ∀ pre A B, Below w.heap.size A B → I pre A → I pre B) (hIx : ∀ pre A B, Below w.heap.size A B → Ix pre A → Ix pre B) (h0 : I [] w)
    (hit : ∀ W, Below w.heap.size w W → w.heap.size + 2 ≤ W.heap.size → Iter P gf lb encs xs (fun k => S k ∨ k = w.heap.size + 1) W)
    (hround : ∀ (l m : Nat) (pre : List α) (x : α) (W : World), w.heap.size ≤ l → l < W.heap.size → I pre W → pre ++ [x] <+: xs →
      assign.wpIn (Fence.wide.inRound l) m P (Exit.then (fun a₁ w₁ => Below W.heap.size W w₁ ∧
          ∀ w₂, Kept (fun k => k = l) w₁ w₂ → I pre w₂ → body.wpIn (Fence.wide.inRound l) m P (roundQ S I Ix (pre ++ [x]) w₂) a₁ w₂) (fun _ _ _ => False))
        { tmps := (ps.zip (encs x)).foldl (fun t (p, v) => t.setIfInBounds p v) a.tmps, defers := [] } W)
    (hdone : ∀ (D : Nat) (W : World), D = w.heap.size → I xs W → Kept S w W → W.heap[D]? = some (.deferred (some [])) → Q .normal { a with defers := mark D :: a.defers } W)
    (hstop : ∀ (D : Nat) (pre : List α) (W : World), D = w.heap.size → pre <+: xs → Ix pre W → Kept S w W → W.heap[D]? = some (.deferred (some [])) → Q .ret { a with defers := mark D :: a.defers } W) :
    (Code.rangeFunc g ps assign body).wpIn Fence.wide n P Q a w := by
  refine wpIn_rangeFunc ?_
  intro fn hfn
  obtain ⟨rc, hrc⟩ : ∃ rc : LoopState → Option Code → Loop, rc = fun st pe => { state := st, pending := pe, fn, tmps := a.tmps, params := ps, assign, body, defers := w.heap.size } := ⟨_, rfl⟩
  obtain ⟨W1, hW1⟩ : ∃ W1, (w.alloc (.deferred (some []))).alloc (.loop (rc .ready none)) = W1 := ⟨_, rfl⟩
  have hs1 : W1.heap.size = w.heap.size + 2 := by rw [← hW1]; simp
  have hb1 : Below w.heap.size w W1 := by rw [← hW1]; exact ((Below.refl _ w).alloc (Nat.le_refl _) _).alloc (by simp) _
  have hl1 : W1.heap[w.heap.size + 1]? = some (.loop (rc .ready none)) := by
    rw [← hW1]; have := World.alloc_heap_new (w.alloc (.deferred (some []))) (.loop (rc .ready none)); rwa [World.size_alloc] at this
  have hd1 : W1.heap[w.heap.size]? = some (.deferred (some [])) := by
    rw [← hW1]; exact (Below.heap_alloc _ _ _ (by simp)).trans (World.alloc_heap_new w _)
  have hSl : ¬ S (w.heap.size + 1) := fun h => by have := hS _ h; omega
  have hSd : ¬ S w.heap.size := fun h => by have := hS _ h; omega
  refine ⟨w.heap.size + 1, [mark w.heap.size], W1, { target := .fn (.func gf) lb, args := #[.func (.yield (w.heap.size + 1)) #[] #[]] }, W1, gf,
    #[.func (.yield (w.heap.size + 1)) #[] #[]] ++ lb, W1, ?_, ?_, fun _ _ => trivial, ?_, (fun h => by cases h), ?_⟩
  · rw [← hW1, hrc]; exact run_enterLoop_outer _ _ _ _ _
  · simp only [resolve, hg]; simp [go_sem]
  · simp [invoke, go_sem, eg]
  · refine (hit W1 hb1 (by omega) (n - 1) (w.heap.size + 1)
      (fun pre W => I pre W ∧ W.heap[w.heap.size + 1]? = some (.loop (rc .ready none)) ∧ W.heap[w.heap.size]? = some (.deferred (some [])))
      (fun pre W => Ix pre W ∧ W.heap[w.heap.size + 1]? = some (.loop (rc .done (some .ret))) ∧ W.heap[w.heap.size]? = some (.deferred (some [])))
      (fun pre A B h hs => ⟨hI pre A B (h.mono (by omega)) hs.1, (h.block _ (by omega)).trans hs.2.1, (h.block _ (by omega)).trans hs.2.2⟩)
      (fun pre A B h hs => ⟨hIx pre A B (h.mono (by omega)) hs.1, (h.block _ (by omega)).trans hs.2.1, (h.block _ (by omega)).trans hs.2.2⟩)
      ?_ ⟨hI _ _ _ hb1 h0, hl1, hd1⟩).mono ?_
    · rintro m pre x W ⟨hi, hl, hd⟩ hpre
      have hlt : w.heap.size + 1 < W.heap.size := (Array.getElem?_eq_some_iff.1 hl).1
      have hy := run_yield (P := P) (args := encs x) hl (by rw [hrc]; exact hps x)
      rw [hrc] at hy
      refine ⟨fn, _, assign, body, hy, roundIn_of_wpIn hfn (wpIn_mono (hround _ m pre x W (Nat.le_succ _) hlt hi hpre) ?_)⟩
      clear hy
      rintro e a1 w1 hq
      cases e with
      | normal =>
        obtain ⟨hbw, hbody⟩ := hq
        have hl' := (hbw.block _ hlt).trans hl
        have hd' := (hbw.block _ (by omega)).trans hd
        have hlt' : w.heap.size + 1 < w1.heap.size := (Array.getElem?_eq_some_iff.1 hl').1
        refine ⟨_, run_beginRound hl' (by rw [hrc]), wpIn_mono (hbody _ ((Kept.refl (fun k => k = w.heap.size + 1) w1).putObj rfl _) (hI pre _ _ ?_ hi)) ?_⟩
        · exact (hbw.mono (by omega)).trans (((Kept.refl (fun k => k = w.heap.size + 1) w1).putObj rfl _).below (by omega) (fun k e => by omega))
        · have hl2 : (w1.putObj (w.heap.size + 1) (.loop { rc .ready none with state := .busy })).heap[w.heap.size + 1]? = some (.loop { rc .ready none with state := .busy }) := World.putObj_heap_same hlt'
          have hd2 : (w1.putObj (w.heap.size + 1) (.loop { rc .ready none with state := .busy })).heap[w.heap.size]? = some (.deferred (some [])) := (World.putObj_heap_other (by omega)).trans hd'
          have hk2 : Kept (fun k => S k ∨ k = w.heap.size + 1) W (w1.putObj (w.heap.size + 1) (.loop { rc .ready none with state := .busy })) := (Kept.of_new _ hbw).putObj (.inr rfl) _
          rintro e a2 w3 hq
          cases e with
          | normal =>
            obtain ⟨hk3, hi3⟩ := hq
            have hl3 := (hk3.block _ (Array.getElem?_eq_some_iff.1 hl2).1 hSl).trans hl2
            have hd3 := (hk3.block _ (Array.getElem?_eq_some_iff.1 hd2).1 hSd).trans hd2
            have hr := run_endRound (P := P) none hl3
            refine ⟨_, _, hr, (hk2.trans (hk3.mono fun k _ h => .inl h)).putObj (.inr rfl) _, .inl ⟨rfl, ?_, ?_, ?_⟩⟩
            · exact hI _ _ _ (((Kept.refl (fun k => k = w.heap.size + 1) w3).putObj rfl _).below (by have := (Array.getElem?_eq_some_iff.1 hl3).1; omega) (fun k e => by omega)) hi3
            · rw [hrc]; rw [hrc] at hl3; exact World.putObj_heap_same (Array.getElem?_eq_some_iff.1 hl3).1
            · exact (World.putObj_heap_other (by omega)).trans hd3
          | ret =>
            obtain ⟨hk3, hi3⟩ := hq
            have hl3 := (hk3.block _ (Array.getElem?_eq_some_iff.1 hl2).1 hSl).trans hl2
            have hd3 := (hk3.block _ (Array.getElem?_eq_some_iff.1 hd2).1 hSd).trans hd2
            have hr := run_endRound (P := P) (some .ret) hl3
            refine ⟨_, _, hr, (hk2.trans (hk3.mono fun k _ h => .inl h)).putObj (.inr rfl) _, .inr ⟨rfl, ?_, ?_, ?_⟩⟩
            · exact hIx _ _ _ (((Kept.refl (fun k => k = w.heap.size + 1) w3).putObj rfl _).below (by have := (Array.getElem?_eq_some_iff.1 hl3).1; omega) (fun k e => by omega)) hi3
            · rw [hrc]; rw [hrc] at hl3; exact World.putObj_heap_same (Array.getElem?_eq_some_iff.1 hl3).1
            · exact (World.putObj_heap_other (by omega)).trans hd3
          | exit id => exact hq.elim
          | goto t => exact hq.elim
          | panic ch => exact hq.elim
          | outgrown => exact hq.elim
      | ret => exact hq.elim
      | exit id => exact hq.elim
      | goto t => exact hq.elim
      | panic ch => exact hq.elim
      | outgrown => exact hq.elim
    · rintro e W2 ⟨⟨v, rfl⟩, hk, h⟩
      have hk2 : ∀ o, Kept S w (W2.putObj (w.heap.size + 1) o) := fun o =>
        (((Kept.of_new (fun k => S k ∨ k = w.heap.size + 1) hb1).trans hk).putObj (.inr rfl) o).mono fun k hk h => h.elim id (fun e => by omega)
      have tail : ∀ {o : Obj}, W2.heap[w.heap.size + 1]? = some o → ∀ o', Below w.heap.size W2 (W2.putObj (w.heap.size + 1) o') := fun ho o' =>
        ((Kept.refl (fun k => k = w.heap.size + 1) W2).putObj rfl _).below (by have := (Array.getElem?_eq_some_iff.1 ho).1; omega) (fun k e => by omega)
      rcases h with ⟨hi, hl, hd⟩ | ⟨pre, hpre, hi, hl, hd⟩
      · have hr := run_endLoop (P := P) hl (by rw [hrc]; simp)
        refine ⟨none, _, by rw [hr, hrc], ?_⟩
        exact hdone _ _ rfl (hI _ _ _ (tail hl _) hi) (hk2 _) ((World.putObj_heap_other (by omega)).trans hd)
      · have hr := run_endLoop (P := P) hl (by rw [hrc]; simp)
        refine ⟨some .ret, _, by rw [hr, hrc], ?_⟩
        exact wpIn_ret (hstop _ pre _ rfl hpre (hIx _ _ _ (tail hl _) hi) (hk2 _) ((World.putObj_heap_other (by omega)).trans hd))

/-- A function that leaves with marks alone: the blocks are shut one by one. -/
theorem leave_marks {P : Program} {n : Nat} {fn : Func} {tmps : Array Value} {R : Ending → World → Prop} : ∀ (ds : List Nat) (W : World), ds.Nodup → (∀ D ∈ ds, W.heap[D]? = some (.deferred (some []))) →
    (∀ W', Kept (fun k => k ∈ ds) W W' → ∃ v, (results fn tmps).run P W' = .ok v W' ∧ R (.returned v) W') →
    LeavesInM Fence.wide n P fn tmps R (ds.map mark) .returning W
  | [], W, _, _, h => h W (Kept.refl _ _)
  | D :: ds, W, hn, hd, h => by
    have hD := hd D (by simp)
    obtain ⟨hn1, hn2⟩ := List.nodup_cons.1 hn
    refine ⟨by simp, .inl ⟨D, _, rfl, run_takeDeferred hD, leave_marks ds _ hn2 (fun E hE => ?_) (fun W' hk => h W' ?_)⟩⟩
    · have hne : E ≠ D := fun e => hn1 (e ▸ hE)
      exact (World.putObj_heap_other hne).trans (hd E (by simp [hE]))
    · exact ((Kept.refl (fun k => k ∈ D :: ds) W).putObj (by simp) _).trans (hk.mono fun k _ h => by simp [h])
end Go.Proofs.Ytimfdfeleoaehaa
