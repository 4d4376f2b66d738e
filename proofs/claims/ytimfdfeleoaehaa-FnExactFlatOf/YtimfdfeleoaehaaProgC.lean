/-
  A program as it lies in memory: its size, copies of it, and that the same are told to be so.
-/
import Derived.Test.YtimfdfeleoaehaaProgB
namespace Go.Proofs.Ytimfdfeleoaehaa
open Go.RowKit
set_option linter.unusedSimpArgs false
set_option linter.unusedVariables false

structure PX where
  vbase : Option Addr
  vcap : Nat
  vars : List VX
  cbase : Option Addr
  ccap : Nat
  chans : List CX
  nbase : Option Addr
  ncap : Nat
  locks : List ByteArray
  tbase : Option Addr
  tcap : Nat
  tasks : List LX
abbrev PX.val (p : PX) : Value := .agg #[.slice p.vbase p.vars.length p.vcap, .slice p.cbase p.chans.length p.ccap, .slice p.nbase p.locks.length p.ncap, .slice p.tbase p.tasks.length p.tcap]
def PX.tot (p : PX) : Nat := (p.vars.length + sumOf VX.tot p.vars) + ((p.chans.length + sumOf CX.tot p.chans) + ((p.locks.length + sumOf ByteArray.size p.locks) + (p.tasks.length + sumOf LX.tot p.tasks)))
structure PX.Wide (p : PX) : Prop where
  vl : p.vars.length ≤ maxLen
  cl : p.chans.length ≤ maxLen
  nl : p.locks.length ≤ maxLen
  tl : p.tasks.length ≤ maxLen
  v : ∀ (i : Nat) (k : VX), p.vars[i]? = some k → k.Wide
  c : ∀ (i : Nat) (k : CX), p.chans[i]? = some k → k.Wide
  n : ∀ (i : Nat) (k : ByteArray), p.locks[i]? = some k → k.size ≤ maxLen
  t : ∀ (i : Nat) (k : LX), p.tasks[i]? = some k → k.Wide
structure PX.Small (p : PX) : Prop where
  vl : p.vars.length ≤ 1048576
  cl : p.chans.length ≤ 1048576
  nl : p.locks.length ≤ 1048576
  tl : p.tasks.length ≤ 1048576
  t : ∀ (i : Nat) (k : LX), p.tasks[i]? = some k → k.Small
structure PX.Lies (ok : Nat → Prop) (W : World) (p : PX) : Prop where
  v : VX.Row ok W p.vbase p.vars
  c : CX.Row ok W p.cbase p.chans
  n : NRow ok W p.nbase p.locks
  t : LX.Row ok W p.tbase p.tasks
  k : ∀ (i : Nat) (k : LX), p.tasks[i]? = some k → LX.Lies ok W k
structure PX.Same (p q : PX) : Prop where
  v : q.vars = p.vars
  c : q.chans = p.chans
  n : q.locks = p.locks
  tl : q.tasks.length = p.tasks.length
  t : ∀ (i : Nat) (x y : LX), p.tasks[i]? = some x → q.tasks[i]? = some y → LX.Same x y
theorem sumOf_get {α : Type} (f : α → Nat) {ks : List α} {i : Nat} {t : α} (h : ks[i]? = some t) : f t ≤ sumOf f ks := by
  have h1 := sumOf_take f h
  have h2 := sumOf_le f ks (i + 1)
  omega
theorem PX.small {p : PX} (h : p.tot ≤ 1048576) : p.Small := by
  unfold PX.tot at h
  exact ⟨by omega, by omega, by omega, by omega, fun i k hk => LX.small (by have := sumOf_get LX.tot hk; omega)⟩
theorem PX.Lies.mono {ok ok' : Nat → Prop} {A B : World} {p : PX} (h : PX.Lies ok A p) (hb : ∀ b, ok b → b < A.heap.size → ok' b ∧ B.heap[b]? = A.heap[b]?) : PX.Lies ok' B p := ⟨h.v.mono hb, h.c.mono hb, h.n.mono hb, h.t.mono hb, fun i k hk => (h.k i k hk).mono hb⟩
theorem PX.Lies.under {ok : Nat → Prop} {n : Nat} {A B : World} {p : PX} (h : PX.Lies ok A p) (hk : Below n A B) (hs : ∀ b, ok b → b < n) : PX.Lies ok B p := h.mono fun b ho hb => ⟨ho, hk.block b (hs b ho)⟩
theorem PX.Lies.kept {S ok : Nat → Prop} {A B : World} {p : PX} (h : PX.Lies ok A p) (hk : Kept S A B) (hs : ∀ b, ok b → ¬ S b) : PX.Lies ok B p := h.mono fun b ho hb => ⟨ho, hk.block b hb (hs b ho)⟩
theorem PX.Lies.bound {ok : Nat → Prop} {W : World} {p : PX} (h : PX.Lies ok W p) : PX.Lies (fun b => b < W.heap.size) W p := h.mono (fun b _ hb => ⟨hb, rfl⟩)
theorem PX.Same.join {p q r : PX} (h : PX.Same p q) (k : PX.Same p r) : PX.Same q r := by
  refine ⟨by rw [h.v, k.v], by rw [h.c, k.c], by rw [h.n, k.n], by rw [h.tl, k.tl], fun i x y hx hy => ?_⟩
  have hi : i < p.tasks.length := by have := (List.getElem?_eq_some_iff.1 hx).1; have := h.tl; omega
  have hc := List.getElem?_eq_getElem hi
  exact (h.t i _ x hc hx).join (k.t i _ y hc hy)
structure PX.At (W : World) (b : Nat) (p : PX) : Prop where
  c0 : W.cell? ⟨b, 0, none⟩ = some (.slice p.vbase p.vars.length p.vcap)
  c1 : W.cell? ⟨b, 1, none⟩ = some (.slice p.cbase p.chans.length p.ccap)
  c2 : W.cell? ⟨b, 2, none⟩ = some (.slice p.nbase p.locks.length p.ncap)
  c3 : W.cell? ⟨b, 3, none⟩ = some (.slice p.tbase p.tasks.length p.tcap)
theorem PX.At.below {n : Nat} {A B : World} {b : Nat} {p : PX} (h : PX.At A b p) (hk : Below n A B) (hs : b < n) : PX.At B b p := ⟨below_cell hk h.c0 hs, below_cell hk h.c1 hs, below_cell hk h.c2 hs, below_cell hk h.c3 hs⟩
theorem PX.At.kept {S : Nat → Prop} {A B : World} {b : Nat} {p : PX} (h : PX.At A b p) (hk : Kept S A B) (hs : ¬ S b) : PX.At B b p := ⟨hk.cell h.c0 hs, hk.cell h.c1 hs, hk.cell h.c2 hs, hk.cell h.c3 hs⟩
theorem PX.At.new (W : World) (p : PX) (T : TypeId) : PX.At (W.alloc (.cells #[.slice p.vbase p.vars.length p.vcap, .slice p.cbase p.chans.length p.ccap, .slice p.nbase p.locks.length p.ncap, .slice p.tbase p.tasks.length p.tcap] T)) W.heap.size p := ⟨World.cell?_alloc_new W _ _ 0, World.cell?_alloc_new W _ _ 1, World.cell?_alloc_new W _ _ 2, World.cell?_alloc_new W _ _ 3⟩
end Go.Proofs.Ytimfdfeleoaehaa
