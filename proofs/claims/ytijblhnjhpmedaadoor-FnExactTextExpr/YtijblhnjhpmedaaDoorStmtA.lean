/-
  Statements as they lie in memory, how much of a bound they leave, and when two are the same.
-/
import Derived.Test.YtijblhnjhpmedaaDoorTreeI
namespace Go.Proofs.YtijblhnjhpmedaaDoor
open Go.RowKit
set_option linter.unusedSimpArgs false
set_option linter.unusedVariables false

inductive SX where
  | mk (kind : Int) (name : ByteArray) (e f : XT) (abase : Option Addr) (acap : Nat) (la : List SX) (bbase : Option Addr) (bcap : Nat) (lb : List SX)
def SX.kind : SX → Int | .mk k _ _ _ _ _ _ _ _ _ => k
def SX.name : SX → ByteArray | .mk _ n _ _ _ _ _ _ _ _ => n
def SX.e : SX → XT | .mk _ _ e _ _ _ _ _ _ _ => e
def SX.f : SX → XT | .mk _ _ _ f _ _ _ _ _ _ => f
def SX.abase : SX → Option Addr | .mk _ _ _ _ a _ _ _ _ _ => a
def SX.acap : SX → Nat | .mk _ _ _ _ _ c _ _ _ _ => c
def SX.la : SX → List SX | .mk _ _ _ _ _ _ l _ _ _ => l
def SX.bbase : SX → Option Addr | .mk _ _ _ _ _ _ _ b _ _ => b
def SX.bcap : SX → Nat | .mk _ _ _ _ _ _ _ _ c _ => c
def SX.lb : SX → List SX | .mk _ _ _ _ _ _ _ _ _ l => l
abbrev SX.val (s : SX) : Value := .agg #[.int .i64 s.kind, .string s.name, .int .i64 s.e.kind, .int .i64 s.e.num, .string s.e.name, .slice s.e.base s.e.kids.length s.e.cap, .int .i64 s.f.kind, .int .i64 s.f.num, .string s.f.name, .slice s.f.base s.f.kids.length s.f.cap, .slice s.abase s.la.length s.acap, .slice s.bbase s.lb.length s.bcap]
mutual
def SX.size : SX → Nat
  | .mk _ _ _ _ _ _ la _ _ lb => 1 + (SX.sizeAll la + SX.sizeAll lb)
def SX.sizeAll : List SX → Nat
  | [] => 0
  | t :: ts => SX.size t + SX.sizeAll ts
end
theorem SX.size_eq (s : SX) : s.size = 1 + (SX.sizeAll s.la + SX.sizeAll s.lb) := by cases s; simp [SX.size, SX.la, SX.lb]
theorem SX.size_get {ks : List SX} {i : Nat} {t : SX} (h : ks[i]? = some t) : t.size ≤ SX.sizeAll ks := by
  induction ks generalizing i with
  | nil => simp at h
  | cons x xs ih =>
    cases i with
    | zero => simp at h; subst h; simp [SX.sizeAll]
    | succ i => simp at h; have := ih h; simp [SX.sizeAll]; omega

structure Cells12 (W : World) (b o : Nat) (s : SX) : Prop where
  c0 : W.cell? ⟨b, o, none⟩ = some (.int .i64 s.kind)
  c1 : W.cell? ⟨b, o + 1, none⟩ = some (.string s.name)
  c2 : W.cell? ⟨b, o + 2, none⟩ = some (.int .i64 s.e.kind)
  c3 : W.cell? ⟨b, o + 3, none⟩ = some (.int .i64 s.e.num)
  c4 : W.cell? ⟨b, o + 4, none⟩ = some (.string s.e.name)
  c5 : W.cell? ⟨b, o + 5, none⟩ = some (.slice s.e.base s.e.kids.length s.e.cap)
  c6 : W.cell? ⟨b, o + 6, none⟩ = some (.int .i64 s.f.kind)
  c7 : W.cell? ⟨b, o + 7, none⟩ = some (.int .i64 s.f.num)
  c8 : W.cell? ⟨b, o + 8, none⟩ = some (.string s.f.name)
  c9 : W.cell? ⟨b, o + 9, none⟩ = some (.slice s.f.base s.f.kids.length s.f.cap)
  c10 : W.cell? ⟨b, o + 10, none⟩ = some (.slice s.abase s.la.length s.acap)
  c11 : W.cell? ⟨b, o + 11, none⟩ = some (.slice s.bbase s.lb.length s.bcap)
theorem Cells12.lt {W : World} {b o : Nat} {s : SX} (h : Cells12 W b o s) : b < W.heap.size := World.block_lt_of_cell? W _ h.c0
theorem Cells12.kept {S : Nat → Prop} {A B : World} {b o : Nat} {s : SX} (h : Cells12 A b o s) (hk : Kept S A B) (hs : ¬ S b) : Cells12 B b o s :=
  ⟨hk.cell h.c0 hs, hk.cell h.c1 hs, hk.cell h.c2 hs, hk.cell h.c3 hs, hk.cell h.c4 hs, hk.cell h.c5 hs, hk.cell h.c6 hs, hk.cell h.c7 hs, hk.cell h.c8 hs, hk.cell h.c9 hs, hk.cell h.c10 hs, hk.cell h.c11 hs⟩
theorem Cells12.below {n : Nat} {A B : World} {b o : Nat} {s : SX} (h : Cells12 A b o s) (hk : Below n A B) (hs : b < n) : Cells12 B b o s :=
  ⟨below_cell hk h.c0 hs, below_cell hk h.c1 hs, below_cell hk h.c2 hs, below_cell hk h.c3 hs, below_cell hk h.c4 hs, below_cell hk h.c5 hs, below_cell hk h.c6 hs, below_cell hk h.c7 hs, below_cell hk h.c8 hs, below_cell hk h.c9 hs, below_cell hk h.c10 hs, below_cell hk h.c11 hs⟩
theorem Cells12.of_block {A B : World} {b o : Nat} {s : SX} (h : Cells12 A b o s) (hb : B.heap[b]? = A.heap[b]?) : Cells12 B b o s :=
  ⟨(cell_of_block (a := ⟨b, _, none⟩) hb).trans h.c0, (cell_of_block (a := ⟨b, _, none⟩) hb).trans h.c1, (cell_of_block (a := ⟨b, _, none⟩) hb).trans h.c2, (cell_of_block (a := ⟨b, _, none⟩) hb).trans h.c3, (cell_of_block (a := ⟨b, _, none⟩) hb).trans h.c4, (cell_of_block (a := ⟨b, _, none⟩) hb).trans h.c5, (cell_of_block (a := ⟨b, _, none⟩) hb).trans h.c6, (cell_of_block (a := ⟨b, _, none⟩) hb).trans h.c7, (cell_of_block (a := ⟨b, _, none⟩) hb).trans h.c8, (cell_of_block (a := ⟨b, _, none⟩) hb).trans h.c9, (cell_of_block (a := ⟨b, _, none⟩) hb).trans h.c10, (cell_of_block (a := ⟨b, _, none⟩) hb).trans h.c11⟩
theorem Cells12.new (W : World) (s : SX) (T : TypeId) : Cells12 (W.alloc (.cells #[.int .i64 s.kind, .string s.name, .int .i64 s.e.kind, .int .i64 s.e.num, .string s.e.name, .slice s.e.base s.e.kids.length s.e.cap, .int .i64 s.f.kind, .int .i64 s.f.num, .string s.f.name, .slice s.f.base s.f.kids.length s.f.cap, .slice s.abase s.la.length s.acap, .slice s.bbase s.lb.length s.bcap] T)) W.heap.size 0 s :=
  ⟨World.cell?_alloc_new W _ _ 0, World.cell?_alloc_new W _ _ 1, World.cell?_alloc_new W _ _ 2, World.cell?_alloc_new W _ _ 3, World.cell?_alloc_new W _ _ 4, World.cell?_alloc_new W _ _ 5, World.cell?_alloc_new W _ _ 6, World.cell?_alloc_new W _ _ 7, World.cell?_alloc_new W _ _ 8, World.cell?_alloc_new W _ _ 9, World.cell?_alloc_new W _ _ 10, World.cell?_alloc_new W _ _ 11⟩
def SRow (ok : Nat → Prop) (W : World) (base : Option Addr) (l : List SX) : Prop := ∀ (i : Nat) (k : SX), l[i]? = some k → ∃ b o, base = some ⟨b, o, none⟩ ∧ ok b ∧ Cells12 W b (o + i * 12) k
inductive LiesS (ok : Nat → Prop) (W : World) : SX → Prop
  | mk (s : SX) (he : Lies ok W s.e) (hf : Lies ok W s.f) (ha : SRow ok W s.abase s.la) (hb : SRow ok W s.bbase s.lb) (hka : ∀ (i : Nat) (k : SX), s.la[i]? = some k → LiesS ok W k) (hkb : ∀ (i : Nat) (k : SX), s.lb[i]? = some k → LiesS ok W k) : LiesS ok W s
theorem LiesS.parts {ok : Nat → Prop} {W : World} {s : SX} (h : LiesS ok W s) : Lies ok W s.e ∧ Lies ok W s.f ∧ SRow ok W s.abase s.la ∧ SRow ok W s.bbase s.lb ∧ (∀ (i : Nat) (k : SX), s.la[i]? = some k → LiesS ok W k) ∧ (∀ (i : Nat) (k : SX), s.lb[i]? = some k → LiesS ok W k) := by
  cases h; exact ⟨‹_›, ‹_›, ‹_›, ‹_›, ‹_›, ‹_›⟩
theorem SRow.mono {ok ok' : Nat → Prop} {A B : World} {base : Option Addr} {l : List SX} (h : SRow ok A base l) (hb : ∀ b, ok b → b < A.heap.size → ok' b ∧ B.heap[b]? = A.heap[b]?) : SRow ok' B base l := by
  intro i k hk
  obtain ⟨b, o, h1, h2, h3⟩ := h i k hk
  obtain ⟨h4, h5⟩ := hb b h2 h3.lt
  exact ⟨b, o, h1, h4, h3.of_block h5⟩
theorem LiesS.mono {ok ok' : Nat → Prop} {A B : World} {s : SX} (h : LiesS ok A s) (hb : ∀ b, ok b → b < A.heap.size → ok' b ∧ B.heap[b]? = A.heap[b]?) : LiesS ok' B s := by
  induction h with
  | mk s he hf ha hb' hka hkb iha ihb => exact .mk s (he.mono hb) (hf.mono hb) (ha.mono hb) (hb'.mono hb) iha ihb
theorem SRow.under {ok : Nat → Prop} {n : Nat} {A B : World} {base : Option Addr} {l : List SX} (h : SRow ok A base l) (hk : Below n A B) (hs : ∀ b, ok b → b < n) : SRow ok B base l := h.mono fun b ho hb => ⟨ho, hk.block b (hs b ho)⟩
theorem LiesS.under {ok : Nat → Prop} {n : Nat} {A B : World} {s : SX} (h : LiesS ok A s) (hk : Below n A B) (hs : ∀ b, ok b → b < n) : LiesS ok B s := h.mono fun b ho hb => ⟨ho, hk.block b (hs b ho)⟩
theorem LiesS.kept {S ok : Nat → Prop} {A B : World} {s : SX} (h : LiesS ok A s) (hk : Kept S A B) (hs : ∀ b, ok b → ¬ S b) : LiesS ok B s := h.mono fun b ho hb => ⟨ho, hk.block b hb (hs b ho)⟩
theorem LiesS.bound {ok : Nat → Prop} {W : World} {s : SX} (h : LiesS ok W s) : LiesS (fun b => b < W.heap.size) W s := h.mono (fun b _ hb => ⟨hb, rfl⟩)

mutual
def SX.tot : SX → Nat
  | .mk _ n e f _ _ la _ _ lb => n.size + (e.tot + (f.tot + ((la.length + SX.totAll la) + (lb.length + SX.totAll lb))))
def SX.totAll : List SX → Nat
  | [] => 0
  | t :: ts => SX.tot t + SX.totAll ts
end
theorem SX.tot_eq (s : SX) : s.tot = s.name.size + (s.e.tot + (s.f.tot + ((s.la.length + SX.totAll s.la) + (s.lb.length + SX.totAll s.lb)))) := by cases s; simp [SX.tot, SX.la, SX.lb, SX.name, SX.e, SX.f]
theorem SX.totAll_append (us bs : List SX) : SX.totAll (us ++ bs) = SX.totAll us + SX.totAll bs := by
  induction us with
  | nil => simp [SX.totAll]
  | cons x xs ih => simp [SX.totAll, ih]; omega
theorem SX.totAll_take {ks : List SX} {i : Nat} {t : SX} (h : ks[i]? = some t) : SX.totAll (ks.take (i + 1)) = SX.totAll (ks.take i) + t.tot := by
  rw [List.take_add_one, h, SX.totAll_append]
  simp [SX.totAll]
theorem SX.totAll_le (ks : List SX) (i : Nat) : SX.totAll (ks.take i) ≤ SX.totAll ks := by
  have h := SX.totAll_append (ks.take i) (ks.drop i)
  rw [List.take_append_drop] at h
  omega
inductive WideS : SX → Prop
  | mk (s : SX) (hn : s.name.size ≤ maxLen) (he : Wide s.e) (hf : Wide s.f) (hla : s.la.length ≤ maxLen) (hlb : s.lb.length ≤ maxLen) (hka : ∀ (i : Nat) (k : SX), s.la[i]? = some k → WideS k) (hkb : ∀ (i : Nat) (k : SX), s.lb[i]? = some k → WideS k) : WideS s
theorem WideS.parts {s : SX} (h : WideS s) : s.name.size ≤ maxLen ∧ Wide s.e ∧ Wide s.f ∧ s.la.length ≤ maxLen ∧ s.lb.length ≤ maxLen ∧ (∀ (i : Nat) (k : SX), s.la[i]? = some k → WideS k) ∧ (∀ (i : Nat) (k : SX), s.lb[i]? = some k → WideS k) := by
  cases h; exact ⟨‹_›, ‹_›, ‹_›, ‹_›, ‹_›, ‹_›, ‹_›⟩

end Go.Proofs.YtijblhnjhpmedaaDoor
