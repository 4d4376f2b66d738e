/-
  The program's walk through an expression yields it and all within it, from the outside in and from left to right, each with how deep it lies, to whatever rounds take them; the expression lies in memory that the rounds leave alone.
-/
import Derived.Test.YtijblhnjhpmedaaDoorTreeA
import Derived.Test.YtijblhnjhpmedaaDoorTreeR
namespace Go.Proofs.YtijblhnjhpmedaaDoor
open Go.RowKit Go.Shelf
set_option linter.unusedSimpArgs false
set_option linter.unusedVariables false
attribute [local go_sem] Oper.semAt_some

inductive XT where
  | mk (kind num : Int) (name : ByteArray) (base : Option Addr) (cap : Nat) (kids : List XT)
def XT.kind : XT → Int | .mk k _ _ _ _ _ => k
def XT.num : XT → Int | .mk _ n _ _ _ _ => n
def XT.name : XT → ByteArray | .mk _ _ s _ _ _ => s
def XT.base : XT → Option Addr | .mk _ _ _ a _ _ => a
def XT.cap : XT → Nat | .mk _ _ _ _ c _ => c
def XT.kids : XT → List XT | .mk _ _ _ _ _ ks => ks
abbrev XT.val (t : XT) : Value := .agg #[.int .i64 t.kind, .int .i64 t.num, .string t.name, .slice t.base t.kids.length t.cap]
mutual
def XT.size : XT → Nat
  | .mk _ _ _ _ _ ks => 1 + XT.sizeAll ks
def XT.sizeAll : List XT → Nat
  | [] => 0
  | t :: ts => XT.size t + XT.sizeAll ts
end
mutual
def XT.parts : XT → Int → List (Int × XT)
  | .mk k n s a c ks, d => (d, .mk k n s a c ks) :: XT.partsAll ks (wrap64 (d + 1))
def XT.partsAll : List XT → Int → List (Int × XT)
  | [], _ => []
  | t :: ts, d => XT.parts t d ++ XT.partsAll ts d
end
theorem XT.parts_eq (t : XT) (d : Int) : t.parts d = (d, t) :: XT.partsAll t.kids (wrap64 (d + 1)) := by
  cases t; rfl
theorem XT.size_eq (t : XT) : t.size = 1 + XT.sizeAll t.kids := by cases t; simp [XT.size, XT.kids]
theorem XT.size_get {ks : List XT} {i : Nat} {t : XT} (h : ks[i]? = some t) : t.size ≤ XT.sizeAll ks := by
  induction ks generalizing i with
  | nil => simp at h
  | cons x xs ih =>
    cases i with
    | zero => simp at h; subst h; simp [XT.sizeAll]
    | succ i => simp at h; have := ih h; simp [XT.sizeAll]; omega
theorem XT.partsAll_append (us bs : List XT) (d : Int) : XT.partsAll (us ++ bs) d = XT.partsAll us d ++ XT.partsAll bs d := by
  induction us with
  | nil => simp [XT.partsAll]
  | cons x xs ih => simp [XT.partsAll, ih]
theorem XT.partsAll_take {ks : List XT} {i : Nat} {t : XT} (h : ks[i]? = some t) (d : Int) : XT.partsAll (ks.take (i + 1)) d = XT.partsAll (ks.take i) d ++ t.parts d := by
  rw [List.take_add_one, h, XT.partsAll_append]
  simp [XT.partsAll]
theorem XT.partsAll_prefix {ks : List XT} (i : Nat) (d : Int) : XT.partsAll (ks.take i) d <+: XT.partsAll ks d := by
  refine ⟨XT.partsAll (ks.drop i) d, ?_⟩
  rw [← XT.partsAll_append, List.take_append_drop]

/-- The four cells of an expression. -/
structure Cells4 (W : World) (b o : Nat) (t : XT) : Prop where
  c0 : W.cell? ⟨b, o, none⟩ = some (.int .i64 t.kind)
  c1 : W.cell? ⟨b, o + 1, none⟩ = some (.int .i64 t.num)
  c2 : W.cell? ⟨b, o + 2, none⟩ = some (.string t.name)
  c3 : W.cell? ⟨b, o + 3, none⟩ = some (.slice t.base t.kids.length t.cap)
theorem Cells4.lt {W : World} {b o : Nat} {t : XT} (h : Cells4 W b o t) : b < W.heap.size := World.block_lt_of_cell? W _ h.c0
theorem Cells4.kept {S : Nat → Prop} {A B : World} {b o : Nat} {t : XT} (h : Cells4 A b o t) (hk : Kept S A B) (hs : ¬ S b) : Cells4 B b o t :=
  ⟨hk.cell h.c0 hs, hk.cell h.c1 hs, hk.cell h.c2 hs, hk.cell h.c3 hs⟩
theorem Cells4.below {n : Nat} {A B : World} {b o : Nat} {t : XT} (h : Cells4 A b o t) (hk : Below n A B) (hs : b < n) : Cells4 B b o t :=
  ⟨below_cell hk h.c0 hs, below_cell hk h.c1 hs, below_cell hk h.c2 hs, below_cell hk h.c3 hs⟩
theorem Cells4.new (W : World) (t : XT) : Cells4 (W.alloc (.cells #[.int .i64 t.kind, .int .i64 t.num, .string t.name, .slice t.base t.kids.length t.cap] 29)) W.heap.size 0 t :=
  ⟨World.cell?_alloc_new W _ _ 0, World.cell?_alloc_new W _ _ 1, World.cell?_alloc_new W _ _ 2, World.cell?_alloc_new W _ _ 3⟩

/-- An expression whose lists lie in blocks of which ok holds. -/
inductive Lies (ok : Nat → Prop) (W : World) : XT → Prop
  | mk (t : XT) (hc : ∀ (i : Nat) (k : XT), t.kids[i]? = some k → ∃ b o, t.base = some ⟨b, o, none⟩ ∧ ok b ∧ Cells4 W b (o + i * 4) k) (hk : ∀ (i : Nat) (k : XT), t.kids[i]? = some k → Lies ok W k) : Lies ok W t
theorem Lies.cells {ok : Nat → Prop} {W : World} {t : XT} (h : Lies ok W t) : ∀ (i : Nat) (k : XT), t.kids[i]? = some k → ∃ b o, t.base = some ⟨b, o, none⟩ ∧ ok b ∧ Cells4 W b (o + i * 4) k := by
  cases h; assumption
theorem Lies.kid {ok : Nat → Prop} {W : World} {t : XT} (h : Lies ok W t) : ∀ (i : Nat) (k : XT), t.kids[i]? = some k → Lies ok W k := by
  cases h; assumption
theorem Lies.mono {ok ok' : Nat → Prop} {A B : World} {t : XT} (h : Lies ok A t) (hb : ∀ b, ok b → b < A.heap.size → ok' b ∧ B.heap[b]? = A.heap[b]?) : Lies ok' B t := by
  induction h with
  | mk t hc hk ih =>
    refine .mk t (fun i k e => ?_) ih
    obtain ⟨b, o, h1, h2, h3⟩ := hc i k e
    obtain ⟨h4, h5⟩ := hb b h2 h3.lt
    exact ⟨b, o, h1, h4, (cell_of_block (a := ⟨b, _, none⟩) h5).trans h3.c0, (cell_of_block (a := ⟨b, _, none⟩) h5).trans h3.c1, (cell_of_block (a := ⟨b, _, none⟩) h5).trans h3.c2, (cell_of_block (a := ⟨b, _, none⟩) h5).trans h3.c3⟩
theorem Lies.kept {S ok : Nat → Prop} {A B : World} {t : XT} (h : Lies ok A t) (hk : Kept S A B) (hs : ∀ b, ok b → ¬ S b) : Lies ok B t :=
  h.mono fun b ho hb => ⟨ho, hk.block b hb (hs b ho)⟩
theorem Lies.under {ok : Nat → Prop} {n : Nat} {A B : World} {t : XT} (h : Lies ok A t) (hk : Below n A B) (hs : ∀ b, ok b → b < n) : Lies ok B t :=
  h.mono fun b ho hb => ⟨ho, hk.block b (hs b ho)⟩

abbrev partE (x : Int × XT) : Array Value := #[.int .i64 x.1, x.2.val]

theorem XT.length_le (t : XT) : t.kids.length < t.size := by
  rw [XT.size_eq]
  have : ∀ ks : List XT, ks.length ≤ XT.sizeAll ks := by
    intro ks
    induction ks with
    | nil => simp
    | cons x xs ih => have := XT.size_eq x; simp [XT.sizeAll]; omega
  have := this t.kids
  omega

end Go.Proofs.YtijblhnjhpmedaaDoor
