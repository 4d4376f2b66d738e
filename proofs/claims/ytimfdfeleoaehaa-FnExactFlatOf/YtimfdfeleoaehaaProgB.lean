/-
  Lists of words and lists of tasks as they lie in memory: their sizes, copies of them, and that the same are told to be so.
-/
import Derived.Test.YtimfdfeleoaehaaProgA
namespace Go.Proofs.Ytimfdfeleoaehaa
open Go.RowKit
set_option linter.unusedSimpArgs false
set_option linter.unusedVariables false

def NRow (ok : Nat → Prop) (W : World) (base : Option Addr) (l : List ByteArray) : Prop := ∀ (i : Nat) (k : ByteArray), l[i]? = some k → ∃ b o, base = some ⟨b, o, none⟩ ∧ ok b ∧ W.cell? ⟨b, o + i, none⟩ = some (.string k)
theorem NRow.mono {ok ok' : Nat → Prop} {A B : World} {base : Option Addr} {l : List ByteArray} (h : NRow ok A base l) (hb : ∀ b, ok b → b < A.heap.size → ok' b ∧ B.heap[b]? = A.heap[b]?) : NRow ok' B base l := by
  intro i k hk
  obtain ⟨b, o, h1, h2, h3⟩ := h i k hk
  obtain ⟨h4, h5⟩ := hb b h2 (World.block_lt_of_cell? A _ h3)
  exact ⟨b, o, h1, h4, (cell_of_block (a := ⟨b, _, none⟩) h5).trans h3⟩
theorem NRow.under {ok : Nat → Prop} {n : Nat} {A B : World} {base : Option Addr} {l : List ByteArray} (h : NRow ok A base l) (hk : Below n A B) (hs : ∀ b, ok b → b < n) : NRow ok B base l := h.mono fun b ho hb => ⟨ho, hk.block b (hs b ho)⟩
theorem NRow.kept {S ok : Nat → Prop} {A B : World} {base : Option Addr} {l : List ByteArray} (h : NRow ok A base l) (hk : Kept S A B) (hs : ∀ b, ok b → ¬ S b) : NRow ok B base l := h.mono fun b ho hb => ⟨ho, hk.block b hb (hs b ho)⟩
theorem infoN : (Try.prog.info? 9).map (fun i => (i.zero, i.size, i.bytes)) = some (some (.string ByteArray.empty), 1, 16) := by kernel_rfl
structure LX where
  base : Option Addr
  cap : Nat
  l : List SX
abbrev LX.val (t : LX) : Value := .slice t.base t.l.length t.cap
def LX.tot (t : LX) : Nat := t.l.length + SX.totAll t.l
structure LX.Wide (t : LX) : Prop where
  len : t.l.length ≤ maxLen
  kid : ∀ (i : Nat) (k : SX), t.l[i]? = some k → WideS k
structure LX.Small (t : LX) : Prop where
  len : t.l.length ≤ 1048576
  kid : ∀ (i : Nat) (k : SX), t.l[i]? = some k → SmallS k
structure LX.Lies (ok : Nat → Prop) (W : World) (t : LX) : Prop where
  row : SRow ok W t.base t.l
  kid : ∀ (i : Nat) (k : SX), t.l[i]? = some k → LiesS ok W k
structure LX.Same (t u : LX) : Prop where
  len : u.l.length = t.l.length
  kid : ∀ (i : Nat) (x y : SX), t.l[i]? = some x → u.l[i]? = some y → SameS x y
theorem LX.small {t : LX} (h : t.tot ≤ 1048576) : t.Small := by
  unfold LX.tot at h
  exact ⟨by omega, fun i k hk => SX.small _ k (Nat.le_refl _) (by have := SX.tot_get hk; omega)⟩
theorem LX.Lies.mono {ok ok' : Nat → Prop} {A B : World} {t : LX} (h : LX.Lies ok A t) (hb : ∀ b, ok b → b < A.heap.size → ok' b ∧ B.heap[b]? = A.heap[b]?) : LX.Lies ok' B t := ⟨h.row.mono hb, fun i k hk => (h.kid i k hk).mono hb⟩
theorem LX.Lies.under {ok : Nat → Prop} {n : Nat} {A B : World} {t : LX} (h : LX.Lies ok A t) (hk : Below n A B) (hs : ∀ b, ok b → b < n) : LX.Lies ok B t := h.mono fun b ho hb => ⟨ho, hk.block b (hs b ho)⟩
theorem LX.Lies.kept {S ok : Nat → Prop} {A B : World} {t : LX} (h : LX.Lies ok A t) (hk : Kept S A B) (hs : ∀ b, ok b → ¬ S b) : LX.Lies ok B t := h.mono fun b ho hb => ⟨ho, hk.block b hb (hs b ho)⟩
theorem LX.Lies.bound {ok : Nat → Prop} {W : World} {t : LX} (h : LX.Lies ok W t) : LX.Lies (fun b => b < W.heap.size) W t := h.mono (fun b _ hb => ⟨hb, rfl⟩)
theorem LX.Same.join {t u v : LX} (hu : LX.Same t u) (hv : LX.Same t v) : LX.Same u v := by
  refine ⟨by rw [hu.len, hv.len], fun i x y hx hy => ?_⟩
  have hi : i < t.l.length := by have := (List.getElem?_eq_some_iff.1 hx).1; have := hu.len; omega
  have hc := List.getElem?_eq_getElem hi
  exact SameS.join _ _ (Nat.le_refl _) x y (hu.kid i _ x hc hx) (hv.kid i _ y hc hy)
theorem LX.sz (t : LX) (hW : t.Wide) (ok : Nat → Prop) (w : World) (hok : ∀ b, ok b → b < w.heap.size) (hL : LX.Lies ok w t) (left : Int) (h0 : 0 ≤ left) (h1 : left ≤ 1048576) :
    Calls Try.prog 6 #[t.val, .int .i64 left] w fun e w' => e = .returned (.int .i64 (subI left t.tot)) ∧ Below w.heap.size w w' :=
  szSS t.l t.base t.cap ok w hok hL.row hW.len (fun i k hk l w' hl0 hl1 hB => szS1 _ k (Nat.le_refl _) (hW.kid i k hk) ok w' (fun b hb => Nat.lt_of_lt_of_le (hok b hb) hB.size) ((hL.kid i k hk).under hB hok) l hl0 hl1) left h0 h1
theorem LX.eq (t u : LX) (hm : t.Small) (hS : LX.Same t u) (ok : Nat → Prop) (w : World) (hok : ∀ b, ok b → b < w.heap.size) (hL : LX.Lies ok w t) (hU : LX.Lies ok w u) :
    Calls Try.prog 11 #[t.val, u.val] w fun e w' => e = .returned (.bool true) ∧ Below w.heap.size w w' :=
  eqSS t.l u.l t.base u.base t.cap u.cap ok w hok hL.row hU.row (by have := hm.len; omega) hS.len (fun i x y hx hy w' hB => eqS1 _ x y (Nat.le_refl _) (hm.kid i x hx) (hS.kid i x y hx hy) ok w' (fun b hb => Nat.lt_of_lt_of_le (hok b hb) hB.size) ((hL.kid i x hx).under hB hok) ((hU.kid i y hy).under hB hok))
/-- a list whose statements lie behind its own row -/
def LX.Ahead (W : World) (g : Nat) (t : LX) : Prop := t.base = some ⟨g, 0, none⟩ ∧ SRow (fun b => b = g) W t.base t.l ∧ ∀ (i : Nat) (k : SX), t.l[i]? = some k → LiesS (fun b => g < b) W k
theorem LX.Lies.plain {P S : Nat → Prop} {A B : World} {t : LX} (h : LX.Lies (fun b => P b ∧ Pl A b) A t) (hk : Kept S A B) (hs : ∀ b, P b → ¬ S b) : LX.Lies (fun b => P b ∧ Pl B b) B t :=
  h.mono fun b ho hb => ⟨⟨ho.1, ho.2.kept hk (hs b ho.1)⟩, hk.block b hb (hs b ho.1)⟩
theorem LX.Lies.wider {P Q : Nat → Prop} {A : World} {t : LX} (h : LX.Lies (fun b => P b ∧ Pl A b) A t) (hs : ∀ b, P b → Q b) : LX.Lies (fun b => Q b ∧ Pl A b) A t :=
  h.mono fun b ho hb => ⟨⟨hs b ho.1, ho.2⟩, rfl⟩
theorem LX.to (t : LX) (hm : t.Small) (ok : Nat → Prop) (w : World) (hok : ∀ b, ok b → b < w.heap.size) (hL : LX.Lies ok w t) :
    Calls Try.prog 8 #[t.val] w fun e w' => ∃ t' : LX, e = .returned t'.val ∧ LX.Same t t' ∧ LX.Lies (fun b => w.heap.size ≤ b ∧ Pl w' b) w' t' ∧ Below w.heap.size w w' := by
  refine (toSS t.l t.base t.cap ok w hok hL.row (by have := hm.len; omega) (fun i k hk w' hB => toS1 _ k (Nat.le_refl _) (hm.kid i k hk) ok w' (fun b hb => Nat.lt_of_lt_of_le (hok b hb) hB.size) ((hL.kid i k hk).under hB hok))).mono ?_
  rintro e w1 ⟨us, rfl, hul, hus, hpl, hB⟩
  have hget : ∀ (i : Nat) (y : SX), us[i]? = some y → ∃ x, t.l[i]? = some x := fun i y hy => ⟨_, List.getElem?_eq_getElem (by have := (List.getElem?_eq_some_iff.1 hy).1; omega)⟩
  refine ⟨⟨some ⟨w.heap.size, 0, none⟩, t.l.length, us⟩, ?_, ⟨hul, fun i x y hx hy => (hus i x y hx hy).1⟩, ⟨fun i y hy => ?_, fun i y hy => ?_⟩, hB⟩
  · simp only [LX.val, hul]
  · obtain ⟨x, hx⟩ := hget i y hy
    exact ⟨w.heap.size, 0, rfl, ⟨Nat.le_refl _, hpl⟩, (hus i x y hx hy).2.1⟩
  · obtain ⟨x, hx⟩ := hget i y hy
    exact (hus i x y hx hy).2.2.wider (fun b hb => by omega)
def LX.Row (ok : Nat → Prop) (W : World) (base : Option Addr) (l : List LX) : Prop := ∀ (i : Nat) (t : LX), l[i]? = some t → ∃ b o, base = some ⟨b, o, none⟩ ∧ ok b ∧ W.cell? ⟨b, o + i, none⟩ = some t.val
theorem LX.Row.mono {ok ok' : Nat → Prop} {A B : World} {base : Option Addr} {l : List LX} (h : LX.Row ok A base l) (hb : ∀ b, ok b → b < A.heap.size → ok' b ∧ B.heap[b]? = A.heap[b]?) : LX.Row ok' B base l := by
  intro i k hk
  obtain ⟨b, o, h1, h2, h3⟩ := h i k hk
  obtain ⟨h4, h5⟩ := hb b h2 (World.block_lt_of_cell? A _ h3)
  exact ⟨b, o, h1, h4, (cell_of_block (a := ⟨b, _, none⟩) h5).trans h3⟩
theorem LX.Row.under {ok : Nat → Prop} {n : Nat} {A B : World} {base : Option Addr} {l : List LX} (h : LX.Row ok A base l) (hk : Below n A B) (hs : ∀ b, ok b → b < n) : LX.Row ok B base l := h.mono fun b ho hb => ⟨ho, hk.block b (hs b ho)⟩
theorem LX.Row.kept {S ok : Nat → Prop} {A B : World} {base : Option Addr} {l : List LX} (h : LX.Row ok A base l) (hk : Kept S A B) (hs : ∀ b, ok b → ¬ S b) : LX.Row ok B base l := h.mono fun b ho hb => ⟨ho, hk.block b hb (hs b ho)⟩
theorem infoL : (Try.prog.info? 26).map (fun i => (i.zero, i.size, i.bytes)) = some (some (.slice none 0 0), 1, 24) := by kernel_rfl
end Go.Proofs.Ytimfdfeleoaehaa
