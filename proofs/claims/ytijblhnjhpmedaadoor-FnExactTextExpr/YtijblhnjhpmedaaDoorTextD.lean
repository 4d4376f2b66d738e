/-
  What the law writes into an answer, and reads again: marks, a text a number.
-/
import Derived.Test.YtijblhnjhpmedaaDoorTextC
import Derived.Test.YtijblhnjhpmedaaDoorTreeS
import Derived.Laws.IdiomStrings
namespace Go.Proofs.YtijblhnjhpmedaaDoor
open Go.RowKit Go.Shelf
set_option linter.unusedSimpArgs false
set_option linter.unusedVariables false

def digit (n : Nat) : ByteArray := ⟨#[UInt8.ofNat (48 + n % 10)]⟩
def digs (n : Nat) (acc : ByteArray) : ByteArray := if h : n = 0 then acc else digs (n / 10) (digit n ++ acc)
termination_by n
decreasing_by omega
def markB (k : Nat) : ByteArray := if k = 0 then ⟨#[109, 48]⟩ else ⟨#[109]⟩ ++ digs k ⟨#[]⟩

theorem digs_step (n : Nat) (x : ByteArray) (h : 0 < n) : digs n x = digs (n / 10) (digit n ++ x) := by
  rw [digs, dif_neg (by omega)]
theorem digs_none (x : ByteArray) : digs 0 x = x := by
  rw [digs, dif_pos rfl]
theorem conv_digit (n : Nat) (W : World) :
    (convert 42 9 (.slice (some ⟨W.heap.size, 0, none⟩) 1 1)).run Tryd.prog (W.alloc (.cells #[.int .u8 (48 + (n : Int) % 10)] 5)) = .ok (.string (digit n)) (W.alloc (.cells #[.int .u8 (48 + (n : Int) % 10)] 5)) := by
  refine (run_convert_bytes_back (W.alloc (.cells #[.int .u8 (48 + (n : Int) % 10)] 5)) 42 9 5 ⟨W.heap.size, 0, none⟩ 1 [UInt8.ofNat (48 + n % 10)] Tryd.underlying42 Tryd.underlying5 Tryd.underlying9 ?_).trans ?_
  · intro j hj
    have hj0 : j = 0 := by simpa using hj
    subst hj0
    have h1 : UInt8.toNat (UInt8.ofNat (48 + n % 10)) = 48 + n % 10 := by
      rw [UInt8.toNat_ofNat']
      omega
    have h2 : ([UInt8.ofNat (48 + n % 10)][0].toNat : Int) = 48 + (n : Int) % 10 := by
      show ((UInt8.ofNat (48 + n % 10)).toNat : Int) = _
      rw [h1]
      omega
    rw [h2]
    exact World.cell?_alloc_new W _ _ 0
  · rfl

theorem own_cells {w : World} {base : Nat} {v : Value} {l : List ByteArray} (h : w.ownsRow base 9 1 v l.length (strs l)) :
    ∃ a c, v = .slice a l.length c ∧ ∀ (i : Nat) (x : ByteArray), l[i]? = some x → ∃ b, a = some ⟨b, 0, none⟩ ∧ v.ownBlock = some b ∧ base ≤ b ∧ b < w.heap.size ∧ w.cell? ⟨b, i, none⟩ = some (.string x) := by
  rcases h.2 with ⟨rfl, h0⟩ | ⟨g, cap, cur, rfl, hb, hg, h3⟩
  · refine ⟨none, 0, by rw [h0], fun i x hx => ?_⟩
    have := (List.getElem?_eq_some_iff.1 hx).1
    omega
  · refine ⟨_, cap, rfl, fun i x hx => ⟨g, rfl, rfl, hb, (Array.getElem?_eq_some_iff.1 hg).1, ?_⟩⟩
    have hi := (List.getElem?_eq_some_iff.1 hx).1
    rw [h.cellAt i (by omega)]
    simp [strs, hx]
def marks (k n : Nat) : List ByteArray := (List.range n).map (fun i => markB (k + i))
theorem marks_length (k n : Nat) : (marks k n).length = n := by simp [marks]
theorem marks_get {k n i : Nat} (h : i < n) : (marks k n)[i]? = some (markB (k + i)) := by simp [marks, h]

theorem marks_store {k i : Nat} {l : List ByteArray} (h : i < l.length) : (strs (marks k i ++ l.drop i)).set i (.string (markB (k + i))) = strs (marks k (i + 1) ++ l.drop (i + 1)) := by
  have h1 : l.drop i = l[i] :: l.drop (i + 1) := List.drop_eq_getElem_cons h
  have h2 : marks k (i + 1) = marks k i ++ [markB (k + i)] := by simp [marks, List.range_succ]
  rw [h1, h2, strs, List.map_append, List.map_cons, List.set_append_right _ _ (by simp [marks_length])]
  simp [marks_length, strs]

end Go.Proofs.YtijblhnjhpmedaaDoor
