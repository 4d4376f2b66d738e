/-
  What the functions on names answer at every string of at most 1048576 bytes: the program's and the specification's say the same of each.
-/
import Derived.Test.YtijblhnjhpmedaaDoorSpanA
import Derived.LoopTactic
import Derived.WalkLawsBesides
namespace Go.Proofs.YtijblhnjhpmedaaDoor
open Go.RowKit
set_option linter.unusedSimpArgs false
set_option linter.unusedVariables false

def words : List (List UInt8) := [[97, 116], [97, 100, 100], [115, 117, 98], [109, 117, 108], [100, 105, 118], [108, 101, 115, 115], [101, 113, 117, 97, 108], [97, 110, 100], [111, 114], [110, 111, 116], [115, 101, 116], [112, 117, 116], [105, 102], [119, 104, 105, 108, 101], [108, 111, 99, 107], [117, 110, 108, 111, 99, 107], [115, 101, 110, 100], [114, 101, 99, 118], [97, 115, 115, 101, 114, 116], [115, 104, 111, 119], [118, 97, 114], [99, 104, 97, 110], [116, 97, 115, 107], [112, 114, 111, 103], [101, 108, 115, 101], [101, 110, 100]]
def takenB (s : ByteArray) : Bool := words.contains s.toList
def letter (c : UInt8) : Bool := decide (97 ≤ c.toNat ∧ c.toNat ≤ 122)
def lettersB (s : ByteArray) : Bool := decide (∀ k (h : k < s.size), letter s[k] = true)
def nameB (s : ByteArray) : Bool := decide (1 ≤ s.size ∧ s.size ≤ 6) && (!takenB s && lettersB s)

theorem letters_no {s : ByteArray} {k : Nat} (hk : k < s.size) (h : ((s[k].toNat : Int) < 97 ∨ 122 < (s[k].toNat : Int))) : lettersB s = false := by
  simp only [lettersB, decide_eq_false_iff_not]
  intro h2
  have := h2 k hk
  simp only [letter, decide_eq_true_eq] at this
  omega
theorem letters_yes {s : ByteArray} (h : ∀ j (h : j < s.size), j < s.size → letter s[j] = true) : lettersB s = true := by
  simp only [lettersB, decide_eq_true_eq]
  exact fun k hk => h k hk hk
theorem letter_snoc {s : ByteArray} {k : Nat} (hk : k < s.size) (h : (97 : Int) ≤ (s[k].toNat : Int) ∧ (s[k].toNat : Int) ≤ 122) (hl : ∀ (j : Nat) (h : j < s.size), j < k → letter s[j] = true) :
    ∀ (j : Nat) (h : j < s.size), j < k + 1 → letter s[j] = true := by
  intro j hj h2
  by_cases e : j = k
  · subst e
    simp only [letter, decide_eq_true_eq]
    omega
  · exact hl j hj (by omega)
def wordsA : Array Value := #[.string ⟨#[97, 116]⟩, .string ⟨#[97, 100, 100]⟩, .string ⟨#[115, 117, 98]⟩, .string ⟨#[109, 117, 108]⟩, .string ⟨#[100, 105, 118]⟩, .string ⟨#[108, 101, 115, 115]⟩, .string ⟨#[101, 113, 117, 97, 108]⟩, .string ⟨#[97, 110, 100]⟩, .string ⟨#[111, 114]⟩, .string ⟨#[110, 111, 116]⟩, .string ⟨#[115, 101, 116]⟩, .string ⟨#[112, 117, 116]⟩, .string ⟨#[105, 102]⟩, .string ⟨#[119, 104, 105, 108, 101]⟩, .string ⟨#[108, 111, 99, 107]⟩, .string ⟨#[117, 110, 108, 111, 99, 107]⟩, .string ⟨#[115, 101, 110, 100]⟩, .string ⟨#[114, 101, 99, 118]⟩, .string ⟨#[97, 115, 115, 101, 114, 116]⟩, .string ⟨#[115, 104, 111, 119]⟩, .string ⟨#[118, 97, 114]⟩, .string ⟨#[99, 104, 97, 110]⟩, .string ⟨#[116, 97, 115, 107]⟩, .string ⟨#[112, 114, 111, 103]⟩, .string ⟨#[101, 108, 115, 101]⟩, .string ⟨#[101, 110, 100]⟩]
def wordAt (k : Nat) : List UInt8 := words.getD k []
theorem words_cell : ∀ k, k < 26 → wordsA[k]? = some (.string ⟨(wordAt k).toArray⟩)
  | 0, _ => rfl
  | 1, _ => rfl
  | 2, _ => rfl
  | 3, _ => rfl
  | 4, _ => rfl
  | 5, _ => rfl
  | 6, _ => rfl
  | 7, _ => rfl
  | 8, _ => rfl
  | 9, _ => rfl
  | 10, _ => rfl
  | 11, _ => rfl
  | 12, _ => rfl
  | 13, _ => rfl
  | 14, _ => rfl
  | 15, _ => rfl
  | 16, _ => rfl
  | 17, _ => rfl
  | 18, _ => rfl
  | 19, _ => rfl
  | 20, _ => rfl
  | 21, _ => rfl
  | 22, _ => rfl
  | 23, _ => rfl
  | 24, _ => rfl
  | 25, _ => rfl
  | n + 26, h => by omega
theorem taken_iff (s : ByteArray) : takenB s = true ↔ ∃ k, k < 26 ∧ wordAt k = s.toList := by
  unfold takenB wordAt
  rw [List.contains_iff_mem, List.mem_iff_getElem?]
  constructor
  · rintro ⟨k, hk⟩
    have hlt : k < words.length := (List.getElem?_eq_some_iff.1 hk).1
    exact ⟨k, hlt, by rw [List.getD_eq_getElem?_getD, hk]; rfl⟩
  · rintro ⟨k, hlt, hk⟩
    have hlt' : k < words.length := hlt
    refine ⟨k, ?_⟩
    rw [List.getD_eq_getElem?_getD, List.getElem?_eq_getElem hlt'] at hk
    rw [List.getElem?_eq_getElem hlt']
    exact congrArg some hk
end Go.Proofs.YtijblhnjhpmedaaDoor
