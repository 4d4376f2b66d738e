/-
  What the functions on names answer at every string of at most 1048576 bytes: the program's and the specification's say the same of each.
-/
import Derived.Test.YtimfdfeleoaehaaSpanA
import Derived.LoopTactic
import Derived.WalkLawsBesides
namespace Go.Proofs.Ytimfdfeleoaehaa
open Go.RowKit
set_option linter.unusedSimpArgs false
set_option linter.unusedVariables false

def words : List (List UInt8) := [[97, 116], [97, 100, 100], [115, 117, 98], [109, 117, 108], [100, 105, 118], [108, 101, 115, 115], [101, 113, 117, 97, 108], [97, 110, 100], [111, 114], [110, 111, 116], [115, 101, 116], [112, 117, 116], [105, 102], [119, 104, 105, 108, 101], [108, 111, 99, 107], [117, 110, 108, 111, 99, 107], [115, 101, 110, 100], [114, 101, 99, 118], [97, 115, 115, 101, 114, 116], [115, 104, 111, 119], [118, 97, 114], [99, 104, 97, 110], [116, 97, 115, 107], [112, 114, 111, 103], [101, 108, 115, 101], [101, 110, 100]]
def takenB (s : ByteArray) : Bool := words.contains s.toList
def letter (c : UInt8) : Bool := decide (97 ≤ c.toNat ∧ c.toNat ≤ 122)
def lettersB (s : ByteArray) : Bool := decide (∀ k (h : k < s.size), letter s[k] = true)
def nameB (s : ByteArray) : Bool := decide (1 ≤ s.size ∧ s.size ≤ 6) && (!takenB s && lettersB s)

set_option maxHeartbeats 4000000 in
theorem isTaken (s : ByteArray) (w : World) :
    Calls Try.prog 105 #[.string s] w fun e w' => e = .returned (.bool (takenB s)) ∧ w' = w := by
  go_enter Try.func105, Try.ntmps105
  go_wp2
  all_goals
    go_returns
    exact ⟨ret_bool (by simp_all [takenB, words]), rfl⟩
theorem letters_no {s : ByteArray} {k : Nat} (hk : k < s.size) (h : ((s[k].toNat : Int) < 97 ∨ 122 < (s[k].toNat : Int))) : lettersB s = false := by
  simp only [lettersB, decide_eq_false_iff_not]
  intro h2
  have := h2 k hk
  simp only [letter, decide_eq_true_eq] at this
  omega
theorem letters_yes {s : ByteArray} (h : ∀ j (h : j < s.size), j < s.size → letter s[j] = true) : lettersB s = true := by
  simp only [lettersB, decide_eq_true_eq]
  exact fun k hk => h k hk hk
theorem letter_snoc {s : ByteArray} {k : Nat} (hk : k < s.size) (h : (97 : Int) ≤ (s[k].toNat : Int) ∧ (s[k].toNat : Int) ≤ 122) (hl : ∀ (j : Nat) (h : j < s.size), j < k → letter s[j] = true) :
    ∀ (j : Nat) (h : j < s.size), j < k + 1 → letter s[j] = true := by
  intro j hj h2
  by_cases e : j = k
  · subst e
    simp only [letter, decide_eq_true_eq]
    omega
  · exact hl j hj (by omega)
set_option maxHeartbeats 4000000 in
theorem implName (s : ByteArray) (w : World) (hs : s.size ≤ 1048576) :
    Calls Try.prog 103 #[.string s] w fun e w' => e = .returned (.bool (nameB s)) ∧ w' = w := by
  go_enter Try.func103, Try.ntmps103
  go_wp2_with (go_at_call 105; refine (isTaken _ _).mono ?_; rintro e w1 ⟨rfl, hw1⟩; subst w1)
  · go_returns
    refine ⟨ret_bool ?_, rfl⟩
    rename_i h
    have h6 : ¬ ((s.size : Int) < 1 ∨ 6 < (s.size : Int)) := by omega
    rcases h with h | h
    · exact absurd h h6
    · simp [nameB, h]
  · rename_i h
    have ht : takenB s = false := by simp_all
    have h16 : 1 ≤ s.size ∧ s.size ≤ 6 := by omega
    go_loop [18] (fun i => ∃ k : Nat, k ≤ s.size ∧ i = .int .i64 k ∧ ∀ j (h : j < s.size), j < k → letter s[j] = true) (fun i => s.size - (intOf i).toNat)
    case atStart => exact ⟨0, by omega, rfl, fun j h hj => by omega⟩
    case round =>
      obtain ⟨k, hk, rfl, hl⟩ := hrel
      go_wp2
      · go_returns
        have hlt : k < s.size := by assumption
        refine ⟨ret_bool ?_, rfl⟩
        rw [nameB, letters_no hlt (by assumption)]
        simp
      · have hlt : k < s.size := by assumption
        have hh : (97 : Int) ≤ (s[k].toNat : Int) ∧ (s[k].toNat : Int) ≤ 122 := by assumption
        go_round
        case rel => exact ⟨_, _, _, ⟨k + 1, by omega, by go_num, letter_snoc hlt hh hl⟩, rfl, rfl, rfl⟩
        case measure => simp [intOf]; omega
      · go_returns
        have hlt : k < s.size := by assumption
        refine ⟨ret_bool ?_, rfl⟩
        rw [nameB, letters_no hlt (Or.inl (by assumption))]
        simp
      · go_returns
        have he : k = s.size := by omega
        subst he
        refine ⟨ret_bool ?_, rfl⟩
        rw [nameB, letters_yes hl, ht]
        simp
        omega
  all_goals
    go_returns
    refine ⟨ret_bool ?_, rfl⟩
    simp only [nameB, Bool.false_eq, Bool.and_eq_false_iff, decide_eq_false_iff_not]
    left
    omega
def wordsA : Array Value := #[.string ⟨#[97, 116]⟩, .string ⟨#[97, 100, 100]⟩, .string ⟨#[115, 117, 98]⟩, .string ⟨#[109, 117, 108]⟩, .string ⟨#[100, 105, 118]⟩, .string ⟨#[108, 101, 115, 115]⟩, .string ⟨#[101, 113, 117, 97, 108]⟩, .string ⟨#[97, 110, 100]⟩, .string ⟨#[111, 114]⟩, .string ⟨#[110, 111, 116]⟩, .string ⟨#[115, 101, 116]⟩, .string ⟨#[112, 117, 116]⟩, .string ⟨#[105, 102]⟩, .string ⟨#[119, 104, 105, 108, 101]⟩, .string ⟨#[108, 111, 99, 107]⟩, .string ⟨#[117, 110, 108, 111, 99, 107]⟩, .string ⟨#[115, 101, 110, 100]⟩, .string ⟨#[114, 101, 99, 118]⟩, .string ⟨#[97, 115, 115, 101, 114, 116]⟩, .string ⟨#[115, 104, 111, 119]⟩, .string ⟨#[118, 97, 114]⟩, .string ⟨#[99, 104, 97, 110]⟩, .string ⟨#[116, 97, 115, 107]⟩, .string ⟨#[112, 114, 111, 103]⟩, .string ⟨#[101, 108, 115, 101]⟩, .string ⟨#[101, 110, 100]⟩]
theorem l2Words (w : World) :
    Calls Try.prog 83 #[] w fun e w' => e = .returned (.slice (some ⟨w.heap.size, 0, none⟩) 26 26) ∧ w' = w.alloc (.cells wordsA 9) := by
  go_enter Try.func83, Try.ntmps83
  go_wp2
  go_returns
  exact ⟨rfl, rfl⟩
def wordAt (k : Nat) : List UInt8 := words.getD k []
theorem words_cell : ∀ k, k < 26 → wordsA[k]? = some (.string ⟨(wordAt k).toArray⟩)
  | 0, _ => rfl
  | 1, _ => rfl
  | 2, _ => rfl
  | 3, _ => rfl
  | 4, _ => rfl
  | 5, _ => rfl
  | 6, _ => rfl
  | 7, _ => rfl
  | 8, _ => rfl
  | 9, _ => rfl
  | 10, _ => rfl
  | 11, _ => rfl
  | 12, _ => rfl
  | 13, _ => rfl
  | 14, _ => rfl
  | 15, _ => rfl
  | 16, _ => rfl
  | 17, _ => rfl
  | 18, _ => rfl
  | 19, _ => rfl
  | 20, _ => rfl
  | 21, _ => rfl
  | 22, _ => rfl
  | 23, _ => rfl
  | 24, _ => rfl
  | 25, _ => rfl
  | n + 26, h => by omega
theorem taken_iff (s : ByteArray) : takenB s = true ↔ ∃ k, k < 26 ∧ wordAt k = s.toList := by
  unfold takenB wordAt
  rw [List.contains_iff_mem, List.mem_iff_getElem?]
  constructor
  · rintro ⟨k, hk⟩
    have hlt : k < words.length := (List.getElem?_eq_some_iff.1 hk).1
    exact ⟨k, hlt, by rw [List.getD_eq_getElem?_getD, hk]; rfl⟩
  · rintro ⟨k, hlt, hk⟩
    have hlt' : k < words.length := hlt
    refine ⟨k, ?_⟩
    rw [List.getD_eq_getElem?_getD, List.getElem?_eq_getElem hlt'] at hk
    rw [List.getElem?_eq_getElem hlt']
    exact congrArg some hk
set_option maxHeartbeats 4000000 in
theorem specName (s : ByteArray) (w : World) (hs : s.size ≤ 1048576) :
    Calls Try.prog 75 #[.string s] w fun e w' => e = .returned (.bool (nameB s)) ∧ Below w.heap.size w w' := by
  go_enter Try.func75, Try.ntmps75
  go_wp2
  go_loop [3] (fun i => ∃ k : Nat, k ≤ s.size ∧ i = .int .i64 k ∧ ∀ j (h : j < s.size), j < k → letter s[j] = true) (fun i => s.size - (intOf i).toNat)
  case atStart => exact ⟨0, by omega, rfl, fun j h hj => by omega⟩
  case round =>
    obtain ⟨k, hk, rfl, hl⟩ := hrel
    go_wp2_with (go_at_call 83; refine (l2Words _).mono ?_; rintro e w1 ⟨rfl, hw1⟩; subst w1)
    · go_returns
      have hlt : k < s.size := by assumption
      refine ⟨ret_bool ?_, Below.refl _ _⟩
      rw [nameB, letters_no hlt (by assumption)]
      simp
    · have hlt : k < s.size := by assumption
      have hh : (97 : Int) ≤ (s[k].toNat : Int) ∧ (s[k].toNat : Int) ≤ 122 := by assumption
      go_round
      case rel => exact ⟨k + 1, by omega, by go_num, letter_snoc hlt hh hl⟩
      case measure => simp [intOf]; omega
    · go_returns
      have hlt : k < s.size := by assumption
      refine ⟨ret_bool ?_, Below.refl _ _⟩
      rw [nameB, letters_no hlt (Or.inl (by assumption))]
      simp
    · have he : k = s.size := by omega
      subst he
      have hL := letters_yes hl
      clear hl
      go_loop [5] (fun i => ∃ k : Nat, k ≤ 26 ∧ i = .int .i64 k ∧ ∀ j, j < k → wordAt j ≠ s.toList) (fun i => 26 - (intOf i).toNat)
      case atStart => exact ⟨0, by omega, rfl, fun j hj => by omega⟩
      case round =>
        obtain ⟨k, hk, rfl, hl⟩ := hrel
        have hcell : (k : Int) < 26 → wordsA[k]? = some (.string ⟨(wordAt k).toArray⟩) := fun h => words_cell k (by omega)
        go_wp2
        · go_returns
          refine ⟨ret_bool ?_, by repeat' (first | (with_reducible exact Below.refl _ _) | (with_reducible assumption) | (with_reducible refine balloc ?_ _) | (with_reducible refine bdrew ?_) | (with_reducible refine Below.setCell ?_ ?_ _) | (with_reducible refine bstep ?_ (by with_reducible assumption)) | go_size)⟩
          have hk2 : k < 26 := by omega
          have ht : takenB s = true := (taken_iff s).2 ⟨k, hk2, by simp_all⟩
          simp [nameB, ht]
        · have hk2 : k < 26 := by omega
          have hne : wordAt k ≠ s.toList := by simp_all
          go_round
          case rel =>
            first
              | exact ⟨k + 1, by omega, by go_num, fun j hj => by rcases Nat.lt_succ_iff_lt_or_eq.1 hj with h | h; exact hl j h; exact h ▸ hne⟩
              | exact ⟨_, _, _, ⟨k + 1, by omega, by go_num, fun j hj => by rcases Nat.lt_succ_iff_lt_or_eq.1 hj with h | h; exact hl j h; exact h ▸ hne⟩, rfl, rfl, rfl⟩
          case measure => simp [intOf]; omega
        all_goals
          have he : k = 26 := by omega
          have ht : takenB s = false := by
            rw [Bool.eq_false_iff]
            intro h
            obtain ⟨j, hj, e⟩ := (taken_iff s).1 h
            exact hl j (by omega) e
          go_returns
          refine ⟨ret_bool ?_, by repeat' (first | (with_reducible exact Below.refl _ _) | (with_reducible assumption) | (with_reducible refine balloc ?_ _) | (with_reducible refine bdrew ?_) | (with_reducible refine Below.setCell ?_ ?_ _) | (with_reducible refine bstep ?_ (by with_reducible assumption)) | go_size)⟩
          simp only [nameB, hL, ht, Bool.not_false, Bool.and_true, Bool.true_and]
          rw [Bool.eq_iff_iff]
          simp
          omega
end Go.Proofs.Ytimfdfeleoaehaa
