/-
  Plain mathematics of ranges: a product, a quotient, a sum of numbers of two ranges lies within what is reckoned with their ends; no program.
-/
import Derived.Test.YtdlkmekdeiajhaaSpanF
namespace Go.Proofs.Ytdlkmekdeiajhaa
open Go.RowKit
set_option linter.unusedSimpArgs false
set_option linter.unusedVariables false

theorem lin (l h x y : Int) (h1 : l ≤ x) (h2 : x ≤ h) : (l * y ≤ x * y ∧ x * y ≤ h * y) ∨ (h * y ≤ x * y ∧ x * y ≤ l * y) := by
  by_cases hy : 0 ≤ y
  · exact .inl ⟨Int.mul_le_mul_of_nonneg_right h1 hy, Int.mul_le_mul_of_nonneg_right h2 hy⟩
  · exact .inr ⟨Int.mul_le_mul_of_nonpos_right h2 (by omega), Int.mul_le_mul_of_nonpos_right h1 (by omega)⟩
theorem mul_between (a b c d m n : Int) (h1 : a ≤ m) (h2 : m ≤ b) (h3 : c ≤ n) (h4 : n ≤ d) :
    fourLo (a * c) (a * d) (b * c) (b * d) ≤ m * n ∧ m * n ≤ fourHi (a * c) (a * d) (b * c) (b * d) := by
  have e1 := lin a b m c h1 h2
  have e2 := lin a b m d h1 h2
  have e3 := lin c d n m h3 h4
  rw [Int.mul_comm c m, Int.mul_comm d m, Int.mul_comm n m] at e3
  unfold fourLo fourHi mnI mxI
  generalize a * c = p1 at *
  generalize a * d = p2 at *
  generalize b * c = p3 at *
  generalize b * d = p4 at *
  generalize m * c = p5 at *
  generalize m * d = p6 at *
  generalize m * n = p7 at *
  constructor <;> omega
theorem mul_small (a c : Int) (h1 : -1000000 ≤ a) (h2 : a ≤ 1000000) (h3 : -1000000 ≤ c) (h4 : c ≤ 1000000) : -1000000000000 ≤ a * c ∧ a * c ≤ 1000000000000 := by
  have e1 := lin (-1000000) 1000000 a c h1 h2
  omega
theorem wrap_small (x : Int) (h1 : -1000000000000 ≤ x) (h2 : x ≤ 1000000000000) : wrap64 x = x := by unfold wrap64; omega
theorem mulLo_eq (a b c d : Int) (h1 : okB a b = true) (h2 : okB c d = true) : mulLo a b c d = fourLo (a * c) (a * d) (b * c) (b * d) ∧ mulHi a b c d = fourHi (a * c) (a * d) (b * c) (b * d) := by
  rw [okB_iff] at h1 h2
  have e1 := mul_small a c (by omega) (by omega) (by omega) (by omega)
  have e2 := mul_small a d (by omega) (by omega) (by omega) (by omega)
  have e3 := mul_small b c (by omega) (by omega) (by omega) (by omega)
  have e4 := mul_small b d (by omega) (by omega) (by omega) (by omega)
  unfold mulLo mulHi
  rw [wrap_small _ e1.1 e1.2, wrap_small _ e2.1 e2.2, wrap_small _ e3.1 e3.2, wrap_small _ e4.1 e4.2]
  exact ⟨rfl, rfl⟩
theorem mul_in (a b c d m n : Int) (h1 : okB a b = true) (h2 : okB c d = true) (h3 : a ≤ m) (h4 : m ≤ b) (h5 : c ≤ n) (h6 : n ≤ d) : mulLo a b c d ≤ m * n ∧ m * n ≤ mulHi a b c d := by
  rw [(mulLo_eq a b c d h1 h2).1, (mulLo_eq a b c d h1 h2).2]
  exact mul_between a b c d m n h3 h4 h5 h6
theorem four_of (p1 p2 p3 p4 l h : Int) (h1 : l ≤ p1 ∧ p1 ≤ h) (h2 : l ≤ p2 ∧ p2 ≤ h) (h3 : l ≤ p3 ∧ p3 ≤ h) (h4 : l ≤ p4 ∧ p4 ≤ h) : l ≤ fourLo p1 p2 p3 p4 ∧ fourLo p1 p2 p3 p4 ≤ fourHi p1 p2 p3 p4 ∧ fourHi p1 p2 p3 p4 ≤ h := by
  unfold fourLo fourHi mnI mxI
  refine ⟨?_, ?_, ?_⟩ <;> omega

theorem tdiv_pos_mono (x y n : Int) (hn : 0 < n) (h : x ≤ y) : x.tdiv n ≤ y.tdiv n := Int.tdiv_le_tdiv hn h
theorem ediv_anti (x n m : Int) (hx : 0 ≤ x) (hn : 0 < n) (h : n ≤ m) : x / m ≤ x / n := by
  obtain ⟨x, rfl⟩ := Int.eq_ofNat_of_zero_le hx
  obtain ⟨n, rfl⟩ := Int.eq_ofNat_of_zero_le (Int.le_of_lt hn)
  obtain ⟨m, rfl⟩ := Int.eq_ofNat_of_zero_le (by omega : 0 ≤ m)
  have := Nat.div_le_div_left (c := n) (b := m) (a := x) (by omega) (by omega)
  exact_mod_cast this
/-- With the divisor's ends of one sign the quotient lies between the quotients by the ends. -/
theorem tdiv_anti (x c n d : Int) (hc : 0 < c) (h1 : c ≤ n) (h2 : n ≤ d) : (x.tdiv d ≤ x.tdiv n ∧ x.tdiv n ≤ x.tdiv c) ∨ (x.tdiv c ≤ x.tdiv n ∧ x.tdiv n ≤ x.tdiv d) := by
  by_cases hx : 0 ≤ x
  · rw [Int.tdiv_eq_ediv_of_nonneg hx, Int.tdiv_eq_ediv_of_nonneg hx, Int.tdiv_eq_ediv_of_nonneg hx]
    exact .inl ⟨ediv_anti x n d hx (by omega) h2, ediv_anti x c n hx hc h1⟩
  · have e : ∀ k : Int, x.tdiv k = -((-x) / k) := fun k => by rw [← Int.tdiv_eq_ediv_of_nonneg (by omega : 0 ≤ -x), Int.neg_tdiv]; omega
    have k1 := ediv_anti (-x) n d (by omega) (by omega) h2
    have k2 := ediv_anti (-x) c n (by omega) hc h1
    rw [e, e, e]
    exact .inr ⟨by omega, by omega⟩
theorem div_between_pos (a b c d m n : Int) (hc : 0 < c) (h1 : a ≤ m) (h2 : m ≤ b) (h3 : c ≤ n) (h4 : n ≤ d) :
    fourLo (a.tdiv c) (a.tdiv d) (b.tdiv c) (b.tdiv d) ≤ m.tdiv n ∧ m.tdiv n ≤ fourHi (a.tdiv c) (a.tdiv d) (b.tdiv c) (b.tdiv d) := by
  have e1 := tdiv_pos_mono a m c hc h1
  have e2 := tdiv_pos_mono m b c hc h2
  have e3 := tdiv_pos_mono a m d (by omega) h1
  have e4 := tdiv_pos_mono m b d (by omega) h2
  have e5 := tdiv_anti m c n d hc h3 h4
  unfold fourLo fourHi mnI mxI
  generalize a.tdiv c = p1 at *
  generalize a.tdiv d = p2 at *
  generalize b.tdiv c = p3 at *
  generalize b.tdiv d = p4 at *
  generalize m.tdiv c = p5 at *
  generalize m.tdiv d = p6 at *
  generalize m.tdiv n = p7 at *
  constructor <;> omega
theorem div_between (a b c d m n : Int) (hz : hasB c d 0 = false) (h1 : a ≤ m) (h2 : m ≤ b) (h3 : c ≤ n) (h4 : n ≤ d) :
    fourLo (a.tdiv c) (a.tdiv d) (b.tdiv c) (b.tdiv d) ≤ m.tdiv n ∧ m.tdiv n ≤ fourHi (a.tdiv c) (a.tdiv d) (b.tdiv c) (b.tdiv d) := by
  rw [hasB_not] at hz
  by_cases hc : 0 < c
  · exact div_between_pos a b c d m n hc h1 h2 h3 h4
  · have hd : d < 0 := by omega
    have e := div_between_pos a b (-d) (-c) m (-n) (by omega) h1 h2 (by omega) (by omega)
    rw [Int.tdiv_neg, Int.tdiv_neg, Int.tdiv_neg, Int.tdiv_neg, Int.tdiv_neg] at e
    unfold fourLo fourHi mnI mxI at *
    generalize a.tdiv c = p1 at *
    generalize a.tdiv d = p2 at *
    generalize b.tdiv c = p3 at *
    generalize b.tdiv d = p4 at *
    generalize m.tdiv n = p7 at *
    constructor <;> omega
theorem div_small (a c : Int) (h1 : -1000000 ≤ a) (h2 : a ≤ 1000000) (hc : ¬ c = 0) : -1000000 ≤ a.tdiv c ∧ a.tdiv c ≤ 1000000 := by
  have key : ∀ x k : Int, 0 ≤ x → 0 < k → 0 ≤ x.tdiv k ∧ x.tdiv k ≤ x := fun x k hx hk => by
    rw [Int.tdiv_eq_ediv_of_nonneg hx]
    exact ⟨Int.ediv_nonneg hx (by omega), Int.ediv_le_self _ hx⟩
  by_cases ha : 0 ≤ a <;> by_cases hk : 0 < c
  · have := key a c ha hk; omega
  · have := key a (-c) ha (by omega); rw [Int.tdiv_neg] at this; omega
  · have := key (-a) c (by omega) hk; rw [Int.neg_tdiv] at this; omega
  · have := key (-a) (-c) (by omega) (by omega); rw [Int.tdiv_neg, Int.neg_tdiv] at this; omega
theorem divLo_eq (a b c d : Int) (h1 : okB a b = true) (h2 : okB c d = true) (hz : hasB c d 0 = false) : divLo a b c d = fourLo (a.tdiv c) (a.tdiv d) (b.tdiv c) (b.tdiv d) ∧ divHi a b c d = fourHi (a.tdiv c) (a.tdiv d) (b.tdiv c) (b.tdiv d) := by
  obtain ⟨hc, hd⟩ := nz c d h2 hz
  rw [okB_iff] at h1
  have e1 := div_small a c (by omega) (by omega) hc
  have e2 := div_small a d (by omega) (by omega) hd
  have e3 := div_small b c (by omega) (by omega) hc
  have e4 := div_small b d (by omega) (by omega) hd
  unfold divLo divHi
  rw [wrap_small _ (by omega) (by omega), wrap_small _ (by omega) (by omega), wrap_small _ (by omega) (by omega), wrap_small _ (by omega) (by omega)]
  exact ⟨rfl, rfl⟩
theorem div_in (a b c d m n : Int) (h1 : okB a b = true) (h2 : okB c d = true) (hz : hasB c d 0 = false) (h3 : a ≤ m) (h4 : m ≤ b) (h5 : c ≤ n) (h6 : n ≤ d) : divLo a b c d ≤ m.tdiv n ∧ m.tdiv n ≤ divHi a b c d := by
  rw [(divLo_eq a b c d h1 h2 hz).1, (divLo_eq a b c d h1 h2 hz).2]
  exact div_between a b c d m n hz h3 h4 h5 h6
theorem div_ok (a b c d : Int) (h1 : okB a b = true) (h2 : okB c d = true) (hz : hasB c d 0 = false) : okB (divLo a b c d) (divHi a b c d) = true := by
  rw [(divLo_eq a b c d h1 h2 hz).1, (divLo_eq a b c d h1 h2 hz).2]
  obtain ⟨hc, hd⟩ := nz c d h2 hz
  rw [okB_iff] at h1
  exact okB_mk _ _ (four_of _ _ _ _ _ _ (div_small a c (by omega) (by omega) hc) (div_small a d (by omega) (by omega) hd) (div_small b c (by omega) (by omega) hc) (div_small b d (by omega) (by omega) hd))
end Go.Proofs.Ytdlkmekdeiajhaa
