/-
  What is drawn for the law on numbers and ranges; what ranges of one number are reckoned to.
-/
import Derived.Test.YtkgmkoejplgjoaaDoorTwoB
import Derived.Test.YtkgmkoejplgjoaaDoorSpanD
import Derived.Test.YtkgmkoejplgjoaaDoorSpanE
import Derived.Test.YtkgmkoejplgjoaaDoorKitB
namespace Go.Proofs.YtkgmkoejplgjoaaDoor
open Go.RowKit
set_option linter.unusedSimpArgs false
set_option linter.unusedVariables false

set_option maxHeartbeats 1000000 in
theorem drawTwo (sa : Option Addr) (len cap : Nat) (w : World) (hrow : Row w.heap.size w sa len) (hc : len ≤ cap) (hm : cap ≤ maxLen) :
    Calls Tryd.prog 4 #[.slice sa len cap] w fun e w' => ∃ k a b : Int, e = .returned (.tuple #[.int .i64 k, .int .i64 a, .int .i64 b]) ∧ -1000000 ≤ a ∧ a ≤ 1000001 ∧ -1000000 ≤ b ∧ b ≤ 1000000 ∧ Below w.heap.size w w' := by
  have HR : Hid (Row w.heap.size w sa len) := hrow
  clear hrow
  go_enter Tryd.func4, Tryd.ntmps4
  go_wp2_with fail
  go_at_call 11
  refine (l19Open sa len cap w HR.out hc hm).mono ?_
  rintro e w1 ⟨len', rfl, hB1, hR1⟩
  go_wp2_with fail
  go_at_call 12
  refine (pick _ _ sa len' cap 0 14 w1 hR1 (by omega) (by omega) (by omega)).mono ?_
  rintro e w2 ⟨v, rfl, hv0, hv1, hA2, hR2⟩
  go_wp2_with fail
  go_at_call 13
  refine (l1Num _ _ sa len' cap _ w2 hR2 (by omega)).mono ?_
  rintro e w3 ⟨a, rfl, ha0, ha1, hA3, hR3⟩
  go_wp2_with fail
  go_at_call 13
  refine (l1Num _ _ sa len' cap _ w3 hR3 (by omega)).mono ?_
  rintro e w4 ⟨b, rfl, hb0, hb1, hA4, hR4⟩
  go_wp2_with fail
  go_at_call 12
  refine (pick _ _ sa len' cap _ 12 w4 hR4 (by omega) (by omega) (by omega)).mono ?_
  rintro e w5 ⟨u, rfl, hu0, hu1, hA5, hR5⟩
  have hBl : Below w.heap.size w w5 := Adv.onto hB1 (Nat.le_refl _) hB1.size (((hA2.trans hA3).trans hA4).trans hA5)
  by_cases hu : u = 0
  · subst hu
    go_wp2
    go_returns
    exact ⟨v, 1000001, b, rfl, by omega, by omega, hb0, hb1, hBl⟩
  · go_wp2
    go_returns
    exact ⟨v, a, b, rfl, ha0, by omega, hb0, hb1, hBl⟩
theorem mn_self (a : Int) : mnI a a = a := by unfold mnI; split <;> rfl
theorem mx_self (a : Int) : mxI a a = a := by unfold mxI; split <;> rfl
theorem four_one (a : Int) : fourLo a a a a = a ∧ fourHi a a a a = a := by
  unfold fourLo fourHi
  rw [mn_self, mx_self, mn_self, mx_self]
  exact ⟨rfl, rfl⟩
theorem ok_one (a : Int) : okB a a = okN a := by
  unfold okB okN
  by_cases h : -1000000 ≤ a ∧ a ≤ 1000000
  · rw [decide_eq_true h, decide_eq_true (by omega)]
  · rw [decide_eq_false h, decide_eq_false (by omega)]
theorem mul_small {a b : Int} (ha : -1000000 ≤ a ∧ a ≤ 1000000) (hb : -1000000 ≤ b ∧ b ≤ 1000000) : True := trivial
theorem quo_ok {a b : Int} (ha : okN a = true) (hb : ¬ b = 0) : okN (quoI a b) = true := by
  obtain ⟨h1, h2⟩ := ok_le ha
  have h3 : (a.tdiv b).natAbs ≤ a.natAbs := by
    rw [Int.natAbs_tdiv]
    exact Nat.div_le_self _ _
  unfold quoI wrap64 okN
  exact decide_eq_true (by omega)
/-- What the law needs of the three ranges: which of them are told, and their ends, held against what is reckoned. -/
structure Ones (k a b n f : Int) (P1 P2 P3 : Bool) (u1 u2 u3 : Int) : Prop where
  k4 : k = 4 → (P1 = true ∧ f = 0 ∧ u1 = n) ∨ (P1 = false ∧ f = 3 ∧ n = 0 ∧ u1 = 0)
  k6 : k = 6 → (P2 = true ∧ f = 0 ∧ u2 = n) ∨ (P2 = false ∧ f = 3 ∧ n = 0 ∧ u2 = 0)
  k7 : k = 7 → (P3 = true ∧ f = 0 ∧ u3 = n) ∨ (P3 = false ∧ f = 2 ∧ n = 0 ∧ u3 = 0)
theorem ones (k a b : Int) (ha : okN a = true) (hb : okN b = true) : ∃ (P1 P2 P3 : Bool) (u1 u2 u3 : Int), Hid (Ones k a b (reck k a b).ans.1 (reck k a b).ans.2 P1 P2 P3 u1 u2 u3) ∧
    Hid (∀ w : World, Calls Tryd.prog 8 #[.agg #[.int .i64 a, .int .i64 a], .agg #[.int .i64 b, .int .i64 b]] w fun e w' => e = .returned (.tuple #[.agg #[.int .i64 u1, .int .i64 u1], .bool P1]) ∧ Below w.heap.size w w') ∧
    Hid (∀ w : World, Calls Tryd.prog 9 #[.agg #[.int .i64 a, .int .i64 a], .agg #[.int .i64 b, .int .i64 b]] w fun e w' => e = .returned (.tuple #[.agg #[.int .i64 u2, .int .i64 u2], .bool P2]) ∧ Below w.heap.size w w') ∧
    Hid (∀ w : World, Calls Tryd.prog 10 #[.agg #[.int .i64 a, .int .i64 a], .agg #[.int .i64 b, .int .i64 b]] w fun e w' => e = .returned (.tuple #[.agg #[.int .i64 u3, .int .i64 u3], .bool P3]) ∧ Below w.heap.size w w') := by
  have hm : mulLo a a b b = wrap64 (a * b) ∧ mulHi a a b b = wrap64 (a * b) := by unfold mulLo mulHi; exact four_one _
  have hd : divLo a a b b = quoI a b ∧ divHi a a b b = quoI a b := by unfold divLo divHi quoI; exact four_one _
  have hr := reck_ok (k := k) (a := a) (b := b) (by rw [ha, hb]; rfl)
  refine ⟨okN (wrap64 (a + b)), okN (wrap64 (a * b)), !decide (b = 0), selI (okN (wrap64 (a + b))) (wrap64 (a + b)), selI (okN (wrap64 (a * b))) (wrap64 (a * b)), selI (!decide (b = 0)) (quoI a b), ?_, fun w => ?_, fun w => ?_, fun w => ?_⟩
  · refine ⟨fun hk => ?_, fun hk => ?_, fun hk => ?_⟩
    · subst hk
      rw [hr, show reckB 4 a b = bnd (wrap64 (a + b)) from rfl]
      unfold bnd selI
      cases h : okN (wrap64 (a + b)) <;> simp [Res.ans]
    · subst hk
      rw [hr, show reckB 6 a b = bnd (wrap64 (a * b)) from rfl]
      unfold bnd selI
      cases h : okN (wrap64 (a * b)) <;> simp [Res.ans]
    · subst hk
      rw [hr, show reckB 7 a b = (if b = 0 then .err 2 else .num (quoI a b)) from rfl]
      unfold selI
      by_cases h : b = 0 <;> simp [Res.ans, h]
  · refine (implAdd a a b b w).mono fun e w' hh => ⟨?_, hh.2⟩
    rw [hh.1, ok_one, ok_one, ok_one, ha, hb, Bool.true_and, Bool.true_and]
  · refine (implMul a a b b w).mono fun e w' hh => ⟨?_, hh.2⟩
    rw [hh.1, hm.1, hm.2, ok_one, ok_one, ok_one, ha, hb, Bool.true_and, Bool.true_and]
  · refine (implDiv a a b b w).mono fun e w' hh => ⟨?_, hh.2⟩
    have h0 : (!hasB b b 0) = !decide (b = 0) := by
      unfold hasB
      by_cases h : b = 0
      · subst h; rfl
      · rw [decide_eq_false h, decide_eq_false (by omega)]
    have hP : (okB a a && okB b b && (!hasB b b 0) && okB (quoI a b) (quoI a b)) = !decide (b = 0) := by
      rw [ok_one, ok_one, ok_one, ha, hb, h0, Bool.true_and, Bool.true_and]
      by_cases h : b = 0
      · rw [decide_eq_true h]; rfl
      · rw [quo_ok ha h, Bool.and_true]
    rw [hh.1, hd.1, hd.2, hP]
/-- Just one of less, more and the same. -/
theorem one_of (a b : Int) (ha : okN a = true) (hb : okN b = true) : ∃ l m s : Int, l + m + s = 1 ∧ 0 ≤ l ∧ l ≤ 1 ∧ 0 ≤ m ∧ m ≤ 1 ∧ 0 ≤ s ∧ s ≤ 1 ∧ (reck 8 a b).ans = (l, 0) ∧ (reck 8 b a).ans = (m, 0) ∧ (reck 9 a b).ans = (s, 0) := by
  refine ⟨flagI (decide (a < b)), flagI (decide (b < a)), flagI (decide (a = b)), ?_, ?_⟩
  · unfold flagI
    rcases Int.lt_trichotomy a b with h | h | h
    · rw [decide_eq_true h, decide_eq_false (by omega : ¬ b < a), decide_eq_false (by omega : ¬ a = b)]; rfl
    · rw [decide_eq_false (by omega : ¬ a < b), decide_eq_false (by omega : ¬ b < a), decide_eq_true h]; rfl
    · rw [decide_eq_false (by omega : ¬ a < b), decide_eq_true h, decide_eq_false (by omega : ¬ a = b)]; rfl
  · have hf : ∀ c : Bool, 0 ≤ flagI c ∧ flagI c ≤ 1 := by intro c; cases c <;> simp [flagI]
    refine ⟨(hf _).1, (hf _).2, (hf _).1, (hf _).2, (hf _).1, (hf _).2, ?_, ?_, ?_⟩
    · rw [reck_ok (by rw [ha, hb]; rfl)]; rfl
    · rw [reck_ok (by rw [ha, hb]; rfl)]; rfl
    · rw [reck_ok (by rw [ha, hb]; rfl)]; rfl
end Go.Proofs.YtkgmkoejplgjoaaDoor
