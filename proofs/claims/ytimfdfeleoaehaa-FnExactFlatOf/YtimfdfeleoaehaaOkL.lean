/-
  What the specification answers of one statement, but for those within it.
-/
import Derived.Test.YtimfdfeleoaehaaOkG
import Derived.Test.YtimfdfeleoaehaaTreeI
namespace Go.Proofs.Ytimfdfeleoaehaa
open Go.RowKit Go.Shelf
set_option linter.unusedSimpArgs false
set_option linter.unusedVariables false
attribute [local go_sem] Oper.semAt_some

set_option maxHeartbeats 2000000 in
theorem specNone0 (k n : Int) (s : ByteArray) (a : Option Addr) (len c : Nat) (w : World) :
    Calls Try.prog 55 #[.agg #[.int .i64 k, .int .i64 n, .string s, .slice a len c]] w fun e w' => e = .returned (.bool ((k == 0) && ((n == 0) && (s.toList.isEmpty && decide (len = 0))))) ∧ Below w.heap.size w w' := by
  have hB : ∀ o, Below w.heap.size w (w.alloc o) := fun o => (Below.refl _ w).alloc (Nat.le_refl _) o
  go_enter Try.func55, Try.ntmps55
  go_wp2_with fail
  all_goals
    go_returns
    refine ⟨ret_bool ?_, hB _⟩
    first | rfl | (simp_all; done) | (rw [Bool.eq_iff_iff]; simp_all; done) | (rw [Bool.eq_iff_iff]; simp_all; omega)
theorem specNone (t : XT) (w : World) :
    Calls Try.prog 55 #[t.val] w fun e w' => e = .returned (.bool (noneE t)) ∧ Below w.heap.size w w' := specNone0 _ _ _ _ _ _ _
def shN (k : Int) : Bool := k == 1 || k == 2 || k == 5 || k == 6 || k == 7 || k == 8
def shE (k : Int) : Int := if k = 2 then 2 else if k = 1 ∨ k = 3 ∨ k = 4 ∨ k = 7 ∨ k = 9 ∨ k = 10 then 1 else if k = 5 ∨ k = 6 ∨ k = 8 then 0 else -1
def shL (k : Int) : Int := if k = 3 then 2 else if k = 4 then 1 else 0
set_option maxHeartbeats 2000000 in
theorem specShape (k : Int) (w : World) :
    Calls Try.prog 73 #[.int .i64 k] w fun e w' => e = .returned (.tuple #[.bool (shN k), .int .i64 (shE k), .int .i64 (shL k)]) ∧ w' = w := by
  go_enter Try.func73, Try.ntmps73
  go_wp2_with fail
  all_goals
    go_returns
    refine ⟨?_, rfl⟩
    unfold shN shE shL
    simp_all
    try omega
theorem raw12 {W : World} {b : Nat} {k : Int} {n : ByteArray} {e f : XT} {ab : Option Addr} {ac : Nat} {la : List SX} {bb : Option Addr} {bc : Nat} {lb : List SX} (h : Cells12 W b 0 (.mk k n e f ab ac la bb bc lb)) : W.cell? ⟨b, 0, none⟩ = some (.int .i64 k) ∧ W.cell? ⟨b, 1, none⟩ = some (.string n) ∧ W.cell? ⟨b, 2, none⟩ = some (.int .i64 e.kind) ∧ W.cell? ⟨b, 3, none⟩ = some (.int .i64 e.num) ∧ W.cell? ⟨b, 4, none⟩ = some (.string e.name) ∧ W.cell? ⟨b, 5, none⟩ = some (.slice e.base e.kids.length e.cap) ∧ W.cell? ⟨b, 6, none⟩ = some (.int .i64 f.kind) ∧ W.cell? ⟨b, 7, none⟩ = some (.int .i64 f.num) ∧ W.cell? ⟨b, 8, none⟩ = some (.string f.name) ∧ W.cell? ⟨b, 9, none⟩ = some (.slice f.base f.kids.length f.cap) ∧ W.cell? ⟨b, 10, none⟩ = some (.slice ab la.length ac) ∧ W.cell? ⟨b, 11, none⟩ = some (.slice bb lb.length bc) :=
  ⟨h.c0, h.c1, h.c2, h.c3, h.c4, h.c5, h.c6, h.c7, h.c8, h.c9, h.c10, h.c11⟩
theorem okI_some {t : XT} (h : t.size ≤ 1099511627776) (ho : t.okI = true) : noneE t = false := by
  rw [XT.ok_same t h] at ho
  have h1 : t.specR.2.2 = true := by simp only [Bool.and_eq_true] at ho; exact ho.1
  cases hz : noneE t with
  | false => rfl
  | true =>
    exfalso
    obtain ⟨k, n, s, a, c, ks⟩ := t
    simp only [noneE, XT.kind, XT.num, XT.name, XT.kids, Bool.and_eq_true, beq_iff_eq, decide_eq_true_eq] at hz
    obtain ⟨hk, hn, hs, hl⟩ := hz
    have hks : ks = [] := List.length_eq_zero_iff.1 (of_decide_eq_true hl)
    subst hks
    subst hk
    subst hn
    simp only [XT.specR, XT.specL] at h1
    simp [fitS, kidsN, hs] at h1
theorem nameB_some {s : ByteArray} (h : nameB s = true) : s.toList.isEmpty = false := by
  cases hz : s.toList.isEmpty with
  | false => rfl
  | true =>
    exfalso
    rw [ByteArray.toList_eq, List.isEmpty_iff, ← List.length_eq_zero_iff] at hz
    have h0 : s.size = 0 := hz
    simp [nameB, h0] at h
set_option maxRecDepth 10000 in
set_option maxHeartbeats 2000000 in
theorem spec_setStmt (n : ByteArray) (e f : XT) (ab : Option Addr) (ac : Nat) (la : List SX) (bb : Option Addr) (bc : Nat) (lb : List SX) (hn : n.size ≤ 1048576) (he : e.size ≤ 1099511627776 ∧ Good e) (hf : f.size ≤ 1099511627776 ∧ Good f) (hla : la.length ≤ 1048576) (hlb : lb.length ≤ 1048576) (ok : Nat → Prop) (w : World) (hok : ∀ b, ok b → b < w.heap.size) (hL : Lies ok w e) (hF : Lies ok w f) :
    Calls Try.prog 54 #[.agg #[.int .i64 1, .string n, .int .i64 e.kind, .int .i64 e.num, .string e.name, .slice e.base e.kids.length e.cap, .int .i64 f.kind, .int .i64 f.num, .string f.name, .slice f.base f.kids.length f.cap, .slice ab la.length ac, .slice bb lb.length bc]] w fun e' w' => e' = .returned (.bool (nameB n && ((e.okI && noneE f) && (decide (la.length = 0) && decide (lb.length = 0))))) ∧ Below w.heap.size w w' := by
  have hsh : Hid (∀ w, Calls Try.prog 73 #[.int .i64 1] w fun e w' => e = .returned (.tuple #[.bool true, .int .i64 1, .int .i64 0]) ∧ w' = w) := fun w => specShape 1 w
  obtain ⟨W1, hW1⟩ : ∃ W1, w.alloc (.cells #[.int .i64 1, .string n, .int .i64 e.kind, .int .i64 e.num, .string e.name, .slice e.base e.kids.length e.cap, .int .i64 f.kind, .int .i64 f.num, .string f.name, .slice f.base f.kids.length f.cap, .slice ab la.length ac, .slice bb lb.length bc] 50) = W1 := ⟨_, rfl⟩
  have hs1 : w.heap.size + 1 = W1.heap.size := by rw [← hW1]; simp
  have hB1 : Below w.heap.size w W1 := by rw [← hW1]; exact (Below.refl _ w).alloc (Nat.le_refl _) _
  have hC : Cells12 W1 w.heap.size 0 (.mk 1 n e f ab ac la bb bc lb) := by rw [← hW1]; exact Cells12.new w (.mk 1 n e f ab ac la bb bc lb) _
  have hok1 : ∀ b, ok b → b < W1.heap.size := fun b hb => by have := hok b hb; omega
  have hEE : e.size ≤ 1099511627776 ∧ Good e ∧ Lies ok W1 e := ⟨he.1, he.2, hL.under hB1 hok⟩
  have hFF : f.size ≤ 1099511627776 ∧ Good f ∧ Lies ok W1 f := ⟨hf.1, hf.2, hF.under hB1 hok⟩
  have HT : Hid (∀ (t : XT) (x : World), Below W1.heap.size W1 x → (t.size ≤ 1099511627776 ∧ Good t ∧ Lies ok W1 t) → Calls Try.prog 74 #[t.val] x fun e w' => e = .returned (.bool t.okI) ∧ Below x.heap.size x w') := fun t x hx ht => by
    have h := specOk1 t ht.1 ht.2.1 ok x (fun b hb => Nat.lt_of_lt_of_le (hok1 b hb) hx.size) (ht.2.2.under hx hok1)
    rw [← XT.ok_same t ht.1] at h
    exact h
  have hen : e.okI = true → noneE e = false := okI_some he.1
  have hfn : f.okI = true → noneE f = false := okI_some hf.1
  have hnn : nameB n = true → n.toList.isEmpty = false := nameB_some
  have hX := Below.refl W1.heap.size W1
  obtain ⟨c0, c1, c2, c3, c4, c5, c6, c7, c8, c9, c10, c11⟩ := raw12 (hC.below hX (by omega))
  obtain ⟨b1, r1⟩ : ∃ b, noneE e = b := ⟨_, rfl⟩
  obtain ⟨b2, r2⟩ : ∃ b, noneE f = b := ⟨_, rfl⟩
  obtain ⟨b3, r3⟩ : ∃ b, e.okI = b := ⟨_, rfl⟩
  obtain ⟨b4, r4⟩ : ∃ b, f.okI = b := ⟨_, rfl⟩
  obtain ⟨b5, r5⟩ : ∃ b, nameB n = b := ⟨_, rfl⟩
  obtain ⟨b6, r6⟩ : ∃ b, n.toList.isEmpty = b := ⟨_, rfl⟩
  rw [r1, r3] at hen
  rw [r2, r4] at hfn
  rw [r5, r6] at hnn
  go_enter Try.func54, Try.ntmps54
  go_wp2_with (first | (go_at_call 73; refine (hsh.out _).mono ?_; rintro e' wn ⟨rfl, hw⟩; subst wn) | (go_at_call 55; refine (specNone _ _).mono ?_; rintro e' wn ⟨rfl, hb⟩; (replace hX := bstep hX hb); (obtain ⟨c0, c1, c2, c3, c4, c5, c6, c7, c8, c9, c10, c11⟩ := raw12 (hC.below hX (by omega))); (clear hb); (first | rw [r1] | rw [r2])) | (go_at_call 74; refine (HT.out _ _ hX (by first | exact hEE | exact hFF)).mono ?_; rintro e' wn ⟨rfl, hb⟩; (replace hX := bstep hX hb); (obtain ⟨c0, c1, c2, c3, c4, c5, c6, c7, c8, c9, c10, c11⟩ := raw12 (hC.below hX (by omega))); (clear hb); (first | rw [r3] | rw [r4])) | (go_at_call 75; refine (specName n _ hn).mono ?_; rintro e' wn ⟨rfl, hb⟩; (replace hX := bstep hX hb); (obtain ⟨c0, c1, c2, c3, c4, c5, c6, c7, c8, c9, c10, c11⟩ := raw12 (hC.below hX (by omega))); (clear hb); rw [r5]))
  all_goals
    go_returns
    refine ⟨ret_bool ?_, hB1.trans (hX.mono (by omega))⟩
    first | rfl | (simp_all; done) | (rw [Bool.eq_iff_iff]; simp_all; done) | (rw [Bool.eq_iff_iff]; simp_all; omega)
set_option maxRecDepth 10000 in
set_option maxHeartbeats 2000000 in
theorem spec_putStmt (n : ByteArray) (e f : XT) (ab : Option Addr) (ac : Nat) (la : List SX) (bb : Option Addr) (bc : Nat) (lb : List SX) (hn : n.size ≤ 1048576) (he : e.size ≤ 1099511627776 ∧ Good e) (hf : f.size ≤ 1099511627776 ∧ Good f) (hla : la.length ≤ 1048576) (hlb : lb.length ≤ 1048576) (ok : Nat → Prop) (w : World) (hok : ∀ b, ok b → b < w.heap.size) (hL : Lies ok w e) (hF : Lies ok w f) :
    Calls Try.prog 54 #[.agg #[.int .i64 2, .string n, .int .i64 e.kind, .int .i64 e.num, .string e.name, .slice e.base e.kids.length e.cap, .int .i64 f.kind, .int .i64 f.num, .string f.name, .slice f.base f.kids.length f.cap, .slice ab la.length ac, .slice bb lb.length bc]] w fun e' w' => e' = .returned (.bool (nameB n && (e.okI && (f.okI && (decide (la.length = 0) && decide (lb.length = 0)))))) ∧ Below w.heap.size w w' := by
  have hsh : Hid (∀ w, Calls Try.prog 73 #[.int .i64 2] w fun e w' => e = .returned (.tuple #[.bool true, .int .i64 2, .int .i64 0]) ∧ w' = w) := fun w => specShape 2 w
  obtain ⟨W1, hW1⟩ : ∃ W1, w.alloc (.cells #[.int .i64 2, .string n, .int .i64 e.kind, .int .i64 e.num, .string e.name, .slice e.base e.kids.length e.cap, .int .i64 f.kind, .int .i64 f.num, .string f.name, .slice f.base f.kids.length f.cap, .slice ab la.length ac, .slice bb lb.length bc] 50) = W1 := ⟨_, rfl⟩
  have hs1 : w.heap.size + 1 = W1.heap.size := by rw [← hW1]; simp
  have hB1 : Below w.heap.size w W1 := by rw [← hW1]; exact (Below.refl _ w).alloc (Nat.le_refl _) _
  have hC : Cells12 W1 w.heap.size 0 (.mk 2 n e f ab ac la bb bc lb) := by rw [← hW1]; exact Cells12.new w (.mk 2 n e f ab ac la bb bc lb) _
  have hok1 : ∀ b, ok b → b < W1.heap.size := fun b hb => by have := hok b hb; omega
  have hEE : e.size ≤ 1099511627776 ∧ Good e ∧ Lies ok W1 e := ⟨he.1, he.2, hL.under hB1 hok⟩
  have hFF : f.size ≤ 1099511627776 ∧ Good f ∧ Lies ok W1 f := ⟨hf.1, hf.2, hF.under hB1 hok⟩
  have HT : Hid (∀ (t : XT) (x : World), Below W1.heap.size W1 x → (t.size ≤ 1099511627776 ∧ Good t ∧ Lies ok W1 t) → Calls Try.prog 74 #[t.val] x fun e w' => e = .returned (.bool t.okI) ∧ Below x.heap.size x w') := fun t x hx ht => by
    have h := specOk1 t ht.1 ht.2.1 ok x (fun b hb => Nat.lt_of_lt_of_le (hok1 b hb) hx.size) (ht.2.2.under hx hok1)
    rw [← XT.ok_same t ht.1] at h
    exact h
  have hen : e.okI = true → noneE e = false := okI_some he.1
  have hfn : f.okI = true → noneE f = false := okI_some hf.1
  have hnn : nameB n = true → n.toList.isEmpty = false := nameB_some
  have hX := Below.refl W1.heap.size W1
  obtain ⟨c0, c1, c2, c3, c4, c5, c6, c7, c8, c9, c10, c11⟩ := raw12 (hC.below hX (by omega))
  obtain ⟨b1, r1⟩ : ∃ b, noneE e = b := ⟨_, rfl⟩
  obtain ⟨b2, r2⟩ : ∃ b, noneE f = b := ⟨_, rfl⟩
  obtain ⟨b3, r3⟩ : ∃ b, e.okI = b := ⟨_, rfl⟩
  obtain ⟨b4, r4⟩ : ∃ b, f.okI = b := ⟨_, rfl⟩
  obtain ⟨b5, r5⟩ : ∃ b, nameB n = b := ⟨_, rfl⟩
  obtain ⟨b6, r6⟩ : ∃ b, n.toList.isEmpty = b := ⟨_, rfl⟩
  rw [r1, r3] at hen
  rw [r2, r4] at hfn
  rw [r5, r6] at hnn
  go_enter Try.func54, Try.ntmps54
  go_wp2_with (first | (go_at_call 73; refine (hsh.out _).mono ?_; rintro e' wn ⟨rfl, hw⟩; subst wn) | (go_at_call 55; refine (specNone _ _).mono ?_; rintro e' wn ⟨rfl, hb⟩; (replace hX := bstep hX hb); (obtain ⟨c0, c1, c2, c3, c4, c5, c6, c7, c8, c9, c10, c11⟩ := raw12 (hC.below hX (by omega))); (clear hb); (first | rw [r1] | rw [r2])) | (go_at_call 74; refine (HT.out _ _ hX (by first | exact hEE | exact hFF)).mono ?_; rintro e' wn ⟨rfl, hb⟩; (replace hX := bstep hX hb); (obtain ⟨c0, c1, c2, c3, c4, c5, c6, c7, c8, c9, c10, c11⟩ := raw12 (hC.below hX (by omega))); (clear hb); (first | rw [r3] | rw [r4])) | (go_at_call 75; refine (specName n _ hn).mono ?_; rintro e' wn ⟨rfl, hb⟩; (replace hX := bstep hX hb); (obtain ⟨c0, c1, c2, c3, c4, c5, c6, c7, c8, c9, c10, c11⟩ := raw12 (hC.below hX (by omega))); (clear hb); rw [r5]))
  all_goals
    go_returns
    refine ⟨ret_bool ?_, hB1.trans (hX.mono (by omega))⟩
    first | rfl | (simp_all; done) | (rw [Bool.eq_iff_iff]; simp_all; done) | (rw [Bool.eq_iff_iff]; simp_all; omega)
set_option maxRecDepth 10000 in
set_option maxHeartbeats 2000000 in
theorem spec_ifStmt (n : ByteArray) (e f : XT) (ab : Option Addr) (ac : Nat) (la : List SX) (bb : Option Addr) (bc : Nat) (lb : List SX) (hn : n.size ≤ 1048576) (he : e.size ≤ 1099511627776 ∧ Good e) (hf : f.size ≤ 1099511627776 ∧ Good f) (hla : la.length ≤ 1048576) (hlb : lb.length ≤ 1048576) (ok : Nat → Prop) (w : World) (hok : ∀ b, ok b → b < w.heap.size) (hL : Lies ok w e) (hF : Lies ok w f) :
    Calls Try.prog 54 #[.agg #[.int .i64 3, .string n, .int .i64 e.kind, .int .i64 e.num, .string e.name, .slice e.base e.kids.length e.cap, .int .i64 f.kind, .int .i64 f.num, .string f.name, .slice f.base f.kids.length f.cap, .slice ab la.length ac, .slice bb lb.length bc]] w fun e' w' => e' = .returned (.bool (n.toList.isEmpty && (e.okI && noneE f))) ∧ Below w.heap.size w w' := by
  have hsh : Hid (∀ w, Calls Try.prog 73 #[.int .i64 3] w fun e w' => e = .returned (.tuple #[.bool false, .int .i64 1, .int .i64 2]) ∧ w' = w) := fun w => specShape 3 w
  obtain ⟨W1, hW1⟩ : ∃ W1, w.alloc (.cells #[.int .i64 3, .string n, .int .i64 e.kind, .int .i64 e.num, .string e.name, .slice e.base e.kids.length e.cap, .int .i64 f.kind, .int .i64 f.num, .string f.name, .slice f.base f.kids.length f.cap, .slice ab la.length ac, .slice bb lb.length bc] 50) = W1 := ⟨_, rfl⟩
  have hs1 : w.heap.size + 1 = W1.heap.size := by rw [← hW1]; simp
  have hB1 : Below w.heap.size w W1 := by rw [← hW1]; exact (Below.refl _ w).alloc (Nat.le_refl _) _
  have hC : Cells12 W1 w.heap.size 0 (.mk 3 n e f ab ac la bb bc lb) := by rw [← hW1]; exact Cells12.new w (.mk 3 n e f ab ac la bb bc lb) _
  have hok1 : ∀ b, ok b → b < W1.heap.size := fun b hb => by have := hok b hb; omega
  have hEE : e.size ≤ 1099511627776 ∧ Good e ∧ Lies ok W1 e := ⟨he.1, he.2, hL.under hB1 hok⟩
  have hFF : f.size ≤ 1099511627776 ∧ Good f ∧ Lies ok W1 f := ⟨hf.1, hf.2, hF.under hB1 hok⟩
  have HT : Hid (∀ (t : XT) (x : World), Below W1.heap.size W1 x → (t.size ≤ 1099511627776 ∧ Good t ∧ Lies ok W1 t) → Calls Try.prog 74 #[t.val] x fun e w' => e = .returned (.bool t.okI) ∧ Below x.heap.size x w') := fun t x hx ht => by
    have h := specOk1 t ht.1 ht.2.1 ok x (fun b hb => Nat.lt_of_lt_of_le (hok1 b hb) hx.size) (ht.2.2.under hx hok1)
    rw [← XT.ok_same t ht.1] at h
    exact h
  have hen : e.okI = true → noneE e = false := okI_some he.1
  have hfn : f.okI = true → noneE f = false := okI_some hf.1
  have hnn : nameB n = true → n.toList.isEmpty = false := nameB_some
  have hX := Below.refl W1.heap.size W1
  obtain ⟨c0, c1, c2, c3, c4, c5, c6, c7, c8, c9, c10, c11⟩ := raw12 (hC.below hX (by omega))
  obtain ⟨b1, r1⟩ : ∃ b, noneE e = b := ⟨_, rfl⟩
  obtain ⟨b2, r2⟩ : ∃ b, noneE f = b := ⟨_, rfl⟩
  obtain ⟨b3, r3⟩ : ∃ b, e.okI = b := ⟨_, rfl⟩
  obtain ⟨b4, r4⟩ : ∃ b, f.okI = b := ⟨_, rfl⟩
  obtain ⟨b5, r5⟩ : ∃ b, nameB n = b := ⟨_, rfl⟩
  obtain ⟨b6, r6⟩ : ∃ b, n.toList.isEmpty = b := ⟨_, rfl⟩
  rw [r1, r3] at hen
  rw [r2, r4] at hfn
  rw [r5, r6] at hnn
  go_enter Try.func54, Try.ntmps54
  go_wp2_with (first | (go_at_call 73; refine (hsh.out _).mono ?_; rintro e' wn ⟨rfl, hw⟩; subst wn) | (go_at_call 55; refine (specNone _ _).mono ?_; rintro e' wn ⟨rfl, hb⟩; (replace hX := bstep hX hb); (obtain ⟨c0, c1, c2, c3, c4, c5, c6, c7, c8, c9, c10, c11⟩ := raw12 (hC.below hX (by omega))); (clear hb); (first | rw [r1] | rw [r2])) | (go_at_call 74; refine (HT.out _ _ hX (by first | exact hEE | exact hFF)).mono ?_; rintro e' wn ⟨rfl, hb⟩; (replace hX := bstep hX hb); (obtain ⟨c0, c1, c2, c3, c4, c5, c6, c7, c8, c9, c10, c11⟩ := raw12 (hC.below hX (by omega))); (clear hb); (first | rw [r3] | rw [r4])) | (go_at_call 75; refine (specName n _ hn).mono ?_; rintro e' wn ⟨rfl, hb⟩; (replace hX := bstep hX hb); (obtain ⟨c0, c1, c2, c3, c4, c5, c6, c7, c8, c9, c10, c11⟩ := raw12 (hC.below hX (by omega))); (clear hb); rw [r5]))
  all_goals
    go_returns
    refine ⟨ret_bool ?_, hB1.trans (hX.mono (by omega))⟩
    first | rfl | (simp_all; done) | (rw [Bool.eq_iff_iff]; simp_all; done) | (rw [Bool.eq_iff_iff]; simp_all; omega)
set_option maxRecDepth 10000 in
set_option maxHeartbeats 2000000 in
theorem spec_whileStmt (n : ByteArray) (e f : XT) (ab : Option Addr) (ac : Nat) (la : List SX) (bb : Option Addr) (bc : Nat) (lb : List SX) (hn : n.size ≤ 1048576) (he : e.size ≤ 1099511627776 ∧ Good e) (hf : f.size ≤ 1099511627776 ∧ Good f) (hla : la.length ≤ 1048576) (hlb : lb.length ≤ 1048576) (ok : Nat → Prop) (w : World) (hok : ∀ b, ok b → b < w.heap.size) (hL : Lies ok w e) (hF : Lies ok w f) :
    Calls Try.prog 54 #[.agg #[.int .i64 4, .string n, .int .i64 e.kind, .int .i64 e.num, .string e.name, .slice e.base e.kids.length e.cap, .int .i64 f.kind, .int .i64 f.num, .string f.name, .slice f.base f.kids.length f.cap, .slice ab la.length ac, .slice bb lb.length bc]] w fun e' w' => e' = .returned (.bool (n.toList.isEmpty && ((e.okI && noneE f) && decide (lb.length = 0)))) ∧ Below w.heap.size w w' := by
  have hsh : Hid (∀ w, Calls Try.prog 73 #[.int .i64 4] w fun e w' => e = .returned (.tuple #[.bool false, .int .i64 1, .int .i64 1]) ∧ w' = w) := fun w => specShape 4 w
  obtain ⟨W1, hW1⟩ : ∃ W1, w.alloc (.cells #[.int .i64 4, .string n, .int .i64 e.kind, .int .i64 e.num, .string e.name, .slice e.base e.kids.length e.cap, .int .i64 f.kind, .int .i64 f.num, .string f.name, .slice f.base f.kids.length f.cap, .slice ab la.length ac, .slice bb lb.length bc] 50) = W1 := ⟨_, rfl⟩
  have hs1 : w.heap.size + 1 = W1.heap.size := by rw [← hW1]; simp
  have hB1 : Below w.heap.size w W1 := by rw [← hW1]; exact (Below.refl _ w).alloc (Nat.le_refl _) _
  have hC : Cells12 W1 w.heap.size 0 (.mk 4 n e f ab ac la bb bc lb) := by rw [← hW1]; exact Cells12.new w (.mk 4 n e f ab ac la bb bc lb) _
  have hok1 : ∀ b, ok b → b < W1.heap.size := fun b hb => by have := hok b hb; omega
  have hEE : e.size ≤ 1099511627776 ∧ Good e ∧ Lies ok W1 e := ⟨he.1, he.2, hL.under hB1 hok⟩
  have hFF : f.size ≤ 1099511627776 ∧ Good f ∧ Lies ok W1 f := ⟨hf.1, hf.2, hF.under hB1 hok⟩
  have HT : Hid (∀ (t : XT) (x : World), Below W1.heap.size W1 x → (t.size ≤ 1099511627776 ∧ Good t ∧ Lies ok W1 t) → Calls Try.prog 74 #[t.val] x fun e w' => e = .returned (.bool t.okI) ∧ Below x.heap.size x w') := fun t x hx ht => by
    have h := specOk1 t ht.1 ht.2.1 ok x (fun b hb => Nat.lt_of_lt_of_le (hok1 b hb) hx.size) (ht.2.2.under hx hok1)
    rw [← XT.ok_same t ht.1] at h
    exact h
  have hen : e.okI = true → noneE e = false := okI_some he.1
  have hfn : f.okI = true → noneE f = false := okI_some hf.1
  have hnn : nameB n = true → n.toList.isEmpty = false := nameB_some
  have hX := Below.refl W1.heap.size W1
  obtain ⟨c0, c1, c2, c3, c4, c5, c6, c7, c8, c9, c10, c11⟩ := raw12 (hC.below hX (by omega))
  obtain ⟨b1, r1⟩ : ∃ b, noneE e = b := ⟨_, rfl⟩
  obtain ⟨b2, r2⟩ : ∃ b, noneE f = b := ⟨_, rfl⟩
  obtain ⟨b3, r3⟩ : ∃ b, e.okI = b := ⟨_, rfl⟩
  obtain ⟨b4, r4⟩ : ∃ b, f.okI = b := ⟨_, rfl⟩
  obtain ⟨b5, r5⟩ : ∃ b, nameB n = b := ⟨_, rfl⟩
  obtain ⟨b6, r6⟩ : ∃ b, n.toList.isEmpty = b := ⟨_, rfl⟩
  rw [r1, r3] at hen
  rw [r2, r4] at hfn
  rw [r5, r6] at hnn
  go_enter Try.func54, Try.ntmps54
  go_wp2_with (first | (go_at_call 73; refine (hsh.out _).mono ?_; rintro e' wn ⟨rfl, hw⟩; subst wn) | (go_at_call 55; refine (specNone _ _).mono ?_; rintro e' wn ⟨rfl, hb⟩; (replace hX := bstep hX hb); (obtain ⟨c0, c1, c2, c3, c4, c5, c6, c7, c8, c9, c10, c11⟩ := raw12 (hC.below hX (by omega))); (clear hb); (first | rw [r1] | rw [r2])) | (go_at_call 74; refine (HT.out _ _ hX (by first | exact hEE | exact hFF)).mono ?_; rintro e' wn ⟨rfl, hb⟩; (replace hX := bstep hX hb); (obtain ⟨c0, c1, c2, c3, c4, c5, c6, c7, c8, c9, c10, c11⟩ := raw12 (hC.below hX (by omega))); (clear hb); (first | rw [r3] | rw [r4])) | (go_at_call 75; refine (specName n _ hn).mono ?_; rintro e' wn ⟨rfl, hb⟩; (replace hX := bstep hX hb); (obtain ⟨c0, c1, c2, c3, c4, c5, c6, c7, c8, c9, c10, c11⟩ := raw12 (hC.below hX (by omega))); (clear hb); rw [r5]))
  all_goals
    go_returns
    refine ⟨ret_bool ?_, hB1.trans (hX.mono (by omega))⟩
    first | rfl | (simp_all; done) | (rw [Bool.eq_iff_iff]; simp_all; done) | (rw [Bool.eq_iff_iff]; simp_all; omega)
set_option maxRecDepth 10000 in
set_option maxHeartbeats 2000000 in
theorem spec_lockStmt (n : ByteArray) (e f : XT) (ab : Option Addr) (ac : Nat) (la : List SX) (bb : Option Addr) (bc : Nat) (lb : List SX) (hn : n.size ≤ 1048576) (he : e.size ≤ 1099511627776 ∧ Good e) (hf : f.size ≤ 1099511627776 ∧ Good f) (hla : la.length ≤ 1048576) (hlb : lb.length ≤ 1048576) (ok : Nat → Prop) (w : World) (hok : ∀ b, ok b → b < w.heap.size) (hL : Lies ok w e) (hF : Lies ok w f) :
    Calls Try.prog 54 #[.agg #[.int .i64 5, .string n, .int .i64 e.kind, .int .i64 e.num, .string e.name, .slice e.base e.kids.length e.cap, .int .i64 f.kind, .int .i64 f.num, .string f.name, .slice f.base f.kids.length f.cap, .slice ab la.length ac, .slice bb lb.length bc]] w fun e' w' => e' = .returned (.bool (nameB n && (noneE e && (noneE f && (decide (la.length = 0) && decide (lb.length = 0)))))) ∧ Below w.heap.size w w' := by
  have hsh : Hid (∀ w, Calls Try.prog 73 #[.int .i64 5] w fun e w' => e = .returned (.tuple #[.bool true, .int .i64 0, .int .i64 0]) ∧ w' = w) := fun w => specShape 5 w
  obtain ⟨W1, hW1⟩ : ∃ W1, w.alloc (.cells #[.int .i64 5, .string n, .int .i64 e.kind, .int .i64 e.num, .string e.name, .slice e.base e.kids.length e.cap, .int .i64 f.kind, .int .i64 f.num, .string f.name, .slice f.base f.kids.length f.cap, .slice ab la.length ac, .slice bb lb.length bc] 50) = W1 := ⟨_, rfl⟩
  have hs1 : w.heap.size + 1 = W1.heap.size := by rw [← hW1]; simp
  have hB1 : Below w.heap.size w W1 := by rw [← hW1]; exact (Below.refl _ w).alloc (Nat.le_refl _) _
  have hC : Cells12 W1 w.heap.size 0 (.mk 5 n e f ab ac la bb bc lb) := by rw [← hW1]; exact Cells12.new w (.mk 5 n e f ab ac la bb bc lb) _
  have hok1 : ∀ b, ok b → b < W1.heap.size := fun b hb => by have := hok b hb; omega
  have hEE : e.size ≤ 1099511627776 ∧ Good e ∧ Lies ok W1 e := ⟨he.1, he.2, hL.under hB1 hok⟩
  have hFF : f.size ≤ 1099511627776 ∧ Good f ∧ Lies ok W1 f := ⟨hf.1, hf.2, hF.under hB1 hok⟩
  have HT : Hid (∀ (t : XT) (x : World), Below W1.heap.size W1 x → (t.size ≤ 1099511627776 ∧ Good t ∧ Lies ok W1 t) → Calls Try.prog 74 #[t.val] x fun e w' => e = .returned (.bool t.okI) ∧ Below x.heap.size x w') := fun t x hx ht => by
    have h := specOk1 t ht.1 ht.2.1 ok x (fun b hb => Nat.lt_of_lt_of_le (hok1 b hb) hx.size) (ht.2.2.under hx hok1)
    rw [← XT.ok_same t ht.1] at h
    exact h
  have hen : e.okI = true → noneE e = false := okI_some he.1
  have hfn : f.okI = true → noneE f = false := okI_some hf.1
  have hnn : nameB n = true → n.toList.isEmpty = false := nameB_some
  have hX := Below.refl W1.heap.size W1
  obtain ⟨c0, c1, c2, c3, c4, c5, c6, c7, c8, c9, c10, c11⟩ := raw12 (hC.below hX (by omega))
  obtain ⟨b1, r1⟩ : ∃ b, noneE e = b := ⟨_, rfl⟩
  obtain ⟨b2, r2⟩ : ∃ b, noneE f = b := ⟨_, rfl⟩
  obtain ⟨b3, r3⟩ : ∃ b, e.okI = b := ⟨_, rfl⟩
  obtain ⟨b4, r4⟩ : ∃ b, f.okI = b := ⟨_, rfl⟩
  obtain ⟨b5, r5⟩ : ∃ b, nameB n = b := ⟨_, rfl⟩
  obtain ⟨b6, r6⟩ : ∃ b, n.toList.isEmpty = b := ⟨_, rfl⟩
  rw [r1, r3] at hen
  rw [r2, r4] at hfn
  rw [r5, r6] at hnn
  go_enter Try.func54, Try.ntmps54
  go_wp2_with (first | (go_at_call 73; refine (hsh.out _).mono ?_; rintro e' wn ⟨rfl, hw⟩; subst wn) | (go_at_call 55; refine (specNone _ _).mono ?_; rintro e' wn ⟨rfl, hb⟩; (replace hX := bstep hX hb); (obtain ⟨c0, c1, c2, c3, c4, c5, c6, c7, c8, c9, c10, c11⟩ := raw12 (hC.below hX (by omega))); (clear hb); (first | rw [r1] | rw [r2])) | (go_at_call 74; refine (HT.out _ _ hX (by first | exact hEE | exact hFF)).mono ?_; rintro e' wn ⟨rfl, hb⟩; (replace hX := bstep hX hb); (obtain ⟨c0, c1, c2, c3, c4, c5, c6, c7, c8, c9, c10, c11⟩ := raw12 (hC.below hX (by omega))); (clear hb); (first | rw [r3] | rw [r4])) | (go_at_call 75; refine (specName n _ hn).mono ?_; rintro e' wn ⟨rfl, hb⟩; (replace hX := bstep hX hb); (obtain ⟨c0, c1, c2, c3, c4, c5, c6, c7, c8, c9, c10, c11⟩ := raw12 (hC.below hX (by omega))); (clear hb); rw [r5]))
  all_goals
    go_returns
    refine ⟨ret_bool ?_, hB1.trans (hX.mono (by omega))⟩
    first | rfl | (simp_all; done) | (rw [Bool.eq_iff_iff]; simp_all; done) | (rw [Bool.eq_iff_iff]; simp_all; omega)
set_option maxRecDepth 10000 in
set_option maxHeartbeats 2000000 in
theorem spec_unlockStmt (n : ByteArray) (e f : XT) (ab : Option Addr) (ac : Nat) (la : List SX) (bb : Option Addr) (bc : Nat) (lb : List SX) (hn : n.size ≤ 1048576) (he : e.size ≤ 1099511627776 ∧ Good e) (hf : f.size ≤ 1099511627776 ∧ Good f) (hla : la.length ≤ 1048576) (hlb : lb.length ≤ 1048576) (ok : Nat → Prop) (w : World) (hok : ∀ b, ok b → b < w.heap.size) (hL : Lies ok w e) (hF : Lies ok w f) :
    Calls Try.prog 54 #[.agg #[.int .i64 6, .string n, .int .i64 e.kind, .int .i64 e.num, .string e.name, .slice e.base e.kids.length e.cap, .int .i64 f.kind, .int .i64 f.num, .string f.name, .slice f.base f.kids.length f.cap, .slice ab la.length ac, .slice bb lb.length bc]] w fun e' w' => e' = .returned (.bool (nameB n && (noneE e && (noneE f && (decide (la.length = 0) && decide (lb.length = 0)))))) ∧ Below w.heap.size w w' := by
  have hsh : Hid (∀ w, Calls Try.prog 73 #[.int .i64 6] w fun e w' => e = .returned (.tuple #[.bool true, .int .i64 0, .int .i64 0]) ∧ w' = w) := fun w => specShape 6 w
  obtain ⟨W1, hW1⟩ : ∃ W1, w.alloc (.cells #[.int .i64 6, .string n, .int .i64 e.kind, .int .i64 e.num, .string e.name, .slice e.base e.kids.length e.cap, .int .i64 f.kind, .int .i64 f.num, .string f.name, .slice f.base f.kids.length f.cap, .slice ab la.length ac, .slice bb lb.length bc] 50) = W1 := ⟨_, rfl⟩
  have hs1 : w.heap.size + 1 = W1.heap.size := by rw [← hW1]; simp
  have hB1 : Below w.heap.size w W1 := by rw [← hW1]; exact (Below.refl _ w).alloc (Nat.le_refl _) _
  have hC : Cells12 W1 w.heap.size 0 (.mk 6 n e f ab ac la bb bc lb) := by rw [← hW1]; exact Cells12.new w (.mk 6 n e f ab ac la bb bc lb) _
  have hok1 : ∀ b, ok b → b < W1.heap.size := fun b hb => by have := hok b hb; omega
  have hEE : e.size ≤ 1099511627776 ∧ Good e ∧ Lies ok W1 e := ⟨he.1, he.2, hL.under hB1 hok⟩
  have hFF : f.size ≤ 1099511627776 ∧ Good f ∧ Lies ok W1 f := ⟨hf.1, hf.2, hF.under hB1 hok⟩
  have HT : Hid (∀ (t : XT) (x : World), Below W1.heap.size W1 x → (t.size ≤ 1099511627776 ∧ Good t ∧ Lies ok W1 t) → Calls Try.prog 74 #[t.val] x fun e w' => e = .returned (.bool t.okI) ∧ Below x.heap.size x w') := fun t x hx ht => by
    have h := specOk1 t ht.1 ht.2.1 ok x (fun b hb => Nat.lt_of_lt_of_le (hok1 b hb) hx.size) (ht.2.2.under hx hok1)
    rw [← XT.ok_same t ht.1] at h
    exact h
  have hen : e.okI = true → noneE e = false := okI_some he.1
  have hfn : f.okI = true → noneE f = false := okI_some hf.1
  have hnn : nameB n = true → n.toList.isEmpty = false := nameB_some
  have hX := Below.refl W1.heap.size W1
  obtain ⟨c0, c1, c2, c3, c4, c5, c6, c7, c8, c9, c10, c11⟩ := raw12 (hC.below hX (by omega))
  obtain ⟨b1, r1⟩ : ∃ b, noneE e = b := ⟨_, rfl⟩
  obtain ⟨b2, r2⟩ : ∃ b, noneE f = b := ⟨_, rfl⟩
  obtain ⟨b3, r3⟩ : ∃ b, e.okI = b := ⟨_, rfl⟩
  obtain ⟨b4, r4⟩ : ∃ b, f.okI = b := ⟨_, rfl⟩
  obtain ⟨b5, r5⟩ : ∃ b, nameB n = b := ⟨_, rfl⟩
  obtain ⟨b6, r6⟩ : ∃ b, n.toList.isEmpty = b := ⟨_, rfl⟩
  rw [r1, r3] at hen
  rw [r2, r4] at hfn
  rw [r5, r6] at hnn
  go_enter Try.func54, Try.ntmps54
  go_wp2_with (first | (go_at_call 73; refine (hsh.out _).mono ?_; rintro e' wn ⟨rfl, hw⟩; subst wn) | (go_at_call 55; refine (specNone _ _).mono ?_; rintro e' wn ⟨rfl, hb⟩; (replace hX := bstep hX hb); (obtain ⟨c0, c1, c2, c3, c4, c5, c6, c7, c8, c9, c10, c11⟩ := raw12 (hC.below hX (by omega))); (clear hb); (first | rw [r1] | rw [r2])) | (go_at_call 74; refine (HT.out _ _ hX (by first | exact hEE | exact hFF)).mono ?_; rintro e' wn ⟨rfl, hb⟩; (replace hX := bstep hX hb); (obtain ⟨c0, c1, c2, c3, c4, c5, c6, c7, c8, c9, c10, c11⟩ := raw12 (hC.below hX (by omega))); (clear hb); (first | rw [r3] | rw [r4])) | (go_at_call 75; refine (specName n _ hn).mono ?_; rintro e' wn ⟨rfl, hb⟩; (replace hX := bstep hX hb); (obtain ⟨c0, c1, c2, c3, c4, c5, c6, c7, c8, c9, c10, c11⟩ := raw12 (hC.below hX (by omega))); (clear hb); rw [r5]))
  all_goals
    go_returns
    refine ⟨ret_bool ?_, hB1.trans (hX.mono (by omega))⟩
    first | rfl | (simp_all; done) | (rw [Bool.eq_iff_iff]; simp_all; done) | (rw [Bool.eq_iff_iff]; simp_all; omega)
set_option maxRecDepth 10000 in
set_option maxHeartbeats 2000000 in
theorem spec_sendStmt (n : ByteArray) (e f : XT) (ab : Option Addr) (ac : Nat) (la : List SX) (bb : Option Addr) (bc : Nat) (lb : List SX) (hn : n.size ≤ 1048576) (he : e.size ≤ 1099511627776 ∧ Good e) (hf : f.size ≤ 1099511627776 ∧ Good f) (hla : la.length ≤ 1048576) (hlb : lb.length ≤ 1048576) (ok : Nat → Prop) (w : World) (hok : ∀ b, ok b → b < w.heap.size) (hL : Lies ok w e) (hF : Lies ok w f) :
    Calls Try.prog 54 #[.agg #[.int .i64 7, .string n, .int .i64 e.kind, .int .i64 e.num, .string e.name, .slice e.base e.kids.length e.cap, .int .i64 f.kind, .int .i64 f.num, .string f.name, .slice f.base f.kids.length f.cap, .slice ab la.length ac, .slice bb lb.length bc]] w fun e' w' => e' = .returned (.bool (nameB n && ((e.okI && noneE f) && (decide (la.length = 0) && decide (lb.length = 0))))) ∧ Below w.heap.size w w' := by
  have hsh : Hid (∀ w, Calls Try.prog 73 #[.int .i64 7] w fun e w' => e = .returned (.tuple #[.bool true, .int .i64 1, .int .i64 0]) ∧ w' = w) := fun w => specShape 7 w
  obtain ⟨W1, hW1⟩ : ∃ W1, w.alloc (.cells #[.int .i64 7, .string n, .int .i64 e.kind, .int .i64 e.num, .string e.name, .slice e.base e.kids.length e.cap, .int .i64 f.kind, .int .i64 f.num, .string f.name, .slice f.base f.kids.length f.cap, .slice ab la.length ac, .slice bb lb.length bc] 50) = W1 := ⟨_, rfl⟩
  have hs1 : w.heap.size + 1 = W1.heap.size := by rw [← hW1]; simp
  have hB1 : Below w.heap.size w W1 := by rw [← hW1]; exact (Below.refl _ w).alloc (Nat.le_refl _) _
  have hC : Cells12 W1 w.heap.size 0 (.mk 7 n e f ab ac la bb bc lb) := by rw [← hW1]; exact Cells12.new w (.mk 7 n e f ab ac la bb bc lb) _
  have hok1 : ∀ b, ok b → b < W1.heap.size := fun b hb => by have := hok b hb; omega
  have hEE : e.size ≤ 1099511627776 ∧ Good e ∧ Lies ok W1 e := ⟨he.1, he.2, hL.under hB1 hok⟩
  have hFF : f.size ≤ 1099511627776 ∧ Good f ∧ Lies ok W1 f := ⟨hf.1, hf.2, hF.under hB1 hok⟩
  have HT : Hid (∀ (t : XT) (x : World), Below W1.heap.size W1 x → (t.size ≤ 1099511627776 ∧ Good t ∧ Lies ok W1 t) → Calls Try.prog 74 #[t.val] x fun e w' => e = .returned (.bool t.okI) ∧ Below x.heap.size x w') := fun t x hx ht => by
    have h := specOk1 t ht.1 ht.2.1 ok x (fun b hb => Nat.lt_of_lt_of_le (hok1 b hb) hx.size) (ht.2.2.under hx hok1)
    rw [← XT.ok_same t ht.1] at h
    exact h
  have hen : e.okI = true → noneE e = false := okI_some he.1
  have hfn : f.okI = true → noneE f = false := okI_some hf.1
  have hnn : nameB n = true → n.toList.isEmpty = false := nameB_some
  have hX := Below.refl W1.heap.size W1
  obtain ⟨c0, c1, c2, c3, c4, c5, c6, c7, c8, c9, c10, c11⟩ := raw12 (hC.below hX (by omega))
  obtain ⟨b1, r1⟩ : ∃ b, noneE e = b := ⟨_, rfl⟩
  obtain ⟨b2, r2⟩ : ∃ b, noneE f = b := ⟨_, rfl⟩
  obtain ⟨b3, r3⟩ : ∃ b, e.okI = b := ⟨_, rfl⟩
  obtain ⟨b4, r4⟩ : ∃ b, f.okI = b := ⟨_, rfl⟩
  obtain ⟨b5, r5⟩ : ∃ b, nameB n = b := ⟨_, rfl⟩
  obtain ⟨b6, r6⟩ : ∃ b, n.toList.isEmpty = b := ⟨_, rfl⟩
  rw [r1, r3] at hen
  rw [r2, r4] at hfn
  rw [r5, r6] at hnn
  go_enter Try.func54, Try.ntmps54
  go_wp2_with (first | (go_at_call 73; refine (hsh.out _).mono ?_; rintro e' wn ⟨rfl, hw⟩; subst wn) | (go_at_call 55; refine (specNone _ _).mono ?_; rintro e' wn ⟨rfl, hb⟩; (replace hX := bstep hX hb); (obtain ⟨c0, c1, c2, c3, c4, c5, c6, c7, c8, c9, c10, c11⟩ := raw12 (hC.below hX (by omega))); (clear hb); (first | rw [r1] | rw [r2])) | (go_at_call 74; refine (HT.out _ _ hX (by first | exact hEE | exact hFF)).mono ?_; rintro e' wn ⟨rfl, hb⟩; (replace hX := bstep hX hb); (obtain ⟨c0, c1, c2, c3, c4, c5, c6, c7, c8, c9, c10, c11⟩ := raw12 (hC.below hX (by omega))); (clear hb); (first | rw [r3] | rw [r4])) | (go_at_call 75; refine (specName n _ hn).mono ?_; rintro e' wn ⟨rfl, hb⟩; (replace hX := bstep hX hb); (obtain ⟨c0, c1, c2, c3, c4, c5, c6, c7, c8, c9, c10, c11⟩ := raw12 (hC.below hX (by omega))); (clear hb); rw [r5]))
  all_goals
    go_returns
    refine ⟨ret_bool ?_, hB1.trans (hX.mono (by omega))⟩
    first | rfl | (simp_all; done) | (rw [Bool.eq_iff_iff]; simp_all; done) | (rw [Bool.eq_iff_iff]; simp_all; omega)
theorem raw12r {W : World} {b : Nat} {k : Int} {n : ByteArray} {en : Int} {es : ByteArray} {eb : Option Addr} {ec : Nat} {kids : List XT} {f : XT} {ab : Option Addr} {ac : Nat} {la : List SX} {bb : Option Addr} {bc : Nat} {lb : List SX} (h : Cells12 W b 0 (.mk k n (.mk 2 en es eb ec kids) f ab ac la bb bc lb)) : W.cell? ⟨b, 0, none⟩ = some (.int .i64 k) ∧ W.cell? ⟨b, 1, none⟩ = some (.string n) ∧ W.cell? ⟨b, 2, none⟩ = some (.int .i64 2) ∧ W.cell? ⟨b, 3, none⟩ = some (.int .i64 en) ∧ W.cell? ⟨b, 4, none⟩ = some (.string es) ∧ W.cell? ⟨b, 5, none⟩ = some (.slice eb kids.length ec) ∧ W.cell? ⟨b, 6, none⟩ = some (.int .i64 f.kind) ∧ W.cell? ⟨b, 7, none⟩ = some (.int .i64 f.num) ∧ W.cell? ⟨b, 8, none⟩ = some (.string f.name) ∧ W.cell? ⟨b, 9, none⟩ = some (.slice f.base f.kids.length f.cap) ∧ W.cell? ⟨b, 10, none⟩ = some (.slice ab la.length ac) ∧ W.cell? ⟨b, 11, none⟩ = some (.slice bb lb.length bc) :=
  ⟨h.c0, h.c1, h.c2, h.c3, h.c4, h.c5, h.c6, h.c7, h.c8, h.c9, h.c10, h.c11⟩
set_option maxRecDepth 10000 in
set_option maxHeartbeats 2000000 in
theorem spec_recvStmt0 (n : ByteArray) (e f : XT) (ab : Option Addr) (ac : Nat) (la : List SX) (bb : Option Addr) (bc : Nat) (lb : List SX) (hne : ¬ e.kind = 2) (hn : n.size ≤ 1048576) (he : e.size ≤ 1099511627776 ∧ Good e) (hf : f.size ≤ 1099511627776 ∧ Good f) (hla : la.length ≤ 1048576) (hlb : lb.length ≤ 1048576) (ok : Nat → Prop) (w : World) (hok : ∀ b, ok b → b < w.heap.size) (hL : Lies ok w e) (hF : Lies ok w f) :
    Calls Try.prog 54 #[.agg #[.int .i64 8, .string n, .int .i64 e.kind, .int .i64 e.num, .string e.name, .slice e.base e.kids.length e.cap, .int .i64 f.kind, .int .i64 f.num, .string f.name, .slice f.base f.kids.length f.cap, .slice ab la.length ac, .slice bb lb.length bc]] w fun e' w' => e' = .returned (.bool false) ∧ Below w.heap.size w w' := by
  have hsh : Hid (∀ w, Calls Try.prog 73 #[.int .i64 8] w fun e w' => e = .returned (.tuple #[.bool true, .int .i64 0, .int .i64 0]) ∧ w' = w) := fun w => specShape 8 w
  obtain ⟨W1, hW1⟩ : ∃ W1, w.alloc (.cells #[.int .i64 8, .string n, .int .i64 e.kind, .int .i64 e.num, .string e.name, .slice e.base e.kids.length e.cap, .int .i64 f.kind, .int .i64 f.num, .string f.name, .slice f.base f.kids.length f.cap, .slice ab la.length ac, .slice bb lb.length bc] 50) = W1 := ⟨_, rfl⟩
  have hs1 : w.heap.size + 1 = W1.heap.size := by rw [← hW1]; simp
  have hB1 : Below w.heap.size w W1 := by rw [← hW1]; exact (Below.refl _ w).alloc (Nat.le_refl _) _
  have hC : Cells12 W1 w.heap.size 0 (.mk 8 n e f ab ac la bb bc lb) := by rw [← hW1]; exact Cells12.new w (.mk 8 n e f ab ac la bb bc lb) _
  have hok1 : ∀ b, ok b → b < W1.heap.size := fun b hb => by have := hok b hb; omega
  have hEE : e.size ≤ 1099511627776 ∧ Good e ∧ Lies ok W1 e := ⟨he.1, he.2, hL.under hB1 hok⟩
  have hFF : f.size ≤ 1099511627776 ∧ Good f ∧ Lies ok W1 f := ⟨hf.1, hf.2, hF.under hB1 hok⟩
  have HT : Hid (∀ (t : XT) (x : World), Below W1.heap.size W1 x → (t.size ≤ 1099511627776 ∧ Good t ∧ Lies ok W1 t) → Calls Try.prog 74 #[t.val] x fun e w' => e = .returned (.bool t.okI) ∧ Below x.heap.size x w') := fun t x hx ht => by
    have h := specOk1 t ht.1 ht.2.1 ok x (fun b hb => Nat.lt_of_lt_of_le (hok1 b hb) hx.size) (ht.2.2.under hx hok1)
    rw [← XT.ok_same t ht.1] at h
    exact h
  have hen : e.okI = true → noneE e = false := okI_some he.1
  have hfn : f.okI = true → noneE f = false := okI_some hf.1
  have hnn : nameB n = true → n.toList.isEmpty = false := nameB_some
  have hX := Below.refl W1.heap.size W1
  obtain ⟨c0, c1, c2, c3, c4, c5, c6, c7, c8, c9, c10, c11⟩ := raw12 (hC.below hX (by omega))
  obtain ⟨b1, r1⟩ : ∃ b, noneE e = b := ⟨_, rfl⟩
  obtain ⟨b2, r2⟩ : ∃ b, noneE f = b := ⟨_, rfl⟩
  obtain ⟨b3, r3⟩ : ∃ b, e.okI = b := ⟨_, rfl⟩
  obtain ⟨b4, r4⟩ : ∃ b, f.okI = b := ⟨_, rfl⟩
  obtain ⟨b5, r5⟩ : ∃ b, nameB n = b := ⟨_, rfl⟩
  obtain ⟨b6, r6⟩ : ∃ b, n.toList.isEmpty = b := ⟨_, rfl⟩
  rw [r1, r3] at hen
  rw [r2, r4] at hfn
  rw [r5, r6] at hnn
  go_enter Try.func54, Try.ntmps54
  go_wp2_with (first | (go_at_call 73; refine (hsh.out _).mono ?_; rintro e' wn ⟨rfl, hw⟩; subst wn) | (go_at_call 55; refine (specNone _ _).mono ?_; rintro e' wn ⟨rfl, hb⟩; (replace hX := bstep hX hb); (obtain ⟨c0, c1, c2, c3, c4, c5, c6, c7, c8, c9, c10, c11⟩ := raw12 (hC.below hX (by omega))); (clear hb); (first | rw [r1] | rw [r2])) | (go_at_call 74; refine (HT.out _ _ hX (by first | exact hEE | exact hFF)).mono ?_; rintro e' wn ⟨rfl, hb⟩; (replace hX := bstep hX hb); (obtain ⟨c0, c1, c2, c3, c4, c5, c6, c7, c8, c9, c10, c11⟩ := raw12 (hC.below hX (by omega))); (clear hb); (first | rw [r3] | rw [r4])) | (go_at_call 75; refine (specName n _ hn).mono ?_; rintro e' wn ⟨rfl, hb⟩; (replace hX := bstep hX hb); (obtain ⟨c0, c1, c2, c3, c4, c5, c6, c7, c8, c9, c10, c11⟩ := raw12 (hC.below hX (by omega))); (clear hb); rw [r5]))
  all_goals
    go_returns
    refine ⟨ret_bool ?_, hB1.trans (hX.mono (by omega))⟩
    first | rfl | (simp_all; done) | (rw [Bool.eq_iff_iff]; simp_all; done) | (rw [Bool.eq_iff_iff]; simp_all; omega)
set_option maxRecDepth 10000 in
set_option maxHeartbeats 2000000 in
theorem spec_recvStmt2 (n : ByteArray) (en : Int) (es : ByteArray) (eb : Option Addr) (ec : Nat) (kids : List XT) (f : XT) (ab : Option Addr) (ac : Nat) (la : List SX) (bb : Option Addr) (bc : Nat) (lb : List SX) (hn : n.size ≤ 1048576) (he : (XT.mk 2 en es eb ec kids).size ≤ 1099511627776 ∧ Good (XT.mk 2 en es eb ec kids)) (hf : f.size ≤ 1099511627776 ∧ Good f) (hla : la.length ≤ 1048576) (hlb : lb.length ≤ 1048576) (ok : Nat → Prop) (w : World) (hok : ∀ b, ok b → b < w.heap.size) (hL : Lies ok w (XT.mk 2 en es eb ec kids)) (hF : Lies ok w f) :
    Calls Try.prog 54 #[.agg #[.int .i64 8, .string n, .int .i64 2, .int .i64 en, .string es, .slice eb kids.length ec, .int .i64 f.kind, .int .i64 f.num, .string f.name, .slice f.base f.kids.length f.cap, .slice ab la.length ac, .slice bb lb.length bc]] w fun e' w' => e' = .returned (.bool (nameB n && (((XT.mk 2 en es eb ec kids).okI && noneE f) && (decide (la.length = 0) && decide (lb.length = 0))))) ∧ Below w.heap.size w w' := by
  have hsh : Hid (∀ w, Calls Try.prog 73 #[.int .i64 8] w fun e w' => e = .returned (.tuple #[.bool true, .int .i64 0, .int .i64 0]) ∧ w' = w) := fun w => specShape 8 w
  obtain ⟨W1, hW1⟩ : ∃ W1, w.alloc (.cells #[.int .i64 8, .string n, .int .i64 2, .int .i64 en, .string es, .slice eb kids.length ec, .int .i64 f.kind, .int .i64 f.num, .string f.name, .slice f.base f.kids.length f.cap, .slice ab la.length ac, .slice bb lb.length bc] 50) = W1 := ⟨_, rfl⟩
  have hs1 : w.heap.size + 1 = W1.heap.size := by rw [← hW1]; simp
  have hB1 : Below w.heap.size w W1 := by rw [← hW1]; exact (Below.refl _ w).alloc (Nat.le_refl _) _
  have hC : Cells12 W1 w.heap.size 0 (.mk 8 n (XT.mk 2 en es eb ec kids) f ab ac la bb bc lb) := by rw [← hW1]; exact Cells12.new w (.mk 8 n (XT.mk 2 en es eb ec kids) f ab ac la bb bc lb) _
  have hok1 : ∀ b, ok b → b < W1.heap.size := fun b hb => by have := hok b hb; omega
  have hEE : (XT.mk 2 en es eb ec kids).size ≤ 1099511627776 ∧ Good (XT.mk 2 en es eb ec kids) ∧ Lies ok W1 (XT.mk 2 en es eb ec kids) := ⟨he.1, he.2, hL.under hB1 hok⟩
  have hFF : f.size ≤ 1099511627776 ∧ Good f ∧ Lies ok W1 f := ⟨hf.1, hf.2, hF.under hB1 hok⟩
  have HT : Hid (∀ (t : XT) (x : World), Below W1.heap.size W1 x → (t.size ≤ 1099511627776 ∧ Good t ∧ Lies ok W1 t) → Calls Try.prog 74 #[t.val] x fun e w' => e = .returned (.bool t.okI) ∧ Below x.heap.size x w') := fun t x hx ht => by
    have h := specOk1 t ht.1 ht.2.1 ok x (fun b hb => Nat.lt_of_lt_of_le (hok1 b hb) hx.size) (ht.2.2.under hx hok1)
    rw [← XT.ok_same t ht.1] at h
    exact h
  have HTE : Hid (∀ (x : World), Below W1.heap.size W1 x → Calls Try.prog 74 #[.agg #[.int .i64 2, .int .i64 en, .string es, .slice eb kids.length ec]] x fun e w' => e = .returned (.bool (XT.mk 2 en es eb ec kids).okI) ∧ Below x.heap.size x w') := fun x hx => HT.out (XT.mk 2 en es eb ec kids) x hx hEE
  have hen : (XT.mk 2 en es eb ec kids).okI = true → noneE (XT.mk 2 en es eb ec kids) = false := okI_some he.1
  have hfn : f.okI = true → noneE f = false := okI_some hf.1
  have hnn : nameB n = true → n.toList.isEmpty = false := nameB_some
  have hX := Below.refl W1.heap.size W1
  obtain ⟨c0, c1, c2, c3, c4, c5, c6, c7, c8, c9, c10, c11⟩ := raw12r (hC.below hX (by omega))
  obtain ⟨b1, r1⟩ : ∃ b, noneE (XT.mk 2 en es eb ec kids) = b := ⟨_, rfl⟩
  obtain ⟨b2, r2⟩ : ∃ b, noneE f = b := ⟨_, rfl⟩
  obtain ⟨b3, r3⟩ : ∃ b, (XT.mk 2 en es eb ec kids).okI = b := ⟨_, rfl⟩
  obtain ⟨b4, r4⟩ : ∃ b, f.okI = b := ⟨_, rfl⟩
  obtain ⟨b5, r5⟩ : ∃ b, nameB n = b := ⟨_, rfl⟩
  obtain ⟨b6, r6⟩ : ∃ b, n.toList.isEmpty = b := ⟨_, rfl⟩
  rw [r1, r3] at hen
  rw [r2, r4] at hfn
  rw [r5, r6] at hnn
  go_enter Try.func54, Try.ntmps54
  go_wp2_with (first | (go_at_call 73; refine (hsh.out _).mono ?_; rintro e' wn ⟨rfl, hw⟩; subst wn) | (go_at_call 55; refine (specNone _ _).mono ?_; rintro e' wn ⟨rfl, hb⟩; (replace hX := bstep hX hb); (obtain ⟨c0, c1, c2, c3, c4, c5, c6, c7, c8, c9, c10, c11⟩ := raw12r (hC.below hX (by omega))); (clear hb); (first | rw [r1] | rw [r2])) | (go_at_call 74; refine (HTE.out _ hX).mono ?_; rintro e' wn ⟨rfl, hb⟩; (replace hX := bstep hX hb); (obtain ⟨c0, c1, c2, c3, c4, c5, c6, c7, c8, c9, c10, c11⟩ := raw12r (hC.below hX (by omega))); (clear hb); rw [r3]) | (go_at_call 75; refine (specName n _ hn).mono ?_; rintro e' wn ⟨rfl, hb⟩; (replace hX := bstep hX hb); (obtain ⟨c0, c1, c2, c3, c4, c5, c6, c7, c8, c9, c10, c11⟩ := raw12r (hC.below hX (by omega))); (clear hb); rw [r5]))
  all_goals
    go_returns
    refine ⟨ret_bool ?_, hB1.trans (hX.mono (by omega))⟩
    first | rfl | (simp_all; done) | (rw [Bool.eq_iff_iff]; simp_all; done) | (rw [Bool.eq_iff_iff]; simp_all; omega)
set_option maxRecDepth 10000 in
set_option maxHeartbeats 2000000 in
theorem spec_assertStmt (n : ByteArray) (e f : XT) (ab : Option Addr) (ac : Nat) (la : List SX) (bb : Option Addr) (bc : Nat) (lb : List SX) (hn : n.size ≤ 1048576) (he : e.size ≤ 1099511627776 ∧ Good e) (hf : f.size ≤ 1099511627776 ∧ Good f) (hla : la.length ≤ 1048576) (hlb : lb.length ≤ 1048576) (ok : Nat → Prop) (w : World) (hok : ∀ b, ok b → b < w.heap.size) (hL : Lies ok w e) (hF : Lies ok w f) :
    Calls Try.prog 54 #[.agg #[.int .i64 9, .string n, .int .i64 e.kind, .int .i64 e.num, .string e.name, .slice e.base e.kids.length e.cap, .int .i64 f.kind, .int .i64 f.num, .string f.name, .slice f.base f.kids.length f.cap, .slice ab la.length ac, .slice bb lb.length bc]] w fun e' w' => e' = .returned (.bool (n.toList.isEmpty && ((e.okI && noneE f) && (decide (la.length = 0) && decide (lb.length = 0))))) ∧ Below w.heap.size w w' := by
  have hsh : Hid (∀ w, Calls Try.prog 73 #[.int .i64 9] w fun e w' => e = .returned (.tuple #[.bool false, .int .i64 1, .int .i64 0]) ∧ w' = w) := fun w => specShape 9 w
  obtain ⟨W1, hW1⟩ : ∃ W1, w.alloc (.cells #[.int .i64 9, .string n, .int .i64 e.kind, .int .i64 e.num, .string e.name, .slice e.base e.kids.length e.cap, .int .i64 f.kind, .int .i64 f.num, .string f.name, .slice f.base f.kids.length f.cap, .slice ab la.length ac, .slice bb lb.length bc] 50) = W1 := ⟨_, rfl⟩
  have hs1 : w.heap.size + 1 = W1.heap.size := by rw [← hW1]; simp
  have hB1 : Below w.heap.size w W1 := by rw [← hW1]; exact (Below.refl _ w).alloc (Nat.le_refl _) _
  have hC : Cells12 W1 w.heap.size 0 (.mk 9 n e f ab ac la bb bc lb) := by rw [← hW1]; exact Cells12.new w (.mk 9 n e f ab ac la bb bc lb) _
  have hok1 : ∀ b, ok b → b < W1.heap.size := fun b hb => by have := hok b hb; omega
  have hEE : e.size ≤ 1099511627776 ∧ Good e ∧ Lies ok W1 e := ⟨he.1, he.2, hL.under hB1 hok⟩
  have hFF : f.size ≤ 1099511627776 ∧ Good f ∧ Lies ok W1 f := ⟨hf.1, hf.2, hF.under hB1 hok⟩
  have HT : Hid (∀ (t : XT) (x : World), Below W1.heap.size W1 x → (t.size ≤ 1099511627776 ∧ Good t ∧ Lies ok W1 t) → Calls Try.prog 74 #[t.val] x fun e w' => e = .returned (.bool t.okI) ∧ Below x.heap.size x w') := fun t x hx ht => by
    have h := specOk1 t ht.1 ht.2.1 ok x (fun b hb => Nat.lt_of_lt_of_le (hok1 b hb) hx.size) (ht.2.2.under hx hok1)
    rw [← XT.ok_same t ht.1] at h
    exact h
  have hen : e.okI = true → noneE e = false := okI_some he.1
  have hfn : f.okI = true → noneE f = false := okI_some hf.1
  have hnn : nameB n = true → n.toList.isEmpty = false := nameB_some
  have hX := Below.refl W1.heap.size W1
  obtain ⟨c0, c1, c2, c3, c4, c5, c6, c7, c8, c9, c10, c11⟩ := raw12 (hC.below hX (by omega))
  obtain ⟨b1, r1⟩ : ∃ b, noneE e = b := ⟨_, rfl⟩
  obtain ⟨b2, r2⟩ : ∃ b, noneE f = b := ⟨_, rfl⟩
  obtain ⟨b3, r3⟩ : ∃ b, e.okI = b := ⟨_, rfl⟩
  obtain ⟨b4, r4⟩ : ∃ b, f.okI = b := ⟨_, rfl⟩
  obtain ⟨b5, r5⟩ : ∃ b, nameB n = b := ⟨_, rfl⟩
  obtain ⟨b6, r6⟩ : ∃ b, n.toList.isEmpty = b := ⟨_, rfl⟩
  rw [r1, r3] at hen
  rw [r2, r4] at hfn
  rw [r5, r6] at hnn
  go_enter Try.func54, Try.ntmps54
  go_wp2_with (first | (go_at_call 73; refine (hsh.out _).mono ?_; rintro e' wn ⟨rfl, hw⟩; subst wn) | (go_at_call 55; refine (specNone _ _).mono ?_; rintro e' wn ⟨rfl, hb⟩; (replace hX := bstep hX hb); (obtain ⟨c0, c1, c2, c3, c4, c5, c6, c7, c8, c9, c10, c11⟩ := raw12 (hC.below hX (by omega))); (clear hb); (first | rw [r1] | rw [r2])) | (go_at_call 74; refine (HT.out _ _ hX (by first | exact hEE | exact hFF)).mono ?_; rintro e' wn ⟨rfl, hb⟩; (replace hX := bstep hX hb); (obtain ⟨c0, c1, c2, c3, c4, c5, c6, c7, c8, c9, c10, c11⟩ := raw12 (hC.below hX (by omega))); (clear hb); (first | rw [r3] | rw [r4])) | (go_at_call 75; refine (specName n _ hn).mono ?_; rintro e' wn ⟨rfl, hb⟩; (replace hX := bstep hX hb); (obtain ⟨c0, c1, c2, c3, c4, c5, c6, c7, c8, c9, c10, c11⟩ := raw12 (hC.below hX (by omega))); (clear hb); rw [r5]))
  all_goals
    go_returns
    refine ⟨ret_bool ?_, hB1.trans (hX.mono (by omega))⟩
    first | rfl | (simp_all; done) | (rw [Bool.eq_iff_iff]; simp_all; done) | (rw [Bool.eq_iff_iff]; simp_all; omega)
set_option maxRecDepth 10000 in
set_option maxHeartbeats 2000000 in
theorem spec_showStmt (n : ByteArray) (e f : XT) (ab : Option Addr) (ac : Nat) (la : List SX) (bb : Option Addr) (bc : Nat) (lb : List SX) (hn : n.size ≤ 1048576) (he : e.size ≤ 1099511627776 ∧ Good e) (hf : f.size ≤ 1099511627776 ∧ Good f) (hla : la.length ≤ 1048576) (hlb : lb.length ≤ 1048576) (ok : Nat → Prop) (w : World) (hok : ∀ b, ok b → b < w.heap.size) (hL : Lies ok w e) (hF : Lies ok w f) :
    Calls Try.prog 54 #[.agg #[.int .i64 10, .string n, .int .i64 e.kind, .int .i64 e.num, .string e.name, .slice e.base e.kids.length e.cap, .int .i64 f.kind, .int .i64 f.num, .string f.name, .slice f.base f.kids.length f.cap, .slice ab la.length ac, .slice bb lb.length bc]] w fun e' w' => e' = .returned (.bool (n.toList.isEmpty && ((e.okI && noneE f) && (decide (la.length = 0) && decide (lb.length = 0))))) ∧ Below w.heap.size w w' := by
  have hsh : Hid (∀ w, Calls Try.prog 73 #[.int .i64 10] w fun e w' => e = .returned (.tuple #[.bool false, .int .i64 1, .int .i64 0]) ∧ w' = w) := fun w => specShape 10 w
  obtain ⟨W1, hW1⟩ : ∃ W1, w.alloc (.cells #[.int .i64 10, .string n, .int .i64 e.kind, .int .i64 e.num, .string e.name, .slice e.base e.kids.length e.cap, .int .i64 f.kind, .int .i64 f.num, .string f.name, .slice f.base f.kids.length f.cap, .slice ab la.length ac, .slice bb lb.length bc] 50) = W1 := ⟨_, rfl⟩
  have hs1 : w.heap.size + 1 = W1.heap.size := by rw [← hW1]; simp
  have hB1 : Below w.heap.size w W1 := by rw [← hW1]; exact (Below.refl _ w).alloc (Nat.le_refl _) _
  have hC : Cells12 W1 w.heap.size 0 (.mk 10 n e f ab ac la bb bc lb) := by rw [← hW1]; exact Cells12.new w (.mk 10 n e f ab ac la bb bc lb) _
  have hok1 : ∀ b, ok b → b < W1.heap.size := fun b hb => by have := hok b hb; omega
  have hEE : e.size ≤ 1099511627776 ∧ Good e ∧ Lies ok W1 e := ⟨he.1, he.2, hL.under hB1 hok⟩
  have hFF : f.size ≤ 1099511627776 ∧ Good f ∧ Lies ok W1 f := ⟨hf.1, hf.2, hF.under hB1 hok⟩
  have HT : Hid (∀ (t : XT) (x : World), Below W1.heap.size W1 x → (t.size ≤ 1099511627776 ∧ Good t ∧ Lies ok W1 t) → Calls Try.prog 74 #[t.val] x fun e w' => e = .returned (.bool t.okI) ∧ Below x.heap.size x w') := fun t x hx ht => by
    have h := specOk1 t ht.1 ht.2.1 ok x (fun b hb => Nat.lt_of_lt_of_le (hok1 b hb) hx.size) (ht.2.2.under hx hok1)
    rw [← XT.ok_same t ht.1] at h
    exact h
  have hen : e.okI = true → noneE e = false := okI_some he.1
  have hfn : f.okI = true → noneE f = false := okI_some hf.1
  have hnn : nameB n = true → n.toList.isEmpty = false := nameB_some
  have hX := Below.refl W1.heap.size W1
  obtain ⟨c0, c1, c2, c3, c4, c5, c6, c7, c8, c9, c10, c11⟩ := raw12 (hC.below hX (by omega))
  obtain ⟨b1, r1⟩ : ∃ b, noneE e = b := ⟨_, rfl⟩
  obtain ⟨b2, r2⟩ : ∃ b, noneE f = b := ⟨_, rfl⟩
  obtain ⟨b3, r3⟩ : ∃ b, e.okI = b := ⟨_, rfl⟩
  obtain ⟨b4, r4⟩ : ∃ b, f.okI = b := ⟨_, rfl⟩
  obtain ⟨b5, r5⟩ : ∃ b, nameB n = b := ⟨_, rfl⟩
  obtain ⟨b6, r6⟩ : ∃ b, n.toList.isEmpty = b := ⟨_, rfl⟩
  rw [r1, r3] at hen
  rw [r2, r4] at hfn
  rw [r5, r6] at hnn
  go_enter Try.func54, Try.ntmps54
  go_wp2_with (first | (go_at_call 73; refine (hsh.out _).mono ?_; rintro e' wn ⟨rfl, hw⟩; subst wn) | (go_at_call 55; refine (specNone _ _).mono ?_; rintro e' wn ⟨rfl, hb⟩; (replace hX := bstep hX hb); (obtain ⟨c0, c1, c2, c3, c4, c5, c6, c7, c8, c9, c10, c11⟩ := raw12 (hC.below hX (by omega))); (clear hb); (first | rw [r1] | rw [r2])) | (go_at_call 74; refine (HT.out _ _ hX (by first | exact hEE | exact hFF)).mono ?_; rintro e' wn ⟨rfl, hb⟩; (replace hX := bstep hX hb); (obtain ⟨c0, c1, c2, c3, c4, c5, c6, c7, c8, c9, c10, c11⟩ := raw12 (hC.below hX (by omega))); (clear hb); (first | rw [r3] | rw [r4])) | (go_at_call 75; refine (specName n _ hn).mono ?_; rintro e' wn ⟨rfl, hb⟩; (replace hX := bstep hX hb); (obtain ⟨c0, c1, c2, c3, c4, c5, c6, c7, c8, c9, c10, c11⟩ := raw12 (hC.below hX (by omega))); (clear hb); rw [r5]))
  all_goals
    go_returns
    refine ⟨ret_bool ?_, hB1.trans (hX.mono (by omega))⟩
    first | rfl | (simp_all; done) | (rw [Bool.eq_iff_iff]; simp_all; done) | (rw [Bool.eq_iff_iff]; simp_all; omega)
set_option maxRecDepth 10000 in
set_option maxHeartbeats 2000000 in
theorem spec_noStmt (k : Int) (hk : shN k = false ∧ shE k = -1 ∧ shL k = 0) (n : ByteArray) (e f : XT) (ab : Option Addr) (ac : Nat) (la : List SX) (bb : Option Addr) (bc : Nat) (lb : List SX) (hn : n.size ≤ 1048576) (he : e.size ≤ 1099511627776 ∧ Good e) (hf : f.size ≤ 1099511627776 ∧ Good f) (hla : la.length ≤ 1048576) (hlb : lb.length ≤ 1048576) (ok : Nat → Prop) (w : World) (hok : ∀ b, ok b → b < w.heap.size) (hL : Lies ok w e) (hF : Lies ok w f) :
    Calls Try.prog 54 #[.agg #[.int .i64 k, .string n, .int .i64 e.kind, .int .i64 e.num, .string e.name, .slice e.base e.kids.length e.cap, .int .i64 f.kind, .int .i64 f.num, .string f.name, .slice f.base f.kids.length f.cap, .slice ab la.length ac, .slice bb lb.length bc]] w fun e' w' => e' = .returned (.bool false) ∧ Below w.heap.size w w' := by
  have hsh : Hid (∀ w, Calls Try.prog 73 #[.int .i64 k] w fun e w' => e = .returned (.tuple #[.bool false, .int .i64 (-1), .int .i64 0]) ∧ w' = w) := fun w => by have h := specShape k w; rw [hk.1, hk.2.1, hk.2.2] at h; exact h
  obtain ⟨W1, hW1⟩ : ∃ W1, w.alloc (.cells #[.int .i64 k, .string n, .int .i64 e.kind, .int .i64 e.num, .string e.name, .slice e.base e.kids.length e.cap, .int .i64 f.kind, .int .i64 f.num, .string f.name, .slice f.base f.kids.length f.cap, .slice ab la.length ac, .slice bb lb.length bc] 50) = W1 := ⟨_, rfl⟩
  have hs1 : w.heap.size + 1 = W1.heap.size := by rw [← hW1]; simp
  have hB1 : Below w.heap.size w W1 := by rw [← hW1]; exact (Below.refl _ w).alloc (Nat.le_refl _) _
  have hC : Cells12 W1 w.heap.size 0 (.mk k n e f ab ac la bb bc lb) := by rw [← hW1]; exact Cells12.new w (.mk k n e f ab ac la bb bc lb) _
  have hok1 : ∀ b, ok b → b < W1.heap.size := fun b hb => by have := hok b hb; omega
  have hEE : e.size ≤ 1099511627776 ∧ Good e ∧ Lies ok W1 e := ⟨he.1, he.2, hL.under hB1 hok⟩
  have hFF : f.size ≤ 1099511627776 ∧ Good f ∧ Lies ok W1 f := ⟨hf.1, hf.2, hF.under hB1 hok⟩
  have HT : Hid (∀ (t : XT) (x : World), Below W1.heap.size W1 x → (t.size ≤ 1099511627776 ∧ Good t ∧ Lies ok W1 t) → Calls Try.prog 74 #[t.val] x fun e w' => e = .returned (.bool t.okI) ∧ Below x.heap.size x w') := fun t x hx ht => by
    have h := specOk1 t ht.1 ht.2.1 ok x (fun b hb => Nat.lt_of_lt_of_le (hok1 b hb) hx.size) (ht.2.2.under hx hok1)
    rw [← XT.ok_same t ht.1] at h
    exact h
  have hen : e.okI = true → noneE e = false := okI_some he.1
  have hfn : f.okI = true → noneE f = false := okI_some hf.1
  have hnn : nameB n = true → n.toList.isEmpty = false := nameB_some
  have hX := Below.refl W1.heap.size W1
  obtain ⟨c0, c1, c2, c3, c4, c5, c6, c7, c8, c9, c10, c11⟩ := raw12 (hC.below hX (by omega))
  obtain ⟨b1, r1⟩ : ∃ b, noneE e = b := ⟨_, rfl⟩
  obtain ⟨b2, r2⟩ : ∃ b, noneE f = b := ⟨_, rfl⟩
  obtain ⟨b3, r3⟩ : ∃ b, e.okI = b := ⟨_, rfl⟩
  obtain ⟨b4, r4⟩ : ∃ b, f.okI = b := ⟨_, rfl⟩
  obtain ⟨b5, r5⟩ : ∃ b, nameB n = b := ⟨_, rfl⟩
  obtain ⟨b6, r6⟩ : ∃ b, n.toList.isEmpty = b := ⟨_, rfl⟩
  rw [r1, r3] at hen
  rw [r2, r4] at hfn
  rw [r5, r6] at hnn
  go_enter Try.func54, Try.ntmps54
  go_wp2_with (first | (go_at_call 73; refine (hsh.out _).mono ?_; rintro e' wn ⟨rfl, hw⟩; subst wn) | (go_at_call 55; refine (specNone _ _).mono ?_; rintro e' wn ⟨rfl, hb⟩; (replace hX := bstep hX hb); (obtain ⟨c0, c1, c2, c3, c4, c5, c6, c7, c8, c9, c10, c11⟩ := raw12 (hC.below hX (by omega))); (clear hb); (first | rw [r1] | rw [r2])) | (go_at_call 74; refine (HT.out _ _ hX (by first | exact hEE | exact hFF)).mono ?_; rintro e' wn ⟨rfl, hb⟩; (replace hX := bstep hX hb); (obtain ⟨c0, c1, c2, c3, c4, c5, c6, c7, c8, c9, c10, c11⟩ := raw12 (hC.below hX (by omega))); (clear hb); (first | rw [r3] | rw [r4])) | (go_at_call 75; refine (specName n _ hn).mono ?_; rintro e' wn ⟨rfl, hb⟩; (replace hX := bstep hX hb); (obtain ⟨c0, c1, c2, c3, c4, c5, c6, c7, c8, c9, c10, c11⟩ := raw12 (hC.below hX (by omega))); (clear hb); rw [r5]))
  all_goals
    go_returns
    refine ⟨ret_bool ?_, hB1.trans (hX.mono (by omega))⟩
    first | rfl | (simp_all; done) | (rw [Bool.eq_iff_iff]; simp_all; done) | (rw [Bool.eq_iff_iff]; simp_all; omega)
/-- The specification answers of a statement what the program answers. -/
theorem SX.specStmt (s : SX) (hm : SmallS s) (ok : Nat → Prop) (w : World) (hok : ∀ b, ok b → b < w.heap.size) (hL : LiesS ok w s) :
    Calls Try.prog 54 #[s.val] w fun e w' => e = .returned (.bool s.fitB) ∧ Below w.heap.size w w' := by
  obtain ⟨m1, m2, m3, m4, -, -⟩ := hm.parts
  obtain ⟨l1, l2, -⟩ := hL.parts
  obtain ⟨k, n, e, f, ab, ac, la, bb, bc, lb⟩ := s
  by_cases h0 : k = 1
  · subst h0
    exact spec_setStmt n e f ab ac la bb bc lb m1 ⟨by have := m2.1; simp only [SX.e] at this; omega, m2.2⟩ ⟨by have := m3.1; simp only [SX.f] at this; omega, m3.2⟩ m4.1 m4.2 ok w hok l1 l2
  by_cases h1 : k = 2
  · subst h1
    exact spec_putStmt n e f ab ac la bb bc lb m1 ⟨by have := m2.1; simp only [SX.e] at this; omega, m2.2⟩ ⟨by have := m3.1; simp only [SX.f] at this; omega, m3.2⟩ m4.1 m4.2 ok w hok l1 l2
  by_cases h2 : k = 3
  · subst h2
    exact spec_ifStmt n e f ab ac la bb bc lb m1 ⟨by have := m2.1; simp only [SX.e] at this; omega, m2.2⟩ ⟨by have := m3.1; simp only [SX.f] at this; omega, m3.2⟩ m4.1 m4.2 ok w hok l1 l2
  by_cases h3 : k = 4
  · subst h3
    exact spec_whileStmt n e f ab ac la bb bc lb m1 ⟨by have := m2.1; simp only [SX.e] at this; omega, m2.2⟩ ⟨by have := m3.1; simp only [SX.f] at this; omega, m3.2⟩ m4.1 m4.2 ok w hok l1 l2
  by_cases h4 : k = 5
  · subst h4
    exact spec_lockStmt n e f ab ac la bb bc lb m1 ⟨by have := m2.1; simp only [SX.e] at this; omega, m2.2⟩ ⟨by have := m3.1; simp only [SX.f] at this; omega, m3.2⟩ m4.1 m4.2 ok w hok l1 l2
  by_cases h5 : k = 6
  · subst h5
    exact spec_unlockStmt n e f ab ac la bb bc lb m1 ⟨by have := m2.1; simp only [SX.e] at this; omega, m2.2⟩ ⟨by have := m3.1; simp only [SX.f] at this; omega, m3.2⟩ m4.1 m4.2 ok w hok l1 l2
  by_cases h6 : k = 7
  · subst h6
    exact spec_sendStmt n e f ab ac la bb bc lb m1 ⟨by have := m2.1; simp only [SX.e] at this; omega, m2.2⟩ ⟨by have := m3.1; simp only [SX.f] at this; omega, m3.2⟩ m4.1 m4.2 ok w hok l1 l2
  by_cases h7 : k = 8
  · subst h7
    by_cases h2 : e.kind = 2
    · obtain ⟨ek, en, es, eb, ec, kids⟩ := e
      simp only [XT.kind] at h2
      subst h2
      exact spec_recvStmt2 n en es eb ec kids f ab ac la bb bc lb m1 ⟨by have := m2.1; simp only [SX.e] at this; omega, m2.2⟩ ⟨by have := m3.1; simp only [SX.f] at this; omega, m3.2⟩ m4.1 m4.2 ok w hok l1 l2
    · have hF : (SX.mk 8 n e f ab ac la bb bc lb).fitB = false := by unfold SX.fitB; simp [SX.kind, SX.e, h2]
      rw [hF]
      exact spec_recvStmt0 n e f ab ac la bb bc lb h2 m1 ⟨by have := m2.1; simp only [SX.e] at this; omega, m2.2⟩ ⟨by have := m3.1; simp only [SX.f] at this; omega, m3.2⟩ m4.1 m4.2 ok w hok l1 l2
  by_cases h8 : k = 9
  · subst h8
    exact spec_assertStmt n e f ab ac la bb bc lb m1 ⟨by have := m2.1; simp only [SX.e] at this; omega, m2.2⟩ ⟨by have := m3.1; simp only [SX.f] at this; omega, m3.2⟩ m4.1 m4.2 ok w hok l1 l2
  by_cases h9 : k = 10
  · subst h9
    exact spec_showStmt n e f ab ac la bb bc lb m1 ⟨by have := m2.1; simp only [SX.e] at this; omega, m2.2⟩ ⟨by have := m3.1; simp only [SX.f] at this; omega, m3.2⟩ m4.1 m4.2 ok w hok l1 l2
  have hF : (SX.mk k n e f ab ac la bb bc lb).fitB = false := by unfold SX.fitB; simp [SX.kind, h0, h1, h2, h3, h4, h5, h6, h7, h8, h9]
  rw [hF]
  exact spec_noStmt k ⟨by simp [shN, h0, h1, h2, h3, h4, h5, h6, h7, h8, h9], by simp [shE, h0, h1, h2, h3, h4, h5, h6, h7, h8, h9], by simp [shL, h0, h1, h2, h3, h4, h5, h6, h7, h8, h9]⟩ n e f ab ac la bb bc lb m1 ⟨by have := m2.1; simp only [SX.e] at this; omega, m2.2⟩ ⟨by have := m3.1; simp only [SX.f] at this; omega, m3.2⟩ m4.1 m4.2 ok w hok l1 l2
end Go.Proofs.Ytimfdfeleoaehaa
