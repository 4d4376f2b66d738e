/-
  What the specification answers of one statement, but for those within it.
  What the specification answers of a list of statements.
  The specification counts and judges a list of statements as the program does a task.
  What the specification answers of a program: what the program answers.
-/
import Derived.Test.YtaajdoipjalgmaaGreatDoorOkG
import Derived.Test.YtaajdoipjalgmaaGreatDoorTreeI
import Derived.Test.YtaajdoipjalgmaaGreatDoorOkI
import Derived.Test.YtaajdoipjalgmaaGreatDoorOkJ
import Derived.Test.YtaajdoipjalgmaaGreatDoorOkK
namespace Go.Proofs.YtaajdoipjalgmaaGreatDoor
open Go.RowKit Go.Shelf
set_option linter.unusedSimpArgs false
set_option linter.unusedVariables false
attribute [local go_sem] Oper.semAt_some

set_option maxHeartbeats 2000000 in
theorem specNone0 (k n : Int) (s : ByteArray) (a : Option Addr) (len c : Nat) (w : World) :
    Calls Tryz.prog 157 #[.agg #[.int .i64 k, .int .i64 n, .string s, .slice a len c]] w fun e w' => e = .returned (.bool ((k == 0) && ((n == 0) && (s.toList.isEmpty && decide (len = 0))))) ∧ Below w.heap.size w w' := by
  have hB : ∀ o, Below w.heap.size w (w.alloc o) := fun o => (Below.refl _ w).alloc (Nat.le_refl _) o
  go_enter Tryz.func157, Tryz.ntmps157
  go_wp2_with fail
  all_goals
    go_returns
    refine ⟨ret_bool ?_, hB _⟩
    first | rfl | (simp_all; done) | (rw [Bool.eq_iff_iff]; simp_all; done) | (rw [Bool.eq_iff_iff]; simp_all; omega)
theorem specNone (t : XT) (w : World) :
    Calls Tryz.prog 157 #[t.val] w fun e w' => e = .returned (.bool (noneE t)) ∧ Below w.heap.size w w' := specNone0 _ _ _ _ _ _ _
def shN (k : Int) : Bool := k == 1 || k == 2 || k == 5 || k == 6 || k == 7 || k == 8
def shE (k : Int) : Int := if k = 2 then 2 else if k = 1 ∨ k = 3 ∨ k = 4 ∨ k = 7 ∨ k = 9 ∨ k = 10 then 1 else if k = 5 ∨ k = 6 ∨ k = 8 then 0 else -1
def shL (k : Int) : Int := if k = 3 then 2 else if k = 4 then 1 else 0
set_option maxHeartbeats 2000000 in
theorem specShape (k : Int) (w : World) :
    Calls Tryz.prog 156 #[.int .i64 k] w fun e w' => e = .returned (.tuple #[.bool (shN k), .int .i64 (shE k), .int .i64 (shL k)]) ∧ w' = w := by
  go_enter Tryz.func156, Tryz.ntmps156
  go_wp2_with fail
  all_goals
    go_returns
    refine ⟨?_, rfl⟩
    unfold shN shE shL
    simp_all
    try omega
theorem raw12 {W : World} {b : Nat} {k : Int} {n : ByteArray} {e f : XT} {ab : Option Addr} {ac : Nat} {la : List SX} {bb : Option Addr} {bc : Nat} {lb : List SX} (h : Cells12 W b 0 (.mk k n e f ab ac la bb bc lb)) : W.cell? ⟨b, 0, none⟩ = some (.int .i64 k) ∧ W.cell? ⟨b, 1, none⟩ = some (.string n) ∧ W.cell? ⟨b, 2, none⟩ = some (.int .i64 e.kind) ∧ W.cell? ⟨b, 3, none⟩ = some (.int .i64 e.num) ∧ W.cell? ⟨b, 4, none⟩ = some (.string e.name) ∧ W.cell? ⟨b, 5, none⟩ = some (.slice e.base e.kids.length e.cap) ∧ W.cell? ⟨b, 6, none⟩ = some (.int .i64 f.kind) ∧ W.cell? ⟨b, 7, none⟩ = some (.int .i64 f.num) ∧ W.cell? ⟨b, 8, none⟩ = some (.string f.name) ∧ W.cell? ⟨b, 9, none⟩ = some (.slice f.base f.kids.length f.cap) ∧ W.cell? ⟨b, 10, none⟩ = some (.slice ab la.length ac) ∧ W.cell? ⟨b, 11, none⟩ = some (.slice bb lb.length bc) :=
  ⟨h.c0, h.c1, h.c2, h.c3, h.c4, h.c5, h.c6, h.c7, h.c8, h.c9, h.c10, h.c11⟩
theorem okI_some {t : XT} (h : t.size ≤ 1099511627776) (ho : t.okI = true) : noneE t = false := by
  rw [XT.ok_same t h] at ho
  have h1 : t.specR.2.2 = true := by simp only [Bool.and_eq_true] at ho; exact ho.1
  cases hz : noneE t with
  | false => rfl
  | true =>
    exfalso
    obtain ⟨k, n, s, a, c, ks⟩ := t
    simp only [noneE, XT.kind, XT.num, XT.name, XT.kids, Bool.and_eq_true, beq_iff_eq, decide_eq_true_eq] at hz
    obtain ⟨hk, hn, hs, hl⟩ := hz
    have hks : ks = [] := List.length_eq_zero_iff.1 (of_decide_eq_true hl)
    subst hks
    subst hk
    subst hn
    simp only [XT.specR, XT.specL] at h1
    simp [fitS, kidsN, hs] at h1
theorem nameB_some {s : ByteArray} (h : nameB s = true) : s.toList.isEmpty = false := by
  cases hz : s.toList.isEmpty with
  | false => rfl
  | true =>
    exfalso
    rw [ByteArray.toList_eq, List.isEmpty_iff, ← List.length_eq_zero_iff] at hz
    have h0 : s.size = 0 := hz
    simp [nameB, h0] at h
set_option maxRecDepth 10000 in
set_option maxHeartbeats 2000000 in
theorem spec_setStmt (n : ByteArray) (e f : XT) (ab : Option Addr) (ac : Nat) (la : List SX) (bb : Option Addr) (bc : Nat) (lb : List SX) (hn : n.size ≤ 1048576) (he : e.size ≤ 1099511627776 ∧ Good e) (hf : f.size ≤ 1099511627776 ∧ Good f) (hla : la.length ≤ 1048576) (hlb : lb.length ≤ 1048576) (ok : Nat → Prop) (w : World) (hok : ∀ b, ok b → b < w.heap.size) (hL : Lies ok w e) (hF : Lies ok w f) :
    Calls Tryz.prog 119 #[.agg #[.int .i64 1, .string n, .int .i64 e.kind, .int .i64 e.num, .string e.name, .slice e.base e.kids.length e.cap, .int .i64 f.kind, .int .i64 f.num, .string f.name, .slice f.base f.kids.length f.cap, .slice ab la.length ac, .slice bb lb.length bc]] w fun e' w' => e' = .returned (.bool (nameB n && ((e.okI && noneE f) && (decide (la.length = 0) && decide (lb.length = 0))))) ∧ Below w.heap.size w w' := by
  have hsh : Hid (∀ w, Calls Tryz.prog 156 #[.int .i64 1] w fun e w' => e = .returned (.tuple #[.bool true, .int .i64 1, .int .i64 0]) ∧ w' = w) := fun w => specShape 1 w
  obtain ⟨W1, hW1⟩ : ∃ W1, w.alloc (.cells #[.int .i64 1, .string n, .int .i64 e.kind, .int .i64 e.num, .string e.name, .slice e.base e.kids.length e.cap, .int .i64 f.kind, .int .i64 f.num, .string f.name, .slice f.base f.kids.length f.cap, .slice ab la.length ac, .slice bb lb.length bc] 125) = W1 := ⟨_, rfl⟩
  have hs1 : w.heap.size + 1 = W1.heap.size := by rw [← hW1]; simp
  have hB1 : Below w.heap.size w W1 := by rw [← hW1]; exact (Below.refl _ w).alloc (Nat.le_refl _) _
  have hC : Cells12 W1 w.heap.size 0 (.mk 1 n e f ab ac la bb bc lb) := by rw [← hW1]; exact Cells12.new w (.mk 1 n e f ab ac la bb bc lb) _
  have hok1 : ∀ b, ok b → b < W1.heap.size := fun b hb => by have := hok b hb; omega
  have hEE : e.size ≤ 1099511627776 ∧ Good e ∧ Lies ok W1 e := ⟨he.1, he.2, hL.under hB1 hok⟩
  have hFF : f.size ≤ 1099511627776 ∧ Good f ∧ Lies ok W1 f := ⟨hf.1, hf.2, hF.under hB1 hok⟩
  have HT : Hid (∀ (t : XT) (x : World), Below W1.heap.size W1 x → (t.size ≤ 1099511627776 ∧ Good t ∧ Lies ok W1 t) → Calls Tryz.prog 158 #[t.val] x fun e w' => e = .returned (.bool t.okI) ∧ Below x.heap.size x w') := fun t x hx ht => by
    have h := specOk1 t ht.1 ht.2.1 ok x (fun b hb => Nat.lt_of_lt_of_le (hok1 b hb) hx.size) (ht.2.2.under hx hok1)
    rw [← XT.ok_same t ht.1] at h
    exact h
  have hen : e.okI = true → noneE e = false := okI_some he.1
  have hfn : f.okI = true → noneE f = false := okI_some hf.1
  have hnn : nameB n = true → n.toList.isEmpty = false := nameB_some
  have hX := Below.refl W1.heap.size W1
  obtain ⟨c0, c1, c2, c3, c4, c5, c6, c7, c8, c9, c10, c11⟩ := raw12 (hC.below hX (by omega))
  obtain ⟨b1, r1⟩ : ∃ b, noneE e = b := ⟨_, rfl⟩
  obtain ⟨b2, r2⟩ : ∃ b, noneE f = b := ⟨_, rfl⟩
  obtain ⟨b3, r3⟩ : ∃ b, e.okI = b := ⟨_, rfl⟩
  obtain ⟨b4, r4⟩ : ∃ b, f.okI = b := ⟨_, rfl⟩
  obtain ⟨b5, r5⟩ : ∃ b, nameB n = b := ⟨_, rfl⟩
  obtain ⟨b6, r6⟩ : ∃ b, n.toList.isEmpty = b := ⟨_, rfl⟩
  rw [r1, r3] at hen
  rw [r2, r4] at hfn
  rw [r5, r6] at hnn
  go_enter Tryz.func119, Tryz.ntmps119
  go_wp2_with (first | (go_at_call 156; refine (hsh.out _).mono ?_; rintro e' wn ⟨rfl, hw⟩; subst wn) | (go_at_call 157; refine (specNone _ _).mono ?_; rintro e' wn ⟨rfl, hb⟩; (replace hX := bstep hX hb); (obtain ⟨c0, c1, c2, c3, c4, c5, c6, c7, c8, c9, c10, c11⟩ := raw12 (hC.below hX (by omega))); (clear hb); (first | rw [r1] | rw [r2])) | (go_at_call 158; refine (HT.out _ _ hX (by first | exact hEE | exact hFF)).mono ?_; rintro e' wn ⟨rfl, hb⟩; (replace hX := bstep hX hb); (obtain ⟨c0, c1, c2, c3, c4, c5, c6, c7, c8, c9, c10, c11⟩ := raw12 (hC.below hX (by omega))); (clear hb); (first | rw [r3] | rw [r4])) | (go_at_call 116; refine (specName n _ hn).mono ?_; rintro e' wn ⟨rfl, hb⟩; (replace hX := bstep hX hb); (obtain ⟨c0, c1, c2, c3, c4, c5, c6, c7, c8, c9, c10, c11⟩ := raw12 (hC.below hX (by omega))); (clear hb); rw [r5]))
  all_goals
    go_returns
    refine ⟨ret_bool ?_, hB1.trans (hX.mono (by omega))⟩
    first | rfl | (simp_all; done) | (rw [Bool.eq_iff_iff]; simp_all; done) | (rw [Bool.eq_iff_iff]; simp_all; omega)
set_option maxRecDepth 10000 in
set_option maxHeartbeats 2000000 in
theorem spec_putStmt (n : ByteArray) (e f : XT) (ab : Option Addr) (ac : Nat) (la : List SX) (bb : Option Addr) (bc : Nat) (lb : List SX) (hn : n.size ≤ 1048576) (he : e.size ≤ 1099511627776 ∧ Good e) (hf : f.size ≤ 1099511627776 ∧ Good f) (hla : la.length ≤ 1048576) (hlb : lb.length ≤ 1048576) (ok : Nat → Prop) (w : World) (hok : ∀ b, ok b → b < w.heap.size) (hL : Lies ok w e) (hF : Lies ok w f) :
    Calls Tryz.prog 119 #[.agg #[.int .i64 2, .string n, .int .i64 e.kind, .int .i64 e.num, .string e.name, .slice e.base e.kids.length e.cap, .int .i64 f.kind, .int .i64 f.num, .string f.name, .slice f.base f.kids.length f.cap, .slice ab la.length ac, .slice bb lb.length bc]] w fun e' w' => e' = .returned (.bool (nameB n && (e.okI && (f.okI && (decide (la.length = 0) && decide (lb.length = 0)))))) ∧ Below w.heap.size w w' := by
  have hsh : Hid (∀ w, Calls Tryz.prog 156 #[.int .i64 2] w fun e w' => e = .returned (.tuple #[.bool true, .int .i64 2, .int .i64 0]) ∧ w' = w) := fun w => specShape 2 w
  obtain ⟨W1, hW1⟩ : ∃ W1, w.alloc (.cells #[.int .i64 2, .string n, .int .i64 e.kind, .int .i64 e.num, .string e.name, .slice e.base e.kids.length e.cap, .int .i64 f.kind, .int .i64 f.num, .string f.name, .slice f.base f.kids.length f.cap, .slice ab la.length ac, .slice bb lb.length bc] 125) = W1 := ⟨_, rfl⟩
  have hs1 : w.heap.size + 1 = W1.heap.size := by rw [← hW1]; simp
  have hB1 : Below w.heap.size w W1 := by rw [← hW1]; exact (Below.refl _ w).alloc (Nat.le_refl _) _
  have hC : Cells12 W1 w.heap.size 0 (.mk 2 n e f ab ac la bb bc lb) := by rw [← hW1]; exact Cells12.new w (.mk 2 n e f ab ac la bb bc lb) _
  have hok1 : ∀ b, ok b → b < W1.heap.size := fun b hb => by have := hok b hb; omega
  have hEE : e.size ≤ 1099511627776 ∧ Good e ∧ Lies ok W1 e := ⟨he.1, he.2, hL.under hB1 hok⟩
  have hFF : f.size ≤ 1099511627776 ∧ Good f ∧ Lies ok W1 f := ⟨hf.1, hf.2, hF.under hB1 hok⟩
  have HT : Hid (∀ (t : XT) (x : World), Below W1.heap.size W1 x → (t.size ≤ 1099511627776 ∧ Good t ∧ Lies ok W1 t) → Calls Tryz.prog 158 #[t.val] x fun e w' => e = .returned (.bool t.okI) ∧ Below x.heap.size x w') := fun t x hx ht => by
    have h := specOk1 t ht.1 ht.2.1 ok x (fun b hb => Nat.lt_of_lt_of_le (hok1 b hb) hx.size) (ht.2.2.under hx hok1)
    rw [← XT.ok_same t ht.1] at h
    exact h
  have hen : e.okI = true → noneE e = false := okI_some he.1
  have hfn : f.okI = true → noneE f = false := okI_some hf.1
  have hnn : nameB n = true → n.toList.isEmpty = false := nameB_some
  have hX := Below.refl W1.heap.size W1
  obtain ⟨c0, c1, c2, c3, c4, c5, c6, c7, c8, c9, c10, c11⟩ := raw12 (hC.below hX (by omega))
  obtain ⟨b1, r1⟩ : ∃ b, noneE e = b := ⟨_, rfl⟩
  obtain ⟨b2, r2⟩ : ∃ b, noneE f = b := ⟨_, rfl⟩
  obtain ⟨b3, r3⟩ : ∃ b, e.okI = b := ⟨_, rfl⟩
  obtain ⟨b4, r4⟩ : ∃ b, f.okI = b := ⟨_, rfl⟩
  obtain ⟨b5, r5⟩ : ∃ b, nameB n = b := ⟨_, rfl⟩
  obtain ⟨b6, r6⟩ : ∃ b, n.toList.isEmpty = b := ⟨_, rfl⟩
  rw [r1, r3] at hen
  rw [r2, r4] at hfn
  rw [r5, r6] at hnn
  go_enter Tryz.func119, Tryz.ntmps119
  go_wp2_with (first | (go_at_call 156; refine (hsh.out _).mono ?_; rintro e' wn ⟨rfl, hw⟩; subst wn) | (go_at_call 157; refine (specNone _ _).mono ?_; rintro e' wn ⟨rfl, hb⟩; (replace hX := bstep hX hb); (obtain ⟨c0, c1, c2, c3, c4, c5, c6, c7, c8, c9, c10, c11⟩ := raw12 (hC.below hX (by omega))); (clear hb); (first | rw [r1] | rw [r2])) | (go_at_call 158; refine (HT.out _ _ hX (by first | exact hEE | exact hFF)).mono ?_; rintro e' wn ⟨rfl, hb⟩; (replace hX := bstep hX hb); (obtain ⟨c0, c1, c2, c3, c4, c5, c6, c7, c8, c9, c10, c11⟩ := raw12 (hC.below hX (by omega))); (clear hb); (first | rw [r3] | rw [r4])) | (go_at_call 116; refine (specName n _ hn).mono ?_; rintro e' wn ⟨rfl, hb⟩; (replace hX := bstep hX hb); (obtain ⟨c0, c1, c2, c3, c4, c5, c6, c7, c8, c9, c10, c11⟩ := raw12 (hC.below hX (by omega))); (clear hb); rw [r5]))
  all_goals
    go_returns
    refine ⟨ret_bool ?_, hB1.trans (hX.mono (by omega))⟩
    first | rfl | (simp_all; done) | (rw [Bool.eq_iff_iff]; simp_all; done) | (rw [Bool.eq_iff_iff]; simp_all; omega)
set_option maxRecDepth 10000 in
set_option maxHeartbeats 2000000 in
theorem spec_ifStmt (n : ByteArray) (e f : XT) (ab : Option Addr) (ac : Nat) (la : List SX) (bb : Option Addr) (bc : Nat) (lb : List SX) (hn : n.size ≤ 1048576) (he : e.size ≤ 1099511627776 ∧ Good e) (hf : f.size ≤ 1099511627776 ∧ Good f) (hla : la.length ≤ 1048576) (hlb : lb.length ≤ 1048576) (ok : Nat → Prop) (w : World) (hok : ∀ b, ok b → b < w.heap.size) (hL : Lies ok w e) (hF : Lies ok w f) :
    Calls Tryz.prog 119 #[.agg #[.int .i64 3, .string n, .int .i64 e.kind, .int .i64 e.num, .string e.name, .slice e.base e.kids.length e.cap, .int .i64 f.kind, .int .i64 f.num, .string f.name, .slice f.base f.kids.length f.cap, .slice ab la.length ac, .slice bb lb.length bc]] w fun e' w' => e' = .returned (.bool (n.toList.isEmpty && (e.okI && noneE f))) ∧ Below w.heap.size w w' := by
  have hsh : Hid (∀ w, Calls Tryz.prog 156 #[.int .i64 3] w fun e w' => e = .returned (.tuple #[.bool false, .int .i64 1, .int .i64 2]) ∧ w' = w) := fun w => specShape 3 w
  obtain ⟨W1, hW1⟩ : ∃ W1, w.alloc (.cells #[.int .i64 3, .string n, .int .i64 e.kind, .int .i64 e.num, .string e.name, .slice e.base e.kids.length e.cap, .int .i64 f.kind, .int .i64 f.num, .string f.name, .slice f.base f.kids.length f.cap, .slice ab la.length ac, .slice bb lb.length bc] 125) = W1 := ⟨_, rfl⟩
  have hs1 : w.heap.size + 1 = W1.heap.size := by rw [← hW1]; simp
  have hB1 : Below w.heap.size w W1 := by rw [← hW1]; exact (Below.refl _ w).alloc (Nat.le_refl _) _
  have hC : Cells12 W1 w.heap.size 0 (.mk 3 n e f ab ac la bb bc lb) := by rw [← hW1]; exact Cells12.new w (.mk 3 n e f ab ac la bb bc lb) _
  have hok1 : ∀ b, ok b → b < W1.heap.size := fun b hb => by have := hok b hb; omega
  have hEE : e.size ≤ 1099511627776 ∧ Good e ∧ Lies ok W1 e := ⟨he.1, he.2, hL.under hB1 hok⟩
  have hFF : f.size ≤ 1099511627776 ∧ Good f ∧ Lies ok W1 f := ⟨hf.1, hf.2, hF.under hB1 hok⟩
  have HT : Hid (∀ (t : XT) (x : World), Below W1.heap.size W1 x → (t.size ≤ 1099511627776 ∧ Good t ∧ Lies ok W1 t) → Calls Tryz.prog 158 #[t.val] x fun e w' => e = .returned (.bool t.okI) ∧ Below x.heap.size x w') := fun t x hx ht => by
    have h := specOk1 t ht.1 ht.2.1 ok x (fun b hb => Nat.lt_of_lt_of_le (hok1 b hb) hx.size) (ht.2.2.under hx hok1)
    rw [← XT.ok_same t ht.1] at h
    exact h
  have hen : e.okI = true → noneE e = false := okI_some he.1
  have hfn : f.okI = true → noneE f = false := okI_some hf.1
  have hnn : nameB n = true → n.toList.isEmpty = false := nameB_some
  have hX := Below.refl W1.heap.size W1
  obtain ⟨c0, c1, c2, c3, c4, c5, c6, c7, c8, c9, c10, c11⟩ := raw12 (hC.below hX (by omega))
  obtain ⟨b1, r1⟩ : ∃ b, noneE e = b := ⟨_, rfl⟩
  obtain ⟨b2, r2⟩ : ∃ b, noneE f = b := ⟨_, rfl⟩
  obtain ⟨b3, r3⟩ : ∃ b, e.okI = b := ⟨_, rfl⟩
  obtain ⟨b4, r4⟩ : ∃ b, f.okI = b := ⟨_, rfl⟩
  obtain ⟨b5, r5⟩ : ∃ b, nameB n = b := ⟨_, rfl⟩
  obtain ⟨b6, r6⟩ : ∃ b, n.toList.isEmpty = b := ⟨_, rfl⟩
  rw [r1, r3] at hen
  rw [r2, r4] at hfn
  rw [r5, r6] at hnn
  go_enter Tryz.func119, Tryz.ntmps119
  go_wp2_with (first | (go_at_call 156; refine (hsh.out _).mono ?_; rintro e' wn ⟨rfl, hw⟩; subst wn) | (go_at_call 157; refine (specNone _ _).mono ?_; rintro e' wn ⟨rfl, hb⟩; (replace hX := bstep hX hb); (obtain ⟨c0, c1, c2, c3, c4, c5, c6, c7, c8, c9, c10, c11⟩ := raw12 (hC.below hX (by omega))); (clear hb); (first | rw [r1] | rw [r2])) | (go_at_call 158; refine (HT.out _ _ hX (by first | exact hEE | exact hFF)).mono ?_; rintro e' wn ⟨rfl, hb⟩; (replace hX := bstep hX hb); (obtain ⟨c0, c1, c2, c3, c4, c5, c6, c7, c8, c9, c10, c11⟩ := raw12 (hC.below hX (by omega))); (clear hb); (first | rw [r3] | rw [r4])) | (go_at_call 116; refine (specName n _ hn).mono ?_; rintro e' wn ⟨rfl, hb⟩; (replace hX := bstep hX hb); (obtain ⟨c0, c1, c2, c3, c4, c5, c6, c7, c8, c9, c10, c11⟩ := raw12 (hC.below hX (by omega))); (clear hb); rw [r5]))
  all_goals
    go_returns
    refine ⟨ret_bool ?_, hB1.trans (hX.mono (by omega))⟩
    first | rfl | (simp_all; done) | (rw [Bool.eq_iff_iff]; simp_all; done) | (rw [Bool.eq_iff_iff]; simp_all; omega)
set_option maxRecDepth 10000 in
set_option maxHeartbeats 2000000 in
theorem spec_whileStmt (n : ByteArray) (e f : XT) (ab : Option Addr) (ac : Nat) (la : List SX) (bb : Option Addr) (bc : Nat) (lb : List SX) (hn : n.size ≤ 1048576) (he : e.size ≤ 1099511627776 ∧ Good e) (hf : f.size ≤ 1099511627776 ∧ Good f) (hla : la.length ≤ 1048576) (hlb : lb.length ≤ 1048576) (ok : Nat → Prop) (w : World) (hok : ∀ b, ok b → b < w.heap.size) (hL : Lies ok w e) (hF : Lies ok w f) :
    Calls Tryz.prog 119 #[.agg #[.int .i64 4, .string n, .int .i64 e.kind, .int .i64 e.num, .string e.name, .slice e.base e.kids.length e.cap, .int .i64 f.kind, .int .i64 f.num, .string f.name, .slice f.base f.kids.length f.cap, .slice ab la.length ac, .slice bb lb.length bc]] w fun e' w' => e' = .returned (.bool (n.toList.isEmpty && ((e.okI && noneE f) && decide (lb.length = 0)))) ∧ Below w.heap.size w w' := by
  have hsh : Hid (∀ w, Calls Tryz.prog 156 #[.int .i64 4] w fun e w' => e = .returned (.tuple #[.bool false, .int .i64 1, .int .i64 1]) ∧ w' = w) := fun w => specShape 4 w
  obtain ⟨W1, hW1⟩ : ∃ W1, w.alloc (.cells #[.int .i64 4, .string n, .int .i64 e.kind, .int .i64 e.num, .string e.name, .slice e.base e.kids.length e.cap, .int .i64 f.kind, .int .i64 f.num, .string f.name, .slice f.base f.kids.length f.cap, .slice ab la.length ac, .slice bb lb.length bc] 125) = W1 := ⟨_, rfl⟩
  have hs1 : w.heap.size + 1 = W1.heap.size := by rw [← hW1]; simp
  have hB1 : Below w.heap.size w W1 := by rw [← hW1]; exact (Below.refl _ w).alloc (Nat.le_refl _) _
  have hC : Cells12 W1 w.heap.size 0 (.mk 4 n e f ab ac la bb bc lb) := by rw [← hW1]; exact Cells12.new w (.mk 4 n e f ab ac la bb bc lb) _
  have hok1 : ∀ b, ok b → b < W1.heap.size := fun b hb => by have := hok b hb; omega
  have hEE : e.size ≤ 1099511627776 ∧ Good e ∧ Lies ok W1 e := ⟨he.1, he.2, hL.under hB1 hok⟩
  have hFF : f.size ≤ 1099511627776 ∧ Good f ∧ Lies ok W1 f := ⟨hf.1, hf.2, hF.under hB1 hok⟩
  have HT : Hid (∀ (t : XT) (x : World), Below W1.heap.size W1 x → (t.size ≤ 1099511627776 ∧ Good t ∧ Lies ok W1 t) → Calls Tryz.prog 158 #[t.val] x fun e w' => e = .returned (.bool t.okI) ∧ Below x.heap.size x w') := fun t x hx ht => by
    have h := specOk1 t ht.1 ht.2.1 ok x (fun b hb => Nat.lt_of_lt_of_le (hok1 b hb) hx.size) (ht.2.2.under hx hok1)
    rw [← XT.ok_same t ht.1] at h
    exact h
  have hen : e.okI = true → noneE e = false := okI_some he.1
  have hfn : f.okI = true → noneE f = false := okI_some hf.1
  have hnn : nameB n = true → n.toList.isEmpty = false := nameB_some
  have hX := Below.refl W1.heap.size W1
  obtain ⟨c0, c1, c2, c3, c4, c5, c6, c7, c8, c9, c10, c11⟩ := raw12 (hC.below hX (by omega))
  obtain ⟨b1, r1⟩ : ∃ b, noneE e = b := ⟨_, rfl⟩
  obtain ⟨b2, r2⟩ : ∃ b, noneE f = b := ⟨_, rfl⟩
  obtain ⟨b3, r3⟩ : ∃ b, e.okI = b := ⟨_, rfl⟩
  obtain ⟨b4, r4⟩ : ∃ b, f.okI = b := ⟨_, rfl⟩
  obtain ⟨b5, r5⟩ : ∃ b, nameB n = b := ⟨_, rfl⟩
  obtain ⟨b6, r6⟩ : ∃ b, n.toList.isEmpty = b := ⟨_, rfl⟩
  rw [r1, r3] at hen
  rw [r2, r4] at hfn
  rw [r5, r6] at hnn
  go_enter Tryz.func119, Tryz.ntmps119
  go_wp2_with (first | (go_at_call 156; refine (hsh.out _).mono ?_; rintro e' wn ⟨rfl, hw⟩; subst wn) | (go_at_call 157; refine (specNone _ _).mono ?_; rintro e' wn ⟨rfl, hb⟩; (replace hX := bstep hX hb); (obtain ⟨c0, c1, c2, c3, c4, c5, c6, c7, c8, c9, c10, c11⟩ := raw12 (hC.below hX (by omega))); (clear hb); (first | rw [r1] | rw [r2])) | (go_at_call 158; refine (HT.out _ _ hX (by first | exact hEE | exact hFF)).mono ?_; rintro e' wn ⟨rfl, hb⟩; (replace hX := bstep hX hb); (obtain ⟨c0, c1, c2, c3, c4, c5, c6, c7, c8, c9, c10, c11⟩ := raw12 (hC.below hX (by omega))); (clear hb); (first | rw [r3] | rw [r4])) | (go_at_call 116; refine (specName n _ hn).mono ?_; rintro e' wn ⟨rfl, hb⟩; (replace hX := bstep hX hb); (obtain ⟨c0, c1, c2, c3, c4, c5, c6, c7, c8, c9, c10, c11⟩ := raw12 (hC.below hX (by omega))); (clear hb); rw [r5]))
  all_goals
    go_returns
    refine ⟨ret_bool ?_, hB1.trans (hX.mono (by omega))⟩
    first | rfl | (simp_all; done) | (rw [Bool.eq_iff_iff]; simp_all; done) | (rw [Bool.eq_iff_iff]; simp_all; omega)
set_option maxRecDepth 10000 in
set_option maxHeartbeats 2000000 in
theorem spec_lockStmt (n : ByteArray) (e f : XT) (ab : Option Addr) (ac : Nat) (la : List SX) (bb : Option Addr) (bc : Nat) (lb : List SX) (hn : n.size ≤ 1048576) (he : e.size ≤ 1099511627776 ∧ Good e) (hf : f.size ≤ 1099511627776 ∧ Good f) (hla : la.length ≤ 1048576) (hlb : lb.length ≤ 1048576) (ok : Nat → Prop) (w : World) (hok : ∀ b, ok b → b < w.heap.size) (hL : Lies ok w e) (hF : Lies ok w f) :
    Calls Tryz.prog 119 #[.agg #[.int .i64 5, .string n, .int .i64 e.kind, .int .i64 e.num, .string e.name, .slice e.base e.kids.length e.cap, .int .i64 f.kind, .int .i64 f.num, .string f.name, .slice f.base f.kids.length f.cap, .slice ab la.length ac, .slice bb lb.length bc]] w fun e' w' => e' = .returned (.bool (nameB n && (noneE e && (noneE f && (decide (la.length = 0) && decide (lb.length = 0)))))) ∧ Below w.heap.size w w' := by
  have hsh : Hid (∀ w, Calls Tryz.prog 156 #[.int .i64 5] w fun e w' => e = .returned (.tuple #[.bool true, .int .i64 0, .int .i64 0]) ∧ w' = w) := fun w => specShape 5 w
  obtain ⟨W1, hW1⟩ : ∃ W1, w.alloc (.cells #[.int .i64 5, .string n, .int .i64 e.kind, .int .i64 e.num, .string e.name, .slice e.base e.kids.length e.cap, .int .i64 f.kind, .int .i64 f.num, .string f.name, .slice f.base f.kids.length f.cap, .slice ab la.length ac, .slice bb lb.length bc] 125) = W1 := ⟨_, rfl⟩
  have hs1 : w.heap.size + 1 = W1.heap.size := by rw [← hW1]; simp
  have hB1 : Below w.heap.size w W1 := by rw [← hW1]; exact (Below.refl _ w).alloc (Nat.le_refl _) _
  have hC : Cells12 W1 w.heap.size 0 (.mk 5 n e f ab ac la bb bc lb) := by rw [← hW1]; exact Cells12.new w (.mk 5 n e f ab ac la bb bc lb) _
  have hok1 : ∀ b, ok b → b < W1.heap.size := fun b hb => by have := hok b hb; omega
  have hEE : e.size ≤ 1099511627776 ∧ Good e ∧ Lies ok W1 e := ⟨he.1, he.2, hL.under hB1 hok⟩
  have hFF : f.size ≤ 1099511627776 ∧ Good f ∧ Lies ok W1 f := ⟨hf.1, hf.2, hF.under hB1 hok⟩
  have HT : Hid (∀ (t : XT) (x : World), Below W1.heap.size W1 x → (t.size ≤ 1099511627776 ∧ Good t ∧ Lies ok W1 t) → Calls Tryz.prog 158 #[t.val] x fun e w' => e = .returned (.bool t.okI) ∧ Below x.heap.size x w') := fun t x hx ht => by
    have h := specOk1 t ht.1 ht.2.1 ok x (fun b hb => Nat.lt_of_lt_of_le (hok1 b hb) hx.size) (ht.2.2.under hx hok1)
    rw [← XT.ok_same t ht.1] at h
    exact h
  have hen : e.okI = true → noneE e = false := okI_some he.1
  have hfn : f.okI = true → noneE f = false := okI_some hf.1
  have hnn : nameB n = true → n.toList.isEmpty = false := nameB_some
  have hX := Below.refl W1.heap.size W1
  obtain ⟨c0, c1, c2, c3, c4, c5, c6, c7, c8, c9, c10, c11⟩ := raw12 (hC.below hX (by omega))
  obtain ⟨b1, r1⟩ : ∃ b, noneE e = b := ⟨_, rfl⟩
  obtain ⟨b2, r2⟩ : ∃ b, noneE f = b := ⟨_, rfl⟩
  obtain ⟨b3, r3⟩ : ∃ b, e.okI = b := ⟨_, rfl⟩
  obtain ⟨b4, r4⟩ : ∃ b, f.okI = b := ⟨_, rfl⟩
  obtain ⟨b5, r5⟩ : ∃ b, nameB n = b := ⟨_, rfl⟩
  obtain ⟨b6, r6⟩ : ∃ b, n.toList.isEmpty = b := ⟨_, rfl⟩
  rw [r1, r3] at hen
  rw [r2, r4] at hfn
  rw [r5, r6] at hnn
  go_enter Tryz.func119, Tryz.ntmps119
  go_wp2_with (first | (go_at_call 156; refine (hsh.out _).mono ?_; rintro e' wn ⟨rfl, hw⟩; subst wn) | (go_at_call 157; refine (specNone _ _).mono ?_; rintro e' wn ⟨rfl, hb⟩; (replace hX := bstep hX hb); (obtain ⟨c0, c1, c2, c3, c4, c5, c6, c7, c8, c9, c10, c11⟩ := raw12 (hC.below hX (by omega))); (clear hb); (first | rw [r1] | rw [r2])) | (go_at_call 158; refine (HT.out _ _ hX (by first | exact hEE | exact hFF)).mono ?_; rintro e' wn ⟨rfl, hb⟩; (replace hX := bstep hX hb); (obtain ⟨c0, c1, c2, c3, c4, c5, c6, c7, c8, c9, c10, c11⟩ := raw12 (hC.below hX (by omega))); (clear hb); (first | rw [r3] | rw [r4])) | (go_at_call 116; refine (specName n _ hn).mono ?_; rintro e' wn ⟨rfl, hb⟩; (replace hX := bstep hX hb); (obtain ⟨c0, c1, c2, c3, c4, c5, c6, c7, c8, c9, c10, c11⟩ := raw12 (hC.below hX (by omega))); (clear hb); rw [r5]))
  all_goals
    go_returns
    refine ⟨ret_bool ?_, hB1.trans (hX.mono (by omega))⟩
    first | rfl | (simp_all; done) | (rw [Bool.eq_iff_iff]; simp_all; done) | (rw [Bool.eq_iff_iff]; simp_all; omega)
set_option maxRecDepth 10000 in
set_option maxHeartbeats 2000000 in
theorem spec_unlockStmt (n : ByteArray) (e f : XT) (ab : Option Addr) (ac : Nat) (la : List SX) (bb : Option Addr) (bc : Nat) (lb : List SX) (hn : n.size ≤ 1048576) (he : e.size ≤ 1099511627776 ∧ Good e) (hf : f.size ≤ 1099511627776 ∧ Good f) (hla : la.length ≤ 1048576) (hlb : lb.length ≤ 1048576) (ok : Nat → Prop) (w : World) (hok : ∀ b, ok b → b < w.heap.size) (hL : Lies ok w e) (hF : Lies ok w f) :
    Calls Tryz.prog 119 #[.agg #[.int .i64 6, .string n, .int .i64 e.kind, .int .i64 e.num, .string e.name, .slice e.base e.kids.length e.cap, .int .i64 f.kind, .int .i64 f.num, .string f.name, .slice f.base f.kids.length f.cap, .slice ab la.length ac, .slice bb lb.length bc]] w fun e' w' => e' = .returned (.bool (nameB n && (noneE e && (noneE f && (decide (la.length = 0) && decide (lb.length = 0)))))) ∧ Below w.heap.size w w' := by
  have hsh : Hid (∀ w, Calls Tryz.prog 156 #[.int .i64 6] w fun e w' => e = .returned (.tuple #[.bool true, .int .i64 0, .int .i64 0]) ∧ w' = w) := fun w => specShape 6 w
  obtain ⟨W1, hW1⟩ : ∃ W1, w.alloc (.cells #[.int .i64 6, .string n, .int .i64 e.kind, .int .i64 e.num, .string e.name, .slice e.base e.kids.length e.cap, .int .i64 f.kind, .int .i64 f.num, .string f.name, .slice f.base f.kids.length f.cap, .slice ab la.length ac, .slice bb lb.length bc] 125) = W1 := ⟨_, rfl⟩
  have hs1 : w.heap.size + 1 = W1.heap.size := by rw [← hW1]; simp
  have hB1 : Below w.heap.size w W1 := by rw [← hW1]; exact (Below.refl _ w).alloc (Nat.le_refl _) _
  have hC : Cells12 W1 w.heap.size 0 (.mk 6 n e f ab ac la bb bc lb) := by rw [← hW1]; exact Cells12.new w (.mk 6 n e f ab ac la bb bc lb) _
  have hok1 : ∀ b, ok b → b < W1.heap.size := fun b hb => by have := hok b hb; omega
  have hEE : e.size ≤ 1099511627776 ∧ Good e ∧ Lies ok W1 e := ⟨he.1, he.2, hL.under hB1 hok⟩
  have hFF : f.size ≤ 1099511627776 ∧ Good f ∧ Lies ok W1 f := ⟨hf.1, hf.2, hF.under hB1 hok⟩
  have HT : Hid (∀ (t : XT) (x : World), Below W1.heap.size W1 x → (t.size ≤ 1099511627776 ∧ Good t ∧ Lies ok W1 t) → Calls Tryz.prog 158 #[t.val] x fun e w' => e = .returned (.bool t.okI) ∧ Below x.heap.size x w') := fun t x hx ht => by
    have h := specOk1 t ht.1 ht.2.1 ok x (fun b hb => Nat.lt_of_lt_of_le (hok1 b hb) hx.size) (ht.2.2.under hx hok1)
    rw [← XT.ok_same t ht.1] at h
    exact h
  have hen : e.okI = true → noneE e = false := okI_some he.1
  have hfn : f.okI = true → noneE f = false := okI_some hf.1
  have hnn : nameB n = true → n.toList.isEmpty = false := nameB_some
  have hX := Below.refl W1.heap.size W1
  obtain ⟨c0, c1, c2, c3, c4, c5, c6, c7, c8, c9, c10, c11⟩ := raw12 (hC.below hX (by omega))
  obtain ⟨b1, r1⟩ : ∃ b, noneE e = b := ⟨_, rfl⟩
  obtain ⟨b2, r2⟩ : ∃ b, noneE f = b := ⟨_, rfl⟩
  obtain ⟨b3, r3⟩ : ∃ b, e.okI = b := ⟨_, rfl⟩
  obtain ⟨b4, r4⟩ : ∃ b, f.okI = b := ⟨_, rfl⟩
  obtain ⟨b5, r5⟩ : ∃ b, nameB n = b := ⟨_, rfl⟩
  obtain ⟨b6, r6⟩ : ∃ b, n.toList.isEmpty = b := ⟨_, rfl⟩
  rw [r1, r3] at hen
  rw [r2, r4] at hfn
  rw [r5, r6] at hnn
  go_enter Tryz.func119, Tryz.ntmps119
  go_wp2_with (first | (go_at_call 156; refine (hsh.out _).mono ?_; rintro e' wn ⟨rfl, hw⟩; subst wn) | (go_at_call 157; refine (specNone _ _).mono ?_; rintro e' wn ⟨rfl, hb⟩; (replace hX := bstep hX hb); (obtain ⟨c0, c1, c2, c3, c4, c5, c6, c7, c8, c9, c10, c11⟩ := raw12 (hC.below hX (by omega))); (clear hb); (first | rw [r1] | rw [r2])) | (go_at_call 158; refine (HT.out _ _ hX (by first | exact hEE | exact hFF)).mono ?_; rintro e' wn ⟨rfl, hb⟩; (replace hX := bstep hX hb); (obtain ⟨c0, c1, c2, c3, c4, c5, c6, c7, c8, c9, c10, c11⟩ := raw12 (hC.below hX (by omega))); (clear hb); (first | rw [r3] | rw [r4])) | (go_at_call 116; refine (specName n _ hn).mono ?_; rintro e' wn ⟨rfl, hb⟩; (replace hX := bstep hX hb); (obtain ⟨c0, c1, c2, c3, c4, c5, c6, c7, c8, c9, c10, c11⟩ := raw12 (hC.below hX (by omega))); (clear hb); rw [r5]))
  all_goals
    go_returns
    refine ⟨ret_bool ?_, hB1.trans (hX.mono (by omega))⟩
    first | rfl | (simp_all; done) | (rw [Bool.eq_iff_iff]; simp_all; done) | (rw [Bool.eq_iff_iff]; simp_all; omega)
set_option maxRecDepth 10000 in
set_option maxHeartbeats 2000000 in
theorem spec_sendStmt (n : ByteArray) (e f : XT) (ab : Option Addr) (ac : Nat) (la : List SX) (bb : Option Addr) (bc : Nat) (lb : List SX) (hn : n.size ≤ 1048576) (he : e.size ≤ 1099511627776 ∧ Good e) (hf : f.size ≤ 1099511627776 ∧ Good f) (hla : la.length ≤ 1048576) (hlb : lb.length ≤ 1048576) (ok : Nat → Prop) (w : World) (hok : ∀ b, ok b → b < w.heap.size) (hL : Lies ok w e) (hF : Lies ok w f) :
    Calls Tryz.prog 119 #[.agg #[.int .i64 7, .string n, .int .i64 e.kind, .int .i64 e.num, .string e.name, .slice e.base e.kids.length e.cap, .int .i64 f.kind, .int .i64 f.num, .string f.name, .slice f.base f.kids.length f.cap, .slice ab la.length ac, .slice bb lb.length bc]] w fun e' w' => e' = .returned (.bool (nameB n && ((e.okI && noneE f) && (decide (la.length = 0) && decide (lb.length = 0))))) ∧ Below w.heap.size w w' := by
  have hsh : Hid (∀ w, Calls Tryz.prog 156 #[.int .i64 7] w fun e w' => e = .returned (.tuple #[.bool true, .int .i64 1, .int .i64 0]) ∧ w' = w) := fun w => specShape 7 w
  obtain ⟨W1, hW1⟩ : ∃ W1, w.alloc (.cells #[.int .i64 7, .string n, .int .i64 e.kind, .int .i64 e.num, .string e.name, .slice e.base e.kids.length e.cap, .int .i64 f.kind, .int .i64 f.num, .string f.name, .slice f.base f.kids.length f.cap, .slice ab la.length ac, .slice bb lb.length bc] 125) = W1 := ⟨_, rfl⟩
  have hs1 : w.heap.size + 1 = W1.heap.size := by rw [← hW1]; simp
  have hB1 : Below w.heap.size w W1 := by rw [← hW1]; exact (Below.refl _ w).alloc (Nat.le_refl _) _
  have hC : Cells12 W1 w.heap.size 0 (.mk 7 n e f ab ac la bb bc lb) := by rw [← hW1]; exact Cells12.new w (.mk 7 n e f ab ac la bb bc lb) _
  have hok1 : ∀ b, ok b → b < W1.heap.size := fun b hb => by have := hok b hb; omega
  have hEE : e.size ≤ 1099511627776 ∧ Good e ∧ Lies ok W1 e := ⟨he.1, he.2, hL.under hB1 hok⟩
  have hFF : f.size ≤ 1099511627776 ∧ Good f ∧ Lies ok W1 f := ⟨hf.1, hf.2, hF.under hB1 hok⟩
  have HT : Hid (∀ (t : XT) (x : World), Below W1.heap.size W1 x → (t.size ≤ 1099511627776 ∧ Good t ∧ Lies ok W1 t) → Calls Tryz.prog 158 #[t.val] x fun e w' => e = .returned (.bool t.okI) ∧ Below x.heap.size x w') := fun t x hx ht => by
    have h := specOk1 t ht.1 ht.2.1 ok x (fun b hb => Nat.lt_of_lt_of_le (hok1 b hb) hx.size) (ht.2.2.under hx hok1)
    rw [← XT.ok_same t ht.1] at h
    exact h
  have hen : e.okI = true → noneE e = false := okI_some he.1
  have hfn : f.okI = true → noneE f = false := okI_some hf.1
  have hnn : nameB n = true → n.toList.isEmpty = false := nameB_some
  have hX := Below.refl W1.heap.size W1
  obtain ⟨c0, c1, c2, c3, c4, c5, c6, c7, c8, c9, c10, c11⟩ := raw12 (hC.below hX (by omega))
  obtain ⟨b1, r1⟩ : ∃ b, noneE e = b := ⟨_, rfl⟩
  obtain ⟨b2, r2⟩ : ∃ b, noneE f = b := ⟨_, rfl⟩
  obtain ⟨b3, r3⟩ : ∃ b, e.okI = b := ⟨_, rfl⟩
  obtain ⟨b4, r4⟩ : ∃ b, f.okI = b := ⟨_, rfl⟩
  obtain ⟨b5, r5⟩ : ∃ b, nameB n = b := ⟨_, rfl⟩
  obtain ⟨b6, r6⟩ : ∃ b, n.toList.isEmpty = b := ⟨_, rfl⟩
  rw [r1, r3] at hen
  rw [r2, r4] at hfn
  rw [r5, r6] at hnn
  go_enter Tryz.func119, Tryz.ntmps119
  go_wp2_with (first | (go_at_call 156; refine (hsh.out _).mono ?_; rintro e' wn ⟨rfl, hw⟩; subst wn) | (go_at_call 157; refine (specNone _ _).mono ?_; rintro e' wn ⟨rfl, hb⟩; (replace hX := bstep hX hb); (obtain ⟨c0, c1, c2, c3, c4, c5, c6, c7, c8, c9, c10, c11⟩ := raw12 (hC.below hX (by omega))); (clear hb); (first | rw [r1] | rw [r2])) | (go_at_call 158; refine (HT.out _ _ hX (by first | exact hEE | exact hFF)).mono ?_; rintro e' wn ⟨rfl, hb⟩; (replace hX := bstep hX hb); (obtain ⟨c0, c1, c2, c3, c4, c5, c6, c7, c8, c9, c10, c11⟩ := raw12 (hC.below hX (by omega))); (clear hb); (first | rw [r3] | rw [r4])) | (go_at_call 116; refine (specName n _ hn).mono ?_; rintro e' wn ⟨rfl, hb⟩; (replace hX := bstep hX hb); (obtain ⟨c0, c1, c2, c3, c4, c5, c6, c7, c8, c9, c10, c11⟩ := raw12 (hC.below hX (by omega))); (clear hb); rw [r5]))
  all_goals
    go_returns
    refine ⟨ret_bool ?_, hB1.trans (hX.mono (by omega))⟩
    first | rfl | (simp_all; done) | (rw [Bool.eq_iff_iff]; simp_all; done) | (rw [Bool.eq_iff_iff]; simp_all; omega)
theorem raw12r {W : World} {b : Nat} {k : Int} {n : ByteArray} {en : Int} {es : ByteArray} {eb : Option Addr} {ec : Nat} {kids : List XT} {f : XT} {ab : Option Addr} {ac : Nat} {la : List SX} {bb : Option Addr} {bc : Nat} {lb : List SX} (h : Cells12 W b 0 (.mk k n (.mk 2 en es eb ec kids) f ab ac la bb bc lb)) : W.cell? ⟨b, 0, none⟩ = some (.int .i64 k) ∧ W.cell? ⟨b, 1, none⟩ = some (.string n) ∧ W.cell? ⟨b, 2, none⟩ = some (.int .i64 2) ∧ W.cell? ⟨b, 3, none⟩ = some (.int .i64 en) ∧ W.cell? ⟨b, 4, none⟩ = some (.string es) ∧ W.cell? ⟨b, 5, none⟩ = some (.slice eb kids.length ec) ∧ W.cell? ⟨b, 6, none⟩ = some (.int .i64 f.kind) ∧ W.cell? ⟨b, 7, none⟩ = some (.int .i64 f.num) ∧ W.cell? ⟨b, 8, none⟩ = some (.string f.name) ∧ W.cell? ⟨b, 9, none⟩ = some (.slice f.base f.kids.length f.cap) ∧ W.cell? ⟨b, 10, none⟩ = some (.slice ab la.length ac) ∧ W.cell? ⟨b, 11, none⟩ = some (.slice bb lb.length bc) :=
  ⟨h.c0, h.c1, h.c2, h.c3, h.c4, h.c5, h.c6, h.c7, h.c8, h.c9, h.c10, h.c11⟩
set_option maxRecDepth 10000 in
set_option maxHeartbeats 2000000 in
theorem spec_recvStmt0 (n : ByteArray) (e f : XT) (ab : Option Addr) (ac : Nat) (la : List SX) (bb : Option Addr) (bc : Nat) (lb : List SX) (hne : ¬ e.kind = 2) (hn : n.size ≤ 1048576) (he : e.size ≤ 1099511627776 ∧ Good e) (hf : f.size ≤ 1099511627776 ∧ Good f) (hla : la.length ≤ 1048576) (hlb : lb.length ≤ 1048576) (ok : Nat → Prop) (w : World) (hok : ∀ b, ok b → b < w.heap.size) (hL : Lies ok w e) (hF : Lies ok w f) :
    Calls Tryz.prog 119 #[.agg #[.int .i64 8, .string n, .int .i64 e.kind, .int .i64 e.num, .string e.name, .slice e.base e.kids.length e.cap, .int .i64 f.kind, .int .i64 f.num, .string f.name, .slice f.base f.kids.length f.cap, .slice ab la.length ac, .slice bb lb.length bc]] w fun e' w' => e' = .returned (.bool false) ∧ Below w.heap.size w w' := by
  have hsh : Hid (∀ w, Calls Tryz.prog 156 #[.int .i64 8] w fun e w' => e = .returned (.tuple #[.bool true, .int .i64 0, .int .i64 0]) ∧ w' = w) := fun w => specShape 8 w
  obtain ⟨W1, hW1⟩ : ∃ W1, w.alloc (.cells #[.int .i64 8, .string n, .int .i64 e.kind, .int .i64 e.num, .string e.name, .slice e.base e.kids.length e.cap, .int .i64 f.kind, .int .i64 f.num, .string f.name, .slice f.base f.kids.length f.cap, .slice ab la.length ac, .slice bb lb.length bc] 125) = W1 := ⟨_, rfl⟩
  have hs1 : w.heap.size + 1 = W1.heap.size := by rw [← hW1]; simp
  have hB1 : Below w.heap.size w W1 := by rw [← hW1]; exact (Below.refl _ w).alloc (Nat.le_refl _) _
  have hC : Cells12 W1 w.heap.size 0 (.mk 8 n e f ab ac la bb bc lb) := by rw [← hW1]; exact Cells12.new w (.mk 8 n e f ab ac la bb bc lb) _
  have hok1 : ∀ b, ok b → b < W1.heap.size := fun b hb => by have := hok b hb; omega
  have hEE : e.size ≤ 1099511627776 ∧ Good e ∧ Lies ok W1 e := ⟨he.1, he.2, hL.under hB1 hok⟩
  have hFF : f.size ≤ 1099511627776 ∧ Good f ∧ Lies ok W1 f := ⟨hf.1, hf.2, hF.under hB1 hok⟩
  have HT : Hid (∀ (t : XT) (x : World), Below W1.heap.size W1 x → (t.size ≤ 1099511627776 ∧ Good t ∧ Lies ok W1 t) → Calls Tryz.prog 158 #[t.val] x fun e w' => e = .returned (.bool t.okI) ∧ Below x.heap.size x w') := fun t x hx ht => by
    have h := specOk1 t ht.1 ht.2.1 ok x (fun b hb => Nat.lt_of_lt_of_le (hok1 b hb) hx.size) (ht.2.2.under hx hok1)
    rw [← XT.ok_same t ht.1] at h
    exact h
  have hen : e.okI = true → noneE e = false := okI_some he.1
  have hfn : f.okI = true → noneE f = false := okI_some hf.1
  have hnn : nameB n = true → n.toList.isEmpty = false := nameB_some
  have hX := Below.refl W1.heap.size W1
  obtain ⟨c0, c1, c2, c3, c4, c5, c6, c7, c8, c9, c10, c11⟩ := raw12 (hC.below hX (by omega))
  obtain ⟨b1, r1⟩ : ∃ b, noneE e = b := ⟨_, rfl⟩
  obtain ⟨b2, r2⟩ : ∃ b, noneE f = b := ⟨_, rfl⟩
  obtain ⟨b3, r3⟩ : ∃ b, e.okI = b := ⟨_, rfl⟩
  obtain ⟨b4, r4⟩ : ∃ b, f.okI = b := ⟨_, rfl⟩
  obtain ⟨b5, r5⟩ : ∃ b, nameB n = b := ⟨_, rfl⟩
  obtain ⟨b6, r6⟩ : ∃ b, n.toList.isEmpty = b := ⟨_, rfl⟩
  rw [r1, r3] at hen
  rw [r2, r4] at hfn
  rw [r5, r6] at hnn
  go_enter Tryz.func119, Tryz.ntmps119
  go_wp2_with (first | (go_at_call 156; refine (hsh.out _).mono ?_; rintro e' wn ⟨rfl, hw⟩; subst wn) | (go_at_call 157; refine (specNone _ _).mono ?_; rintro e' wn ⟨rfl, hb⟩; (replace hX := bstep hX hb); (obtain ⟨c0, c1, c2, c3, c4, c5, c6, c7, c8, c9, c10, c11⟩ := raw12 (hC.below hX (by omega))); (clear hb); (first | rw [r1] | rw [r2])) | (go_at_call 158; refine (HT.out _ _ hX (by first | exact hEE | exact hFF)).mono ?_; rintro e' wn ⟨rfl, hb⟩; (replace hX := bstep hX hb); (obtain ⟨c0, c1, c2, c3, c4, c5, c6, c7, c8, c9, c10, c11⟩ := raw12 (hC.below hX (by omega))); (clear hb); (first | rw [r3] | rw [r4])) | (go_at_call 116; refine (specName n _ hn).mono ?_; rintro e' wn ⟨rfl, hb⟩; (replace hX := bstep hX hb); (obtain ⟨c0, c1, c2, c3, c4, c5, c6, c7, c8, c9, c10, c11⟩ := raw12 (hC.below hX (by omega))); (clear hb); rw [r5]))
  all_goals
    go_returns
    refine ⟨ret_bool ?_, hB1.trans (hX.mono (by omega))⟩
    first | rfl | (simp_all; done) | (rw [Bool.eq_iff_iff]; simp_all; done) | (rw [Bool.eq_iff_iff]; simp_all; omega)
set_option maxRecDepth 10000 in
set_option maxHeartbeats 2000000 in
theorem spec_recvStmt2 (n : ByteArray) (en : Int) (es : ByteArray) (eb : Option Addr) (ec : Nat) (kids : List XT) (f : XT) (ab : Option Addr) (ac : Nat) (la : List SX) (bb : Option Addr) (bc : Nat) (lb : List SX) (hn : n.size ≤ 1048576) (he : (XT.mk 2 en es eb ec kids).size ≤ 1099511627776 ∧ Good (XT.mk 2 en es eb ec kids)) (hf : f.size ≤ 1099511627776 ∧ Good f) (hla : la.length ≤ 1048576) (hlb : lb.length ≤ 1048576) (ok : Nat → Prop) (w : World) (hok : ∀ b, ok b → b < w.heap.size) (hL : Lies ok w (XT.mk 2 en es eb ec kids)) (hF : Lies ok w f) :
    Calls Tryz.prog 119 #[.agg #[.int .i64 8, .string n, .int .i64 2, .int .i64 en, .string es, .slice eb kids.length ec, .int .i64 f.kind, .int .i64 f.num, .string f.name, .slice f.base f.kids.length f.cap, .slice ab la.length ac, .slice bb lb.length bc]] w fun e' w' => e' = .returned (.bool (nameB n && (((XT.mk 2 en es eb ec kids).okI && noneE f) && (decide (la.length = 0) && decide (lb.length = 0))))) ∧ Below w.heap.size w w' := by
  have hsh : Hid (∀ w, Calls Tryz.prog 156 #[.int .i64 8] w fun e w' => e = .returned (.tuple #[.bool true, .int .i64 0, .int .i64 0]) ∧ w' = w) := fun w => specShape 8 w
  obtain ⟨W1, hW1⟩ : ∃ W1, w.alloc (.cells #[.int .i64 8, .string n, .int .i64 2, .int .i64 en, .string es, .slice eb kids.length ec, .int .i64 f.kind, .int .i64 f.num, .string f.name, .slice f.base f.kids.length f.cap, .slice ab la.length ac, .slice bb lb.length bc] 125) = W1 := ⟨_, rfl⟩
  have hs1 : w.heap.size + 1 = W1.heap.size := by rw [← hW1]; simp
  have hB1 : Below w.heap.size w W1 := by rw [← hW1]; exact (Below.refl _ w).alloc (Nat.le_refl _) _
  have hC : Cells12 W1 w.heap.size 0 (.mk 8 n (XT.mk 2 en es eb ec kids) f ab ac la bb bc lb) := by rw [← hW1]; exact Cells12.new w (.mk 8 n (XT.mk 2 en es eb ec kids) f ab ac la bb bc lb) _
  have hok1 : ∀ b, ok b → b < W1.heap.size := fun b hb => by have := hok b hb; omega
  have hEE : (XT.mk 2 en es eb ec kids).size ≤ 1099511627776 ∧ Good (XT.mk 2 en es eb ec kids) ∧ Lies ok W1 (XT.mk 2 en es eb ec kids) := ⟨he.1, he.2, hL.under hB1 hok⟩
  have hFF : f.size ≤ 1099511627776 ∧ Good f ∧ Lies ok W1 f := ⟨hf.1, hf.2, hF.under hB1 hok⟩
  have HT : Hid (∀ (t : XT) (x : World), Below W1.heap.size W1 x → (t.size ≤ 1099511627776 ∧ Good t ∧ Lies ok W1 t) → Calls Tryz.prog 158 #[t.val] x fun e w' => e = .returned (.bool t.okI) ∧ Below x.heap.size x w') := fun t x hx ht => by
    have h := specOk1 t ht.1 ht.2.1 ok x (fun b hb => Nat.lt_of_lt_of_le (hok1 b hb) hx.size) (ht.2.2.under hx hok1)
    rw [← XT.ok_same t ht.1] at h
    exact h
  have HTE : Hid (∀ (x : World), Below W1.heap.size W1 x → Calls Tryz.prog 158 #[.agg #[.int .i64 2, .int .i64 en, .string es, .slice eb kids.length ec]] x fun e w' => e = .returned (.bool (XT.mk 2 en es eb ec kids).okI) ∧ Below x.heap.size x w') := fun x hx => HT.out (XT.mk 2 en es eb ec kids) x hx hEE
  have hen : (XT.mk 2 en es eb ec kids).okI = true → noneE (XT.mk 2 en es eb ec kids) = false := okI_some he.1
  have hfn : f.okI = true → noneE f = false := okI_some hf.1
  have hnn : nameB n = true → n.toList.isEmpty = false := nameB_some
  have hX := Below.refl W1.heap.size W1
  obtain ⟨c0, c1, c2, c3, c4, c5, c6, c7, c8, c9, c10, c11⟩ := raw12r (hC.below hX (by omega))
  obtain ⟨b1, r1⟩ : ∃ b, noneE (XT.mk 2 en es eb ec kids) = b := ⟨_, rfl⟩
  obtain ⟨b2, r2⟩ : ∃ b, noneE f = b := ⟨_, rfl⟩
  obtain ⟨b3, r3⟩ : ∃ b, (XT.mk 2 en es eb ec kids).okI = b := ⟨_, rfl⟩
  obtain ⟨b4, r4⟩ : ∃ b, f.okI = b := ⟨_, rfl⟩
  obtain ⟨b5, r5⟩ : ∃ b, nameB n = b := ⟨_, rfl⟩
  obtain ⟨b6, r6⟩ : ∃ b, n.toList.isEmpty = b := ⟨_, rfl⟩
  rw [r1, r3] at hen
  rw [r2, r4] at hfn
  rw [r5, r6] at hnn
  go_enter Tryz.func119, Tryz.ntmps119
  go_wp2_with (first | (go_at_call 156; refine (hsh.out _).mono ?_; rintro e' wn ⟨rfl, hw⟩; subst wn) | (go_at_call 157; refine (specNone _ _).mono ?_; rintro e' wn ⟨rfl, hb⟩; (replace hX := bstep hX hb); (obtain ⟨c0, c1, c2, c3, c4, c5, c6, c7, c8, c9, c10, c11⟩ := raw12r (hC.below hX (by omega))); (clear hb); (first | rw [r1] | rw [r2])) | (go_at_call 158; refine (HTE.out _ hX).mono ?_; rintro e' wn ⟨rfl, hb⟩; (replace hX := bstep hX hb); (obtain ⟨c0, c1, c2, c3, c4, c5, c6, c7, c8, c9, c10, c11⟩ := raw12r (hC.below hX (by omega))); (clear hb); rw [r3]) | (go_at_call 116; refine (specName n _ hn).mono ?_; rintro e' wn ⟨rfl, hb⟩; (replace hX := bstep hX hb); (obtain ⟨c0, c1, c2, c3, c4, c5, c6, c7, c8, c9, c10, c11⟩ := raw12r (hC.below hX (by omega))); (clear hb); rw [r5]))
  all_goals
    go_returns
    refine ⟨ret_bool ?_, hB1.trans (hX.mono (by omega))⟩
    first | rfl | (simp_all; done) | (rw [Bool.eq_iff_iff]; simp_all; done) | (rw [Bool.eq_iff_iff]; simp_all; omega)
set_option maxRecDepth 10000 in
set_option maxHeartbeats 2000000 in
theorem spec_assertStmt (n : ByteArray) (e f : XT) (ab : Option Addr) (ac : Nat) (la : List SX) (bb : Option Addr) (bc : Nat) (lb : List SX) (hn : n.size ≤ 1048576) (he : e.size ≤ 1099511627776 ∧ Good e) (hf : f.size ≤ 1099511627776 ∧ Good f) (hla : la.length ≤ 1048576) (hlb : lb.length ≤ 1048576) (ok : Nat → Prop) (w : World) (hok : ∀ b, ok b → b < w.heap.size) (hL : Lies ok w e) (hF : Lies ok w f) :
    Calls Tryz.prog 119 #[.agg #[.int .i64 9, .string n, .int .i64 e.kind, .int .i64 e.num, .string e.name, .slice e.base e.kids.length e.cap, .int .i64 f.kind, .int .i64 f.num, .string f.name, .slice f.base f.kids.length f.cap, .slice ab la.length ac, .slice bb lb.length bc]] w fun e' w' => e' = .returned (.bool (n.toList.isEmpty && ((e.okI && noneE f) && (decide (la.length = 0) && decide (lb.length = 0))))) ∧ Below w.heap.size w w' := by
  have hsh : Hid (∀ w, Calls Tryz.prog 156 #[.int .i64 9] w fun e w' => e = .returned (.tuple #[.bool false, .int .i64 1, .int .i64 0]) ∧ w' = w) := fun w => specShape 9 w
  obtain ⟨W1, hW1⟩ : ∃ W1, w.alloc (.cells #[.int .i64 9, .string n, .int .i64 e.kind, .int .i64 e.num, .string e.name, .slice e.base e.kids.length e.cap, .int .i64 f.kind, .int .i64 f.num, .string f.name, .slice f.base f.kids.length f.cap, .slice ab la.length ac, .slice bb lb.length bc] 125) = W1 := ⟨_, rfl⟩
  have hs1 : w.heap.size + 1 = W1.heap.size := by rw [← hW1]; simp
  have hB1 : Below w.heap.size w W1 := by rw [← hW1]; exact (Below.refl _ w).alloc (Nat.le_refl _) _
  have hC : Cells12 W1 w.heap.size 0 (.mk 9 n e f ab ac la bb bc lb) := by rw [← hW1]; exact Cells12.new w (.mk 9 n e f ab ac la bb bc lb) _
  have hok1 : ∀ b, ok b → b < W1.heap.size := fun b hb => by have := hok b hb; omega
  have hEE : e.size ≤ 1099511627776 ∧ Good e ∧ Lies ok W1 e := ⟨he.1, he.2, hL.under hB1 hok⟩
  have hFF : f.size ≤ 1099511627776 ∧ Good f ∧ Lies ok W1 f := ⟨hf.1, hf.2, hF.under hB1 hok⟩
  have HT : Hid (∀ (t : XT) (x : World), Below W1.heap.size W1 x → (t.size ≤ 1099511627776 ∧ Good t ∧ Lies ok W1 t) → Calls Tryz.prog 158 #[t.val] x fun e w' => e = .returned (.bool t.okI) ∧ Below x.heap.size x w') := fun t x hx ht => by
    have h := specOk1 t ht.1 ht.2.1 ok x (fun b hb => Nat.lt_of_lt_of_le (hok1 b hb) hx.size) (ht.2.2.under hx hok1)
    rw [← XT.ok_same t ht.1] at h
    exact h
  have hen : e.okI = true → noneE e = false := okI_some he.1
  have hfn : f.okI = true → noneE f = false := okI_some hf.1
  have hnn : nameB n = true → n.toList.isEmpty = false := nameB_some
  have hX := Below.refl W1.heap.size W1
  obtain ⟨c0, c1, c2, c3, c4, c5, c6, c7, c8, c9, c10, c11⟩ := raw12 (hC.below hX (by omega))
  obtain ⟨b1, r1⟩ : ∃ b, noneE e = b := ⟨_, rfl⟩
  obtain ⟨b2, r2⟩ : ∃ b, noneE f = b := ⟨_, rfl⟩
  obtain ⟨b3, r3⟩ : ∃ b, e.okI = b := ⟨_, rfl⟩
  obtain ⟨b4, r4⟩ : ∃ b, f.okI = b := ⟨_, rfl⟩
  obtain ⟨b5, r5⟩ : ∃ b, nameB n = b := ⟨_, rfl⟩
  obtain ⟨b6, r6⟩ : ∃ b, n.toList.isEmpty = b := ⟨_, rfl⟩
  rw [r1, r3] at hen
  rw [r2, r4] at hfn
  rw [r5, r6] at hnn
  go_enter Tryz.func119, Tryz.ntmps119
  go_wp2_with (first | (go_at_call 156; refine (hsh.out _).mono ?_; rintro e' wn ⟨rfl, hw⟩; subst wn) | (go_at_call 157; refine (specNone _ _).mono ?_; rintro e' wn ⟨rfl, hb⟩; (replace hX := bstep hX hb); (obtain ⟨c0, c1, c2, c3, c4, c5, c6, c7, c8, c9, c10, c11⟩ := raw12 (hC.below hX (by omega))); (clear hb); (first | rw [r1] | rw [r2])) | (go_at_call 158; refine (HT.out _ _ hX (by first | exact hEE | exact hFF)).mono ?_; rintro e' wn ⟨rfl, hb⟩; (replace hX := bstep hX hb); (obtain ⟨c0, c1, c2, c3, c4, c5, c6, c7, c8, c9, c10, c11⟩ := raw12 (hC.below hX (by omega))); (clear hb); (first | rw [r3] | rw [r4])) | (go_at_call 116; refine (specName n _ hn).mono ?_; rintro e' wn ⟨rfl, hb⟩; (replace hX := bstep hX hb); (obtain ⟨c0, c1, c2, c3, c4, c5, c6, c7, c8, c9, c10, c11⟩ := raw12 (hC.below hX (by omega))); (clear hb); rw [r5]))
  all_goals
    go_returns
    refine ⟨ret_bool ?_, hB1.trans (hX.mono (by omega))⟩
    first | rfl | (simp_all; done) | (rw [Bool.eq_iff_iff]; simp_all; done) | (rw [Bool.eq_iff_iff]; simp_all; omega)
set_option maxRecDepth 10000 in
set_option maxHeartbeats 2000000 in
theorem spec_showStmt (n : ByteArray) (e f : XT) (ab : Option Addr) (ac : Nat) (la : List SX) (bb : Option Addr) (bc : Nat) (lb : List SX) (hn : n.size ≤ 1048576) (he : e.size ≤ 1099511627776 ∧ Good e) (hf : f.size ≤ 1099511627776 ∧ Good f) (hla : la.length ≤ 1048576) (hlb : lb.length ≤ 1048576) (ok : Nat → Prop) (w : World) (hok : ∀ b, ok b → b < w.heap.size) (hL : Lies ok w e) (hF : Lies ok w f) :
    Calls Tryz.prog 119 #[.agg #[.int .i64 10, .string n, .int .i64 e.kind, .int .i64 e.num, .string e.name, .slice e.base e.kids.length e.cap, .int .i64 f.kind, .int .i64 f.num, .string f.name, .slice f.base f.kids.length f.cap, .slice ab la.length ac, .slice bb lb.length bc]] w fun e' w' => e' = .returned (.bool (n.toList.isEmpty && ((e.okI && noneE f) && (decide (la.length = 0) && decide (lb.length = 0))))) ∧ Below w.heap.size w w' := by
  have hsh : Hid (∀ w, Calls Tryz.prog 156 #[.int .i64 10] w fun e w' => e = .returned (.tuple #[.bool false, .int .i64 1, .int .i64 0]) ∧ w' = w) := fun w => specShape 10 w
  obtain ⟨W1, hW1⟩ : ∃ W1, w.alloc (.cells #[.int .i64 10, .string n, .int .i64 e.kind, .int .i64 e.num, .string e.name, .slice e.base e.kids.length e.cap, .int .i64 f.kind, .int .i64 f.num, .string f.name, .slice f.base f.kids.length f.cap, .slice ab la.length ac, .slice bb lb.length bc] 125) = W1 := ⟨_, rfl⟩
  have hs1 : w.heap.size + 1 = W1.heap.size := by rw [← hW1]; simp
  have hB1 : Below w.heap.size w W1 := by rw [← hW1]; exact (Below.refl _ w).alloc (Nat.le_refl _) _
  have hC : Cells12 W1 w.heap.size 0 (.mk 10 n e f ab ac la bb bc lb) := by rw [← hW1]; exact Cells12.new w (.mk 10 n e f ab ac la bb bc lb) _
  have hok1 : ∀ b, ok b → b < W1.heap.size := fun b hb => by have := hok b hb; omega
  have hEE : e.size ≤ 1099511627776 ∧ Good e ∧ Lies ok W1 e := ⟨he.1, he.2, hL.under hB1 hok⟩
  have hFF : f.size ≤ 1099511627776 ∧ Good f ∧ Lies ok W1 f := ⟨hf.1, hf.2, hF.under hB1 hok⟩
  have HT : Hid (∀ (t : XT) (x : World), Below W1.heap.size W1 x → (t.size ≤ 1099511627776 ∧ Good t ∧ Lies ok W1 t) → Calls Tryz.prog 158 #[t.val] x fun e w' => e = .returned (.bool t.okI) ∧ Below x.heap.size x w') := fun t x hx ht => by
    have h := specOk1 t ht.1 ht.2.1 ok x (fun b hb => Nat.lt_of_lt_of_le (hok1 b hb) hx.size) (ht.2.2.under hx hok1)
    rw [← XT.ok_same t ht.1] at h
    exact h
  have hen : e.okI = true → noneE e = false := okI_some he.1
  have hfn : f.okI = true → noneE f = false := okI_some hf.1
  have hnn : nameB n = true → n.toList.isEmpty = false := nameB_some
  have hX := Below.refl W1.heap.size W1
  obtain ⟨c0, c1, c2, c3, c4, c5, c6, c7, c8, c9, c10, c11⟩ := raw12 (hC.below hX (by omega))
  obtain ⟨b1, r1⟩ : ∃ b, noneE e = b := ⟨_, rfl⟩
  obtain ⟨b2, r2⟩ : ∃ b, noneE f = b := ⟨_, rfl⟩
  obtain ⟨b3, r3⟩ : ∃ b, e.okI = b := ⟨_, rfl⟩
  obtain ⟨b4, r4⟩ : ∃ b, f.okI = b := ⟨_, rfl⟩
  obtain ⟨b5, r5⟩ : ∃ b, nameB n = b := ⟨_, rfl⟩
  obtain ⟨b6, r6⟩ : ∃ b, n.toList.isEmpty = b := ⟨_, rfl⟩
  rw [r1, r3] at hen
  rw [r2, r4] at hfn
  rw [r5, r6] at hnn
  go_enter Tryz.func119, Tryz.ntmps119
  go_wp2_with (first | (go_at_call 156; refine (hsh.out _).mono ?_; rintro e' wn ⟨rfl, hw⟩; subst wn) | (go_at_call 157; refine (specNone _ _).mono ?_; rintro e' wn ⟨rfl, hb⟩; (replace hX := bstep hX hb); (obtain ⟨c0, c1, c2, c3, c4, c5, c6, c7, c8, c9, c10, c11⟩ := raw12 (hC.below hX (by omega))); (clear hb); (first | rw [r1] | rw [r2])) | (go_at_call 158; refine (HT.out _ _ hX (by first | exact hEE | exact hFF)).mono ?_; rintro e' wn ⟨rfl, hb⟩; (replace hX := bstep hX hb); (obtain ⟨c0, c1, c2, c3, c4, c5, c6, c7, c8, c9, c10, c11⟩ := raw12 (hC.below hX (by omega))); (clear hb); (first | rw [r3] | rw [r4])) | (go_at_call 116; refine (specName n _ hn).mono ?_; rintro e' wn ⟨rfl, hb⟩; (replace hX := bstep hX hb); (obtain ⟨c0, c1, c2, c3, c4, c5, c6, c7, c8, c9, c10, c11⟩ := raw12 (hC.below hX (by omega))); (clear hb); rw [r5]))
  all_goals
    go_returns
    refine ⟨ret_bool ?_, hB1.trans (hX.mono (by omega))⟩
    first | rfl | (simp_all; done) | (rw [Bool.eq_iff_iff]; simp_all; done) | (rw [Bool.eq_iff_iff]; simp_all; omega)
set_option maxRecDepth 10000 in
set_option maxHeartbeats 2000000 in
theorem spec_noStmt (k : Int) (hk : shN k = false ∧ shE k = -1 ∧ shL k = 0) (n : ByteArray) (e f : XT) (ab : Option Addr) (ac : Nat) (la : List SX) (bb : Option Addr) (bc : Nat) (lb : List SX) (hn : n.size ≤ 1048576) (he : e.size ≤ 1099511627776 ∧ Good e) (hf : f.size ≤ 1099511627776 ∧ Good f) (hla : la.length ≤ 1048576) (hlb : lb.length ≤ 1048576) (ok : Nat → Prop) (w : World) (hok : ∀ b, ok b → b < w.heap.size) (hL : Lies ok w e) (hF : Lies ok w f) :
    Calls Tryz.prog 119 #[.agg #[.int .i64 k, .string n, .int .i64 e.kind, .int .i64 e.num, .string e.name, .slice e.base e.kids.length e.cap, .int .i64 f.kind, .int .i64 f.num, .string f.name, .slice f.base f.kids.length f.cap, .slice ab la.length ac, .slice bb lb.length bc]] w fun e' w' => e' = .returned (.bool false) ∧ Below w.heap.size w w' := by
  have hsh : Hid (∀ w, Calls Tryz.prog 156 #[.int .i64 k] w fun e w' => e = .returned (.tuple #[.bool false, .int .i64 (-1), .int .i64 0]) ∧ w' = w) := fun w => by have h := specShape k w; rw [hk.1, hk.2.1, hk.2.2] at h; exact h
  obtain ⟨W1, hW1⟩ : ∃ W1, w.alloc (.cells #[.int .i64 k, .string n, .int .i64 e.kind, .int .i64 e.num, .string e.name, .slice e.base e.kids.length e.cap, .int .i64 f.kind, .int .i64 f.num, .string f.name, .slice f.base f.kids.length f.cap, .slice ab la.length ac, .slice bb lb.length bc] 125) = W1 := ⟨_, rfl⟩
  have hs1 : w.heap.size + 1 = W1.heap.size := by rw [← hW1]; simp
  have hB1 : Below w.heap.size w W1 := by rw [← hW1]; exact (Below.refl _ w).alloc (Nat.le_refl _) _
  have hC : Cells12 W1 w.heap.size 0 (.mk k n e f ab ac la bb bc lb) := by rw [← hW1]; exact Cells12.new w (.mk k n e f ab ac la bb bc lb) _
  have hok1 : ∀ b, ok b → b < W1.heap.size := fun b hb => by have := hok b hb; omega
  have hEE : e.size ≤ 1099511627776 ∧ Good e ∧ Lies ok W1 e := ⟨he.1, he.2, hL.under hB1 hok⟩
  have hFF : f.size ≤ 1099511627776 ∧ Good f ∧ Lies ok W1 f := ⟨hf.1, hf.2, hF.under hB1 hok⟩
  have HT : Hid (∀ (t : XT) (x : World), Below W1.heap.size W1 x → (t.size ≤ 1099511627776 ∧ Good t ∧ Lies ok W1 t) → Calls Tryz.prog 158 #[t.val] x fun e w' => e = .returned (.bool t.okI) ∧ Below x.heap.size x w') := fun t x hx ht => by
    have h := specOk1 t ht.1 ht.2.1 ok x (fun b hb => Nat.lt_of_lt_of_le (hok1 b hb) hx.size) (ht.2.2.under hx hok1)
    rw [← XT.ok_same t ht.1] at h
    exact h
  have hen : e.okI = true → noneE e = false := okI_some he.1
  have hfn : f.okI = true → noneE f = false := okI_some hf.1
  have hnn : nameB n = true → n.toList.isEmpty = false := nameB_some
  have hX := Below.refl W1.heap.size W1
  obtain ⟨c0, c1, c2, c3, c4, c5, c6, c7, c8, c9, c10, c11⟩ := raw12 (hC.below hX (by omega))
  obtain ⟨b1, r1⟩ : ∃ b, noneE e = b := ⟨_, rfl⟩
  obtain ⟨b2, r2⟩ : ∃ b, noneE f = b := ⟨_, rfl⟩
  obtain ⟨b3, r3⟩ : ∃ b, e.okI = b := ⟨_, rfl⟩
  obtain ⟨b4, r4⟩ : ∃ b, f.okI = b := ⟨_, rfl⟩
  obtain ⟨b5, r5⟩ : ∃ b, nameB n = b := ⟨_, rfl⟩
  obtain ⟨b6, r6⟩ : ∃ b, n.toList.isEmpty = b := ⟨_, rfl⟩
  rw [r1, r3] at hen
  rw [r2, r4] at hfn
  rw [r5, r6] at hnn
  go_enter Tryz.func119, Tryz.ntmps119
  go_wp2_with (first | (go_at_call 156; refine (hsh.out _).mono ?_; rintro e' wn ⟨rfl, hw⟩; subst wn) | (go_at_call 157; refine (specNone _ _).mono ?_; rintro e' wn ⟨rfl, hb⟩; (replace hX := bstep hX hb); (obtain ⟨c0, c1, c2, c3, c4, c5, c6, c7, c8, c9, c10, c11⟩ := raw12 (hC.below hX (by omega))); (clear hb); (first | rw [r1] | rw [r2])) | (go_at_call 158; refine (HT.out _ _ hX (by first | exact hEE | exact hFF)).mono ?_; rintro e' wn ⟨rfl, hb⟩; (replace hX := bstep hX hb); (obtain ⟨c0, c1, c2, c3, c4, c5, c6, c7, c8, c9, c10, c11⟩ := raw12 (hC.below hX (by omega))); (clear hb); (first | rw [r3] | rw [r4])) | (go_at_call 116; refine (specName n _ hn).mono ?_; rintro e' wn ⟨rfl, hb⟩; (replace hX := bstep hX hb); (obtain ⟨c0, c1, c2, c3, c4, c5, c6, c7, c8, c9, c10, c11⟩ := raw12 (hC.below hX (by omega))); (clear hb); rw [r5]))
  all_goals
    go_returns
    refine ⟨ret_bool ?_, hB1.trans (hX.mono (by omega))⟩
    first | rfl | (simp_all; done) | (rw [Bool.eq_iff_iff]; simp_all; done) | (rw [Bool.eq_iff_iff]; simp_all; omega)
/-- The specification answers of a statement what the program answers. -/
theorem SX.specStmt (s : SX) (hm : SmallS s) (ok : Nat → Prop) (w : World) (hok : ∀ b, ok b → b < w.heap.size) (hL : LiesS ok w s) :
    Calls Tryz.prog 119 #[s.val] w fun e w' => e = .returned (.bool s.fitB) ∧ Below w.heap.size w w' := by
  obtain ⟨m1, m2, m3, m4, -, -⟩ := hm.parts
  obtain ⟨l1, l2, -⟩ := hL.parts
  obtain ⟨k, n, e, f, ab, ac, la, bb, bc, lb⟩ := s
  by_cases h0 : k = 1
  · subst h0
    exact spec_setStmt n e f ab ac la bb bc lb m1 ⟨by have := m2.1; simp only [SX.e] at this; omega, m2.2⟩ ⟨by have := m3.1; simp only [SX.f] at this; omega, m3.2⟩ m4.1 m4.2 ok w hok l1 l2
  by_cases h1 : k = 2
  · subst h1
    exact spec_putStmt n e f ab ac la bb bc lb m1 ⟨by have := m2.1; simp only [SX.e] at this; omega, m2.2⟩ ⟨by have := m3.1; simp only [SX.f] at this; omega, m3.2⟩ m4.1 m4.2 ok w hok l1 l2
  by_cases h2 : k = 3
  · subst h2
    exact spec_ifStmt n e f ab ac la bb bc lb m1 ⟨by have := m2.1; simp only [SX.e] at this; omega, m2.2⟩ ⟨by have := m3.1; simp only [SX.f] at this; omega, m3.2⟩ m4.1 m4.2 ok w hok l1 l2
  by_cases h3 : k = 4
  · subst h3
    exact spec_whileStmt n e f ab ac la bb bc lb m1 ⟨by have := m2.1; simp only [SX.e] at this; omega, m2.2⟩ ⟨by have := m3.1; simp only [SX.f] at this; omega, m3.2⟩ m4.1 m4.2 ok w hok l1 l2
  by_cases h4 : k = 5
  · subst h4
    exact spec_lockStmt n e f ab ac la bb bc lb m1 ⟨by have := m2.1; simp only [SX.e] at this; omega, m2.2⟩ ⟨by have := m3.1; simp only [SX.f] at this; omega, m3.2⟩ m4.1 m4.2 ok w hok l1 l2
  by_cases h5 : k = 6
  · subst h5
    exact spec_unlockStmt n e f ab ac la bb bc lb m1 ⟨by have := m2.1; simp only [SX.e] at this; omega, m2.2⟩ ⟨by have := m3.1; simp only [SX.f] at this; omega, m3.2⟩ m4.1 m4.2 ok w hok l1 l2
  by_cases h6 : k = 7
  · subst h6
    exact spec_sendStmt n e f ab ac la bb bc lb m1 ⟨by have := m2.1; simp only [SX.e] at this; omega, m2.2⟩ ⟨by have := m3.1; simp only [SX.f] at this; omega, m3.2⟩ m4.1 m4.2 ok w hok l1 l2
  by_cases h7 : k = 8
  · subst h7
    by_cases h2 : e.kind = 2
    · obtain ⟨ek, en, es, eb, ec, kids⟩ := e
      simp only [XT.kind] at h2
      subst h2
      exact spec_recvStmt2 n en es eb ec kids f ab ac la bb bc lb m1 ⟨by have := m2.1; simp only [SX.e] at this; omega, m2.2⟩ ⟨by have := m3.1; simp only [SX.f] at this; omega, m3.2⟩ m4.1 m4.2 ok w hok l1 l2
    · have hF : (SX.mk 8 n e f ab ac la bb bc lb).fitB = false := by unfold SX.fitB; simp [SX.kind, SX.e, h2]
      rw [hF]
      exact spec_recvStmt0 n e f ab ac la bb bc lb h2 m1 ⟨by have := m2.1; simp only [SX.e] at this; omega, m2.2⟩ ⟨by have := m3.1; simp only [SX.f] at this; omega, m3.2⟩ m4.1 m4.2 ok w hok l1 l2
  by_cases h8 : k = 9
  · subst h8
    exact spec_assertStmt n e f ab ac la bb bc lb m1 ⟨by have := m2.1; simp only [SX.e] at this; omega, m2.2⟩ ⟨by have := m3.1; simp only [SX.f] at this; omega, m3.2⟩ m4.1 m4.2 ok w hok l1 l2
  by_cases h9 : k = 10
  · subst h9
    exact spec_showStmt n e f ab ac la bb bc lb m1 ⟨by have := m2.1; simp only [SX.e] at this; omega, m2.2⟩ ⟨by have := m3.1; simp only [SX.f] at this; omega, m3.2⟩ m4.1 m4.2 ok w hok l1 l2
  have hF : (SX.mk k n e f ab ac la bb bc lb).fitB = false := by unfold SX.fitB; simp [SX.kind, h0, h1, h2, h3, h4, h5, h6, h7, h8, h9]
  rw [hF]
  exact spec_noStmt k ⟨by simp [shN, h0, h1, h2, h3, h4, h5, h6, h7, h8, h9], by simp [shE, h0, h1, h2, h3, h4, h5, h6, h7, h8, h9], by simp [shL, h0, h1, h2, h3, h4, h5, h6, h7, h8, h9]⟩ n e f ab ac la bb bc lb m1 ⟨by have := m2.1; simp only [SX.e] at this; omega, m2.2⟩ ⟨by have := m3.1; simp only [SX.f] at this; omega, m3.2⟩ m4.1 m4.2 ok w hok l1 l2
end Go.Proofs.YtaajdoipjalgmaaGreatDoor
namespace Go.Proofs.YtaajdoipjalgmaaGreatDoor
open Go.RowKit Go.Shelf
set_option linter.unusedSimpArgs false
set_option linter.unusedVariables false
attribute [local go_sem] Oper.semAt_some

mutual
def SX.oneR : SX → Nat → Nat × Nat × Bool
  | .mk k n e f ab ac la bb bc lb, d => (1 + (SX.listR la (d + 1)).1 + (SX.listR lb (d + 1)).1, (SX.listR la (d + 1)).2.1 + (SX.listR lb (d + 1)).2.1 + e.specR.1 + f.specR.1, (SX.listR la (d + 1)).2.2 && ((SX.listR lb (d + 1)).2.2 && (SX.mk k n e f ab ac la bb bc lb).fitB))
def SX.listR : List SX → Nat → Nat × Nat × Bool
  | ks, d => if 6 < d then (0, 0, false) else SX.goR ks d 0 0
def SX.goR : List SX → Nat → Nat → Nat → Nat × Nat × Bool
  | [], _, n, m => (n, m, true)
  | s :: ss, d, n, m => if (SX.oneR s d).2.2 = true ∧ n + (SX.oneR s d).1 ≤ 40 ∧ m + (SX.oneR s d).2.1 ≤ 640 then SX.goR ss d (n + (SX.oneR s d).1) (m + (SX.oneR s d).2.1) else (n + (SX.oneR s d).1, m + (SX.oneR s d).2.1, false)
end
theorem SX.oneR_eq (s : SX) (d : Nat) : s.oneR d = (1 + (SX.listR s.la (d + 1)).1 + (SX.listR s.lb (d + 1)).1, (SX.listR s.la (d + 1)).2.1 + (SX.listR s.lb (d + 1)).2.1 + s.e.specR.1 + s.f.specR.1, (SX.listR s.la (d + 1)).2.2 && ((SX.listR s.lb (d + 1)).2.2 && s.fitB)) := by
  cases s; rw [SX.oneR]; rfl
theorem SX.listR_eq (ks : List SX) (d : Nat) : SX.listR ks d = if 6 < d then (0, 0, false) else SX.goR ks d 0 0 := by rw [SX.listR]
theorem SX.goR_nil (d n m : Nat) : SX.goR [] d n m = (n, m, true) := by rw [SX.goR]
theorem SX.goR_cons (s : SX) (ss : List SX) (d n m : Nat) : SX.goR (s :: ss) d n m = if (s.oneR d).2.2 = true ∧ n + (s.oneR d).1 ≤ 40 ∧ m + (s.oneR d).2.1 ≤ 640 then SX.goR ss d (n + (s.oneR d).1) (m + (s.oneR d).2.1) else (n + (s.oneR d).1, m + (s.oneR d).2.1, false) := by rw [SX.goR]
theorem ret3 {a b a' b' : Int} {c c' : Bool} (h1 : a = a') (h2 : b = b') (h3 : c = c') : Ending.returned (.tuple #[.int .i64 a, .int .i64 b, .bool c]) = .returned (.tuple #[.int .i64 a', .int .i64 b', .bool c']) := by rw [h1, h2, h3]
/-- How much the specification can count at most. -/
theorem SX.goR_le (sz : Nat) : ∀ ks : List SX, SX.sizeAll ks ≤ sz → (∀ (i : Nat) (k : SX), ks[i]? = some k → SmallS k) → ∀ d n m, (SX.goR ks d n m).1 ≤ n + SX.sizeAll ks ∧ (SX.goR ks d n m).2.1 ≤ m + 2097154 * SX.sizeAll ks := by
  induction sz using Nat.strongRecOn with
  | _ sz ih =>
  have hl : ∀ l : List SX, SX.sizeAll l < sz → (∀ (i : Nat) (k : SX), l[i]? = some k → SmallS k) → ∀ d, (SX.listR l d).1 ≤ SX.sizeAll l ∧ (SX.listR l d).2.1 ≤ 2097154 * SX.sizeAll l := by
    intro l h hs d
    rw [SX.listR_eq]
    split
    · exact ⟨Nat.zero_le _, Nat.zero_le _⟩
    · have := ih _ h l (Nat.le_refl _) hs d 0 0
      simpa using this
  intro ks
  induction ks with
  | nil => intro _ _ d n m; simp [SX.goR_nil, SX.sizeAll]
  | cons s ss ihs =>
    intro hsz hs d n m
    have hs0 := hs 0 s rfl
    obtain ⟨-, m2, m3, -, ka, kb⟩ := hs0.parts
    have h1 := s.size_eq
    simp only [SX.sizeAll] at hsz ⊢
    have hA := hl s.la (by omega) ka (d + 1)
    have hB := hl s.lb (by omega) kb (d + 1)
    have hE := XT.spec_le _ s.e (Nat.le_refl _)
    have hF := XT.spec_le _ s.f (Nat.le_refl _)
    have hO : (s.oneR d).1 ≤ s.size ∧ (s.oneR d).2.1 ≤ 2097154 * s.size := by
      rw [SX.oneR_eq]
      dsimp only
      have h2 := m2.1
      have h3 := m3.1
      omega
    rw [SX.goR_cons]
    split
    · have h4 := ihs (by omega) (fun i k hk => hs (i + 1) k (by simpa using hk)) d (n + (s.oneR d).1) (m + (s.oneR d).2.1)
      omega
    · dsimp only
      omega
theorem SX.listR_le (ks : List SX) (hs : ∀ (i : Nat) (k : SX), ks[i]? = some k → SmallS k) (d : Nat) : (SX.listR ks d).1 ≤ SX.sizeAll ks ∧ (SX.listR ks d).2.1 ≤ 2097154 * SX.sizeAll ks := by
  rw [SX.listR_eq]
  split
  · exact ⟨Nat.zero_le _, Nat.zero_le _⟩
  · have := SX.goR_le _ ks (Nat.le_refl _) hs d 0 0
    simpa using this
set_option maxRecDepth 10000 in
set_option maxHeartbeats 2000000 in
theorem specList (sz : Nat) : ∀ ks : List SX, SX.sizeAll ks ≤ sz → SX.sizeAll ks ≤ 1048577 → (∀ (i : Nat) (k : SX), ks[i]? = some k → SmallS k) → ∀ (a : Option Addr) (c : Nat) (ok : Nat → Prop) (w : World), (∀ b, ok b → b < w.heap.size) → SRow ok w a ks → (∀ (i : Nat) (k : SX), ks[i]? = some k → LiesS ok w k) → ∀ d : Nat, d ≤ 7 →
    Calls Tryz.prog 90 #[.slice a ks.length c, .int .i64 d] w fun e w' => e = .returned (.tuple #[.int .i64 ((SX.listR ks d).1 : Nat), .int .i64 ((SX.listR ks d).2.1 : Nat), .bool (SX.listR ks d).2.2]) ∧ Below w.heap.size w w' := by
  induction sz using Nat.strongRecOn with
  | _ sz ih =>
  intro ks hsz hlim hsm a c ok w hok hR hL d hd
  have hlen := SX.length_le ks
  by_cases h6 : 6 < d
  · go_enter Tryz.func90, Tryz.ntmps90
    go_wp2_with fail
    all_goals first | (exfalso; omega) | skip
    go_returns
    refine ⟨?_, Below.refl _ _⟩
    rw [SX.listR_eq, if_pos h6]
    rfl
  · go_enter Tryz.func90, Tryz.ntmps90
    go_wp2_with fail
    all_goals first | (exfalso; omega) | skip
    go_loopw [7, 8, 9] (fun v7 v8 v9 wr => ∃ (i n m : Nat), v9 = .int .i64 i ∧ v7 = .int .i64 n ∧ v8 = .int .i64 m ∧ i ≤ ks.length ∧ n ≤ 40 ∧ m ≤ 640 ∧ Hid (SX.goR ks d 0 0 = SX.goR (ks.drop i) d n m) ∧ Below w.heap.size w wr) (fun _ _ v9 _ => ks.length - (intOf v9).toNat)
    case atStart => exact ⟨0, 0, 0, rfl, rfl, rfl, by omega, by omega, by omega, rfl, Below.refl _ _⟩
    case round =>
      obtain ⟨i, n, m, rfl, rfl, rfl, hi, hn, hm, hH, hB⟩ := hrel
      by_cases hlt : i < ks.length
      · obtain ⟨s, hk⟩ : ∃ s, ks[i]? = some s := ⟨_, List.getElem?_eq_getElem hlt⟩
        have hdrop : ks.drop i = s :: ks.drop (i + 1) := by
          rw [List.drop_eq_getElem_cons hlt]
          congr 1
          rw [List.getElem?_eq_getElem hlt] at hk
          exact Option.some.inj hk
        have hG := hH.out
        rw [hdrop, SX.goR_cons] at hG
        have hG' : Hid (SX.goR ks d 0 0 = if (s.oneR d).2.2 = true ∧ n + (s.oneR d).1 ≤ 40 ∧ m + (s.oneR d).2.1 ≤ 640 then SX.goR (ks.drop (i + 1)) d (n + (s.oneR d).1) (m + (s.oneR d).2.1) else (n + (s.oneR d).1, m + (s.oneR d).2.1, false)) := hG
        clear hG hH hdrop
        have hs0 := hsm i s hk
        obtain ⟨-, m2, m3, m4, ka, kb⟩ := hs0.parts
        have hss := SX.size_get hk
        have hsq := s.size_eq
        obtain ⟨b, o, hbase, hob, hc⟩ := hR i s hk
        obtain ⟨c0, c1, c2, c3, c4, c5, c6, c7, c8, c9, c10, c11⟩ := hc.below hB (hok b hob)
        have hLs := (hL i s hk).under hB hok
        have hokr : ∀ b, ok b → b < wr.heap.size := fun b hb => Nat.lt_of_lt_of_le (hok b hb) hB.size
        obtain ⟨W1, hW1⟩ : ∃ W1, wr.alloc (.cells #[.int .i64 s.kind, .string s.name, .int .i64 s.e.kind, .int .i64 s.e.num, .string s.e.name, .slice s.e.base s.e.kids.length s.e.cap, .int .i64 s.f.kind, .int .i64 s.f.num, .string s.f.name, .slice s.f.base s.f.kids.length s.f.cap, .slice s.abase s.la.length s.acap, .slice s.bbase s.lb.length s.bcap] 125) = W1 := ⟨_, rfl⟩
        have hB1 : Below wr.heap.size wr W1 := by rw [← hW1]; exact (Below.refl _ wr).alloc (Nat.le_refl _) _
        have hs1 : wr.heap.size + 1 = W1.heap.size := by rw [← hW1]; simp
        have hC1 : Cells12 W1 wr.heap.size 0 s := by rw [← hW1]; exact Cells12.new wr s _
        have hL1 := hLs.under hB1 hokr
        have hok1 : ∀ b, ok b → b < W1.heap.size := fun b hb => by have := hokr b hb; omega
        obtain ⟨A1, qA1⟩ : ∃ x, (SX.listR s.la (d + 1)).1 = x := ⟨_, rfl⟩
        obtain ⟨A2, qA2⟩ : ∃ x, (SX.listR s.la (d + 1)).2.1 = x := ⟨_, rfl⟩
        obtain ⟨A3, qA3⟩ : ∃ x, (SX.listR s.la (d + 1)).2.2 = x := ⟨_, rfl⟩
        obtain ⟨B1, qB1⟩ : ∃ x, (SX.listR s.lb (d + 1)).1 = x := ⟨_, rfl⟩
        obtain ⟨B2, qB2⟩ : ∃ x, (SX.listR s.lb (d + 1)).2.1 = x := ⟨_, rfl⟩
        obtain ⟨B3, qB3⟩ : ∃ x, (SX.listR s.lb (d + 1)).2.2 = x := ⟨_, rfl⟩
        obtain ⟨x1, qx⟩ : ∃ x, s.e.specR.1 = x := ⟨_, rfl⟩
        obtain ⟨y1, qy⟩ : ∃ x, s.f.specR.1 = x := ⟨_, rfl⟩
        obtain ⟨F3, qF⟩ : ∃ x, s.fitB = x := ⟨_, rfl⟩
        have hone : s.oneR d = (1 + A1 + B1, A2 + B2 + x1 + y1, A3 && (B3 && F3)) := by rw [SX.oneR_eq, qA1, qA2, qA3, qB1, qB2, qB3, qx, qy, qF]
        have hbA := SX.listR_le s.la ka (d + 1)
        have hbB := SX.listR_le s.lb kb (d + 1)
        have hbx := (XT.spec_le _ s.e (Nat.le_refl _)).1
        have hby := (XT.spec_le _ s.f (Nat.le_refl _)).1
        rw [qA1, qA2] at hbA
        rw [qB1, qB2] at hbB
        rw [qx] at hbx
        rw [qy] at hby
        have hm2 := m2.1
        have hm3 := m3.1
        have hA1 : A1 ≤ 1048577 := by omega
        have hA2 : A2 ≤ 2199025352704 := by omega
        have hB1' : B1 ≤ 1048577 := by omega
        have hB2' : B2 ≤ 2199025352704 := by omega
        have hx1 : x1 ≤ 1048577 := by omega
        have hy1 : y1 ≤ 1048577 := by omega
        have callA : Hid (∀ x, Below W1.heap.size W1 x → Calls Tryz.prog 90 #[.slice s.abase s.la.length s.acap, .int .i64 ((d : Int) + 1)] x fun e w' => e = .returned (.tuple #[.int .i64 (A1 : Nat), .int .i64 (A2 : Nat), .bool A3]) ∧ Below x.heap.size x w') := fun x hx => by
          have h := ih (SX.sizeAll s.la) (by omega) s.la (Nat.le_refl _) (by omega) ka s.abase s.acap ok x (fun b hb => Nat.lt_of_lt_of_le (hok1 b hb) hx.size) (hL1.parts.2.2.1.under hx hok1) (fun i k hk => (hL1.parts.2.2.2.2.1 i k hk).under hx hok1) (d + 1) (by omega)
          rw [qA1, qA2, qA3] at h
          simpa using h
        have callB : Hid (∀ x, Below W1.heap.size W1 x → Calls Tryz.prog 90 #[.slice s.bbase s.lb.length s.bcap, .int .i64 ((d : Int) + 1)] x fun e w' => e = .returned (.tuple #[.int .i64 (B1 : Nat), .int .i64 (B2 : Nat), .bool B3]) ∧ Below x.heap.size x w') := fun x hx => by
          have h := ih (SX.sizeAll s.lb) (by omega) s.lb (Nat.le_refl _) (by omega) kb s.bbase s.bcap ok x (fun b hb => Nat.lt_of_lt_of_le (hok1 b hb) hx.size) (hL1.parts.2.2.2.1.under hx hok1) (fun i k hk => (hL1.parts.2.2.2.2.2 i k hk).under hx hok1) (d + 1) (by omega)
          rw [qB1, qB2, qB3] at h
          simpa using h
        have callE : Hid (∀ x, Below W1.heap.size W1 x → ∃ (x2 : Nat) (x3 : Bool), Calls Tryz.prog 118 #[s.e.val] x fun e w' => e = .returned (.tuple #[.int .i64 (x1 : Nat), .int .i64 (x2 : Nat), .bool x3]) ∧ Below x.heap.size x w') := fun x hx => by
          have h := specE _ s.e (by omega) (Nat.le_refl _) m2.2 ok x (fun b hb => Nat.lt_of_lt_of_le (hok1 b hb) hx.size) (hL1.parts.1.under hx hok1)
          rw [qx] at h
          exact ⟨_, _, h⟩
        have callF : Hid (∀ x, Below W1.heap.size W1 x → ∃ (x2 : Nat) (x3 : Bool), Calls Tryz.prog 118 #[s.f.val] x fun e w' => e = .returned (.tuple #[.int .i64 (y1 : Nat), .int .i64 (x2 : Nat), .bool x3]) ∧ Below x.heap.size x w') := fun x hx => by
          have h := specE _ s.f (by omega) (Nat.le_refl _) m3.2 ok x (fun b hb => Nat.lt_of_lt_of_le (hok1 b hb) hx.size) (hL1.parts.2.1.under hx hok1)
          rw [qy] at h
          exact ⟨_, _, h⟩
        have callS : Hid (∀ x, Below W1.heap.size W1 x → Calls Tryz.prog 119 #[s.val] x fun e w' => e = .returned (.bool F3) ∧ Below x.heap.size x w') := fun x hx => by
          have h := s.specStmt hs0 ok x (fun b hb => Nat.lt_of_lt_of_le (hok1 b hb) hx.size) (hL1.under hx hok1)
          rw [qF] at h
          exact h
        clear qA1 qA2 qA3 qB1 qB2 qB3 qx qy qF
        have hBw : Below w.heap.size w W1 := bstep hB hB1
        have hzr : w.heap.size ≤ W1.heap.size := hBw.size
        subst hbase
        obtain ⟨d0, d1, d2, d3, d4, d5, d6, d7, d8, d9, d10, d11⟩ := hC1.below (Below.refl W1.heap.size W1) (by omega)
        go_wp2_with fail
        go_at_call 90
        refine (callA.out _ (Below.refl _ _)).mono ?_
        rintro e w2 ⟨rfl, hX2⟩
        clear d0 d1 d2 d3 d4 d5 d6 d7 d8 d9 d10 d11
        obtain ⟨d0, d1, d2, d3, d4, d5, d6, d7, d8, d9, d10, d11⟩ := hC1.below hX2 (by omega)
        go_wp2_with fail
        go_at_call 90
        refine (callB.out _ hX2).mono ?_
        rintro e w3 ⟨rfl, hb3⟩
        have hX3 := bstep hX2 hb3
        clear d0 d1 d2 d3 d4 d5 d6 d7 d8 d9 d10 d11 hb3
        obtain ⟨d0, d1, d2, d3, d4, d5, d6, d7, d8, d9, d10, d11⟩ := hC1.below hX3 (by omega)
        go_wp2_with fail
        go_at_call 118
        obtain ⟨x2, x3, hE⟩ := callE.out _ hX3
        refine hE.mono ?_
        clear hE
        rintro e w4 ⟨rfl, hb4⟩
        have hX4 := bstep hX3 hb4
        clear d0 d1 d2 d3 d4 d5 d6 d7 d8 d9 d10 d11 hb4
        obtain ⟨d0, d1, d2, d3, d4, d5, d6, d7, d8, d9, d10, d11⟩ := hC1.below hX4 (by omega)
        go_wp2_with fail
        go_at_call 118
        obtain ⟨y2, y3, hE⟩ := callF.out _ hX4
        refine hE.mono ?_
        clear hE
        rintro e w5 ⟨rfl, hb5⟩
        have hX5 := bstep hX4 hb5
        clear d0 d1 d2 d3 d4 d5 d6 d7 d8 d9 d10 d11 hb5
        obtain ⟨d0, d1, d2, d3, d4, d5, d6, d7, d8, d9, d10, d11⟩ := hC1.below hX5 (by omega)
        have hbad : ¬ ((A3 && (B3 && F3)) = true ∧ n + (1 + A1 + B1) ≤ 40 ∧ m + (A2 + B2 + x1 + y1) ≤ 640) → SX.listR ks d = (n + (1 + A1 + B1), m + (A2 + B2 + x1 + y1), false) := by
          intro h
          rw [SX.listR_eq, if_neg h6, hG'.out, hone]
          dsimp only
          rw [if_neg h]
        cases A3
        · go_wp2
          all_goals first | (exfalso; omega) | skip
          go_returns
          refine ⟨?_, hBw.trans (hX5.mono (by omega))⟩
          rw [hbad (by simp)]
          exact ret3 (a' := ((n + (1 + A1 + B1) : Nat) : Int)) (b' := ((m + (A2 + B2 + x1 + y1) : Nat) : Int)) (by omega) (by omega) rfl
        · cases B3
          · go_wp2
            all_goals first | (exfalso; omega) | skip
            go_returns
            refine ⟨?_, hBw.trans (hX5.mono (by omega))⟩
            rw [hbad (by simp)]
            exact ret3 (a' := ((n + (1 + A1 + B1) : Nat) : Int)) (b' := ((m + (A2 + B2 + x1 + y1) : Nat) : Int)) (by omega) (by omega) rfl
          · go_wp2_with fail
            go_at_call 119
            refine (callS.out _ hX5).mono ?_
            rintro e w6 ⟨rfl, hb6⟩
            have hX6 := bstep hX5 hb6
            clear d0 d1 d2 d3 d4 d5 d6 d7 d8 d9 d10 d11 hb6
            cases F3
            · go_wp2
              all_goals first | (exfalso; omega) | skip
              go_returns
              refine ⟨?_, hBw.trans (hX6.mono (by omega))⟩
              rw [hbad (by simp)]
              exact ret3 (a' := ((n + (1 + A1 + B1) : Nat) : Int)) (b' := ((m + (A2 + B2 + x1 + y1) : Nat) : Int)) (by omega) (by omega) rfl
            · by_cases hlim : n + (1 + A1 + B1) ≤ 40 ∧ m + (A2 + B2 + x1 + y1) ≤ 640
              · go_wp2
                all_goals first | (exfalso; omega) | skip
                refine ⟨⟨i + 1, n + (1 + A1 + B1), m + (A2 + B2 + x1 + y1), by go_num, congrArg (Value.int IntKind.i64) (by omega), congrArg (Value.int IntKind.i64) (by omega), by omega, hlim.1, hlim.2, ?_, hBw.trans (hX6.mono (by omega))⟩, by simp [intOf]; omega⟩
                show _ = _
                rw [hG'.out, hone]
                dsimp only
                rw [if_pos ⟨rfl, hlim⟩]
              · go_wp2
                all_goals first | (exfalso; omega) | skip
                all_goals
                  go_returns
                  refine ⟨?_, hBw.trans (hX6.mono (by omega))⟩
                  try rw [hbad (by simpa using hlim)]
                  exact ret3 (a' := ((n + (1 + A1 + B1) : Nat) : Int)) (b' := ((m + (A2 + B2 + x1 + y1) : Nat) : Int)) (by omega) (by omega) rfl
      · have he : i = ks.length := by omega
        have hG := hH.out
        rw [he, List.drop_length, SX.goR_nil] at hG
        go_wp2_with fail
        all_goals first | (exfalso; omega) | skip
        go_returns
        refine ⟨?_, hB⟩
        rw [SX.listR_eq, if_neg h6, hG]
        rfl
end Go.Proofs.YtaajdoipjalgmaaGreatDoor
namespace Go.Proofs.YtaajdoipjalgmaaGreatDoor
open Go.RowKit Go.Shelf
set_option linter.unusedSimpArgs false
set_option linter.unusedVariables false

theorem none_size {t : XT} (h : noneE t = true) : t.specR.1 = t.size := by
  obtain ⟨k, n, s, a, c, ks⟩ := t
  simp only [noneE, XT.kids, Bool.and_eq_true, decide_eq_true_eq] at h
  have hks : ks = [] := List.length_eq_zero_iff.1 (of_decide_eq_true h.2.2.2)
  subst hks
  simp [XT.specR, XT.specL, XT.size, XT.sizeAll]
theorem okI_size {t : XT} (hs : t.size ≤ 1099511627776) (h : t.okI = true) : t.specR.1 = t.size := by
  rw [XT.ok_same t hs] at h
  simp only [Bool.and_eq_true, decide_eq_true_eq] at h
  exact ((XT.spec_sound _ t (Nat.le_refl _) 1).1 h.1).1
theorem SX.fit_size {s : SX} (hm : SmallS s) (h : s.fitB = true) : s.e.specR.1 = s.e.size ∧ s.f.specR.1 = s.f.size := by
  obtain ⟨-, m2, m3, -⟩ := hm.parts
  have h2 := m2.1
  have h3 := m3.1
  have hE : s.e.okI = true ∨ noneE s.e = true := by
    unfold SX.fitB SX.onlyE SX.onlyN at h
    repeat' split at h
    all_goals simp_all
  have hF : s.f.okI = true ∨ noneE s.f = true := by
    unfold SX.fitB SX.onlyE SX.onlyN at h
    repeat' split at h
    all_goals simp_all
  refine ⟨?_, ?_⟩
  · rcases hE with hE | hE
    · exact okI_size (by omega) hE
    · exact none_size hE
  · rcases hF with hF | hF
    · exact okI_size (by omega) hF
    · exact none_size hF
def fine (ks : List SX) (r n m : Nat) : Prop := (SX.withinAll ks r).all goodS = true ∧ n + (SX.withinAll ks r).length ≤ 40 ∧ m + nodesOf (SX.withinAll ks r) ≤ 640
theorem SX.goR_same (sz : Nat) : ∀ ks : List SX, SX.sizeAll ks ≤ sz → (∀ (i : Nat) (k : SX), ks[i]? = some k → SmallS k) → ∀ r n m : Nat, r + 1 ≤ 6 → n ≤ 40 → m ≤ 640 →
    ((SX.goR ks (r + 1) n m).2.2 = true ↔ fine ks r n m) ∧ (fine ks r n m → SX.goR ks (r + 1) n m = (n + (SX.withinAll ks r).length, m + nodesOf (SX.withinAll ks r), true)) := by
  induction sz using Nat.strongRecOn with
  | _ sz ih =>
  have hl : ∀ l : List SX, SX.sizeAll l < sz → (∀ (i : Nat) (k : SX), l[i]? = some k → SmallS k) → ∀ r : Nat,
      ((SX.listR l (r + 1)).2.2 = true ↔ (r + 1 ≤ 6 ∧ fine l r 0 0)) ∧ ((r + 1 ≤ 6 ∧ fine l r 0 0) → SX.listR l (r + 1) = ((SX.withinAll l r).length, nodesOf (SX.withinAll l r), true)) := by
    intro l h hs r
    rw [SX.listR_eq]
    by_cases h6 : 6 < r + 1
    · rw [if_pos h6]
      exact ⟨⟨fun h => (by cases h), fun h => by omega⟩, fun h => by omega⟩
    · rw [if_neg h6]
      have h1 := ih _ h l (Nat.le_refl _) hs r 0 0 (by omega) (by omega) (by omega)
      refine ⟨⟨fun h => ⟨by omega, h1.1.1 h⟩, fun h => h1.1.2 h.2⟩, fun h => ?_⟩
      rw [h1.2 h.2]
      simp
  intro ks
  induction ks with
  | nil =>
    intro _ _ r n m _ hn hm
    rw [SX.goR_nil]
    refine ⟨⟨fun _ => ⟨rfl, ?_, ?_⟩, fun _ => rfl⟩, fun _ => ?_⟩
    · simpa [SX.withinAll] using hn
    · simpa [SX.withinAll, nodesOf] using hm
    · simp [SX.withinAll, nodesOf]
  | cons s ss ihs =>
    intro hsz hs r n m hr hn hm
    have hs0 := hs 0 s rfl
    obtain ⟨-, -, -, -, ka, kb⟩ := hs0.parts
    have h1 := s.size_eq
    simp only [SX.sizeAll] at hsz
    have hA := hl s.la (by omega) ka (r + 1)
    have hB := hl s.lb (by omega) kb (r + 1)
    have hw : wrap64 ((r : Int) + 1) = ((r + 1 : Nat) : Int) := by rw [wrap_small (by omega) (by omega)]; simp
    have hin : s.within r = ((r : Int), s) :: (SX.withinAll s.la (r + 1 : Nat) ++ SX.withinAll s.lb (r + 1 : Nat)) := by rw [SX.within_eq, hw]
    have hall : SX.withinAll (s :: ss) r = s.within r ++ SX.withinAll ss r := by rw [SX.withinAll]
    -- one statement
    have hone : ((s.oneR (r + 1)).2.2 = true ↔ (r ≤ 4 ∧ s.fitB = true ∧ fine s.la (r + 1) 0 0 ∧ fine s.lb (r + 1) 0 0)) := by
      rw [SX.oneR_eq]
      dsimp only
      rw [Bool.and_eq_true, Bool.and_eq_true, hA.1, hB.1]
      constructor
      · rintro ⟨⟨a1, a2⟩, ⟨b1, b2⟩, b3⟩
        exact ⟨by omega, b3, a2, b2⟩
      · rintro ⟨a1, a2, a3, a4⟩
        exact ⟨⟨by omega, a3⟩, ⟨by omega, a4⟩, a2⟩
    have hcnt : (r ≤ 4 ∧ s.fitB = true ∧ fine s.la (r + 1) 0 0 ∧ fine s.lb (r + 1) 0 0) → (s.oneR (r + 1)).1 = (s.within r).length ∧ (s.oneR (r + 1)).2.1 = nodesOf (s.within r) := by
      rintro ⟨a1, a2, a3, a4⟩
      obtain ⟨e1, e2⟩ := SX.fit_size hs0 a2
      rw [SX.oneR_eq, hA.2 ⟨by omega, a3⟩, hB.2 ⟨by omega, a4⟩, e1, e2, hin]
      have hn1 : nodesOf (((r : Int), s) :: (SX.withinAll s.la (r + 1 : Nat) ++ SX.withinAll s.lb (r + 1 : Nat))) = s.e.size + s.f.size + (nodesOf (SX.withinAll s.la (r + 1 : Nat)) + nodesOf (SX.withinAll s.lb (r + 1 : Nat))) := by
        rw [← nodesOf_append]
        simp [nodesOf]
      rw [hn1]
      refine ⟨?_, ?_⟩
      · simp only [List.length_cons, List.length_append]; omega
      · dsimp only; omega
    have hgood : (s.within r).all goodS = true ↔ (r ≤ 4 ∧ s.fitB = true ∧ (SX.withinAll s.la (r + 1 : Nat)).all goodS = true ∧ (SX.withinAll s.lb (r + 1 : Nat)).all goodS = true) := by
      rw [hin, List.all_cons, List.all_append, Bool.and_eq_true, Bool.and_eq_true]
      simp only [goodS, Bool.and_eq_true, decide_eq_true_eq]
      constructor
      · rintro ⟨⟨a1, a2⟩, a3, a4⟩
        exact ⟨by omega, a2, a3, a4⟩
      · rintro ⟨a1, a2, a3, a4⟩
        exact ⟨⟨by omega, a2⟩, a3, a4⟩
    have hlen : (s.within r).length = 1 + (SX.withinAll s.la (r + 1 : Nat)).length + (SX.withinAll s.lb (r + 1 : Nat)).length := by
      rw [hin]
      simp only [List.length_cons, List.length_append]
      omega
    have hnod : nodesOf (SX.withinAll s.la (r + 1 : Nat)) ≤ nodesOf (s.within r) ∧ nodesOf (SX.withinAll s.lb (r + 1 : Nat)) ≤ nodesOf (s.within r) := by
      rw [hin]
      have hn1 : nodesOf (((r : Int), s) :: (SX.withinAll s.la (r + 1 : Nat) ++ SX.withinAll s.lb (r + 1 : Nat))) = s.e.size + s.f.size + (nodesOf (SX.withinAll s.la (r + 1 : Nat)) + nodesOf (SX.withinAll s.lb (r + 1 : Nat))) := by
        rw [← nodesOf_append]
        simp [nodesOf]
      rw [hn1]
      omega
    have hfine : fine (s :: ss) r n m ↔ ((s.within r).all goodS = true ∧ fine ss r (n + (s.within r).length) (m + nodesOf (s.within r))) := by
      unfold fine
      rw [hall, List.all_append, Bool.and_eq_true, List.length_append, nodesOf_append]
      constructor
      · rintro ⟨⟨a1, a2⟩, a3, a4⟩
        exact ⟨a1, a2, by omega, by omega⟩
      · rintro ⟨a1, a2, a3, a4⟩
        exact ⟨⟨a1, a2⟩, by omega, by omega⟩
    rw [SX.goR_cons]
    by_cases hc : (s.oneR (r + 1)).2.2 = true ∧ n + (s.oneR (r + 1)).1 ≤ 40 ∧ m + (s.oneR (r + 1)).2.1 ≤ 640
    · rw [if_pos hc]
      have hg := hone.1 hc.1
      obtain ⟨q1, q2⟩ := hcnt hg
      rw [q1, q2] at hc
      rw [q1, q2]
      have hi := ihs (by omega) (fun i k hk => hs (i + 1) k (by simpa using hk)) r (n + (s.within r).length) (m + nodesOf (s.within r)) hr hc.2.1 hc.2.2
      have hga : (s.within r).all goodS = true := hgood.2 ⟨hg.1, hg.2.1, hg.2.2.1.1, hg.2.2.2.1⟩
      rw [hfine]
      refine ⟨⟨fun h => ⟨hga, hi.1.1 h⟩, fun h => hi.1.2 h.2⟩, fun h => ?_⟩
      rw [hi.2 h.2, hall, List.length_append, nodesOf_append]
      simp only [Nat.add_assoc]
    · rw [if_neg hc]
      have hno : ¬ fine (s :: ss) r n m := by
        rw [hfine]
        rintro ⟨a1, -, a2, a3⟩
        obtain ⟨g1, g2, g3, g4⟩ := hgood.1 a1
        have hx : r ≤ 4 ∧ s.fitB = true ∧ fine s.la (r + 1) 0 0 ∧ fine s.lb (r + 1) 0 0 := by
          refine ⟨g1, g2, ⟨g3, ?_, ?_⟩, ⟨g4, ?_, ?_⟩⟩
          all_goals omega
        obtain ⟨q1, q2⟩ := hcnt hx
        exact hc ⟨hone.2 hx, by omega, by omega⟩
      exact ⟨⟨fun h => (by cases h), fun h => absurd h hno⟩, fun h => absurd h hno⟩
theorem task_same (ks : List SX) (hs : ∀ (i : Nat) (k : SX), ks[i]? = some k → SmallS k) : (SX.listR ks 1).2.2 = taskI ks := by
  have h := SX.goR_same _ ks (Nat.le_refl _) hs 0 0 0 (by omega) (by omega) (by omega)
  rw [SX.listR_eq, if_neg (by omega), Bool.eq_iff_iff, h.1]
  unfold fine taskI
  rw [Bool.and_eq_true, decide_eq_true_eq]
  simp only [Nat.zero_add]
  exact Iff.rfl
end Go.Proofs.YtaajdoipjalgmaaGreatDoor
namespace Go.Proofs.YtaajdoipjalgmaaGreatDoor
open Go.RowKit Go.Shelf
set_option linter.unusedSimpArgs false
set_option linter.unusedVariables false
attribute [local go_sem] Oper.semAt_some

theorem mxI_comm (a b : Int) : mxI a b = mxI b a := by
  unfold mxI
  repeat' split
  all_goals omega
set_option maxRecDepth 10000 in
set_option maxHeartbeats 2000000 in
theorem PX.specOk (p : PX) (hm : p.Small) (hN : p.Names) (hT : ∀ (i : Nat) (t : LX), p.tasks[i]? = some t → SX.sizeAll t.l ≤ 1048577) (ok : Nat → Prop) (w : World) (hok : ∀ b, ok b → b < w.heap.size) (hL : PX.Lies ok w p) :
    Calls Tryz.prog 63 #[p.val] w fun e w' => e = .returned (.bool p.okI) ∧ Below w.heap.size w w' := by
  obtain ⟨vb, vc, vars, cb, cc, chans, nb, nc, locks, tb, tc, tasks⟩ := p
  dsimp only at hT
  obtain ⟨W1, hW1⟩ : ∃ W1, w.alloc (.cells #[.slice vb vars.length vc, .slice cb chans.length cc, .slice nb locks.length nc, .slice tb tasks.length tc] 35) = W1 := ⟨_, rfl⟩
  have hB1 : Below w.heap.size w W1 := by rw [← hW1]; exact (Below.refl _ w).alloc (Nat.le_refl _) _
  have hs1 : W1.heap.size = w.heap.size + 1 := by rw [← hW1]; simp
  have hA : PX.At W1 w.heap.size (PX.mk vb vc vars cb cc chans nb nc locks tb tc tasks) := by rw [← hW1]; exact PX.At.new w (PX.mk vb vc vars cb cc chans nb nc locks tb tc tasks) _
  have hL1 := hL.under hB1 hok
  have hok1 : ∀ b, ok b → b < W1.heap.size := fun b hb => by have := hok b hb; omega
  have HD : Hid (∀ x, Below W1.heap.size W1 x → Calls Tryz.prog 89 #[(PX.mk vb vc vars cb cc chans nb nc locks tb tc tasks).val] x fun e w' => e = .returned (.bool (vars.all (fun v => v.okB (mxI tasks.length 1)) && (chans.all (fun v => v.okB) && locks.all (fun v => nameB v)))) ∧ Below x.heap.size x w') := fun x hx => by
    have h := PX.specDecls (PX.mk vb vc vars cb cc chans nb nc locks tb tc tasks) hm hN ok x (fun b hb => Nat.lt_of_lt_of_le (hok1 b hb) hx.size) (hL1.under hx hok1)
    rw [mxI_comm] at h
    exact h
  obtain ⟨vl, cl, nl, tl, hmt⟩ := hm
  dsimp only at vl cl nl tl hmt
  have HT : Hid (∀ (i : Nat) (t : LX) x, tasks[i]? = some t → Below W1.heap.size W1 x → ∃ n m : Nat, Calls Tryz.prog 90 #[.slice t.base t.l.length t.cap, .int .i64 1] x fun e w' => e = .returned (.tuple #[.int .i64 n, .int .i64 m, .bool (taskI t.l)]) ∧ Below x.heap.size x w') := fun i t x ht hx => by
    have hLt := (hL1.k i t ht).under hx hok1
    have h := specList _ t.l (Nat.le_refl _) (hT i t ht) (hmt i t ht).kid t.base t.cap ok x (fun b hb => Nat.lt_of_lt_of_le (hok1 b hb) hx.size) hLt.row hLt.kid 1 (by omega)
    rw [task_same t.l (hmt i t ht).kid] at h
    exact ⟨_, _, h⟩
  have hlens : vars.length ≤ 6 → chans.length ≤ 3 → locks.length ≤ 3 → tasks.length ≤ 4 → (PX.mk vb vc vars cb cc chans nb nc locks tb tc tasks).lens = true := fun h1 h2 h3 h4 => by simp [PX.lens, h1, h2, h3, h4]
  have hlens' : ¬ (vars.length ≤ 6 ∧ chans.length ≤ 3 ∧ locks.length ≤ 3 ∧ tasks.length ≤ 4) → (PX.mk vb vc vars cb cc chans nb nc locks tb tc tasks).okI = false := fun h => by unfold PX.okI PX.lens; rw [decide_eq_false h, Bool.false_and]
  obtain ⟨bd, qd⟩ : ∃ b, (vars.all (fun v => v.okB (mxI tasks.length 1)) && (chans.all (fun v => v.okB) && locks.all (fun v => nameB v))) = b := ⟨_, rfl⟩
  have hokI : (PX.mk vb vc vars cb cc chans nb nc locks tb tc tasks).okI = ((PX.mk vb vc vars cb cc chans nb nc locks tb tc tasks).lens && (bd && tasks.all (fun t => taskI t.l))) := by
    rw [← qd]
    unfold PX.okI
    simp only [Bool.and_assoc]
  obtain ⟨c0, c1, c2, c3⟩ := hA.below (Below.refl W1.heap.size W1) (by omega)
  have hrl : ∀ b, (PX.mk vb vc vars cb cc chans nb nc locks tb tc tasks).lens = true → ((PX.mk vb vc vars cb cc chans nb nc locks tb tc tasks).lens && b) = b := fun b h => by rw [h, Bool.true_and]
  have hOK : Hid ((PX.mk vb vc vars cb cc chans nb nc locks tb tc tasks).okI = ((PX.mk vb vc vars cb cc chans nb nc locks tb tc tasks).lens && (bd && tasks.all (fun t => taskI t.l)))) := hokI
  clear hokI
  have hOut : Hid (¬ (vars.length ≤ 6 ∧ chans.length ≤ 3 ∧ locks.length ≤ 3 ∧ tasks.length ≤ 4) → (PX.mk vb vc vars cb cc chans nb nc locks tb tc tasks).okI = false) := hlens'
  clear hlens'
  dsimp only [PX.val]
  dsimp only at c0 c1 c2 c3
  go_enter Tryz.func63, Tryz.ntmps63
  go_wp2_with fail
  · have hl : (PX.mk vb vc vars cb cc chans nb nc locks tb tc tasks).lens = true := hlens (by omega) (by omega) (by omega) (by omega)
    go_at_call 89
    refine (HD.out _ (Below.refl W1.heap.size W1)).mono ?_
    rintro e w2 ⟨rfl, hX2⟩
    rw [qd]
    clear c0 c1 c2 c3
    obtain ⟨c0, c1, c2, c3⟩ := hA.below hX2 (by omega)
    dsimp only at c0 c1 c2 c3
    cases bd
    · have hr : (PX.mk vb vc vars cb cc chans nb nc locks tb tc tasks).okI = false := by rw [hOK.out]; simp
      go_wp2
      go_returns
      exact ⟨ret_bool hr.symm, hB1.trans (hX2.mono (by omega))⟩
    · have hr : Hid ((PX.mk vb vc vars cb cc chans nb nc locks tb tc tasks).okI = tasks.all (fun t => taskI t.l)) := by show _ = _; rw [hOK.out, hl]; simp
      clear hOK
      go_wp2_with fail
      go_loopw [3] (fun v3 wr => ∃ (i : Nat), v3 = .int .i64 i ∧ i ≤ tasks.length ∧ (tasks.take i).all (fun t => taskI t.l) = true ∧ Below W1.heap.size W1 wr) (fun v3 _ => tasks.length - (intOf v3).toNat)
      case atStart => exact ⟨0, rfl, by omega, by simp, hX2⟩
      case round =>
        obtain ⟨i, rfl, hi, hall, hX⟩ := hrel
        clear c0 c1 c2 c3
        obtain ⟨c0, c1, c2, c3⟩ := hA.below hX (by omega)
        dsimp only at c0 c1 c2 c3
        by_cases hlt : i < tasks.length
        · obtain ⟨t, ht⟩ : ∃ t, tasks[i]? = some t := ⟨_, List.getElem?_eq_getElem hlt⟩
          obtain ⟨b1, o1, hbase1, hob, hc1⟩ := hL1.t i t ht
          dsimp only at hbase1
          have d0 := below_cell hX hc1 (hok1 b1 hob)
          obtain ⟨n1, n2, hcall⟩ := HT.out i t wr ht hX
          subst hbase1
          cases hv : taskI t.l
          · rw [hv] at hcall
            go_wp2_with (go_at_call 90; refine hcall.mono ?_; rintro e w5 ⟨rfl, hb⟩)
            all_goals first | (exfalso; omega) | skip
            go_returns
            refine ⟨ret_bool ?_, hB1.trans ((bstep hX hb).mono (by omega))⟩
            rw [hr.out, all_bad (fun t : LX => taskI t.l) ht hv]
          · rw [hv] at hcall
            go_wp2_with (go_at_call 90; refine hcall.mono ?_; rintro e w5 ⟨rfl, hb⟩)
            all_goals first | (exfalso; omega) | skip
            exact ⟨⟨i + 1, by go_num, by omega, all_take (fun t : LX => taskI t.l) ht hall hv, bstep hX hb⟩, by simp [intOf]; omega⟩
        · have hfull : tasks.take i = tasks := List.take_of_length_le (by omega)
          rw [hfull] at hall
          go_wp2
          all_goals first | (exfalso; omega) | skip
          go_returns
          exact ⟨ret_bool (by rw [hr.out, hall]), hB1.trans (hX.mono (by omega))⟩
  all_goals
    go_returns
    exact ⟨ret_bool (hOut.out (by omega)).symm, hB1⟩
end Go.Proofs.YtaajdoipjalgmaaGreatDoor
