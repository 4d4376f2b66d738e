/-
  What the program answers of one statement, but for those within it.
-/
import Derived.Test.YtimfdfeleoaehaaOkD
import Derived.Test.YtimfdfeleoaehaaTreeG
namespace Go.Proofs.Ytimfdfeleoaehaa
open Go.RowKit Go.Shelf
set_option linter.unusedSimpArgs false
set_option linter.unusedVariables false
attribute [local go_sem] Oper.semAt_some

def noneE (t : XT) : Bool := (t.kind == 0) && ((t.num == 0) && (t.name.toList.isEmpty && decide (t.kids.length = 0)))
def SX.onlyE (s : SX) : Bool := s.e.okI && noneE s.f
def SX.noL (s : SX) : Bool := decide (s.la.length = 0) && decide (s.lb.length = 0)
def SX.onlyN (s : SX) : Bool := nameB s.name && (noneE s.e && (noneE s.f && s.noL))
set_option maxHeartbeats 2000000 in
theorem isNothing0 (k n : Int) (s : ByteArray) (a : Option Addr) (len c : Nat) (w : World) :
    Calls Try.prog 76 #[.agg #[.int .i64 k, .int .i64 n, .string s, .slice a len c]] w fun e w' => e = .returned (.bool ((k == 0) && ((n == 0) && (s.toList.isEmpty && decide (len = 0))))) ∧ Below w.heap.size w w' := by
  have hB : ∀ o, Below w.heap.size w (w.alloc o) := fun o => (Below.refl _ w).alloc (Nat.le_refl _) o
  go_enter Try.func76, Try.ntmps76
  go_wp2_with fail
  all_goals
    go_returns
    refine ⟨ret_bool ?_, hB _⟩
    first | rfl | (simp_all; done) | (rw [Bool.eq_iff_iff]; simp_all; done) | (rw [Bool.eq_iff_iff]; simp_all; omega)
theorem isNothing (t : XT) (w : World) :
    Calls Try.prog 76 #[t.val] w fun e w' => e = .returned (.bool (noneE t)) ∧ Below w.heap.size w w' := isNothing0 _ _ _ _ _ _ _
set_option maxRecDepth 10000 in
set_option maxHeartbeats 4000000 in
theorem SX.hasNoLists (s : SX) (hm : SmallS s) (ok : Nat → Prop) (w : World) (hok : ∀ b, ok b → b < w.heap.size) (hL : LiesS ok w s) :
    Calls Try.prog 58 #[s.val] w fun e w' => e = .returned (.bool s.noL) ∧ Below w.heap.size w w' := by
  obtain ⟨m1, m2, m3, m4, -, -⟩ := hm.parts
  obtain ⟨W1, hW1⟩ : ∃ W1, w.alloc (.cells #[.int .i64 s.kind, .string s.name, .int .i64 s.e.kind, .int .i64 s.e.num, .string s.e.name, .slice s.e.base s.e.kids.length s.e.cap, .int .i64 s.f.kind, .int .i64 s.f.num, .string s.f.name, .slice s.f.base s.f.kids.length s.f.cap, .slice s.abase s.la.length s.acap, .slice s.bbase s.lb.length s.bcap] 50) = W1 := ⟨_, rfl⟩
  have hs1 : w.heap.size + 1 = W1.heap.size := by rw [← hW1]; simp
  have hB1 : Below w.heap.size w W1 := by rw [← hW1]; exact (Below.refl _ w).alloc (Nat.le_refl _) _
  have hC : Cells12 W1 w.heap.size 0 s := by rw [← hW1]; exact Cells12.new w s _
  have hok1 : ∀ b, ok b → b < W1.heap.size := fun b hb => by have := hok b hb; omega
  have hL1 := hL.under hB1 hok
  have hX := Below.refl W1.heap.size W1
  obtain ⟨c0, c1, c2, c3, c4, c5, c6, c7, c8, c9, c10, c11⟩ := hC.below hX (by omega)
  go_enter Try.func58, Try.ntmps58
  go_wp2_with (first | (go_at_call 103; refine (implName s.name _ m1).mono ?_; rintro e wn ⟨rfl, hw⟩; subst wn))
  all_goals
    go_returns
    refine ⟨ret_bool ?_, hB1.trans (hX.mono (by omega))⟩
    first | rfl | (simp_all [SX.onlyE, SX.noL, SX.onlyN]; done) | (rw [Bool.eq_iff_iff]; simp_all [SX.onlyE, SX.noL, SX.onlyN]; done) | (rw [Bool.eq_iff_iff]; simp_all [SX.onlyE, SX.noL, SX.onlyN]; omega)
set_option maxRecDepth 10000 in
set_option maxHeartbeats 4000000 in
theorem SX.hasOnlyE (s : SX) (hm : SmallS s) (ok : Nat → Prop) (w : World) (hok : ∀ b, ok b → b < w.heap.size) (hL : LiesS ok w s) :
    Calls Try.prog 104 #[s.val] w fun e w' => e = .returned (.bool s.onlyE) ∧ Below w.heap.size w w' := by
  obtain ⟨m1, m2, m3, m4, -, -⟩ := hm.parts
  obtain ⟨W1, hW1⟩ : ∃ W1, w.alloc (.cells #[.int .i64 s.kind, .string s.name, .int .i64 s.e.kind, .int .i64 s.e.num, .string s.e.name, .slice s.e.base s.e.kids.length s.e.cap, .int .i64 s.f.kind, .int .i64 s.f.num, .string s.f.name, .slice s.f.base s.f.kids.length s.f.cap, .slice s.abase s.la.length s.acap, .slice s.bbase s.lb.length s.bcap] 50) = W1 := ⟨_, rfl⟩
  have hs1 : w.heap.size + 1 = W1.heap.size := by rw [← hW1]; simp
  have hB1 : Below w.heap.size w W1 := by rw [← hW1]; exact (Below.refl _ w).alloc (Nat.le_refl _) _
  have hC : Cells12 W1 w.heap.size 0 s := by rw [← hW1]; exact Cells12.new w s _
  have hok1 : ∀ b, ok b → b < W1.heap.size := fun b hb => by have := hok b hb; omega
  have hL1 := hL.under hB1 hok
  have hX := Below.refl W1.heap.size W1
  obtain ⟨c0, c1, c2, c3, c4, c5, c6, c7, c8, c9, c10, c11⟩ := hC.below hX (by omega)
  have HE : ∀ x : Later W1, Calls Try.prog 106 #[s.e.val] x.at fun e w' => e = .returned (.bool s.e.okI) ∧ Below x.at.heap.size x.at w' := fun x => implOk1 s.e (by have := m2.1; omega) m2.2 ok x.at (fun b hb => Nat.lt_of_lt_of_le (hok1 b hb) (Later.below x).size) ((hL1.parts.1).under (Later.below x) hok1)
  go_enter Try.func104, Try.ntmps104
  go_wp2_with (first | (go_at_call 106; refine (HE ⟨_, hX⟩).mono ?_; rintro e wn ⟨rfl, hb⟩; (replace hX := bstep hX hb); (obtain ⟨c0, c1, c2, c3, c4, c5, c6, c7, c8, c9, c10, c11⟩ := hC.below hX (by omega)); (clear hb)) | (go_at_call 76; refine (isNothing _ _).mono ?_; rintro e wn ⟨rfl, hb⟩; (replace hX := bstep hX hb); (obtain ⟨c0, c1, c2, c3, c4, c5, c6, c7, c8, c9, c10, c11⟩ := hC.below hX (by omega)); (clear hb)) | (go_at_call 103; refine (implName s.name _ m1).mono ?_; rintro e wn ⟨rfl, hw⟩; subst wn))
  all_goals
    go_returns
    refine ⟨ret_bool ?_, hB1.trans (hX.mono (by omega))⟩
    first | rfl | (simp_all [SX.onlyE, SX.noL, SX.onlyN]; done) | (rw [Bool.eq_iff_iff]; simp_all [SX.onlyE, SX.noL, SX.onlyN]; done) | (rw [Bool.eq_iff_iff]; simp_all [SX.onlyE, SX.noL, SX.onlyN]; omega)
set_option maxRecDepth 10000 in
set_option maxHeartbeats 4000000 in
theorem SX.hasOnlyName (s : SX) (hm : SmallS s) (ok : Nat → Prop) (w : World) (hok : ∀ b, ok b → b < w.heap.size) (hL : LiesS ok w s) :
    Calls Try.prog 114 #[s.val] w fun e w' => e = .returned (.bool s.onlyN) ∧ Below w.heap.size w w' := by
  obtain ⟨m1, m2, m3, m4, -, -⟩ := hm.parts
  obtain ⟨W1, hW1⟩ : ∃ W1, w.alloc (.cells #[.int .i64 s.kind, .string s.name, .int .i64 s.e.kind, .int .i64 s.e.num, .string s.e.name, .slice s.e.base s.e.kids.length s.e.cap, .int .i64 s.f.kind, .int .i64 s.f.num, .string s.f.name, .slice s.f.base s.f.kids.length s.f.cap, .slice s.abase s.la.length s.acap, .slice s.bbase s.lb.length s.bcap] 50) = W1 := ⟨_, rfl⟩
  have hs1 : w.heap.size + 1 = W1.heap.size := by rw [← hW1]; simp
  have hB1 : Below w.heap.size w W1 := by rw [← hW1]; exact (Below.refl _ w).alloc (Nat.le_refl _) _
  have hC : Cells12 W1 w.heap.size 0 s := by rw [← hW1]; exact Cells12.new w s _
  have hok1 : ∀ b, ok b → b < W1.heap.size := fun b hb => by have := hok b hb; omega
  have hL1 := hL.under hB1 hok
  have hX := Below.refl W1.heap.size W1
  obtain ⟨c0, c1, c2, c3, c4, c5, c6, c7, c8, c9, c10, c11⟩ := hC.below hX (by omega)
  have HNL : ∀ x : Later W1, Calls Try.prog 58 #[s.val] x.at fun e w' => e = .returned (.bool s.noL) ∧ Below x.at.heap.size x.at w' := fun x => SX.hasNoLists s hm ok x.at (fun b hb => Nat.lt_of_lt_of_le (hok1 b hb) (Later.below x).size) (hL1.under (Later.below x) hok1)
  go_enter Try.func114, Try.ntmps114
  go_wp2_with (first | (go_at_call 76; refine (isNothing _ _).mono ?_; rintro e wn ⟨rfl, hb⟩; (replace hX := bstep hX hb); (obtain ⟨c0, c1, c2, c3, c4, c5, c6, c7, c8, c9, c10, c11⟩ := hC.below hX (by omega)); (clear hb)) | (go_at_call 58; refine (HNL ⟨_, hX⟩).mono ?_; rintro e wn ⟨rfl, hb⟩; (replace hX := bstep hX hb); (obtain ⟨c0, c1, c2, c3, c4, c5, c6, c7, c8, c9, c10, c11⟩ := hC.below hX (by omega)); (clear hb)) | (go_at_call 103; refine (implName s.name _ m1).mono ?_; rintro e wn ⟨rfl, hw⟩; subst wn))
  all_goals
    go_returns
    refine ⟨ret_bool ?_, hB1.trans (hX.mono (by omega))⟩
    first | rfl | (simp_all [SX.onlyE, SX.noL, SX.onlyN]; done) | (rw [Bool.eq_iff_iff]; simp_all [SX.onlyE, SX.noL, SX.onlyN]; done) | (rw [Bool.eq_iff_iff]; simp_all [SX.onlyE, SX.noL, SX.onlyN]; omega)
end Go.Proofs.Ytimfdfeleoaehaa
