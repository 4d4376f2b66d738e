/-
  What the program and the specification answer of one instruction: whether it has what its Op has, and nothing else.
-/
import Derived.Test.YtimfdfeleoaehaaInstA
import Derived.Test.YtimfdfeleoaehaaOkL
namespace Go.Proofs.Ytimfdfeleoaehaa
open Go.RowKit
set_option linter.unusedSimpArgs false
set_option linter.unusedVariables false

def brB (k : Int) : Bool := decide (k = 3 ∨ k = 4)
def SX.noneS (s : SX) : Bool := (s.kind == 0) && (s.name.toList.isEmpty && (noneE s.e && (noneE s.f && s.noL)))
def IX.fitB (x : IX) (n : Int) : Bool := if x.op = 1 then ((x.dst == 0) && (!brB x.s.kind && x.s.fitB)) else if x.op = 2 then (decide (0 ≤ x.dst ∧ x.dst < n) && (brB x.s.kind && (x.s.noL && x.s.fitB))) else if x.op = 3 then (decide (0 ≤ x.dst ∧ x.dst < n) && x.s.noneS) else if x.op = 4 then ((x.dst == 0) && x.s.noneS) else false
theorem implBranch (s : SX) (w : World) :
    Calls Try.prog 56 #[s.val] w fun e w' => e = .returned (.bool (brB s.kind)) ∧ Below w.heap.size w w' := by
  obtain ⟨W1, hW1⟩ : ∃ W1, w.alloc (.cells #[.int .i64 s.kind, .string s.name, .int .i64 s.e.kind, .int .i64 s.e.num, .string s.e.name, .slice s.e.base s.e.kids.length s.e.cap, .int .i64 s.f.kind, .int .i64 s.f.num, .string s.f.name, .slice s.f.base s.f.kids.length s.f.cap, .slice s.abase s.la.length s.acap, .slice s.bbase s.lb.length s.bcap] 50) = W1 := ⟨_, rfl⟩
  have hB1 : Below w.heap.size w W1 := by rw [← hW1]; exact (Below.refl _ w).alloc (Nat.le_refl _) _
  have hC : Cells12 W1 w.heap.size 0 s := by rw [← hW1]; exact Cells12.new w s _
  obtain ⟨c0, c1, c2, c3, c4, c5, c6, c7, c8, c9, c10, c11⟩ := hC
  go_enter Try.func56, Try.ntmps56
  go_wp2
  all_goals
    go_returns
    refine ⟨ret_bool ?_, hB1⟩
    first | rfl | (simp_all [brB]; done) | (rw [Bool.eq_iff_iff]; simp_all [brB]; done) | (rw [Bool.eq_iff_iff]; simp_all [brB]; omega)
set_option maxRecDepth 10000 in
set_option maxHeartbeats 4000000 in
theorem implNothing0 (n : ByteArray) (e f : XT) (ab : Option Addr) (ac : Nat) (la : List SX) (bb : Option Addr) (bc : Nat) (lb : List SX) (w : World)
    (HN : ∀ W : World, Below w.heap.size w W → Calls Try.prog 58 #[.agg #[.int .i64 0, .string n, .int .i64 e.kind, .int .i64 e.num, .string e.name, .slice e.base e.kids.length e.cap, .int .i64 f.kind, .int .i64 f.num, .string f.name, .slice f.base f.kids.length f.cap, .slice ab la.length ac, .slice bb lb.length bc]] W fun e w' => e = .returned (.bool (decide (la.length = 0) && decide (lb.length = 0))) ∧ Below W.heap.size W w') :
    Calls Try.prog 59 #[.agg #[.int .i64 0, .string n, .int .i64 e.kind, .int .i64 e.num, .string e.name, .slice e.base e.kids.length e.cap, .int .i64 f.kind, .int .i64 f.num, .string f.name, .slice f.base f.kids.length f.cap, .slice ab la.length ac, .slice bb lb.length bc]] w fun e' w' => e' = .returned (.bool (n.toList.isEmpty && (noneE e && (noneE f && (decide (la.length = 0) && decide (lb.length = 0)))))) ∧ Below w.heap.size w w' := by
  obtain ⟨W1, hW1⟩ : ∃ W1, w.alloc (.cells #[.int .i64 0, .string n, .int .i64 e.kind, .int .i64 e.num, .string e.name, .slice e.base e.kids.length e.cap, .int .i64 f.kind, .int .i64 f.num, .string f.name, .slice f.base f.kids.length f.cap, .slice ab la.length ac, .slice bb lb.length bc] 50) = W1 := ⟨_, rfl⟩
  have hs1 : w.heap.size + 1 = W1.heap.size := by rw [← hW1]; simp
  have hB1 : Below w.heap.size w W1 := by rw [← hW1]; exact (Below.refl _ w).alloc (Nat.le_refl _) _
  have hC : Cells12 W1 w.heap.size 0 (.mk 0 n e f ab ac la bb bc lb) := by rw [← hW1]; exact Cells12.new w (.mk 0 n e f ab ac la bb bc lb) _
  have HNL : Hid (∀ W : World, Below W1.heap.size W1 W → Calls Try.prog 58 #[.agg #[.int .i64 0, .string n, .int .i64 e.kind, .int .i64 e.num, .string e.name, .slice e.base e.kids.length e.cap, .int .i64 f.kind, .int .i64 f.num, .string f.name, .slice f.base f.kids.length f.cap, .slice ab la.length ac, .slice bb lb.length bc]] W fun e w' => e = .returned (.bool (decide (la.length = 0) && decide (lb.length = 0))) ∧ Below W.heap.size W w') := fun W hW => HN W (bstep hB1 hW)
  have hX := Below.refl W1.heap.size W1
  obtain ⟨c0, c1, c2, c3, c4, c5, c6, c7, c8, c9, c10, c11⟩ := raw12 (hC.below hX (by omega))
  obtain ⟨b1, r1⟩ : ∃ b, noneE e = b := ⟨_, rfl⟩
  obtain ⟨b2, r2⟩ : ∃ b, noneE f = b := ⟨_, rfl⟩
  obtain ⟨b3, r3⟩ : ∃ b, (decide (la.length = 0) && decide (lb.length = 0)) = b := ⟨_, rfl⟩
  rw [r1, r2, r3]
  rw [r3] at HNL
  clear HN
  go_enter Try.func59, Try.ntmps59
  go_wp2_with (first | (go_at_call 76; refine (isNothing _ _).mono ?_; rintro e' wn ⟨rfl, hb⟩; (replace hX := bstep hX hb); (obtain ⟨c0, c1, c2, c3, c4, c5, c6, c7, c8, c9, c10, c11⟩ := raw12 (hC.below hX (by omega))); (clear hb); (first | rw [r1] | rw [r2])) | (go_at_call 58; refine (HNL.out _ hX).mono ?_; rintro e' wn ⟨rfl, hb⟩; (replace hX := bstep hX hb); (obtain ⟨c0, c1, c2, c3, c4, c5, c6, c7, c8, c9, c10, c11⟩ := raw12 (hC.below hX (by omega))); (clear hb)))
  all_goals
    go_returns
    refine ⟨ret_bool ?_, hB1.trans (hX.mono (by omega))⟩
    first | rfl | (simp_all; done) | (rw [Bool.eq_iff_iff]; simp_all; done) | (rw [Bool.eq_iff_iff]; simp_all; omega)
theorem SX.implNothing (s : SX) (hm : SmallS s) (ok : Nat → Prop) (w : World) (hok : ∀ b, ok b → b < w.heap.size) (hL : LiesS ok w s) :
    Calls Try.prog 59 #[s.val] w fun e w' => e = .returned (.bool s.noneS) ∧ Below w.heap.size w w' := by
  have HNL : ∀ W : World, Below w.heap.size w W → Calls Try.prog 58 #[s.val] W fun e w' => e = .returned (.bool s.noL) ∧ Below W.heap.size W w' := fun W hW => SX.hasNoLists s hm ok W (fun b hb => Nat.lt_of_lt_of_le (hok b hb) hW.size) (hL.under hW hok)
  obtain ⟨k, n, e, f, ab, ac, la, bb, bc, lb⟩ := s
  by_cases hk : k = 0
  · subst hk
    refine (implNothing0 n e f ab ac la bb bc lb w HNL).mono ?_
    rintro e' w' ⟨rfl, hb⟩
    exact ⟨rfl, hb⟩
  · clear HNL hL hm
    have hF : (SX.mk k n e f ab ac la bb bc lb).noneS = false := by simp [SX.noneS, SX.kind, hk]
    rw [hF]
    obtain ⟨W1, hW1⟩ : ∃ W1, w.alloc (.cells #[.int .i64 k, .string n, .int .i64 e.kind, .int .i64 e.num, .string e.name, .slice e.base e.kids.length e.cap, .int .i64 f.kind, .int .i64 f.num, .string f.name, .slice f.base f.kids.length f.cap, .slice ab la.length ac, .slice bb lb.length bc] 50) = W1 := ⟨_, rfl⟩
    have hB1 : Below w.heap.size w W1 := by rw [← hW1]; exact (Below.refl _ w).alloc (Nat.le_refl _) _
    have hC : Cells12 W1 w.heap.size 0 (.mk k n e f ab ac la bb bc lb) := by rw [← hW1]; exact Cells12.new w (.mk k n e f ab ac la bb bc lb) _
    obtain ⟨c0, c1, c2, c3, c4, c5, c6, c7, c8, c9, c10, c11⟩ := raw12 hC
    simp only [SX.val, SX.kind, SX.name, SX.e, SX.f, SX.abase, SX.acap, SX.la, SX.bbase, SX.bcap, SX.lb]
    go_enter Try.func59, Try.ntmps59
    go_wp2
    all_goals first | (exfalso; omega) | skip
    all_goals
      go_returns
      exact ⟨rfl, hB1⟩
end Go.Proofs.Ytimfdfeleoaehaa
