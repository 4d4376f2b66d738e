/-
  A statement as one of its kind, and what the program answers of it, but for those within it.
-/
import Derived.Test.YtimfdfeleoaehaaOkF
namespace Go.Proofs.Ytimfdfeleoaehaa
open Go.RowKit Go.Shelf
set_option linter.unusedSimpArgs false
set_option linter.unusedVariables false
attribute [local go_sem] Oper.semAt_some

def typeS (k : Int) : Nat := if k = 1 then 119 else if k = 2 then 120 else if k = 3 then 121 else if k = 4 then 122 else if k = 5 then 123 else if k = 6 then 124 else if k = 7 then 125 else if k = 8 then 126 else if k = 9 then 127 else if k = 10 then 128 else 129
def SX.fitB (s : SX) : Bool := if s.kind = 1 then (nameB s.name && (s.onlyE && s.noL)) else if s.kind = 2 then (nameB s.name && (s.e.okI && (s.f.okI && s.noL))) else if s.kind = 3 then (s.name.toList.isEmpty && s.onlyE) else if s.kind = 4 then (s.name.toList.isEmpty && (s.onlyE && decide (s.lb.length = 0))) else if s.kind = 5 then s.onlyN else if s.kind = 6 then s.onlyN else if s.kind = 7 then (nameB s.name && (s.onlyE && s.noL)) else if s.kind = 8 then (nameB s.name && ((s.e.kind == 2) && (s.onlyE && s.noL))) else if s.kind = 9 then (s.name.toList.isEmpty && (s.onlyE && s.noL)) else if s.kind = 10 then (s.name.toList.isEmpty && (s.onlyE && s.noL)) else false
set_option maxHeartbeats 4000000 in
theorem typedS0 (k : Int) (n : ByteArray) (ek en : Int) (es : ByteArray) (eb : Option Addr) (el ec : Nat) (fk fn : Int) (fs : ByteArray) (fb : Option Addr) (fl fc : Nat) (ab : Option Addr) (al ac : Nat) (bb : Option Addr) (bl bc : Nat) (w : World) :
    Calls Try.prog 57 #[.agg #[.int .i64 k, .string n, .int .i64 ek, .int .i64 en, .string es, .slice eb el ec, .int .i64 fk, .int .i64 fn, .string fs, .slice fb fl fc, .slice ab al ac, .slice bb bl bc]] w fun e w' => e = .returned (.iface (typeS k) (.agg #[.int .i64 k, .string n, .int .i64 ek, .int .i64 en, .string es, .slice eb el ec, .int .i64 fk, .int .i64 fn, .string fs, .slice fb fl fc, .slice ab al ac, .slice bb bl bc])) ∧ Below w.heap.size w w' := by
  have hB : ∀ o, Below w.heap.size w (w.alloc o) := fun o => (Below.refl _ w).alloc (Nat.le_refl _) o
  go_enter Try.func57, Try.ntmps57
  go_wp2
  all_goals
    go_returns
    refine ⟨congrArg (fun T => Ending.returned (Value.iface T (.agg #[.int .i64 k, .string n, .int .i64 ek, .int .i64 en, .string es, .slice eb el ec, .int .i64 fk, .int .i64 fn, .string fs, .slice fb fl fc, .slice ab al ac, .slice bb bl bc]))) ?_, hB _⟩
    simp only [beq_iff_eq, beq_eq_false_iff_ne, ne_eq, Bool.not_eq_true] at *
    unfold typeS
    (repeat' split) <;> first | rfl | omega
theorem typedS (s : SX) (w : World) :
    Calls Try.prog 57 #[s.val] w fun e w' => e = .returned (.iface (typeS s.kind) s.val) ∧ Below w.heap.size w w' := typedS0 _ _ _ _ _ _ _ _ _ _ _ _ _ _ _ _ _ _ _ _ _
theorem methS_setStmt (s : SX) (w : World) : (method 273 119 s.val "loop.example/hedge/impl.fits").run Try.prog w = .ok (102, s.val) w := by kernel_rfl
theorem methS_putStmt (s : SX) (w : World) : (method 273 120 s.val "loop.example/hedge/impl.fits").run Try.prog w = .ok (110, s.val) w := by kernel_rfl
theorem methS_ifStmt (s : SX) (w : World) : (method 273 121 s.val "loop.example/hedge/impl.fits").run Try.prog w = .ok (111, s.val) w := by kernel_rfl
theorem methS_whileStmt (s : SX) (w : World) : (method 273 122 s.val "loop.example/hedge/impl.fits").run Try.prog w = .ok (112, s.val) w := by kernel_rfl
theorem methS_lockStmt (s : SX) (w : World) : (method 273 123 s.val "loop.example/hedge/impl.fits").run Try.prog w = .ok (113, s.val) w := by kernel_rfl
theorem methS_unlockStmt (s : SX) (w : World) : (method 273 124 s.val "loop.example/hedge/impl.fits").run Try.prog w = .ok (115, s.val) w := by kernel_rfl
theorem methS_sendStmt (s : SX) (w : World) : (method 273 125 s.val "loop.example/hedge/impl.fits").run Try.prog w = .ok (116, s.val) w := by kernel_rfl
theorem methS_recvStmt (s : SX) (w : World) : (method 273 126 s.val "loop.example/hedge/impl.fits").run Try.prog w = .ok (117, s.val) w := by kernel_rfl
theorem methS_assertStmt (s : SX) (w : World) : (method 273 127 s.val "loop.example/hedge/impl.fits").run Try.prog w = .ok (118, s.val) w := by kernel_rfl
theorem methS_showStmt (s : SX) (w : World) : (method 273 128 s.val "loop.example/hedge/impl.fits").run Try.prog w = .ok (119, s.val) w := by kernel_rfl
theorem methS_noStmt (s : SX) (w : World) : (method 273 129 s.val "loop.example/hedge/impl.fits").run Try.prog w = .ok (120, s.val) w := by kernel_rfl
/-- Whatever its kind is: a method is found, and what it answers. -/
theorem SX.disp (s : SX) (hm : SmallS s) : ∃ f : Nat, (∀ w : World, (method 273 (typeS s.kind) s.val "loop.example/hedge/impl.fits").run Try.prog w = .ok (f, s.val) w) ∧
    (∀ args w, (callFunc f args).run Try.prog w = .ok (.enter f args) w) ∧
    ∀ (ok : Nat → Prop) (w : World), (∀ b, ok b → b < w.heap.size) → LiesS ok w s → Calls Try.prog f #[s.val] w fun e w' => e = .returned (.bool s.fitB) ∧ Below w.heap.size w w' := by
  by_cases h0 : s.kind = 1
  · have hT : typeS s.kind = 119 := by rw [h0]; rfl
    have hF : s.fitB = (nameB s.name && (s.onlyE && s.noL)) := by unfold SX.fitB; simp [h0]
    rw [hT, hF]
    exact ⟨102, methS_setStmt s, enters_of Try.func102 (by kernel_rfl) rfl, fun ok w hok hL => SX.fitSet s hm ok w hok hL⟩
  by_cases h1 : s.kind = 2
  · have hT : typeS s.kind = 120 := by rw [h1]; rfl
    have hF : s.fitB = (nameB s.name && (s.e.okI && (s.f.okI && s.noL))) := by unfold SX.fitB; simp [h1]
    rw [hT, hF]
    exact ⟨110, methS_putStmt s, enters_of Try.func110 (by kernel_rfl) rfl, fun ok w hok hL => SX.fitPut s hm ok w hok hL⟩
  by_cases h2 : s.kind = 3
  · have hT : typeS s.kind = 121 := by rw [h2]; rfl
    have hF : s.fitB = (s.name.toList.isEmpty && s.onlyE) := by unfold SX.fitB; simp [h2]
    rw [hT, hF]
    exact ⟨111, methS_ifStmt s, enters_of Try.func111 (by kernel_rfl) rfl, fun ok w hok hL => SX.fitIf s hm ok w hok hL⟩
  by_cases h3 : s.kind = 4
  · have hT : typeS s.kind = 122 := by rw [h3]; rfl
    have hF : s.fitB = (s.name.toList.isEmpty && (s.onlyE && decide (s.lb.length = 0))) := by unfold SX.fitB; simp [h3]
    rw [hT, hF]
    exact ⟨112, methS_whileStmt s, enters_of Try.func112 (by kernel_rfl) rfl, fun ok w hok hL => SX.fitWhile s hm ok w hok hL⟩
  by_cases h4 : s.kind = 5
  · have hT : typeS s.kind = 123 := by rw [h4]; rfl
    have hF : s.fitB = s.onlyN := by unfold SX.fitB; simp [h4]
    rw [hT, hF]
    exact ⟨113, methS_lockStmt s, enters_of Try.func113 (by kernel_rfl) rfl, fun ok w hok hL => SX.fitLock s hm ok w hok hL⟩
  by_cases h5 : s.kind = 6
  · have hT : typeS s.kind = 124 := by rw [h5]; rfl
    have hF : s.fitB = s.onlyN := by unfold SX.fitB; simp [h5]
    rw [hT, hF]
    exact ⟨115, methS_unlockStmt s, enters_of Try.func115 (by kernel_rfl) rfl, fun ok w hok hL => SX.fitUnlock s hm ok w hok hL⟩
  by_cases h6 : s.kind = 7
  · have hT : typeS s.kind = 125 := by rw [h6]; rfl
    have hF : s.fitB = (nameB s.name && (s.onlyE && s.noL)) := by unfold SX.fitB; simp [h6]
    rw [hT, hF]
    exact ⟨116, methS_sendStmt s, enters_of Try.func116 (by kernel_rfl) rfl, fun ok w hok hL => SX.fitSend s hm ok w hok hL⟩
  by_cases h7 : s.kind = 8
  · have hT : typeS s.kind = 126 := by rw [h7]; rfl
    have hF : s.fitB = (nameB s.name && ((s.e.kind == 2) && (s.onlyE && s.noL))) := by unfold SX.fitB; simp [h7]
    rw [hT, hF]
    exact ⟨117, methS_recvStmt s, enters_of Try.func117 (by kernel_rfl) rfl, fun ok w hok hL => SX.fitRecv s hm ok w hok hL⟩
  by_cases h8 : s.kind = 9
  · have hT : typeS s.kind = 127 := by rw [h8]; rfl
    have hF : s.fitB = (s.name.toList.isEmpty && (s.onlyE && s.noL)) := by unfold SX.fitB; simp [h8]
    rw [hT, hF]
    exact ⟨118, methS_assertStmt s, enters_of Try.func118 (by kernel_rfl) rfl, fun ok w hok hL => SX.fitAssert s hm ok w hok hL⟩
  by_cases h9 : s.kind = 10
  · have hT : typeS s.kind = 128 := by rw [h9]; rfl
    have hF : s.fitB = (s.name.toList.isEmpty && (s.onlyE && s.noL)) := by unfold SX.fitB; simp [h9]
    rw [hT, hF]
    exact ⟨119, methS_showStmt s, enters_of Try.func119 (by kernel_rfl) rfl, fun ok w hok hL => SX.fitShow s hm ok w hok hL⟩
  have hT : typeS s.kind = 129 := by unfold typeS; simp [h0, h1, h2, h3, h4, h5, h6, h7, h8, h9]
  have hF : s.fitB = false := by unfold SX.fitB; simp [h0, h1, h2, h3, h4, h5, h6, h7, h8, h9]
  rw [hT, hF]
  exact ⟨120, methS_noStmt s, enters_of Try.func120 (by kernel_rfl) rfl, fun ok w hok hL => SX.fitNo s hm ok w hok hL⟩
end Go.Proofs.Ytimfdfeleoaehaa
