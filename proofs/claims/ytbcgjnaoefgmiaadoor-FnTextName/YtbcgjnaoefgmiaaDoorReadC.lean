/-
  A text of one word that is no numeral and no word of an expression is read as the variable of that name, just if it is a name; the empty text is read as nothing.
-/
import Derived.Test.YtbcgjnaoefgmiaaDoorReadB
import Derived.Test.YtbcgjnaoefgmiaaDoorTreeF
import Derived.Defers
import Derived.Recover
namespace Go.Proofs.YtbcgjnaoefgmiaaDoor
open Go.RowKit Go.Shelf
set_option linter.unusedSimpArgs false
set_option linter.unusedVariables false
attribute [local go_sem] Oper.semAt_some

theorem own1 {w : World} {base : Nat} {v : Value} {s : ByteArray} (h : w.ownsRow base 9 1 v 1 [.string s]) : ∃ b cap, v = .slice (some ⟨b, 0, none⟩) 1 cap ∧ base ≤ b ∧ w.cell? ⟨b, 0, none⟩ = some (.string s) := by
  obtain ⟨hl, h2⟩ := h
  rcases h2 with ⟨_, h2⟩ | ⟨b, cap, cur, rfl, h3, h4, h5, h6, h7, h8⟩
  · omega
  · refine ⟨b, cap, rfl, h3, ?_⟩
    obtain ⟨l⟩ := cur
    match l, h8 with
    | c :: r, h8 =>
      simp at h8
      subst h8
      simp [World.cell?, h4]
theorem own0 {w : World} {base : Nat} {v : Value} (h : w.ownsRow base 9 1 v 0 []) : ∃ a cap, v = .slice a 0 cap := by
  obtain ⟨hl, h2⟩ := h
  rcases h2 with ⟨h2, h3⟩ | ⟨b, cap, cur, rfl, h3, h4, h5, h6, h7, h8⟩
  · first | exact ⟨_, _, h2⟩ | exact ⟨_, _, h3⟩
  · exact ⟨_, _, rfl⟩

set_option maxRecDepth 100000 in
theorem readerOf1 (s : ByteArray) (w : World) (hs : s.size ≤ 8000) (hw : wds s = [s]) :
    Calls Tryd.prog 12 #[.string s] w fun e w' => ∃ (g b cap : Nat), e = .returned (.pointer (some ⟨g, 0, none⟩)) ∧ w.heap.size ≤ g ∧ w.heap.size ≤ b ∧ Below w.heap.size w w' ∧ w'.cell? ⟨g, 0, none⟩ = some (.slice (some ⟨b, 0, none⟩) 1 cap) ∧ w'.cell? ⟨g, 1, none⟩ = some (.int .i64 0) ∧ w'.frozen? ⟨g, 1, none⟩ = false ∧ w'.cell? ⟨b, 0, none⟩ = some (.string s) := by
  have hi := implWords s w (by omega)
  rw [hw] at hi
  go_enter Tryd.func12, Tryd.ntmps12
  go_wp2_with (go_at_call 18; refine hi.mono ?_; rintro e w1 ⟨v, rfl, hown, hb⟩; (obtain ⟨b, cap, rfl, hbb, hcb⟩ := own1 hown); clear hown)
  go_returns
  have lb := World.block_lt_of_cell? w1 _ hcb
  refine ⟨w1.heap.size, b, cap, rfl, hb.size, hbb, hb.trans (((Below.refl _ w1).alloc (Nat.le_refl _) _).mono hb.size), ?_, ?_, ?_, (World.cell?_alloc_lt _ _ _ lb).trans hcb⟩
  · simp [go_sem]
  · simp [go_sem]
  · simp [go_sem]

set_option maxRecDepth 100000 in
theorem readerOf0 (w : World) :
    Calls Tryd.prog 12 #[.string ⟨#[]⟩] w fun e w' => ∃ (g : Nat) (a : Option Addr) (cap : Nat), e = .returned (.pointer (some ⟨g, 0, none⟩)) ∧ w.heap.size ≤ g ∧ Below w.heap.size w w' ∧ w'.cell? ⟨g, 0, none⟩ = some (.slice a 0 cap) ∧ w'.cell? ⟨g, 1, none⟩ = some (.int .i64 0) := by
  have hi := implWords ⟨#[]⟩ w (by decide)
  rw [show wds ⟨#[]⟩ = [] from rfl] at hi
  go_enter Tryd.func12, Tryd.ntmps12
  go_wp2_with (go_at_call 18; refine hi.mono ?_; rintro e w1 ⟨v, rfl, hown, hb⟩; (obtain ⟨a, cap, rfl⟩ := own0 hown); clear hown)
  go_returns
  refine ⟨w1.heap.size, a, cap, rfl, hb.size, hb.trans (((Below.refl _ w1).alloc (Nat.le_refl _) _).mono hb.size), ?_, ?_⟩
  · simp [go_sem]
  · simp [go_sem]

theorem readCatch (p q : Nat) (u : TypeId) (pv : Value) (older : List PanicEntry) (w : World) (a b : Int) (c : ByteArray) (d : Value) (f : Bool) (h0 : w.cell? ⟨p, 0, none⟩ = some (.int .i64 a)) (h1 : w.cell? ⟨p, 1, none⟩ = some (.int .i64 b)) (h2 : w.cell? ⟨p, 2, none⟩ = some (.string c)) (h3 : w.cell? ⟨p, 3, none⟩ = some d) (h4 : w.cell? ⟨q, 0, none⟩ = some (.bool f)) (hz : ∀ i, w.frozen? ⟨p, i, none⟩ = false) (hy : w.frozen? ⟨q, 0, none⟩ = false) (hpq : ¬ p = q) :
    CallsD Tryd.prog 11 #[.pointer (some ⟨p, 0, none⟩), .pointer (some ⟨q, 0, none⟩)] (.panicking ({ v := .iface u pv, recovered := false } :: older)) w fun e u' w' =>
      e = .returned (.tuple #[]) ∧ u' = .panicking ({ v := .iface u pv, recovered := true } :: older) ∧ w' = ((((w.setCell ⟨p, 0, none⟩ (.int .i64 0)).setCell ⟨p, 1, none⟩ (.int .i64 0)).setCell ⟨p, 2, none⟩ (.string ⟨#[]⟩)).setCell ⟨p, 3, none⟩ (.slice none 0 0)).setCell ⟨q, 0, none⟩ (.bool false) := by
  refine callsD_of_wpS Tryd.func11 rfl fun c₀ cs hu => ?_
  apply wpS_seq
  apply wpS_region
  simp [wpOpsS, go_sem, recoverD, hu, Tryd.ntmps11, Exit.thenS]
  refine wpS_cond (t := true) (by simp [Act.eval, Array.replicate]) ?_
  simp only [if_true]
  apply wpS_region
  simp [wpOpsS, go_sem, h0, h1, h2, h3, h4, hz, hy, hpq, bodyPostS, results, Tryd.results11]

theorem readIdle (p q : Addr) (w : World) :
    CallsD Tryd.prog 11 #[.pointer (some p), .pointer (some q)] .returning w fun e u' w' => e = .returned (.tuple #[]) ∧ u' = .returning ∧ w' = w := by
  refine callsD_of_wpS Tryd.func11 rfl fun c₀ cs hu => ?_
  apply wpS_seq
  apply wpS_region
  simp [wpOpsS, go_sem, recoverD, hu, Tryd.ntmps11, Exit.thenS]
  refine wpS_cond (t := false) (by simp [Act.eval, Array.replicate]) ?_
  simp only [Bool.false_eq_true, if_false]
  refine wpS_of_wp (wp_skip ?_)
  cases c₀
  simp_all [bodyPostS, results, Tryd.results11]
end Go.Proofs.YtbcgjnaoefgmiaaDoor
