/-
  The reader of words, at a text of one word that is no numeral and no word of an expression: what each function of the program's answers there.
-/
import Derived.Test.YtbcgjnaoefgmiaaDoorKitA
import Derived.Test.YtbcgjnaoefgmiaaDoorTextC
import Derived.Shelf.Strconv.AtoiErr
import Derived.Ground.NamesProg
namespace Go.Proofs.YtbcgjnaoefgmiaaDoor
open Go.RowKit Go.Shelf
set_option linter.unusedSimpArgs false
set_option linter.unusedVariables false
attribute [local go_sem] Oper.semAt_some

shelf_lay LaysC.n172 Nm 172 at Tryd as laysAtoi

theorem atoiErr (s : ByteArray) (hl : s.size ≤ 18) (h : Lib.atoi s.data.toList = none) (tp : TypeId) (p : Value) (w : World) (hv : w.cell? ⟨0, 0, none⟩ = some (.iface tp p)) :
    Calls Tryd.prog 28 #[.string s] w fun e w' => ∃ N T, e = .returned (.tuple #[.int .i64 0, .iface T (.pointer (some ⟨N, 0, none⟩))]) ∧ Below w.heap.size w w' :=
  (Any.strconv_Atoi_err laysAtoi s hl h (.iface tp p) w hv (Or.inr ⟨tp, p, rfl⟩)).mono fun e w' ⟨N, he, _, _, hb⟩ => ⟨N, _, he, hb⟩

set_option maxRecDepth 100000 in
theorem numberOf (s : ByteArray) (hl : s.size ≤ 18) (h : Lib.atoi s.data.toList = none) (tp : TypeId) (p : Value) (w : World) (hv : w.cell? ⟨0, 0, none⟩ = some (.iface tp p)) :
    Calls Tryd.prog 20 #[.string s] w fun e w' => e = .returned (.tuple #[.int .i64 0, .bool false]) ∧ Below w.heap.size w w' := by
  go_enter Tryd.func20, Tryd.ntmps20
  go_wp2_with (go_at_call 28; refine (atoiErr s hl h tp p _ hv).mono ?_; rintro e w1 ⟨N, T, rfl, hb⟩)
  go_returns
  exact ⟨rfl, hb⟩

theorem more (g : Nat) (a : Option Addr) (len cap : Nat) (k : Int) (w : World) (h0 : w.cell? ⟨g, 0, none⟩ = some (.slice a len cap)) (h1 : w.cell? ⟨g, 1, none⟩ = some (.int .i64 k)) :
    Calls Tryd.prog 14 #[.pointer (some ⟨g, 0, none⟩)] w fun e w' => e = .returned (.bool (decide (k < (len : Int)))) ∧ Below w.heap.size w w' := by
  go_enter Tryd.func14, Tryd.ntmps14
  go_wp2
  go_quiet (fail)
  go_wp2
  go_returns
  exact ⟨rfl, below_drewN (Below.refl _ _) nq⟩

theorem ahead0 (g b : Nat) (cap : Nat) (s : ByteArray) (w : World) (h0 : w.cell? ⟨g, 0, none⟩ = some (.slice (some ⟨b, 0, none⟩) 1 cap)) (h1 : w.cell? ⟨g, 1, none⟩ = some (.int .i64 0)) (hb : w.cell? ⟨b, 0, none⟩ = some (.string s)) :
    Calls Tryd.prog 27 #[.pointer (some ⟨g, 0, none⟩)] w fun e w' => e = .returned (.string s) ∧ Below w.heap.size w w' := by
  go_enter Tryd.func27, Tryd.ntmps27
  go_wp2_with (go_at_call 14; refine (more g _ 1 cap 0 _ h0 h1).mono ?_; rintro e w1 ⟨rfl, hb1⟩; (have k0 := below_cell hb1 h0 (World.block_lt_of_cell? w _ h0)); (have k1 := below_cell hb1 h1 (World.block_lt_of_cell? w _ h1)); (have k2 := below_cell hb1 hb (World.block_lt_of_cell? w _ hb)))
  go_quiet (fail)
  go_wp2
  go_returns
  exact ⟨rfl, below_drewN hb1 nq⟩

theorem next0 (g b : Nat) (cap : Nat) (s : ByteArray) (w : World) (h0 : w.cell? ⟨g, 0, none⟩ = some (.slice (some ⟨b, 0, none⟩) 1 cap)) (h1 : w.cell? ⟨g, 1, none⟩ = some (.int .i64 0)) (hf : w.frozen? ⟨g, 1, none⟩ = false) (hb : w.cell? ⟨b, 0, none⟩ = some (.string s)) :
    Calls Tryd.prog 19 #[.pointer (some ⟨g, 0, none⟩)] w fun e w' => e = .returned (.string s) ∧ Adv g w w' ∧ w'.cell? ⟨g, 0, none⟩ = some (.slice (some ⟨b, 0, none⟩) 1 cap) ∧ w'.cell? ⟨g, 1, none⟩ = some (.int .i64 1) := by
  have hlt := World.block_lt_of_cell? w _ h0
  go_enter Tryd.func19, Tryd.ntmps19
  go_wp2_with (go_at_call 14; refine (more g _ 1 cap 0 _ h0 h1).mono ?_; rintro e w1 ⟨rfl, hb1⟩; (have k0 := below_cell hb1 h0 (World.block_lt_of_cell? w _ h0)); (have k1 := below_cell hb1 h1 (World.block_lt_of_cell? w _ h1)); (have k2 := below_cell hb1 hb (World.block_lt_of_cell? w _ hb)); (have kf := (hb1.frozen (p := ⟨g, 1, none⟩) hlt).trans hf))
  go_wp2_with (go_at_call 27; refine (ahead0 g b cap s _ k0 k1 k2).mono ?_; rintro e w2 ⟨rfl, hb2⟩; (have l1 := below_cell hb2 k1 (World.block_lt_of_cell? w1 _ k1)); (have lf := (hb2.frozen (p := ⟨g, 1, none⟩) (World.block_lt_of_cell? w1 _ k1)).trans kf))
  go_returns
  have l0 := below_cell hb2 k0 (World.block_lt_of_cell? w1 _ k0)
  exact ⟨rfl, ((Adv.refl g w).below (hb1.trans (hb2.mono hb1.size))).set 1 _, by simp [go_sem, l0], by simp [go_sem, l1]⟩

theorem nextNone (g : Nat) (a : Option Addr) (cap : Nat) (w : World) (h0 : w.cell? ⟨g, 0, none⟩ = some (.slice a 0 cap)) (h1 : w.cell? ⟨g, 1, none⟩ = some (.int .i64 0)) :
    Calls Tryd.prog 19 #[.pointer (some ⟨g, 0, none⟩)] w fun e w' => ∃ u pv, e = .panicked [{ v := .iface u pv, recovered := false }] ∧ Below w.heap.size w w' := by
  go_enter Tryd.func19, Tryd.ntmps19
  go_wp2_with (go_at_call 14; refine (more g _ 0 cap 0 _ h0 h1).mono ?_; rintro e w1 ⟨rfl, hb1⟩)
  exact ⟨rfl, _, _, rfl, hb1⟩

def exprW : List ByteArray := [⟨#[]⟩, ⟨#[]⟩, ⟨#[]⟩, ⟨#[97, 116]⟩, ⟨#[97, 100, 100]⟩, ⟨#[115, 117, 98]⟩, ⟨#[109, 117, 108]⟩, ⟨#[100, 105, 118]⟩, ⟨#[108, 101, 115, 115]⟩, ⟨#[101, 113, 117, 97, 108]⟩, ⟨#[97, 110, 100]⟩, ⟨#[111, 114]⟩, ⟨#[110, 111, 116]⟩]

set_option maxHeartbeats 1000000 in
theorem exprWords (w : World) :
    Calls Tryd.prog 22 #[] w fun e w' => e = .returned (.slice (some ⟨w.heap.size, 0, none⟩) 13 13) ∧ Below w.heap.size w w' ∧ ∀ i x, exprW[i]? = some x → w'.cell? ⟨w.heap.size, i, none⟩ = some (.string x) := by
  go_enter Tryd.func22, Tryd.ntmps22
  go_wp2
  go_returns
  refine ⟨rfl, by go_grown, fun i x h => ?_⟩
  rcases i with _ | _ | _ | _ | _ | _ | _ | _ | _ | _ | _ | _ | _ | i
  all_goals (simp only [exprW, List.getElem?_cons_succ, List.getElem?_cons_zero, List.getElem?_nil, Option.some.injEq, reduceCtorEq, Nat.zero_add, Nat.reduceAdd] at h)
  all_goals (subst h; simp [go_sem])

set_option maxHeartbeats 1000000 in
theorem index (b cap n : Nat) (xs : List ByteArray) (s : ByteArray) (w : World) (hxs : xs.length = n) (hlen : n ≤ 1000) (hc : ∀ i x, xs[i]? = some x → w.cell? ⟨b, i, none⟩ = some (.string x)) (hn : ∀ x ∈ xs, (s.toList == x.toList) = false) :
    Calls Tryd.prog 21 #[.slice (some ⟨b, 0, none⟩) n cap, .string s] w fun e w' => e = .returned (.int .i64 (-1)) ∧ w' = w := by
  go_enter Tryd.func21, Tryd.ntmps21
  go_wp2
  go_loop [8] (fun i => ∃ k : Nat, k ≤ n ∧ i = .int .i64 k) (fun i => n - (intOf i).toNat)
  case atStart => exact ⟨0, by omega, rfl⟩
  case round =>
    obtain ⟨k, hk, rfl⟩ := hrel
    by_cases hlt : k < n
    · obtain ⟨x, hx⟩ : ∃ x, xs[k]? = some x := ⟨_, List.getElem?_eq_getElem (by omega)⟩
      have hck := hc k x hx
      have hnk := hn x (List.mem_of_getElem? hx)
      clear hc hn hx hxs
      go_wp2
      exact ⟨⟨k + 1, by omega, rfl⟩, by simp [intOf]; omega⟩
    · go_wp2
      go_returns
      exact ⟨rfl, rfl⟩
end Go.Proofs.YtbcgjnaoefgmiaaDoor
