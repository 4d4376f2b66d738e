/-
  What is read of an argument that is an expression of the laws' own type: the expression lies in memory, and its names and lists are no longer than Go allows.
-/
import Derived.Test.YtimfdfeleoaehaaTreeH
import Derived.ChangeArms
import Derived.DataReads
namespace Go.Proofs.Ytimfdfeleoaehaa
open Go.RowKit
set_option linter.unusedSimpArgs false
set_option linter.unusedVariables false

theorem cellsTL : Try.prog.cellsOf 42 = 4 := by kernel_rfl
theorem cellsInt : Try.prog.cellsOf 3 = 1 := by kernel_rfl
theorem cellsStr : Try.prog.cellsOf 9 = 1 := by kernel_rfl
theorem cellsTLS : Try.prog.cellsOf 40 = 1 := by kernel_rfl

theorem list_of {α : Type} {len : Nat} {Q : Nat → α → Prop} (h : ∀ i, i < len → ∃ x, Q i x) : ∃ l : List α, l.length = len ∧ ∀ (i : Nat) (x : α), l[i]? = some x → Q i x := by
  induction len with
  | zero => exact ⟨[], rfl, fun i x hx => by simp at hx⟩
  | succ n ih =>
    obtain ⟨l, hl, hq⟩ := ih (fun i hi => h i (by omega))
    obtain ⟨y, hy⟩ := h n (by omega)
    refine ⟨l ++ [y], by simp [hl], fun i x hx => ?_⟩
    by_cases hi : i < n
    · rw [List.getElem?_append_left (by omega)] at hx
      exact hq i x hx
    · have hin : i = n := by
        have := (List.getElem?_eq_some_iff.1 hx).1
        simp [hl] at this
        omega
      subst hin
      rw [List.getElem?_append_right (by omega)] at hx
      simp [hl] at hx
      exact hx ▸ hy
theorem add_add (b o i j : Nat) : (Addr.add ⟨b, o, none⟩ i).add j = ⟨b, o + i + j, none⟩ := by
  unfold Addr.add
  split
  · split
    · simp_all
    · simp_all
  · split
    · simp_all
    · simp

set_option maxRecDepth 100000 in
theorem readE {H : Type} {enc : TypeId × Value → H} {W : World} {base : Nat} {spare : Nat → Bool} {held : Bool} (fuel : Nat) : ∀ (cs : List Value) (x : DataW H × List MemPlace),
    DataW.trod enc Try.prog W base spare held fuel 42 cs = some x → ∃ t : XT, cs = [.int .i64 t.kind, .int .i64 t.num, .string t.name, .slice t.base t.kids.length t.cap] ∧ Wide t ∧ Lies (fun b => b < W.heap.size) W t := by
  induction fuel using Nat.strongRecOn with
  | _ fuel ih =>
  intro cs x h
  obtain ⟨xs, n, rfl, -, hl, hlen, hf⟩ := DataW.trod_struct Try.underlying42 h
  rw [cellsTL] at hl
  obtain ⟨c0, c1, c2, c3, rfl⟩ : ∃ c0 c1 c2 c3, cs = [c0, c1, c2, c3] := by
    match cs, hl with
    | [c0, c1, c2, c3], _ => exact ⟨c0, c1, c2, c3, rfl⟩
  obtain ⟨y0, y1, y2, y3, rfl⟩ : ∃ y0 y1 y2 y3, xs = [y0, y1, y2, y3] := by
    match xs, hlen with
    | [y0, y1, y2, y3], _ => exact ⟨y0, y1, y2, y3, rfl⟩
  have g0 : DataW.trod enc Try.prog W base spare held n 3 (List.take (Try.prog.cellsOf 3) (List.drop 0 [c0, c1, c2, c3])) = some y0 := hf 0 _ rfl
  have g1 : DataW.trod enc Try.prog W base spare held n 3 (List.take (Try.prog.cellsOf 3) (List.drop 1 [c0, c1, c2, c3])) = some y1 := hf 1 _ rfl
  have g2 : DataW.trod enc Try.prog W base spare held n 9 (List.take (Try.prog.cellsOf 9) (List.drop 2 [c0, c1, c2, c3])) = some y2 := hf 2 _ rfl
  have g3 : DataW.trod enc Try.prog W base spare held n 40 (List.take (Try.prog.cellsOf 40) (List.drop 3 [c0, c1, c2, c3])) = some y3 := hf 3 _ rfl
  simp only [cellsInt, cellsStr, cellsTLS, List.drop_zero, List.drop_succ_cons, List.take_succ_cons, List.take_zero, List.getElem?_cons_zero, List.getElem?_cons_succ] at g0 g1 g2 g3
  obtain ⟨k, e0, -, -⟩ := DataW.trod_int Try.underlying3 g0
  obtain ⟨m, e1, -, -⟩ := DataW.trod_int Try.underlying3 g1
  obtain ⟨s, e2, -, hs⟩ := DataW.trod_string Try.underlying9 g2
  simp only [List.cons.injEq, and_true] at e0 e1 e2
  subst e0 e1 e2
  rcases DataW.trod_slice Try.underlying40 g3 with ⟨e3, -⟩ | ⟨a, len, cap, elems, rest, n', rfl, e3, -, hb, hlc, hcm, hel, hget, -, -⟩
  · simp only [List.cons.injEq, and_true] at e3
    subst e3
    exact ⟨.mk k m s none 0 [], rfl, .mk _ hs (Nat.zero_le _) (fun i q hq => by simp [XT.kids] at hq), .mk _ (fun i q hq => by simp [XT.kids] at hq) (fun i q hq => by simp [XT.kids] at hq)⟩
  · simp only [List.cons.injEq, and_true] at e3
    subst e3
    rw [cellsTL] at hget
    have hkid : ∀ i, i < len → ∃ q : XT, Wide q ∧ Lies (fun b => b < W.heap.size) W q ∧ ∃ cs', W.cells? base (a.add (i * 4)) 4 = some cs' ∧ cs' = [.int .i64 q.kind, .int .i64 q.num, .string q.name, .slice q.base q.kids.length q.cap] := by
      intro i hi
      have h1 := hget i hi
      rw [List.getElem?_eq_getElem (by omega)] at h1
      obtain ⟨cs', h2, h3⟩ := Option.bind_eq_some_iff.1 h1
      obtain ⟨q, h4, h5, h6⟩ := ih n' (by omega) cs' _ h3
      exact ⟨q, h5, h6, cs', h2, h4⟩
    obtain ⟨ks, hks, hq⟩ := list_of hkid
    refine ⟨.mk k m s (some a) cap ks, by simp [XT.kind, XT.num, XT.name, XT.base, XT.kids, XT.cap, hks], .mk _ hs (by simp only [XT.kids]; omega) (fun i q hk => (hq i q hk).1), .mk _ (fun i q hk => ?_) (fun i q hk => (hq i q hk).2.1)⟩
    obtain ⟨-, -, cs', h2, h4⟩ := hq i q hk
    obtain ⟨-, -, h5⟩ := World.cells?_some h2
    obtain ⟨b, o, spot⟩ := a
    have hspot : spot = none := by
      obtain ⟨q0, -, -, cs0, k2, k4⟩ := hkid 0 (by have := (List.getElem?_eq_some_iff.1 hk).1; simp only [XT.kids] at this; omega)
      obtain ⟨-, -, k5⟩ := World.cells?_some k2
      have k6 := k5 0 (by omega)
      rw [k4] at k6
      have k7 := World.cell?_spot k6
      simpa [Addr.add] using k7
    subst hspot
    subst h4
    have p0 := h5 0 (by omega)
    have p1 := h5 1 (by omega)
    have p2 := h5 2 (by omega)
    have p3 := h5 3 (by omega)
    rw [add_add] at p0 p1 p2 p3
    exact ⟨b, o, rfl, World.block_lt_of_cell? W _ p0, p0, p1, p2, p3⟩
end Go.Proofs.Ytimfdfeleoaehaa
