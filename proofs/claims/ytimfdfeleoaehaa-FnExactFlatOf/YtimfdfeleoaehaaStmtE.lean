/-
  What is read of an argument that is a statement, or a list of them, of the laws' own type: it lies in memory, and its names and lists are no longer than Go allows.
-/
import Derived.Test.YtimfdfeleoaehaaStmtA
import Derived.Test.YtimfdfeleoaehaaTreeJ
namespace Go.Proofs.Ytimfdfeleoaehaa
open Go.RowKit
set_option linter.unusedSimpArgs false
set_option linter.unusedVariables false

theorem cellsTST : Try.prog.cellsOf 44 = 12 := by kernel_rfl
theorem cellsTSTS : Try.prog.cellsOf 22 = 1 := by kernel_rfl
abbrev SX.cells (s : SX) : List Value := [.int .i64 s.kind, .string s.name, .int .i64 s.e.kind, .int .i64 s.e.num, .string s.e.name, .slice s.e.base s.e.kids.length s.e.cap, .int .i64 s.f.kind, .int .i64 s.f.num, .string s.f.name, .slice s.f.base s.f.kids.length s.f.cap, .slice s.abase s.la.length s.acap, .slice s.bbase s.lb.length s.bcap]

set_option maxRecDepth 100000 in
theorem readSS {H : Type} {enc : TypeId × Value → H} {W : World} {base : Nat} {spare : Nat → Bool} {held : Bool} (n : Nat)
    (ih : ∀ m, m < n → ∀ (cs : List Value) (x : DataW H × List MemPlace), DataW.trod enc Try.prog W base spare held m 44 cs = some x → ∃ s : SX, cs = s.cells ∧ WideS s ∧ LiesS (fun b => b < W.heap.size) W s)
    (c : Value) (y : DataW H × List MemPlace) (g : DataW.trod enc Try.prog W base spare held n 22 [c] = some y) :
    ∃ (a : Option Addr) (cap : Nat) (ks : List SX), c = .slice a ks.length cap ∧ ks.length ≤ maxLen ∧ SRow (fun b => b < W.heap.size) W a ks ∧ ∀ (i : Nat) (k : SX), ks[i]? = some k → WideS k ∧ LiesS (fun b => b < W.heap.size) W k := by
  rcases DataW.trod_slice Try.underlying22 g with ⟨e3, -⟩ | ⟨a, len, cap, elems, rest, n', rfl, e3, -, hb, hlc, hcm, hel, hget, -, -⟩
  · simp only [List.cons.injEq, and_true] at e3
    subst e3
    exact ⟨none, 0, [], rfl, Nat.zero_le _, fun i k hk => by simp at hk, fun i k hk => by simp at hk⟩
  · simp only [List.cons.injEq, and_true] at e3
    subst e3
    rw [cellsTST] at hget
    have hkid : ∀ i, i < len → ∃ q : SX, WideS q ∧ LiesS (fun b => b < W.heap.size) W q ∧ ∃ cs', W.cells? base (a.add (i * 12)) 12 = some cs' ∧ cs' = q.cells := by
      intro i hi
      have h1 := hget i hi
      rw [List.getElem?_eq_getElem (by omega)] at h1
      obtain ⟨cs', h2, h3⟩ := Option.bind_eq_some_iff.1 h1
      obtain ⟨q, h4, h5, h6⟩ := ih n' (by omega) cs' _ h3
      exact ⟨q, h5, h6, cs', h2, h4⟩
    obtain ⟨ks, hks, hq⟩ := list_of hkid
    refine ⟨some a, cap, ks, by rw [hks], by omega, fun i q hk => ?_, fun i q hk => ⟨(hq i q hk).1, (hq i q hk).2.1⟩⟩
    obtain ⟨-, -, cs', h2, h4⟩ := hq i q hk
    obtain ⟨-, -, h5⟩ := World.cells?_some h2
    obtain ⟨b, o, spot⟩ := a
    have hspot : spot = none := by
      obtain ⟨q0, -, -, cs0, k2, k4⟩ := hkid 0 (by have := (List.getElem?_eq_some_iff.1 hk).1; omega)
      obtain ⟨-, -, k5⟩ := World.cells?_some k2
      have k6 := k5 0 (by omega)
      rw [k4] at k6
      have k7 := World.cell?_spot k6
      simpa [Addr.add] using k7
    subst hspot
    subst h4
    have p0 := h5 0 (by omega)
    have p1 := h5 1 (by omega)
    have p2 := h5 2 (by omega)
    have p3 := h5 3 (by omega)
    have p4 := h5 4 (by omega)
    have p5 := h5 5 (by omega)
    have p6 := h5 6 (by omega)
    have p7 := h5 7 (by omega)
    have p8 := h5 8 (by omega)
    have p9 := h5 9 (by omega)
    have p10 := h5 10 (by omega)
    have p11 := h5 11 (by omega)
    rw [add_add] at p0 p1 p2 p3 p4 p5 p6 p7 p8 p9 p10 p11
    exact ⟨b, o, rfl, World.block_lt_of_cell? W _ p0, p0, p1, p2, p3, p4, p5, p6, p7, p8, p9, p10, p11⟩

set_option maxRecDepth 100000 in
theorem readS {H : Type} {enc : TypeId × Value → H} {W : World} {base : Nat} {spare : Nat → Bool} {held : Bool} (fuel : Nat) : ∀ (cs : List Value) (x : DataW H × List MemPlace),
    DataW.trod enc Try.prog W base spare held fuel 44 cs = some x → ∃ s : SX, cs = s.cells ∧ WideS s ∧ LiesS (fun b => b < W.heap.size) W s := by
  induction fuel using Nat.strongRecOn with
  | _ fuel ih =>
  intro cs x h
  obtain ⟨xs, n, rfl, -, hl, hlen, hf⟩ := DataW.trod_struct Try.underlying44 h
  rw [cellsTST] at hl
  obtain ⟨c0, c1, c2, c3, c4, c5, c6, c7, c8, c9, c10, c11, rfl⟩ : ∃ c0 c1 c2 c3 c4 c5 c6 c7 c8 c9 c10 c11, cs = [c0, c1, c2, c3, c4, c5, c6, c7, c8, c9, c10, c11] := by
    match cs, hl with
    | [c0, c1, c2, c3, c4, c5, c6, c7, c8, c9, c10, c11], _ => exact ⟨c0, c1, c2, c3, c4, c5, c6, c7, c8, c9, c10, c11, rfl⟩
  obtain ⟨y0, y1, y2, y3, y4, y5, rfl⟩ : ∃ y0 y1 y2 y3 y4 y5, xs = [y0, y1, y2, y3, y4, y5] := by
    match xs, hlen with
    | [y0, y1, y2, y3, y4, y5], _ => exact ⟨y0, y1, y2, y3, y4, y5, rfl⟩
  have g0 : DataW.trod enc Try.prog W base spare held n 3 (List.take (Try.prog.cellsOf 3) (List.drop 0 [c0, c1, c2, c3, c4, c5, c6, c7, c8, c9, c10, c11])) = some y0 := hf 0 _ rfl
  have g1 : DataW.trod enc Try.prog W base spare held n 9 (List.take (Try.prog.cellsOf 9) (List.drop 1 [c0, c1, c2, c3, c4, c5, c6, c7, c8, c9, c10, c11])) = some y1 := hf 1 _ rfl
  have g2 : DataW.trod enc Try.prog W base spare held n 42 (List.take (Try.prog.cellsOf 42) (List.drop 2 [c0, c1, c2, c3, c4, c5, c6, c7, c8, c9, c10, c11])) = some y2 := hf 2 _ rfl
  have g3 : DataW.trod enc Try.prog W base spare held n 42 (List.take (Try.prog.cellsOf 42) (List.drop 6 [c0, c1, c2, c3, c4, c5, c6, c7, c8, c9, c10, c11])) = some y3 := hf 3 _ rfl
  have g4 : DataW.trod enc Try.prog W base spare held n 22 (List.take (Try.prog.cellsOf 22) (List.drop 10 [c0, c1, c2, c3, c4, c5, c6, c7, c8, c9, c10, c11])) = some y4 := hf 4 _ rfl
  have g5 : DataW.trod enc Try.prog W base spare held n 22 (List.take (Try.prog.cellsOf 22) (List.drop 11 [c0, c1, c2, c3, c4, c5, c6, c7, c8, c9, c10, c11])) = some y5 := hf 5 _ rfl
  simp only [cellsInt, cellsStr, cellsTL, cellsTSTS, List.drop_zero, List.drop_succ_cons, List.take_succ_cons, List.take_zero, List.getElem?_cons_zero, List.getElem?_cons_succ] at g0 g1 g2 g3 g4 g5
  obtain ⟨k, e0, -, -⟩ := DataW.trod_int Try.underlying3 g0
  obtain ⟨s, e1, -, hs⟩ := DataW.trod_string Try.underlying9 g1
  obtain ⟨e, e2, hWe, hLe⟩ := readE n _ _ g2
  obtain ⟨f, e3, hWf, hLf⟩ := readE n _ _ g3
  simp only [List.cons.injEq, and_true] at e0 e1 e2 e3
  obtain ⟨rfl, rfl, rfl, rfl⟩ := e2
  obtain ⟨rfl, rfl, rfl, rfl⟩ := e3
  subst e0 e1
  obtain ⟨a, acap, la, rfl, hla, hRa, hKa⟩ := readSS n (fun m hm => ih m (by omega)) c10 y4 g4
  obtain ⟨b, bcap, lb, rfl, hlb, hRb, hKb⟩ := readSS n (fun m hm => ih m (by omega)) c11 y5 g5
  exact ⟨.mk k s e f a acap la b bcap lb, rfl, .mk _ hs hWe hWf hla hlb (fun i q hq => (hKa i q hq).1) (fun i q hq => (hKb i q hq).1), .mk _ hLe hLf hRa hRb (fun i q hq => (hKa i q hq).2) (fun i q hq => (hKb i q hq).2)⟩
end Go.Proofs.Ytimfdfeleoaehaa
