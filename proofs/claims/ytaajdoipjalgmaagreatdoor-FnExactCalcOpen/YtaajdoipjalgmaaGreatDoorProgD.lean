/-
  What is read of an argument that is a program of the laws' own type: it lies in memory, and its names and lists are no longer than Go allows.
-/
import Derived.Test.YtaajdoipjalgmaaGreatDoorProgC
import Derived.Test.YtaajdoipjalgmaaGreatDoorStmtE
namespace Go.Proofs.YtaajdoipjalgmaaGreatDoor
open Go.RowKit
set_option linter.unusedSimpArgs false
set_option linter.unusedVariables false

theorem add_one (b o i : Nat) : (Addr.add ⟨b, o, none⟩ (i * 1)).add 0 = ⟨b, o + i, none⟩ := by
  rw [add_add]
  simp
theorem cellsTVX : Tryz.prog.cellsOf 92 = 7 := by kernel_rfl
abbrev VX.cells (v : VX) : List Value := [.string v.name, .int .i64 v.size, .int .i64 v.init, .int .i64 v.lo, .int .i64 v.hi, .string v.lock, .int .i64 v.task]
set_option maxRecDepth 100000 in
theorem VX.read {H : Type} {enc : TypeId × Value → H} {W : World} {base : Nat} {spare : Nat → Bool} {held : Bool} (fuel : Nat) (cs : List Value) (x : DataW H × List MemPlace) (h : DataW.trod enc Tryz.prog W base spare held fuel 92 cs = some x) : ∃ v : VX, cs = v.cells ∧ v.Wide := by
  obtain ⟨xs, n, rfl, -, hl, hlen, hf⟩ := DataW.trod_struct Tryz.underlying92 h
  rw [cellsTVX] at hl
  obtain ⟨c0, c1, c2, c3, c4, c5, c6, rfl⟩ : ∃ c0 c1 c2 c3 c4 c5 c6, cs = [c0, c1, c2, c3, c4, c5, c6] := by
    match cs, hl with
    | [c0, c1, c2, c3, c4, c5, c6], _ => exact ⟨c0, c1, c2, c3, c4, c5, c6, rfl⟩
  obtain ⟨y0, y1, y2, y3, y4, y5, y6, rfl⟩ : ∃ y0 y1 y2 y3 y4 y5 y6, xs = [y0, y1, y2, y3, y4, y5, y6] := by
    match xs, hlen with
    | [y0, y1, y2, y3, y4, y5, y6], _ => exact ⟨y0, y1, y2, y3, y4, y5, y6, rfl⟩
  have g0 : DataW.trod enc Tryz.prog W base spare held n 9 (List.take (Tryz.prog.cellsOf 9) (List.drop 0 [c0, c1, c2, c3, c4, c5, c6])) = some y0 := hf 0 _ rfl
  have g1 : DataW.trod enc Tryz.prog W base spare held n 3 (List.take (Tryz.prog.cellsOf 3) (List.drop 1 [c0, c1, c2, c3, c4, c5, c6])) = some y1 := hf 1 _ rfl
  have g2 : DataW.trod enc Tryz.prog W base spare held n 3 (List.take (Tryz.prog.cellsOf 3) (List.drop 2 [c0, c1, c2, c3, c4, c5, c6])) = some y2 := hf 2 _ rfl
  have g3 : DataW.trod enc Tryz.prog W base spare held n 3 (List.take (Tryz.prog.cellsOf 3) (List.drop 3 [c0, c1, c2, c3, c4, c5, c6])) = some y3 := hf 3 _ rfl
  have g4 : DataW.trod enc Tryz.prog W base spare held n 3 (List.take (Tryz.prog.cellsOf 3) (List.drop 4 [c0, c1, c2, c3, c4, c5, c6])) = some y4 := hf 4 _ rfl
  have g5 : DataW.trod enc Tryz.prog W base spare held n 9 (List.take (Tryz.prog.cellsOf 9) (List.drop 5 [c0, c1, c2, c3, c4, c5, c6])) = some y5 := hf 5 _ rfl
  have g6 : DataW.trod enc Tryz.prog W base spare held n 3 (List.take (Tryz.prog.cellsOf 3) (List.drop 6 [c0, c1, c2, c3, c4, c5, c6])) = some y6 := hf 6 _ rfl
  simp only [cellsInt, cellsStr, List.drop_zero, List.drop_succ_cons, List.take_succ_cons, List.take_zero, List.getElem?_cons_zero, List.getElem?_cons_succ] at g0 g1 g2 g3 g4 g5 g6
  obtain ⟨k0, e0, -, hs0⟩ := DataW.trod_string Tryz.underlying9 g0
  obtain ⟨k1, e1, -, -⟩ := DataW.trod_int Tryz.underlying3 g1
  obtain ⟨k2, e2, -, -⟩ := DataW.trod_int Tryz.underlying3 g2
  obtain ⟨k3, e3, -, -⟩ := DataW.trod_int Tryz.underlying3 g3
  obtain ⟨k4, e4, -, -⟩ := DataW.trod_int Tryz.underlying3 g4
  obtain ⟨k5, e5, -, hs5⟩ := DataW.trod_string Tryz.underlying9 g5
  obtain ⟨k6, e6, -, -⟩ := DataW.trod_int Tryz.underlying3 g6
  simp only [List.cons.injEq, and_true] at e0 e1 e2 e3 e4 e5 e6
  subst e0 e1 e2 e3 e4 e5 e6
  exact ⟨⟨k0, k1, k2, k3, k4, k5, k6⟩, rfl, ⟨hs0, hs5⟩⟩
set_option maxRecDepth 100000 in
theorem VX.reads {H : Type} {enc : TypeId × Value → H} {W : World} {base : Nat} {spare : Nat → Bool} {held : Bool} (n : Nat) (c : Value) (y : DataW H × List MemPlace) (g : DataW.trod enc Tryz.prog W base spare held n 22 [c] = some y) :
    ∃ (a : Option Addr) (cap : Nat) (ks : List VX), c = .slice a ks.length cap ∧ ks.length ≤ maxLen ∧ VX.Row (fun b => b < W.heap.size) W a ks ∧ ∀ (i : Nat) (q : VX), ks[i]? = some q → q.Wide := by
  rcases DataW.trod_slice Tryz.underlying22 g with ⟨e3, -⟩ | ⟨a, len, cap, elems, rest, n', rfl, e3, -, hb, hlc, hcm, hel, hget, -, -⟩
  · simp only [List.cons.injEq, and_true] at e3
    subst e3
    exact ⟨none, 0, [], rfl, Nat.zero_le _, fun i k hk => by simp at hk, fun i k hk => by simp at hk⟩
  · simp only [List.cons.injEq, and_true] at e3
    subst e3
    rw [cellsTVX] at hget
    have hkid : ∀ i, i < len → ∃ q : VX, (q.Wide) ∧ ∃ cs', W.cells? base (a.add (i * 7)) 7 = some cs' ∧ cs' = q.cells := by
      intro i hi
      have h1 := hget i hi
      rw [List.getElem?_eq_getElem (by omega)] at h1
      obtain ⟨cs', h2, h3⟩ := Option.bind_eq_some_iff.1 h1
      obtain ⟨q, h4, h5⟩ := VX.read n' cs' _ h3
      exact ⟨q, h5, cs', h2, h4⟩
    obtain ⟨ks, hks, hq⟩ := list_of hkid
    refine ⟨some a, cap, ks, by rw [hks], by omega, fun i q hk => ?_, fun i q hk => (hq i q hk).1⟩
    obtain ⟨-, cs', h2, h4⟩ := hq i q hk
    obtain ⟨-, -, h5⟩ := World.cells?_some h2
    obtain ⟨b, o, spot⟩ := a
    have hspot : spot = none := by
      obtain ⟨q0, -, cs0, k2, k4⟩ := hkid 0 (by have := (List.getElem?_eq_some_iff.1 hk).1; omega)
      obtain ⟨-, -, k5⟩ := World.cells?_some k2
      have k6 := k5 0 (by omega)
      rw [k4] at k6
      have k7 := World.cell?_spot k6
      simpa [Addr.add] using k7
    subst hspot
    subst h4
    have p0 := h5 0 (by omega)
    have p1 := h5 1 (by omega)
    have p2 := h5 2 (by omega)
    have p3 := h5 3 (by omega)
    have p4 := h5 4 (by omega)
    have p5 := h5 5 (by omega)
    have p6 := h5 6 (by omega)
    rw [add_add] at p0 p1 p2 p3 p4 p5 p6
    exact ⟨b, o, rfl, World.block_lt_of_cell? W _ p0, p0, p1, p2, p3, p4, p5, p6⟩
theorem cellsTCX : Tryz.prog.cellsOf 95 = 4 := by kernel_rfl
abbrev CX.cells (v : CX) : List Value := [.string v.name, .int .i64 v.cap, .int .i64 v.lo, .int .i64 v.hi]
set_option maxRecDepth 100000 in
theorem CX.read {H : Type} {enc : TypeId × Value → H} {W : World} {base : Nat} {spare : Nat → Bool} {held : Bool} (fuel : Nat) (cs : List Value) (x : DataW H × List MemPlace) (h : DataW.trod enc Tryz.prog W base spare held fuel 95 cs = some x) : ∃ v : CX, cs = v.cells ∧ v.Wide := by
  obtain ⟨xs, n, rfl, -, hl, hlen, hf⟩ := DataW.trod_struct Tryz.underlying95 h
  rw [cellsTCX] at hl
  obtain ⟨c0, c1, c2, c3, rfl⟩ : ∃ c0 c1 c2 c3, cs = [c0, c1, c2, c3] := by
    match cs, hl with
    | [c0, c1, c2, c3], _ => exact ⟨c0, c1, c2, c3, rfl⟩
  obtain ⟨y0, y1, y2, y3, rfl⟩ : ∃ y0 y1 y2 y3, xs = [y0, y1, y2, y3] := by
    match xs, hlen with
    | [y0, y1, y2, y3], _ => exact ⟨y0, y1, y2, y3, rfl⟩
  have g0 : DataW.trod enc Tryz.prog W base spare held n 9 (List.take (Tryz.prog.cellsOf 9) (List.drop 0 [c0, c1, c2, c3])) = some y0 := hf 0 _ rfl
  have g1 : DataW.trod enc Tryz.prog W base spare held n 3 (List.take (Tryz.prog.cellsOf 3) (List.drop 1 [c0, c1, c2, c3])) = some y1 := hf 1 _ rfl
  have g2 : DataW.trod enc Tryz.prog W base spare held n 3 (List.take (Tryz.prog.cellsOf 3) (List.drop 2 [c0, c1, c2, c3])) = some y2 := hf 2 _ rfl
  have g3 : DataW.trod enc Tryz.prog W base spare held n 3 (List.take (Tryz.prog.cellsOf 3) (List.drop 3 [c0, c1, c2, c3])) = some y3 := hf 3 _ rfl
  simp only [cellsInt, cellsStr, List.drop_zero, List.drop_succ_cons, List.take_succ_cons, List.take_zero, List.getElem?_cons_zero, List.getElem?_cons_succ] at g0 g1 g2 g3
  obtain ⟨k0, e0, -, hs0⟩ := DataW.trod_string Tryz.underlying9 g0
  obtain ⟨k1, e1, -, -⟩ := DataW.trod_int Tryz.underlying3 g1
  obtain ⟨k2, e2, -, -⟩ := DataW.trod_int Tryz.underlying3 g2
  obtain ⟨k3, e3, -, -⟩ := DataW.trod_int Tryz.underlying3 g3
  simp only [List.cons.injEq, and_true] at e0 e1 e2 e3
  subst e0 e1 e2 e3
  exact ⟨⟨k0, k1, k2, k3⟩, rfl, hs0⟩
set_option maxRecDepth 100000 in
theorem CX.reads {H : Type} {enc : TypeId × Value → H} {W : World} {base : Nat} {spare : Nat → Bool} {held : Bool} (n : Nat) (c : Value) (y : DataW H × List MemPlace) (g : DataW.trod enc Tryz.prog W base spare held n 23 [c] = some y) :
    ∃ (a : Option Addr) (cap : Nat) (ks : List CX), c = .slice a ks.length cap ∧ ks.length ≤ maxLen ∧ CX.Row (fun b => b < W.heap.size) W a ks ∧ ∀ (i : Nat) (q : CX), ks[i]? = some q → q.Wide := by
  rcases DataW.trod_slice Tryz.underlying23 g with ⟨e3, -⟩ | ⟨a, len, cap, elems, rest, n', rfl, e3, -, hb, hlc, hcm, hel, hget, -, -⟩
  · simp only [List.cons.injEq, and_true] at e3
    subst e3
    exact ⟨none, 0, [], rfl, Nat.zero_le _, fun i k hk => by simp at hk, fun i k hk => by simp at hk⟩
  · simp only [List.cons.injEq, and_true] at e3
    subst e3
    rw [cellsTCX] at hget
    have hkid : ∀ i, i < len → ∃ q : CX, (q.Wide) ∧ ∃ cs', W.cells? base (a.add (i * 4)) 4 = some cs' ∧ cs' = q.cells := by
      intro i hi
      have h1 := hget i hi
      rw [List.getElem?_eq_getElem (by omega)] at h1
      obtain ⟨cs', h2, h3⟩ := Option.bind_eq_some_iff.1 h1
      obtain ⟨q, h4, h5⟩ := CX.read n' cs' _ h3
      exact ⟨q, h5, cs', h2, h4⟩
    obtain ⟨ks, hks, hq⟩ := list_of hkid
    refine ⟨some a, cap, ks, by rw [hks], by omega, fun i q hk => ?_, fun i q hk => (hq i q hk).1⟩
    obtain ⟨-, cs', h2, h4⟩ := hq i q hk
    obtain ⟨-, -, h5⟩ := World.cells?_some h2
    obtain ⟨b, o, spot⟩ := a
    have hspot : spot = none := by
      obtain ⟨q0, -, cs0, k2, k4⟩ := hkid 0 (by have := (List.getElem?_eq_some_iff.1 hk).1; omega)
      obtain ⟨-, -, k5⟩ := World.cells?_some k2
      have k6 := k5 0 (by omega)
      rw [k4] at k6
      have k7 := World.cell?_spot k6
      simpa [Addr.add] using k7
    subst hspot
    subst h4
    have p0 := h5 0 (by omega)
    have p1 := h5 1 (by omega)
    have p2 := h5 2 (by omega)
    have p3 := h5 3 (by omega)
    rw [add_add] at p0 p1 p2 p3
    exact ⟨b, o, rfl, World.block_lt_of_cell? W _ p0, p0, p1, p2, p3⟩
set_option maxRecDepth 100000 in
theorem readsN {H : Type} {enc : TypeId × Value → H} {W : World} {base : Nat} {spare : Nat → Bool} {held : Bool} (n : Nat) (c : Value) (y : DataW H × List MemPlace) (g : DataW.trod enc Tryz.prog W base spare held n 24 [c] = some y) :
    ∃ (a : Option Addr) (cap : Nat) (ks : List ByteArray), c = .slice a ks.length cap ∧ ks.length ≤ maxLen ∧ NRow (fun b => b < W.heap.size) W a ks ∧ ∀ (i : Nat) (q : ByteArray), ks[i]? = some q → q.size ≤ maxLen := by
  rcases DataW.trod_slice Tryz.underlying24 g with ⟨e3, -⟩ | ⟨a, len, cap, elems, rest, n', rfl, e3, -, hb, hlc, hcm, hel, hget, -, -⟩
  · simp only [List.cons.injEq, and_true] at e3
    subst e3
    exact ⟨none, 0, [], rfl, Nat.zero_le _, fun i k hk => by simp at hk, fun i k hk => by simp at hk⟩
  · simp only [List.cons.injEq, and_true] at e3
    subst e3
    rw [cellsStr] at hget
    have hkid : ∀ i, i < len → ∃ q : ByteArray, (q.size ≤ maxLen) ∧ ∃ cs', W.cells? base (a.add (i * 1)) 1 = some cs' ∧ cs' = [.string q] := by
      intro i hi
      have h1 := hget i hi
      rw [List.getElem?_eq_getElem (by omega)] at h1
      obtain ⟨cs', h2, h3⟩ := Option.bind_eq_some_iff.1 h1
      obtain ⟨q, h4, -, h5⟩ := DataW.trod_string Tryz.underlying9 h3
      exact ⟨q, h5, cs', h2, h4⟩
    obtain ⟨ks, hks, hq⟩ := list_of hkid
    refine ⟨some a, cap, ks, by rw [hks], by omega, fun i q hk => ?_, fun i q hk => (hq i q hk).1⟩
    obtain ⟨-, cs', h2, h4⟩ := hq i q hk
    obtain ⟨-, -, h5⟩ := World.cells?_some h2
    obtain ⟨b, o, spot⟩ := a
    have hspot : spot = none := by
      obtain ⟨q0, -, cs0, k2, k4⟩ := hkid 0 (by have := (List.getElem?_eq_some_iff.1 hk).1; omega)
      obtain ⟨-, -, k5⟩ := World.cells?_some k2
      have k6 := k5 0 (by omega)
      rw [k4] at k6
      have k7 := World.cell?_spot k6
      simpa [Addr.add] using k7
    subst hspot
    subst h4
    have p0 := h5 0 (by omega)
    rw [add_one] at p0
    exact ⟨b, o, rfl, World.block_lt_of_cell? W _ p0, p0⟩
set_option maxRecDepth 100000 in
theorem LX.reads {H : Type} {enc : TypeId × Value → H} {W : World} {base : Nat} {spare : Nat → Bool} {held : Bool} (n : Nat) (c : Value) (y : DataW H × List MemPlace) (g : DataW.trod enc Tryz.prog W base spare held n 25 [c] = some y) :
    ∃ (a : Option Addr) (cap : Nat) (ks : List LX), c = .slice a ks.length cap ∧ ks.length ≤ maxLen ∧ LX.Row (fun b => b < W.heap.size) W a ks ∧ ∀ (i : Nat) (q : LX), ks[i]? = some q → q.Wide ∧ LX.Lies (fun b => b < W.heap.size) W q := by
  rcases DataW.trod_slice Tryz.underlying25 g with ⟨e3, -⟩ | ⟨a, len, cap, elems, rest, n', rfl, e3, -, hb, hlc, hcm, hel, hget, -, -⟩
  · simp only [List.cons.injEq, and_true] at e3
    subst e3
    exact ⟨none, 0, [], rfl, Nat.zero_le _, fun i k hk => by simp at hk, fun i k hk => by simp at hk⟩
  · simp only [List.cons.injEq, and_true] at e3
    subst e3
    rw [cellsTSTS] at hget
    have hkid : ∀ i, i < len → ∃ q : LX, (q.Wide ∧ LX.Lies (fun b => b < W.heap.size) W q) ∧ ∃ cs', W.cells? base (a.add (i * 1)) 1 = some cs' ∧ cs' = [q.val] := by
      intro i hi
      have h1 := hget i hi
      rw [List.getElem?_eq_getElem (by omega)] at h1
      obtain ⟨cs', h2, h3⟩ := Option.bind_eq_some_iff.1 h1
      have hl1 := (World.cells?_some h2).2.1
      obtain ⟨c0, rfl⟩ : ∃ c0, cs' = [c0] := by
        match cs', hl1 with
        | [c0], _ => exact ⟨c0, rfl⟩
      obtain ⟨b', cap', l', rfl, h6, h7, h8⟩ := readSS n' (fun m hm => readS m) c0 _ h3
      exact ⟨⟨b', cap', l'⟩, ⟨⟨h6, fun j k hk => (h8 j k hk).1⟩, ⟨h7, fun j k hk => (h8 j k hk).2⟩⟩, _, h2, rfl⟩
    obtain ⟨ks, hks, hq⟩ := list_of hkid
    refine ⟨some a, cap, ks, by rw [hks], by omega, fun i q hk => ?_, fun i q hk => (hq i q hk).1⟩
    obtain ⟨-, cs', h2, h4⟩ := hq i q hk
    obtain ⟨-, -, h5⟩ := World.cells?_some h2
    obtain ⟨b, o, spot⟩ := a
    have hspot : spot = none := by
      obtain ⟨q0, -, cs0, k2, k4⟩ := hkid 0 (by have := (List.getElem?_eq_some_iff.1 hk).1; omega)
      obtain ⟨-, -, k5⟩ := World.cells?_some k2
      have k6 := k5 0 (by omega)
      rw [k4] at k6
      have k7 := World.cell?_spot k6
      simpa [Addr.add] using k7
    subst hspot
    subst h4
    have p0 := h5 0 (by omega)
    rw [add_one] at p0
    exact ⟨b, o, rfl, World.block_lt_of_cell? W _ p0, p0⟩
theorem cellsTPX : Tryz.prog.cellsOf 27 = 4 := by kernel_rfl
theorem cellsTVS : Tryz.prog.cellsOf 22 = 1 := by kernel_rfl
theorem cellsTCS : Tryz.prog.cellsOf 23 = 1 := by kernel_rfl
theorem cellsTNS : Tryz.prog.cellsOf 24 = 1 := by kernel_rfl
theorem cellsTLSS : Tryz.prog.cellsOf 25 = 1 := by kernel_rfl
set_option maxRecDepth 100000 in
theorem readP {H : Type} {enc : TypeId × Value → H} {W : World} {base : Nat} {spare : Nat → Bool} {held : Bool} (fuel : Nat) (cs : List Value) (x : DataW H × List MemPlace) (h : DataW.trod enc Tryz.prog W base spare held fuel 27 cs = some x) :
    ∃ p : PX, cs = [.slice p.vbase p.vars.length p.vcap, .slice p.cbase p.chans.length p.ccap, .slice p.nbase p.locks.length p.ncap, .slice p.tbase p.tasks.length p.tcap] ∧ p.Wide ∧ PX.Lies (fun b => b < W.heap.size) W p := by
  obtain ⟨xs, n, rfl, -, hl, hlen, hf⟩ := DataW.trod_struct Tryz.underlying27 h
  rw [cellsTPX] at hl
  obtain ⟨c0, c1, c2, c3, rfl⟩ : ∃ c0 c1 c2 c3, cs = [c0, c1, c2, c3] := by
    match cs, hl with
    | [c0, c1, c2, c3], _ => exact ⟨c0, c1, c2, c3, rfl⟩
  obtain ⟨y0, y1, y2, y3, rfl⟩ : ∃ y0 y1 y2 y3, xs = [y0, y1, y2, y3] := by
    match xs, hlen with
    | [y0, y1, y2, y3], _ => exact ⟨y0, y1, y2, y3, rfl⟩
  have g0 : DataW.trod enc Tryz.prog W base spare held n 22 (List.take (Tryz.prog.cellsOf 22) (List.drop 0 [c0, c1, c2, c3])) = some y0 := hf 0 _ rfl
  have g1 : DataW.trod enc Tryz.prog W base spare held n 23 (List.take (Tryz.prog.cellsOf 23) (List.drop 1 [c0, c1, c2, c3])) = some y1 := hf 1 _ rfl
  have g2 : DataW.trod enc Tryz.prog W base spare held n 24 (List.take (Tryz.prog.cellsOf 24) (List.drop 2 [c0, c1, c2, c3])) = some y2 := hf 2 _ rfl
  have g3 : DataW.trod enc Tryz.prog W base spare held n 25 (List.take (Tryz.prog.cellsOf 25) (List.drop 3 [c0, c1, c2, c3])) = some y3 := hf 3 _ rfl
  simp only [cellsTVS, cellsTCS, cellsTNS, cellsTLSS, List.drop_zero, List.drop_succ_cons, List.take_succ_cons, List.take_zero, List.getElem?_cons_zero, List.getElem?_cons_succ] at g0 g1 g2 g3
  obtain ⟨a0, p0, l0, rfl, s0, r0, k0⟩ := VX.reads n c0 y0 g0
  obtain ⟨a1, p1, l1, rfl, s1, r1, k1⟩ := CX.reads n c1 y1 g1
  obtain ⟨a2, p2, l2, rfl, s2, r2, k2⟩ := readsN n c2 y2 g2
  obtain ⟨a3, p3, l3, rfl, s3, r3, k3⟩ := LX.reads n c3 y3 g3
  exact ⟨⟨a0, p0, l0, a1, p1, l1, a2, p2, l2, a3, p3, l3⟩, rfl, ⟨s0, s1, s2, s3, k0, k1, k2, fun i k hk => (k3 i k hk).1⟩, ⟨r0, r1, r2, r3, fun i k hk => (k3 i k hk).2⟩⟩
end Go.Proofs.YtaajdoipjalgmaaGreatDoor
