/-
  Lists of numbers and lists of such lists as they lie in memory: their sizes, copies of them, that the same are told to be so, and how arguments of these kinds are read.
  Marks written into lists of lists of numbers, each in a block of its own, and read again.
  slices.Repeat of a list of one number, and what a variable is at first: so many times its number.
  What a variable is at first: so many times its number, in a list of its own.
  A list of lists of numbers that is appended to; what variables are at first, as the program lists it.
-/
import Derived.Test.YtaajdoipjalgmaaGreatDoorProgD
import Derived.Shelf.Lay
import Derived.Shelf.Bits.Mul64
import Derived.Ground.NamesProg
import Derived.Laws.CopyOwn
import Derived.Deep.RegionLaw
import Derived.Deep.RegionHeld3
import Derived.Test.YtaajdoipjalgmaaGreatDoorHoldA
namespace Go.Proofs.YtaajdoipjalgmaaGreatDoor
open Go.RowKit
set_option linter.unusedSimpArgs false
set_option linter.unusedVariables false

def IRow (ok : Nat → Prop) (W : World) (base : Option Addr) (l : List Int) : Prop := ∀ (i : Nat) (k : Int), l[i]? = some k → ∃ b o, base = some ⟨b, o, none⟩ ∧ ok b ∧ W.cell? ⟨b, o + i, none⟩ = some (.int .i64 k)
theorem IRow.mono {ok ok' : Nat → Prop} {A B : World} {base : Option Addr} {l : List Int} (h : IRow ok A base l) (hb : ∀ b, ok b → b < A.heap.size → ok' b ∧ B.heap[b]? = A.heap[b]?) : IRow ok' B base l := by
  intro i k hk
  obtain ⟨b, o, h1, h2, h3⟩ := h i k hk
  obtain ⟨h4, h5⟩ := hb b h2 (World.block_lt_of_cell? A _ h3)
  exact ⟨b, o, h1, h4, (cell_of_block (a := ⟨b, _, none⟩) h5).trans h3⟩
theorem IRow.under {ok : Nat → Prop} {n : Nat} {A B : World} {base : Option Addr} {l : List Int} (h : IRow ok A base l) (hk : Below n A B) (hs : ∀ b, ok b → b < n) : IRow ok B base l := h.mono fun b ho hb => ⟨ho, hk.block b (hs b ho)⟩
theorem IRow.kept {S ok : Nat → Prop} {A B : World} {base : Option Addr} {l : List Int} (h : IRow ok A base l) (hk : Kept S A B) (hs : ∀ b, ok b → ¬ S b) : IRow ok B base l := h.mono fun b ho hb => ⟨ho, hk.block b hb (hs b ho)⟩
set_option maxHeartbeats 2000000 in
theorem szI (ks : List Int) (a : Option Addr) (c : Nat) (w : World) (hlen : ks.length ≤ maxLen) (left : Int) (h0 : 0 ≤ left) (h1 : left ≤ 1048576) :
    Calls Tryz.prog 47 #[.slice a ks.length c, .int .i64 left] w fun e w' => e = .returned (.int .i64 (subI left ks.length)) ∧ Below w.heap.size w w' := by
  unfold maxLen at hlen
  obtain ⟨len, hl⟩ : ∃ len, ks.length = len := ⟨_, rfl⟩
  rw [hl] at hlen ⊢
  go_enter Tryz.func47, Tryz.ntmps47
  by_cases hs : left < len
  · go_wp2
    all_goals first | (exfalso; omega) | skip
    go_returns
    exact ⟨ret_int (subI_no (by omega)).symm, Below.refl _ _⟩
  · go_wp2
    all_goals first | (exfalso; omega) | skip
    go_returns
    exact ⟨ret_int (by rw [subI_yes (by omega)]), Below.refl _ _⟩
set_option maxHeartbeats 2000000 in
theorem eqI (ks : List Int) (a a' : Option Addr) (c c' : Nat) (ok : Nat → Prop) (w : World) (hok : ∀ b, ok b → b < w.heap.size) (hcl : IRow ok w a ks) (hcl' : IRow ok w a' ks) (hlen : ks.length ≤ 1048577) :
    Calls Tryz.prog 36 #[.slice a ks.length c, .slice a' ks.length c'] w fun e w' => e = .returned (.bool true) ∧ Below w.heap.size w w' := by
  obtain ⟨len, hl⟩ : ∃ len, ks.length = len := ⟨_, rfl⟩
  rw [hl] at hlen ⊢
  go_enter Tryz.func36, Tryz.ntmps36
  go_wp2
  go_loopw [5] (fun v5 wr => ∃ (i : Nat), v5 = .int .i64 i ∧ i ≤ len ∧ Below w.heap.size w wr) (fun v5 _ => len - (intOf v5).toNat)
  case atStart => exact ⟨0, rfl, by omega, Below.refl _ _⟩
  case round =>
    obtain ⟨i, rfl, hi, hB⟩ := hrel
    by_cases hlt : i < len
    · obtain ⟨x, hx⟩ : ∃ x, ks[i]? = some x := ⟨_, List.getElem?_eq_getElem (by omega)⟩
      obtain ⟨b1, o1, hbase1, hok1, hc1⟩ := hcl i x hx
      obtain ⟨b2, o2, hbase2, hok2, hc2⟩ := hcl' i x hx
      have e0 := below_cell hB hc1 (hok b1 hok1)
      have g0 := below_cell hB hc2 (hok b2 hok2)
      subst hbase1
      subst hbase2
      haveI : Nonempty (Later wr) := ⟨⟨wr, Below.refl _ _⟩⟩
      have e1 := Later.cell e0
      have g1 := Later.cell g0
      go_wp2_with fail
      refine region_class (fun w' => ∃ z : Later wr, w' = z.at) (by kernel_rfl) (by kernel_rfl) ⟨⟨_, (Below.refl _ _).drew⟩, rfl⟩ ?_
      repeat (go_big_quiet_step (fail))
      refine wpQuiet_nil ?_
      rintro w' ⟨z, rfl⟩
      go_wp2
      go_roundw
      case rel => exact ⟨i + 1, by go_num, by omega, hB.trans ((Later.below z).mono hB.size)⟩
      case measure => simp [intOf]; omega
    · go_wp2
      go_returns
      exact ⟨rfl, hB⟩
theorem infoI : (Tryz.prog.info? 3).map (fun i => (i.zero, i.size, i.bytes)) = some (some (.int .i64 0), 1, 8) := by kernel_rfl
set_option maxRecDepth 10000 in
set_option maxHeartbeats 4000000 in
theorem toI (ks : List Int) (a : Option Addr) (c : Nat) (ok : Nat → Prop) (w : World) (hok : ∀ b, ok b → b < w.heap.size) (hcl : IRow ok w a ks) (hlen : ks.length ≤ 1048577) :
    Calls Tryz.prog 49 #[.slice a ks.length c] w fun e w' => e = .returned (.slice (some ⟨w.heap.size, 0, none⟩) ks.length ks.length) ∧ IRow (fun b => b = w.heap.size) w' (some ⟨w.heap.size, 0, none⟩) ks ∧ Below w.heap.size w w' := by
  obtain ⟨len, hl⟩ : ∃ len, ks.length = len := ⟨_, rfl⟩
  rw [hl] at hlen ⊢
  obtain ⟨i0, hi, hz0, hz1, hz2⟩ := info_parts infoI
  obtain ⟨W1, hW1⟩ : ∃ W1, w.alloc (.cells (madeCells (Value.cells (.int .i64 0)) (len * 1)) 3) = W1 := ⟨_, rfl⟩
  have hmk : (Instr.makeSlice 45 (.int .i64 (len : Int)) (.int .i64 (len : Int))).run Tryz.prog w = .ok (.slice (some ⟨w.heap.size, 0, none⟩) len len) W1 := by
    have h := run_make w 45 3 i0 _ Tryz.underlying45 hi hz0 .i64 .i64 len len (by omega) (by omega) (by rw [hz2]; omega) (by omega)
    simp only [Int.toNat_natCast, hz1] at h
    rw [hW1] at h
    exact h
  have hR1 : RowAt W1 w.heap.size (len * 1) 3 := by
    have h := RowAt.new w (madeCells (Value.cells (.int .i64 0)) (len * 1)) 3
    rw [hW1, size_madeCells] at h
    exact h
  have hB1 : Below w.heap.size w W1 := by rw [← hW1]; exact (Below.refl _ w).alloc (Nat.le_refl _) _
  clear hW1
  go_enter Tryz.func49, Tryz.ntmps49
  go_wp2
  go_loopw [4] (fun v4 wr => ∃ (i : Nat), v4 = .int .i64 i ∧ i ≤ len ∧ Below w.heap.size w wr ∧ RowAt wr w.heap.size (len * 1) 3 ∧
      (∀ (j : Nat) (x : Int), ks[j]? = some x → j < i → wr.cell? ⟨w.heap.size, 0 + j, none⟩ = some (.int .i64 x))) (fun v4 _ => len - (intOf v4).toNat)
  case atStart => exact ⟨0, rfl, by omega, hB1, hR1, fun j x _ h => by omega⟩
  case round =>
    obtain ⟨i, rfl, hi, hB, hR, hS⟩ := hrel
    by_cases hlt : i < len
    · obtain ⟨x, hx⟩ : ∃ x, ks[i]? = some x := ⟨_, List.getElem?_eq_getElem (by omega)⟩
      obtain ⟨b1, o1, hbase1, hok1, hc1⟩ := hcl i x hx
      have c0 := below_cell hB hc1 (hok b1 hok1)
      subst hbase1
      obtain ⟨v0, r0⟩ := hR.cell (o := i) (by omega)
      have f0 := hR.frozen i
      go_wp2
      have hg : w.heap.size < wr.heap.size := hR.lt
      refine ⟨⟨i + 1, by go_num, by omega, ?_, hR.set i (.int .i64 x), ?_⟩, ?_⟩
      · exact hB.trans (((Kept.refl (fun k => k = w.heap.size) wr).setCell (p := ⟨w.heap.size, i, none⟩) rfl _).below (by omega) (fun k h => by omega))
      · intro j x' hx' hj
        rw [Nat.zero_add]
        by_cases hji : j = i
        · subst hji
          rw [hx] at hx'
          cases hx'
          exact hR.put (by omega) _
        · rw [set_far (by omega)]
          have := hS j x' hx' (by omega)
          rwa [Nat.zero_add] at this
      · simp [intOf]
        omega
    · have he : i = len := by omega
      go_wp2
      go_returns
      refine ⟨rfl, fun j x hx => ⟨w.heap.size, 0, rfl, rfl, hS j x hx (by have := (List.getElem?_eq_some_iff.1 hx).1; omega)⟩, hB⟩

structure GX where
  base : Option Addr
  cap : Nat
  l : List Int
abbrev GX.val (t : GX) : Value := .slice t.base t.l.length t.cap
def GX.Lies (ok : Nat → Prop) (W : World) (t : GX) : Prop := IRow ok W t.base t.l
def GX.Row (ok : Nat → Prop) (W : World) (base : Option Addr) (l : List GX) : Prop := ∀ (i : Nat) (t : GX), l[i]? = some t → ∃ b o, base = some ⟨b, o, none⟩ ∧ ok b ∧ W.cell? ⟨b, o + i, none⟩ = some t.val
theorem GX.Row.mono {ok ok' : Nat → Prop} {A B : World} {base : Option Addr} {l : List GX} (h : GX.Row ok A base l) (hb : ∀ b, ok b → b < A.heap.size → ok' b ∧ B.heap[b]? = A.heap[b]?) : GX.Row ok' B base l := by
  intro i k hk
  obtain ⟨b, o, h1, h2, h3⟩ := h i k hk
  obtain ⟨h4, h5⟩ := hb b h2 (World.block_lt_of_cell? A _ h3)
  exact ⟨b, o, h1, h4, (cell_of_block (a := ⟨b, _, none⟩) h5).trans h3⟩
theorem GX.Row.under {ok : Nat → Prop} {n : Nat} {A B : World} {base : Option Addr} {l : List GX} (h : GX.Row ok A base l) (hk : Below n A B) (hs : ∀ b, ok b → b < n) : GX.Row ok B base l := h.mono fun b ho hb => ⟨ho, hk.block b (hs b ho)⟩
theorem GX.Row.kept {S ok : Nat → Prop} {A B : World} {base : Option Addr} {l : List GX} (h : GX.Row ok A base l) (hk : Kept S A B) (hs : ∀ b, ok b → ¬ S b) : GX.Row ok B base l := h.mono fun b ho hb => ⟨ho, hk.block b hb (hs b ho)⟩
set_option maxHeartbeats 2000000 in
theorem GX.szs (ks : List GX) (a : Option Addr) (c : Nat) (ok : Nat → Prop) (w : World) (hok : ∀ b, ok b → b < w.heap.size) (hcl : GX.Row ok w a ks) (hlen : ks.length ≤ maxLen) (hW : ∀ (i : Nat) (k : GX), ks[i]? = some k → k.l.length ≤ maxLen)
    (left : Int) (h0 : 0 ≤ left) (h1 : left ≤ 1048576) :
    Calls Tryz.prog 15 #[.slice a ks.length c, .int .i64 left] w fun e w' => e = .returned (.int .i64 (subI left (ks.length + sumOf (fun t : GX => t.l.length) ks))) ∧ Below w.heap.size w w' := by
  unfold maxLen at hlen
  obtain ⟨len, hl⟩ : ∃ len, ks.length = len := ⟨_, rfl⟩
  rw [hl] at hlen ⊢
  go_enter Tryz.func15, Tryz.ntmps15
  by_cases hs : left < len
  · go_wp2
    all_goals
      first
        | (exfalso; omega)
        | (go_returns; exact ⟨ret_int (subI_no (by omega)).symm, Below.refl _ _⟩)
        | skip
  · go_wp2
    go_loopw [1, 5] (fun v1 v5 wr => ∃ (i : Nat) (l : Int), v5 = .int .i64 i ∧ v1 = .int .i64 l ∧ i ≤ len ∧ 0 ≤ l ∧ l + len + sumOf (fun t : GX => t.l.length) (ks.take i) = left ∧ Below w.heap.size w wr) (fun _ v5 _ => len - (intOf v5).toNat)
    case atStart => exact ⟨0, left - len, rfl, rfl, by omega, by omega, by simp [sumOf], Below.refl _ _⟩
    case round =>
      obtain ⟨i, l, rfl, rfl, hi, hl0, hle, hB⟩ := hrel
      by_cases hlt : i < len
      · obtain ⟨kid, hkid⟩ : ∃ kid, ks[i]? = some kid := ⟨_, List.getElem?_eq_getElem (by omega)⟩
        obtain ⟨bb, o, hbase, hokb, hc⟩ := hcl i kid hkid
        have c0 := below_cell hB hc (hok bb hokb)
        have hcall := szI kid.l kid.base kid.cap wr (hW i kid hkid) l hl0 (by omega)
        have htk := sumOf_take (fun t : GX => t.l.length) hkid
        have htl := sumOf_le (fun t : GX => t.l.length) ks (i + 1)
        subst hbase
        by_cases hk : (kid.l.length : Int) ≤ l
        · rw [subI_yes hk] at hcall
          go_wp2_with (go_at_call 47; refine hcall.mono ?_; rintro e w4 ⟨rfl, hB4⟩)
          all_goals
            first
              | (exfalso; omega)
              | skip
          refine ⟨⟨i + 1, l - kid.l.length, by go_num, rfl, by omega, by omega, by omega, hB.trans (hB4.mono hB.size)⟩, ?_⟩
          simp [intOf]
          omega
        · rw [subI_no (by omega)] at hcall
          go_wp2_with (go_at_call 47; refine hcall.mono ?_; rintro e w4 ⟨rfl, hB4⟩)
          go_returns
          exact ⟨ret_int (subI_no (by omega)).symm, hB.trans (hB4.mono hB.size)⟩
      · have he : i = len := by omega
        have hall : ks.take i = ks := List.take_of_length_le (by omega)
        rw [hall] at hle
        go_wp2
        go_returns
        exact ⟨ret_int (by rw [subI_yes (by omega)]; omega), hB⟩
set_option maxHeartbeats 2000000 in
theorem GX.eqs (ks us : List GX) (a a' : Option Addr) (c c' : Nat) (ok : Nat → Prop) (w : World) (hok : ∀ b, ok b → b < w.heap.size) (hcl : GX.Row ok w a ks) (hcl' : GX.Row ok w a' us) (hlen : ks.length ≤ 1048577) (hlen' : us.length = ks.length)
    (hL : ∀ (i : Nat) (k : GX), ks[i]? = some k → GX.Lies ok w k) (hU : ∀ (i : Nat) (k : GX), us[i]? = some k → GX.Lies ok w k) (hm : ∀ (i : Nat) (k : GX), ks[i]? = some k → k.l.length ≤ 1048577) (hS : ∀ (i : Nat) (x y : GX), ks[i]? = some x → us[i]? = some y → y.l = x.l) :
    Calls Tryz.prog 10 #[.slice a ks.length c, .slice a' us.length c'] w fun e w' => e = .returned (.bool true) ∧ Below w.heap.size w w' := by
  obtain ⟨len, hl⟩ : ∃ len, ks.length = len := ⟨_, rfl⟩
  rw [hlen', hl]
  rw [hl] at hlen
  go_enter Tryz.func10, Tryz.ntmps10
  go_wp2
  go_loopw [5] (fun v5 wr => ∃ (i : Nat), v5 = .int .i64 i ∧ i ≤ len ∧ Below w.heap.size w wr) (fun v5 _ => len - (intOf v5).toNat)
  case atStart => exact ⟨0, rfl, by omega, Below.refl _ _⟩
  case round =>
    obtain ⟨i, rfl, hi, hB⟩ := hrel
    by_cases hlt : i < len
    · obtain ⟨x, hx⟩ : ∃ x, ks[i]? = some x := ⟨_, List.getElem?_eq_getElem (by omega)⟩
      obtain ⟨y, hy⟩ : ∃ y, us[i]? = some y := ⟨_, List.getElem?_eq_getElem (by omega)⟩
      obtain ⟨b1, o1, hbase1, hok1, hc1⟩ := hcl i x hx
      obtain ⟨b2, o2, hbase2, hok2, hc2⟩ := hcl' i y hy
      have hd1 := below_cell hB hc1 (hok b1 hok1)
      have hd2 := below_cell hB hc2 (hok b2 hok2)
      have H' : ∀ (W : World), Below wr.heap.size wr W → Calls Tryz.prog 36 #[x.val, y.val] W fun e w' => e = .returned (.bool true) ∧ Below W.heap.size W w' := by
        intro W hBW
        have hB2 := hB.trans (hBW.mono hB.size)
        have hU' := hU i y hy
        unfold GX.Lies at hU'
        unfold GX.val
        rw [hS i x y hx hy] at hU' ⊢
        exact eqI x.l x.base y.base x.cap y.cap ok W (fun b hb => Nat.lt_of_lt_of_le (hok b hb) hB2.size) (IRow.under (hL i x hx) hB2 hok) (IRow.under hU' hB2 hok) (hm i x hx)
      subst hbase1
      subst hbase2
      haveI : Nonempty (Later wr) := ⟨⟨wr, Below.refl _ _⟩⟩
      have e0 := Later.cell hd1
      have g0 := Later.cell hd2
      go_wp2_with fail
      refine region_class (fun w' => ∃ z : Later wr, w' = z.at) (by kernel_rfl) (by kernel_rfl) ⟨⟨_, (Below.refl _ _).drew⟩, rfl⟩ ?_
      repeat (go_big_quiet_step ((go_at_call 36; refine (H' _ (Later.below _)).mono ?_; rintro e w2 ⟨rfl, hb⟩; exact ⟨rfl, ⟨_, bstep (Later.below _) hb⟩, rfl⟩)))
      refine wpQuiet_nil ?_
      rintro w' ⟨z, rfl⟩
      go_wp2
      go_roundw
      case rel => exact ⟨i + 1, by go_num, by omega, hB.trans ((Later.below z).mono hB.size)⟩
      case measure => simp [intOf]; omega
    · go_wp2
      go_returns
      exact ⟨rfl, hB⟩
theorem infoG : (Tryz.prog.info? 45).map (fun i => (i.zero, i.size, i.bytes)) = some (some (.slice none 0 0), 1, 24) := by kernel_rfl
set_option maxRecDepth 10000 in
set_option maxHeartbeats 4000000 in
theorem GX.tos (ks : List GX) (a : Option Addr) (c : Nat) (ok : Nat → Prop) (w : World) (hok : ∀ b, ok b → b < w.heap.size) (hcl : GX.Row ok w a ks) (hlen : ks.length ≤ 1048577)
    (hL : ∀ (i : Nat) (k : GX), ks[i]? = some k → GX.Lies ok w k) (hm : ∀ (i : Nat) (k : GX), ks[i]? = some k → k.l.length ≤ 1048577) :
    Calls Tryz.prog 17 #[.slice a ks.length c] w fun e w' => ∃ us : List GX, e = .returned (.slice (some ⟨w.heap.size, 0, none⟩) ks.length ks.length) ∧ us.length = ks.length ∧ GX.Row (fun b => b = w.heap.size) w' (some ⟨w.heap.size, 0, none⟩) us ∧
      (∀ (i : Nat) (x y : GX), ks[i]? = some x → us[i]? = some y → y.l = x.l ∧ GX.Lies (fun b => w.heap.size < b) w' y) ∧ Below w.heap.size w w' := by
  obtain ⟨len, hl⟩ : ∃ len, ks.length = len := ⟨_, rfl⟩
  rw [hl] at hlen ⊢
  obtain ⟨i0, hi, hz0, hz1, hz2⟩ := info_parts infoG
  obtain ⟨W1, hW1⟩ : ∃ W1, w.alloc (.cells (madeCells (Value.cells (.slice none 0 0)) (len * 1)) 45) = W1 := ⟨_, rfl⟩
  have hmk : (Instr.makeSlice 29 (.int .i64 (len : Int)) (.int .i64 (len : Int))).run Tryz.prog w = .ok (.slice (some ⟨w.heap.size, 0, none⟩) len len) W1 := by
    have h := run_make w 29 45 i0 _ Tryz.underlying29 hi hz0 .i64 .i64 len len (by omega) (by omega) (by rw [hz2]; omega) (by omega)
    simp only [Int.toNat_natCast, hz1] at h
    rw [hW1] at h
    exact h
  have hR1 : RowAt W1 w.heap.size (len * 1) 45 := by
    have h := RowAt.new w (madeCells (Value.cells (.slice none 0 0)) (len * 1)) 45
    rw [hW1, size_madeCells] at h
    exact h
  have hB1 : Below w.heap.size w W1 := by rw [← hW1]; exact (Below.refl _ w).alloc (Nat.le_refl _) _
  clear hW1
  go_enter Tryz.func17, Tryz.ntmps17
  go_wp2
  go_loopw [4] (fun v4 wr => ∃ (i : Nat) (us : List GX), v4 = .int .i64 i ∧ i ≤ len ∧ us.length = i ∧ Below w.heap.size w wr ∧ RowAt wr w.heap.size (len * 1) 45 ∧
      (∀ (j : Nat) (x y : GX), ks[j]? = some x → us[j]? = some y → y.l = x.l ∧ wr.cell? ⟨w.heap.size, 0 + j, none⟩ = some y.val ∧ GX.Lies (fun b => w.heap.size < b) wr y)) (fun v4 _ => len - (intOf v4).toNat)
  case atStart => exact ⟨0, [], rfl, by omega, rfl, hB1, hR1, fun j x y _ h => by simp at h⟩
  case round =>
    obtain ⟨i, us, rfl, hi, hus, hB, hR, hS⟩ := hrel
    by_cases hlt : i < len
    · obtain ⟨x, hx⟩ : ∃ x, ks[i]? = some x := ⟨_, List.getElem?_eq_getElem (by omega)⟩
      obtain ⟨b1, o1, hbase1, hok1, hc1⟩ := hcl i x hx
      have c0 := below_cell hB hc1 (hok b1 hok1)
      have hcall := toI x.l x.base x.cap ok wr (fun b hb => Nat.lt_of_lt_of_le (hok b hb) hB.size) (IRow.under (hL i x hx) hB hok) (hm i x hx)
      subst hbase1
      go_wp2_with fail
      go_at_call 49
      refine hcall.mono ?_
      clear hcall c0
      rintro e w4 ⟨rfl, hLy0, hB4⟩
      obtain ⟨y, hyd⟩ : ∃ y : GX, y = ⟨some ⟨wr.heap.size, 0, none⟩, x.l.length, x.l⟩ := ⟨_, rfl⟩
      have hxy : y.l = x.l := by rw [hyd]
      have hLy : GX.Lies (fun b => b = wr.heap.size) w4 y := by rw [hyd]; exact hLy0
      have hyv : y.val = .slice (some ⟨wr.heap.size, 0, none⟩) x.l.length x.l.length := by rw [hyd]
      have hR4 := hR.of_block (hB4.block _ hR.lt)
      obtain ⟨v0, r0⟩ := hR4.cell (o := i) (by omega)
      have f0 := hR4.frozen i
      go_wp2
      have hg : w.heap.size < wr.heap.size := hR.lt
      have p2 := (Kept.refl (fun k => k = w.heap.size) w4).setCell (p := ⟨w.heap.size, i, none⟩) rfl (.slice (some ⟨wr.heap.size, 0, none⟩) x.l.length x.l.length)
      refine ⟨⟨i + 1, us ++ [y], by go_num, by omega, by simp [hus], ?_, hR4.set i (.slice (some ⟨wr.heap.size, 0, none⟩) x.l.length x.l.length), ?_⟩, ?_⟩
      · exact (hB.trans (hB4.mono hB.size)).trans (p2.below (by have := hB4.size; omega) (fun k h => by omega))
      · intro j x' y' hx' hy'
        rw [Nat.zero_add]
        by_cases hj : j < i
        · rw [List.getElem?_append_left (by omega)] at hy'
          obtain ⟨q1, q2, q3⟩ := hS j x' y' hx' hy'
          rw [Nat.zero_add] at q2
          refine ⟨q1, ?_, ?_⟩
          · rw [set_far (by omega)]
            exact below_cell hB4 q2 hg
          have q4 := IRow.kept q3 (Kept.of_new (fun k => k = w.heap.size) hB4) (fun b hb => by omega)
          exact IRow.kept q4 p2 (fun b hb => by omega)
        · have hji : j = i := by
            have := (List.getElem?_eq_some_iff.1 hy').1
            simp [hus] at this
            omega
          subst hji
          rw [List.getElem?_append_right (by omega)] at hy'
          simp [hus] at hy'
          subst hy'
          rw [hx] at hx'
          cases hx'
          refine ⟨hxy, by rw [hyv]; exact hR4.put (by omega) _, ?_⟩
          have q4 : IRow (fun b => w.heap.size < b) w4 y.base y.l := IRow.mono hLy (fun b hb _ => ⟨by omega, rfl⟩)
          exact IRow.kept q4 p2 (fun b hb => by omega)
      · simp [intOf]
        omega
    · have he : i = len := by omega
      have hget : ∀ (i : Nat) (y : GX), us[i]? = some y → ∃ x, ks[i]? = some x := fun i y hy => ⟨_, List.getElem?_eq_getElem (by have := (List.getElem?_eq_some_iff.1 hy).1; omega)⟩
      go_wp2
      go_returns
      refine ⟨us, rfl, by omega, fun j y hy => ?_, fun j x y hx hy => ⟨(hS j x y hx hy).1, (hS j x y hx hy).2.2⟩, hB⟩
      obtain ⟨x, hx⟩ := hget j y hy
      exact ⟨w.heap.size, 0, rfl, rfl, (hS j x y hx hy).2.1⟩
theorem cellsI3 : Tryz.prog.cellsOf 3 = 1 := by kernel_rfl
theorem cellsTIS : Tryz.prog.cellsOf 45 = 1 := by kernel_rfl
set_option maxRecDepth 100000 in
theorem readsI {H : Type} {enc : TypeId × Value → H} {W : World} {base : Nat} {spare : Nat → Bool} {held : Bool} (n : Nat) (c : Value) (y : DataW H × List MemPlace) (g : DataW.trod enc Tryz.prog W base spare held n 45 [c] = some y) :
    ∃ (a : Option Addr) (cap : Nat) (ks : List Int), c = .slice a ks.length cap ∧ ks.length ≤ maxLen ∧ IRow (fun b => b < W.heap.size) W a ks ∧ ∀ (i : Nat) (q : Int), ks[i]? = some q → (Lit.int .i64 q).wf = true := by
  rcases DataW.trod_slice Tryz.underlying45 g with ⟨e3, -⟩ | ⟨a, len, cap, elems, rest, n', rfl, e3, -, hb, hlc, hcm, hel, hget, -, -⟩
  · simp only [List.cons.injEq, and_true] at e3
    subst e3
    exact ⟨none, 0, [], rfl, Nat.zero_le _, fun i k hk => by simp at hk, fun i k hk => by simp at hk⟩
  · simp only [List.cons.injEq, and_true] at e3
    subst e3
    rw [cellsI3] at hget
    have hkid : ∀ i, i < len → ∃ q : Int, ((Lit.int .i64 q).wf = true) ∧ ∃ cs', W.cells? base (a.add (i * 1)) 1 = some cs' ∧ cs' = [.int .i64 q] := by
      intro i hi
      have h1 := hget i hi
      rw [List.getElem?_eq_getElem (by omega)] at h1
      obtain ⟨cs', h2, h3⟩ := Option.bind_eq_some_iff.1 h1
      obtain ⟨q, h4, -, h5⟩ := DataW.trod_int Tryz.underlying3 h3
      exact ⟨q, h5, cs', h2, h4⟩
    obtain ⟨ks, hks, hq⟩ := list_of hkid
    refine ⟨some a, cap, ks, by rw [hks], by omega, fun i q hk => ?_, fun i q hk => (hq i q hk).1⟩
    obtain ⟨-, cs', h2, h4⟩ := hq i q hk
    obtain ⟨-, -, h5⟩ := World.cells?_some h2
    obtain ⟨b, o, spot⟩ := a
    have hspot : spot = none := by
      obtain ⟨q0, -, cs0, k2, k4⟩ := hkid 0 (by have := (List.getElem?_eq_some_iff.1 hk).1; omega)
      obtain ⟨-, -, k5⟩ := World.cells?_some k2
      have k6 := k5 0 (by omega)
      rw [k4] at k6
      have k7 := World.cell?_spot k6
      simpa [Addr.add] using k7
    subst hspot
    subst h4
    have p0 := h5 0 (by omega)
    rw [add_one] at p0
    exact ⟨b, o, rfl, World.block_lt_of_cell? W _ p0, p0⟩
set_option maxRecDepth 100000 in
theorem GX.reads {H : Type} {enc : TypeId × Value → H} {W : World} {base : Nat} {spare : Nat → Bool} {held : Bool} (n : Nat) (c : Value) (y : DataW H × List MemPlace) (g : DataW.trod enc Tryz.prog W base spare held n 29 [c] = some y) :
    ∃ (a : Option Addr) (cap : Nat) (ks : List GX), c = .slice a ks.length cap ∧ ks.length ≤ maxLen ∧ GX.Row (fun b => b < W.heap.size) W a ks ∧ ∀ (i : Nat) (q : GX), ks[i]? = some q → q.l.length ≤ maxLen ∧ GX.Lies (fun b => b < W.heap.size) W q := by
  rcases DataW.trod_slice Tryz.underlying29 g with ⟨e3, -⟩ | ⟨a, len, cap, elems, rest, n', rfl, e3, -, hb, hlc, hcm, hel, hget, -, -⟩
  · simp only [List.cons.injEq, and_true] at e3
    subst e3
    exact ⟨none, 0, [], rfl, Nat.zero_le _, fun i k hk => by simp at hk, fun i k hk => by simp at hk⟩
  · simp only [List.cons.injEq, and_true] at e3
    subst e3
    rw [cellsTIS] at hget
    have hkid : ∀ i, i < len → ∃ q : GX, (q.l.length ≤ maxLen ∧ GX.Lies (fun b => b < W.heap.size) W q) ∧ ∃ cs', W.cells? base (a.add (i * 1)) 1 = some cs' ∧ cs' = [q.val] := by
      intro i hi
      have h1 := hget i hi
      rw [List.getElem?_eq_getElem (by omega)] at h1
      obtain ⟨cs', h2, h3⟩ := Option.bind_eq_some_iff.1 h1
      have hl1 := (World.cells?_some h2).2.1
      obtain ⟨c0, rfl⟩ : ∃ c0, cs' = [c0] := by
        match cs', hl1 with
        | [c0], _ => exact ⟨c0, rfl⟩
      obtain ⟨b', cap', l', rfl, h6, h7, h8⟩ := readsI n' c0 _ h3
      exact ⟨⟨b', cap', l'⟩, ⟨h6, h7⟩, _, h2, rfl⟩
    obtain ⟨ks, hks, hq⟩ := list_of hkid
    refine ⟨some a, cap, ks, by rw [hks], by omega, fun i q hk => ?_, fun i q hk => (hq i q hk).1⟩
    obtain ⟨-, cs', h2, h4⟩ := hq i q hk
    obtain ⟨-, -, h5⟩ := World.cells?_some h2
    obtain ⟨b, o, spot⟩ := a
    have hspot : spot = none := by
      obtain ⟨q0, -, cs0, k2, k4⟩ := hkid 0 (by have := (List.getElem?_eq_some_iff.1 hk).1; omega)
      obtain ⟨-, -, k5⟩ := World.cells?_some k2
      have k6 := k5 0 (by omega)
      rw [k4] at k6
      have k7 := World.cell?_spot k6
      simpa [Addr.add] using k7
    subst hspot
    subst h4
    have p0 := h5 0 (by omega)
    rw [add_one] at p0
    exact ⟨b, o, rfl, World.block_lt_of_cell? W _ p0, p0⟩
end Go.Proofs.YtaajdoipjalgmaaGreatDoor
namespace Go.Proofs.YtaajdoipjalgmaaGreatDoor
open Go.RowKit Go.Shelf
set_option linter.unusedSimpArgs false
set_option linter.unusedVariables false
attribute [local go_sem] Oper.semAt_some

def nums (k : Nat) : Nat → List Int
  | 0 => []
  | n + 1 => nums k n ++ [((k + n : Nat) : Int)]
theorem nums_length (k : Nat) : ∀ n, (nums k n).length = n
  | 0 => rfl
  | n + 1 => by simp [nums, nums_length k n]
theorem nums_get (k : Nat) : ∀ n i, i < n → (nums k n)[i]? = some ((k + i : Nat) : Int)
  | 0, i, h => by omega
  | n + 1, i, h => by
    rw [nums]
    by_cases e : i < n
    · rw [List.getElem?_append_left (by rw [nums_length]; exact e)]
      exact nums_get k n i e
    · have : i = n := by omega
      subst this
      rw [List.getElem?_append_right (by rw [nums_length]; exact Nat.le_refl _), nums_length]
      simp
theorem nums_get' {k n i : Nat} {y : Int} (h : (nums k n)[i]? = some y) : i < n ∧ y = ((k + i : Nat) : Int) := by
  have h1 := (List.getElem?_eq_some_iff.1 h).1
  rw [nums_length] at h1
  rw [nums_get k n i h1] at h
  exact ⟨h1, (Option.some.inj h).symm⟩
def sumG (us : List GX) : Nat := sumOf (fun t : GX => t.l.length) us
def GX.blk (k : GX) : Nat := match k.base with
  | some a => a.block
  | none => 0
/-- A list of lists of numbers, each that is not empty in a block of its own, all of it in an interval of blocks. -/
structure OwnG (W : World) (lo hi : Nat) (a : Option Addr) (us : List GX) : Prop where
  row : ∀ (i : Nat) (k : GX), us[i]? = some k → ∃ g, a = some ⟨g, 0, none⟩ ∧ lo ≤ g ∧ g < hi ∧ W.cell? ⟨g, 0 + i, none⟩ = some (.slice k.base k.l.length k.cap) ∧ ∀ (j : Nat) (y : GX), us[j]? = some y → y.l ≠ [] → y.blk ≠ g
  inner : ∀ (i : Nat) (k : GX), us[i]? = some k → k.l ≠ [] → k.base = some ⟨k.blk, 0, none⟩ ∧ lo ≤ k.blk ∧ k.blk < hi ∧ IRow (fun b => b = k.blk) W k.base k.l ∧ ∃ N, RowAt W k.blk N 3 ∧ k.l.length ≤ N
  apart : ∀ (i j : Nat) (x y : GX), us[i]? = some x → us[j]? = some y → x.l ≠ [] → y.l ≠ [] → i ≠ j → x.blk ≠ y.blk
theorem OwnG.mono {A B : World} {lo hi : Nat} {a : Option Addr} {us : List GX} (h : OwnG A lo hi a us) (hb : ∀ b, lo ≤ b → b < hi → B.heap[b]? = A.heap[b]?) : OwnG B lo hi a us := by
  refine ⟨fun i k hk => ?_, fun i k hk hn => ?_, h.apart⟩
  · obtain ⟨g, h1, h2, h3, h4, h5⟩ := h.row i k hk
    exact ⟨g, h1, h2, h3, (cell_of_block (a := ⟨g, _, none⟩) (hb g h2 h3)).trans h4, h5⟩
  · obtain ⟨h1, h2, h3, h4, N, h5, h6⟩ := h.inner i k hk hn
    exact ⟨h1, h2, h3, IRow.mono h4 (fun b e _ => ⟨e, by rw [e]; exact hb _ h2 h3⟩), N, h5.of_block (hb _ h2 h3), h6⟩
theorem OwnG.rows {W : World} {lo hi : Nat} {a : Option Addr} {us : List GX} (h : OwnG W lo hi a us) : GX.Row (fun b => lo ≤ b ∧ b < hi) W a us ∧ ∀ (i : Nat) (k : GX), us[i]? = some k → GX.Lies (fun b => lo ≤ b ∧ b < hi) W k := by
  refine ⟨fun i k hk => ?_, fun i k hk => ?_⟩
  · obtain ⟨g, h1, h2, h3, h4, h5⟩ := h.row i k hk
    exact ⟨g, 0, h1, ⟨h2, h3⟩, h4⟩
  · intro j n hn
    have hne : k.l ≠ [] := fun e => by rw [e] at hn; simp at hn
    obtain ⟨h1, h2, h3, h4, -⟩ := h.inner i k hk hne
    obtain ⟨b, o, e1, e2, e3⟩ := h4 j n hn
    exact ⟨b, o, e1, by rw [e2]; exact ⟨h2, h3⟩, e3⟩
/-- One of the lists has got other numbers. -/
theorem OwnG.set {A B : World} {lo hi : Nat} {a : Option Addr} {us : List GX} (h : OwnG A lo hi a us) {i : Nat} {x : GX} (hx : us[i]? = some x) (l : List Int) (hl : l.length = x.l.length)
    (hk : Kept (fun c => x.l ≠ [] ∧ c = x.blk) A B) (hr : x.l ≠ [] → IRow (fun b => b = x.blk) B x.base l ∧ ∀ N, RowAt A x.blk N 3 → RowAt B x.blk N 3) (hhi : hi ≤ A.heap.size) : OwnG B lo hi a (us.set i ⟨x.base, x.cap, l⟩) := by
  have hget : ∀ (j : Nat) (y : GX), (us.set i ⟨x.base, x.cap, l⟩)[j]? = some y → ∃ z, us[j]? = some z ∧ y.base = z.base ∧ y.cap = z.cap ∧ y.l.length = z.l.length ∧ (j ≠ i → y = z) ∧ (j = i → y.l = l ∧ z = x) := by
    intro j y hy
    rw [List.getElem?_set] at hy
    by_cases e : i = j
    · subst e
      rw [if_pos rfl] at hy
      split at hy
      · cases hy
        exact ⟨x, hx, rfl, rfl, hl, fun h => absurd rfl h, fun _ => ⟨rfl, rfl⟩⟩
      · cases hy
    · rw [if_neg e] at hy
      exact ⟨y, hy, rfl, rfl, rfl, fun _ => rfl, fun h => absurd h.symm e⟩
  have hne : ∀ {y z : GX}, y.l.length = z.l.length → y.l ≠ [] → z.l ≠ [] := fun h1 h2 e => h2 (List.length_eq_zero_iff.1 (by rw [h1, e]; rfl))
  refine ⟨fun j y hy => ?_, fun j y hy hn => ?_, fun j m y z hy hz hn hm hjm => ?_⟩
  · obtain ⟨z, hz, e1, e2, e3, -, -⟩ := hget j y hy
    obtain ⟨g, h1, h2, h3, h4, h5⟩ := h.row j z hz
    refine ⟨g, h1, h2, h3, ?_, fun m v hv hvn => ?_⟩
    · rw [e1, e2, e3]
      exact hk.cell h4 (fun hc => h5 i x hx hc.1 hc.2.symm)
    · obtain ⟨u, hu, f1, f2, f3, -, -⟩ := hget m v hv
      have : v.blk = u.blk := by unfold GX.blk; rw [f1]
      rw [this]
      exact h5 m u hu (hne f3 hvn)
  · obtain ⟨z, hz, e1, e2, e3, e4, e5⟩ := hget j y hy
    have hzn := hne e3 hn
    have hbk : y.blk = z.blk := by unfold GX.blk; rw [e1]
    obtain ⟨h1, h2, h3, h4, N, h5, h6⟩ := h.inner j z hz hzn
    rw [hbk, e1]
    refine ⟨h1, h2, h3, ?_, N, ?_, by omega⟩
    · by_cases e : j = i
      · obtain ⟨f1, f2⟩ := e5 e
        subst f2
        rw [f1]
        exact (hr hzn).1
      · rw [e4 e]
        exact IRow.mono h4 (fun b eb hb => ⟨eb, hk.block b hb (fun hc => h.apart j i z x hz hx hzn hc.1 e (by rw [← eb]; exact hc.2))⟩)
    · by_cases e : j = i
      · obtain ⟨f1, f2⟩ := e5 e
        subst f2
        exact (hr hzn).2 N h5
      · exact h5.of_block (hk.block _ (by omega) (fun hc => h.apart j i z x hz hx hzn hc.1 e hc.2))
  · obtain ⟨u, hu, e1, e2, e3, -, -⟩ := hget j y hy
    obtain ⟨v, hv, f1, f2, f3, -, -⟩ := hget m z hz
    have hy' : y.blk = u.blk := by unfold GX.blk; rw [e1]
    have hz' : z.blk = v.blk := by unfold GX.blk; rw [f1]
    rw [hy', hz']
    exact h.apart j m u v hu hv (hne e3 hn) (hne f3 hm) hjm
set_option maxHeartbeats 2000000 in
theorem markI (x : GX) (k : Nat) (w : World) (hx : x.l ≠ [] → x.base = some ⟨x.blk, 0, none⟩ ∧ ∃ N, RowAt w x.blk N 3 ∧ x.l.length ≤ N) (hk : k + x.l.length ≤ 1152921504606846976) :
    Calls Tryz.prog 45 #[.slice x.base x.l.length x.cap, .int .i64 (k : Int)] w fun e w' => e = .returned (.int .i64 ((k + x.l.length : Nat) : Int)) ∧ Kept (fun c => x.l ≠ [] ∧ c = x.blk) w w' ∧ (x.l ≠ [] → IRow (fun b => b = x.blk) w' x.base (nums k x.l.length) ∧ ∀ N, RowAt w x.blk N 3 → RowAt w' x.blk N 3) := by
  obtain ⟨len, hl⟩ : ∃ len, x.l.length = len := ⟨_, rfl⟩
  by_cases h0 : len = 0
  · have hnil : x.l = [] := List.length_eq_zero_iff.1 (by omega)
    rw [hl]
    subst h0
    clear hx
    go_enter Tryz.func45, Tryz.ntmps45
    go_wp2_with fail
    go_loop [1, 5] (fun v1 v5 => v1 = .int .i64 (k : Int) ∧ v5 = .int .i64 0) (fun _ v5 => 0)
    case atStart => exact ⟨rfl, rfl⟩
    case round =>
      obtain ⟨rfl, rfl⟩ := hrel
      go_wp2
      go_returns
      first | exact ⟨ret_int (by omega), Kept.refl _ _, fun h => absurd hnil h⟩ | exact ⟨ret_int (by omega), Kept.refl _ _⟩ | (refine ⟨rfl, Kept.refl _ _, ?_⟩; intro h; exact absurd hnil h)
  · have hne : x.l ≠ [] := fun e => h0 (by rw [← hl, e]; rfl)
    obtain ⟨hbase, N, hR, hN⟩ := hx hne
    obtain ⟨b, hb⟩ : ∃ b, x.blk = b := ⟨_, rfl⟩
    rw [hb] at hbase hR ⊢
    rw [hbase, hl]
    rw [hl] at hk hN
    have hgl := hR.lt
    go_enter Tryz.func45, Tryz.ntmps45
    go_wp2_with fail
    go_loopw [1, 5] (fun v1 v5 wr => ∃ (i : Nat), v5 = .int .i64 i ∧ v1 = .int .i64 ((k + i : Nat) : Int) ∧ i ≤ len ∧ Kept (fun c => x.l ≠ [] ∧ c = b) w wr ∧ Hid (∀ M, RowAt w b M 3 → RowAt wr b M 3) ∧
      Hid (∀ j, j < i → wr.cell? ⟨b, 0 + j, none⟩ = some (.int .i64 ((k + j : Nat) : Int)))) (fun _ v5 _ => len - (intOf v5).toNat)
    case atStart => exact ⟨0, rfl, by rw [Nat.add_zero], by omega, Kept.refl _ _, fun M h => h, fun j hj => by omega⟩
    case round =>
      obtain ⟨i, rfl, rfl, hi, hK, hRr, hC⟩ := hrel
      by_cases hlt : i < len
      · have hRi := hRr.out N hR
        obtain ⟨v0, r0⟩ := hRi.cell (o := i) (by omega)
        have f0 := hRi.frozen i
        go_wp2
        refine ⟨⟨i + 1, by go_num, by go_num, by omega, hK.setCell (p := ⟨b, i, none⟩) ⟨hne, rfl⟩ _, fun M h => (hRr.out M h).set i _, fun j hj => ?_⟩, by simp [intOf]; omega⟩
        rw [Nat.zero_add]
        by_cases e : j = i
        · subst e
          exact hRi.put (by omega) _
        · rw [set_far (by omega)]
          have := hC.out j (by omega)
          rwa [Nat.zero_add] at this
      · have he : i = len := by omega
        subst he
        go_wp2
        go_returns
        refine ⟨rfl, hK, fun _ => ⟨fun j n hn => ?_, hRr.out⟩⟩
        obtain ⟨h1, h2⟩ := nums_get' hn
        subst h2
        exact ⟨b, 0, rfl, rfl, hC.out j h1⟩
set_option maxHeartbeats 2000000 in
theorem heldI (x : GX) (k : Nat) (w : World) (ok : Nat → Prop) (hx : IRow ok w x.base x.l) (hn : x.l = nums k x.l.length) (hk : k + x.l.length ≤ 1152921504606846976) :
    Calls Tryz.prog 46 #[.slice x.base x.l.length x.cap, .int .i64 (k : Int)] w fun e w' => e = .returned (.int .i64 ((k + x.l.length : Nat) : Int)) ∧ w' = w := by
  obtain ⟨len, hl⟩ : ∃ len, x.l.length = len := ⟨_, rfl⟩
  rw [hl] at hk hn ⊢
  obtain ⟨xb, xc, l⟩ := x
  dsimp only at hl hn hx ⊢
  subst hn
  go_enter Tryz.func46, Tryz.ntmps46
  go_wp2_with fail
  go_loop [1, 5] (fun v1 v5 => ∃ (i : Nat), v5 = .int .i64 i ∧ v1 = .int .i64 ((k + i : Nat) : Int) ∧ i ≤ len) (fun _ v5 => len - (intOf v5).toNat)
  case atStart => exact ⟨0, rfl, by rw [Nat.add_zero], by omega⟩
  case round =>
    obtain ⟨i, rfl, rfl, hi⟩ := hrel
    by_cases hlt : i < len
    · obtain ⟨b1, o1, hbase1, hok1, hc1⟩ := hx i _ (nums_get k len i hlt)
      subst hbase1
      go_wp2
      all_goals first | (exfalso; omega) | skip
      refine ⟨⟨i + 1, by go_num, by go_num, by omega⟩, by simp [intOf]; omega⟩
    · have he : i = len := by omega
      subst he
      go_wp2
      go_returns
      exact ⟨rfl, rfl⟩
/-- As many lists, of the same length each, the numbers from k on in them. -/
def Marked (us : List GX) (k : Nat) (vs : List GX) : Prop := vs.length = us.length ∧ ∀ (j : Nat) (x y : GX), us[j]? = some x → vs[j]? = some y → y.l = nums (k + sumG (us.take j)) x.l.length
theorem sumG_take {us : List GX} {i : Nat} {x : GX} (h : us[i]? = some x) : sumG (us.take (i + 1)) = sumG (us.take i) + x.l.length := sumOf_take (fun t : GX => t.l.length) h
theorem sumG_le (us : List GX) (i : Nat) : sumG (us.take i) ≤ sumG us := sumOf_le (fun t : GX => t.l.length) us i
set_option maxHeartbeats 2000000 in
theorem markG (us : List GX) (a : Option Addr) (c k lo hi : Nat) (w : World) (hO : OwnG w lo hi a us) (hhi : hi ≤ w.heap.size) (hlen : us.length ≤ 1099511627776) (hk : k + sumG us ≤ 1152921504606846976) :
    Calls Tryz.prog 13 #[.slice a us.length c, .int .i64 (k : Int)] w fun e w' => ∃ vs, e = .returned (.int .i64 ((k + sumG us : Nat) : Int)) ∧ Marked us k vs ∧ OwnG w' lo hi a vs ∧ Kept (fun b => lo ≤ b ∧ b < hi) w w' := by
  obtain ⟨len, hl⟩ : ∃ len, us.length = len := ⟨_, rfl⟩
  rw [hl] at hlen ⊢
  go_enter Tryz.func13, Tryz.ntmps13
  go_wp2_with fail
  go_loopw [1, 5] (fun v1 v5 wr => ∃ (i : Nat) (vs : List GX), v5 = .int .i64 i ∧ v1 = .int .i64 ((k + sumG (us.take i) : Nat) : Int) ∧ i ≤ len ∧ Kept (fun b => lo ≤ b ∧ b < hi) w wr ∧ Hid (OwnG wr lo hi a vs) ∧ vs.length = len ∧
    Hid (∀ (j : Nat) (x y : GX), us[j]? = some x → vs[j]? = some y → (j < i → y.l = nums (k + sumG (us.take j)) x.l.length) ∧ (i ≤ j → y = x))) (fun _ v5 _ => len - (intOf v5).toNat)
  case atStart => exact ⟨0, us, rfl, by simp [sumG, sumOf], by omega, Kept.refl _ _, hO, hl, fun j x y hx hy => ⟨fun h => by omega, fun _ => by rw [hx] at hy; exact (Option.some.inj hy).symm⟩⟩
  case round =>
    obtain ⟨i, vs, rfl, rfl, hi', hK, hOr, hvl, hM⟩ := hrel
    by_cases hlt : i < len
    · obtain ⟨x, hx⟩ : ∃ x, us[i]? = some x := ⟨_, List.getElem?_eq_getElem (by omega)⟩
      obtain ⟨y, hy⟩ : ∃ y, vs[i]? = some y := ⟨_, List.getElem?_eq_getElem (by omega)⟩
      have hyx : y = x := (hM.out i x y hx hy).2 (Nat.le_refl _)
      subst hyx
      obtain ⟨g, hag, hg1, hg2, hgc, -⟩ := hOr.out.row i y hy
      rw [Nat.zero_add] at hgc
      have hst := sumG_take hx
      have hsl := sumG_le us (i + 1)
      have hinn : y.l ≠ [] → y.base = some ⟨y.blk, 0, none⟩ ∧ ∃ N, RowAt wr y.blk N 3 ∧ y.l.length ≤ N := fun hn => by
        obtain ⟨h1, -, -, -, h5⟩ := hOr.out.inner i y hy hn
        exact ⟨h1, h5⟩
      have hin2 : y.l ≠ [] → lo ≤ y.blk ∧ y.blk < hi := fun hn => by
        obtain ⟨-, h2, h3, -, -⟩ := hOr.out.inner i y hy hn
        exact ⟨h2, h3⟩
      have hcall := markI y (k + sumG (us.take i)) wr hinn (by omega)
      subst hag
      go_wp2_with fail
      go_at_call 45
      refine hcall.mono ?_
      clear hcall hgc
      rintro e w4 ⟨rfl, hk4, hr4⟩
      have hO4 : Hid (OwnG w4 lo hi (some ⟨g, 0, none⟩) (vs.set i ⟨y.base, y.cap, nums (k + sumG (us.take i)) y.l.length⟩)) := hOr.out.set hy _ (nums_length _ _) hk4 hr4 (by have := hK.size; omega)
      go_wp2
      refine ⟨⟨i + 1, vs.set i ⟨y.base, y.cap, nums (k + sumG (us.take i)) y.l.length⟩, by go_num, by rw [hst]; congr 2; omega, by omega, hK.trans (hk4.mono (fun b _ hb => by have := hin2 hb.1; rw [hb.2]; exact this)), hO4, by rw [List.length_set]; exact hvl, fun j x z hx' hz => ?_⟩, by simp [intOf]; omega⟩
      rw [List.getElem?_set] at hz
      by_cases e : i = j
      · subst e
        rw [if_pos rfl] at hz
        split at hz
        · cases hz
          rw [hx] at hx'
          cases hx'
          exact ⟨fun _ => rfl, fun h => by omega⟩
        · cases hz
      · rw [if_neg e] at hz
        obtain ⟨h1, h2⟩ := hM.out j x z hx' hz
        exact ⟨fun h => h1 (by omega), fun h => h2 (by omega)⟩
    · have he : i = len := by omega
      have hall : us.take i = us := List.take_of_length_le (by omega)
      rw [hall]
      go_wp2
      go_returns
      exact ⟨vs, rfl, ⟨by omega, fun j x y hx hy => (hM.out j x y hx hy).1 (by have := (List.getElem?_eq_some_iff.1 hx).1; omega)⟩, hOr.out, hK⟩
set_option maxHeartbeats 2000000 in
theorem heldG (us vs : List GX) (a : Option Addr) (c k lo hi : Nat) (w : World) (hV : Marked us k vs) (hO : OwnG w lo hi a vs) (hlen : us.length ≤ 1099511627776) (hk : k + sumG us ≤ 1152921504606846976) :
    Calls Tryz.prog 14 #[.slice a us.length c, .int .i64 (k : Int)] w fun e w' => e = .returned (.int .i64 ((k + sumG us : Nat) : Int)) ∧ w' = w := by
  obtain ⟨len, hl⟩ : ∃ len, us.length = len := ⟨_, rfl⟩
  rw [hl] at hlen ⊢
  obtain ⟨hvl, hM⟩ := hV
  obtain ⟨hR, hL⟩ := hO.rows
  go_enter Tryz.func14, Tryz.ntmps14
  go_wp2_with fail
  go_loop [1, 5] (fun v1 v5 => ∃ (i : Nat), v5 = .int .i64 i ∧ v1 = .int .i64 ((k + sumG (us.take i) : Nat) : Int) ∧ i ≤ len) (fun _ v5 => len - (intOf v5).toNat)
  case atStart => exact ⟨0, rfl, by simp [sumG, sumOf], by omega⟩
  case round =>
    obtain ⟨i, rfl, rfl, hi'⟩ := hrel
    by_cases hlt : i < len
    · obtain ⟨x, hx⟩ : ∃ x, us[i]? = some x := ⟨_, List.getElem?_eq_getElem (by omega)⟩
      obtain ⟨y, hy⟩ : ∃ y, vs[i]? = some y := ⟨_, List.getElem?_eq_getElem (by omega)⟩
      have hyl := hM i x y hx hy
      have hyn : y.l.length = x.l.length := by rw [hyl, nums_length]
      obtain ⟨b, o, hab, -, hgc⟩ := hR i y hy
      have hgc' : w.cell? ⟨b, o + i, none⟩ = some (.slice y.base y.l.length y.cap) := hgc
      have hst := sumG_take hx
      have hsl := sumG_le us (i + 1)
      have hcall := heldI y (k + sumG (us.take i)) w _ (hL i y hy) (by rw [hyn]; exact hyl) (by omega)
      rw [hyn] at hcall
      rw [hyn] at hgc'
      subst hab
      clear hgc
      go_wp2_with fail
      go_at_call 46
      refine hcall.mono ?_
      clear hcall hgc'
      rintro e w4 ⟨rfl, hw4⟩
      subst w4
      go_wp2
      all_goals first | (exfalso; omega) | skip
      refine ⟨⟨i + 1, by go_num, by rw [hst]; congr 2; omega, by omega⟩, by simp [intOf]; omega⟩
    · have he : i = len := by omega
      have hall : us.take i = us := List.take_of_length_le (by omega)
      rw [hall]
      go_wp2
      go_returns
      exact ⟨rfl, rfl⟩
end Go.Proofs.YtaajdoipjalgmaaGreatDoor
namespace Go.Proofs.YtaajdoipjalgmaaGreatDoor
open Go.RowKit Go.Shelf
set_option linter.unusedSimpArgs false
set_option linter.unusedVariables false
attribute [local go_sem] Oper.semAt_some

shelf_lay Lays.n212 Nm 212 at Tryz as laysMul
theorem mulU (n : Nat) (hn : n ≤ 1048576) (w : World) :
    Calls Tryz.prog 106 #[.int .u64 1, .int .u64 n] w fun e w' => e = .returned (.tuple #[.int .u64 0, .int .u64 n]) ∧ w' = w := by
  have h := Any.bits_Mul laysMul 1 n (by omega) (by omega) w
  rw [show 1 * n / 18446744073709551616 = 0 by omega, show 1 * n % 18446744073709551616 = n by omega] at h
  exact h
theorem splice_same {α : Type} (x : α) (k m : Nat) (rest : List α) (h : m ≤ rest.length) : splice (List.replicate k x ++ rest) k (List.replicate m x) = List.replicate (k + m) x ++ rest.drop m := by
  unfold splice
  rw [List.take_append_of_le_length (by simp), List.length_replicate, List.drop_append]
  simp only [List.take_replicate, Nat.min_self, List.drop_replicate, List.length_replicate]
  rw [show k - (k + m) = 0 by omega, show k + m - k = m by omega]
  simp only [List.replicate_zero, List.nil_append]
  rw [← List.append_assoc, List.replicate_append_replicate]
set_option maxRecDepth 10000 in
set_option maxHeartbeats 4000000 in
theorem repeatI (x : Int) (n : Nat) (h1 : 1 ≤ n) (hn : n ≤ 1048576) (b o c : Nat) (w : World) (hc : w.cell? ⟨b, o, none⟩ = some (.int .i64 x)) :
    Calls Tryz.prog 72 #[.slice (some ⟨b, o, none⟩) 1 c, .int .i64 n] w fun e w' => e = .returned (.slice (some ⟨w.heap.size, 0, none⟩) n n) ∧ w'.heap[w.heap.size]? = some (.cells (List.replicate n (.int .i64 x)).toArray 3 (0, 0)) ∧ Below w.heap.size w w' := by
  obtain ⟨i0, hi, hz0, hz1, hz2⟩ := info_parts infoI
  obtain ⟨W1, hW1⟩ : ∃ W1, w.alloc (.cells (madeCells (Value.cells (.int .i64 0)) (n * 1)) 3) = W1 := ⟨_, rfl⟩
  have hmk : (Instr.makeSlice 45 (.int .i64 (n : Int)) (.int .i64 (n : Int))).run Tryz.prog w = .ok (.slice (some ⟨w.heap.size, 0, none⟩) n n) W1 := by
    have h := run_make w 45 3 i0 _ Tryz.underlying45 hi hz0 .i64 .i64 n n (by omega) (by omega) (by rw [hz2]; omega) (by omega)
    simp only [Int.toNat_natCast, hz1] at h
    rw [hW1] at h
    exact h
  have hB1 : Below w.heap.size w W1 := by rw [← hW1]; exact (Below.refl _ w).alloc (Nat.le_refl _) _
  have hlb := World.block_lt_of_cell? w _ hc
  have hc1 : W1.cell? ⟨b, o, none⟩ = some (.int .i64 x) := below_cell hB1 hc hlb
  obtain ⟨cur, hcur, hcl⟩ : ∃ cur : List Value, W1.heap[w.heap.size]? = some (.cells cur.toArray 3 (0, 0)) ∧ cur.length = n := by
    refine ⟨(madeCells (Value.cells (.int .i64 0)) (n * 1)).toList, ?_, ?_⟩
    · rw [← hW1, Array.toArray_toList]
      exact Array.getElem?_push_size
    · rw [Array.length_toList, size_madeCells]
      simp [Value.cells]
  have hsz3 : (Tryz.prog.info? 3).map (·.size) = some 1 := by kernel_rfl
  clear hW1
  obtain ⟨xv, hxv⟩ : ∃ xv : Value, xv = .int .i64 x := ⟨_, rfl⟩
  have hx1 : xv.oneCell' = true := by rw [hxv]; rfl
  rw [← hxv] at hc1 hc ⊢
  have hmin1 : [xv].length = Nat.min 1 n := by simp [Nat.min_def]; omega
  have hsrc1 : ∀ (j : Nat) (v : Value), [xv][j]? = some v → W1.cell? ((⟨b, o, none⟩ : Addr).add j) = some v := by
    intro j v hj
    match j, hj with
    | 0, hj =>
      simp at hj
      subst hj
      simpa [Addr.add] using hc1
    | (k + 1), hj => simp at hj
  have hone1 : ∀ v ∈ [xv], v.oneCell' = true := by simpa using hx1
  go_enter Tryz.func72, Tryz.ntmps72
  go_wp2_with (first | (go_at_call 106; refine (mulU n hn _).mono ?_; rintro e w2 ⟨rfl, hw2⟩; subst w2) | (refine wpList_copy_splice rfl _ _ 45 45 rfl 3 Tryz.underlying45 hsz3 (some ⟨w.heap.size, 0, none⟩) (some ⟨b, o, none⟩) n n 1 c rfl rfl w.heap.size 0 cur 3 hcur [xv] hmin1 (fun _ => ⟨rfl, _, rfl, hsrc1⟩) (by simp; omega) hone1 w.heap.size w hB1 (Nat.le_refl _) ?_; intro w3 hg3 hb3))
  all_goals first | (exfalso; omega) | skip
  have hg3' : Hid (w3.heap[w.heap.size]? = some (.cells (List.replicate 1 xv ++ cur.drop 1).toArray 3 (0, 0))) := by
    have h := hg3.out
    have e : splice cur 0 [xv] = List.replicate 1 xv ++ cur.drop 1 := by unfold splice; simp
    rw [e] at h
    exact h
  clear hg3 hmk hcur
  go_loopw [8] (fun v8 wr => ∃ (k : Nat) (rest : List Value), v8 = .int .i64 k ∧ 1 ≤ k ∧ k + rest.length = n ∧ Hid (wr.heap[w.heap.size]? = some (.cells (List.replicate k xv ++ rest).toArray 3 (0, 0))) ∧ Below w.heap.size w wr) (fun v8 _ => n - (intOf v8).toNat)
  case atStart => exact ⟨1, cur.drop 1, rfl, by omega, by simp; omega, hg3', hb3⟩
  case round =>
    obtain ⟨k, rest, rfl, hk1, hkr, hg, hB⟩ := hrel
    by_cases hlt : k < n
    · obtain ⟨m, hm⟩ : ∃ m, m = Nat.min k (n - k) := ⟨_, rfl⟩
      have hm1 : 1 ≤ m := by simp only [Nat.min_def] at hm; split at hm <;> omega
      have hm2 : m ≤ rest.length := by simp only [Nat.min_def] at hm; split at hm <;> omega
      have hmin2 : (List.replicate m xv).length = Nat.min k (n - k) := by rw [List.length_replicate]; exact hm
      have hone2 : ∀ v ∈ List.replicate m xv, v.oneCell' = true := fun v hv => by rw [(List.mem_replicate.1 hv).2]; exact hx1
      have hsrc2 : ∀ (j : Nat) (v : Value), (List.replicate m xv)[j]? = some v → wr.drew.cell? ((⟨w.heap.size, 0, none⟩ : Addr).add j) = some v := by
        intro j v hj
        have hjm : j < m := by have := (List.getElem?_eq_some_iff.1 hj).1; simpa using this
        have hjk : j < k := by simp only [Nat.min_def] at hm; split at hm <;> omega
        rw [List.getElem?_replicate, if_pos hjm] at hj
        have e1 : ((⟨w.heap.size, 0, none⟩ : Addr).add j) = ⟨w.heap.size, j, none⟩ := by unfold Addr.add; split <;> simp_all
        have e2 : wr.drew.heap[w.heap.size]? = some (.cells (List.replicate k xv ++ rest).toArray 3 (0, 0)) := hg.out
        have e3 : (List.replicate k xv ++ rest)[j]? = some xv := by
          rw [List.getElem?_append_left (by simpa using hjk), List.getElem?_replicate, if_pos hjk]
        rw [e1, ← hj]
        simp [World.cell?, e2, e3]
      have hkn : k ≤ n := by omega
      have hkn' : ¬ n = k := by omega
      go_wp2_with fail
      go_region_law (refine step_copy_splice rfl (.tmp 41) (.tmp 44) 45 45 rfl 3 Tryz.underlying45 hsz3 (some ⟨w.heap.size, k, none⟩) (some ⟨w.heap.size, 0, none⟩) (n - k) (n - k) k n (by simp [Act.eval, Act.put]) (by simp [Act.eval, Act.put]) w.heap.size k (List.replicate k xv ++ rest) 3 hg.out (List.replicate m xv) hmin2 (fun _ => ⟨rfl, _, rfl, hsrc2⟩) (by simp; omega) hone2 w.heap.size w hB.drew (Nat.le_refl _) ?_; intro w4 hg4 hb4)
      have hsum : IntKind.i64.wrap ((k : Int) + (k.min (n - k) : Nat)) = ((k + m : Nat) : Int) := by
        rw [← hm, IntKind.wrap_i64]
        omega
      have hg5 : Hid (w4.heap[w.heap.size]? = some (.cells (List.replicate (k + m) xv ++ rest.drop m).toArray 3 (0, 0))) := by
        have h := hg4.out
        rw [splice_same xv k m rest hm2] at h
        exact h
      clear hg4
      rw [hsum]
      go_simp
      go_wp2
      go_roundw
      case rel => exact ⟨k + m, rest.drop m, by go_num, by omega, by rw [List.length_drop]; omega, hg5, hb4⟩
      case measure => simp [intOf]; omega
    · obtain rfl : rest = [] := List.eq_nil_of_length_eq_zero (by omega)
      obtain rfl : k = n := by simpa using hkr
      go_wp2
      go_returns
      exact ⟨rfl, by simpa using hg.out, hB⟩
end Go.Proofs.YtaajdoipjalgmaaGreatDoor
namespace Go.Proofs.YtaajdoipjalgmaaGreatDoor
open Go.RowKit Go.Shelf
set_option linter.unusedSimpArgs false
set_option linter.unusedVariables false
attribute [local go_sem] Oper.semAt_some

set_option maxHeartbeats 2000000 in
theorem VX.implMany (v : VX) (w : World) : Calls Tryz.prog 73 #[v.val] w fun e w' => e = .returned (.int .i64 (mxI v.size 1)) ∧ Below w.heap.size w w' := by
  go_enter Tryz.func73, Tryz.ntmps73
  go_wp2_with (go_at_call 107; refine (greater _ _ _).mono ?_; rintro e w2 ⟨rfl, hw2⟩; subst w2)
  go_returns
  refine ⟨rfl, ?_⟩
  repeat' (first | (with_reducible exact Below.refl _ _) | (with_reducible assumption) | (with_reducible refine balloc ?_ _) | (with_reducible refine bdrew ?_) | (with_reducible refine Below.setCell ?_ ?_ _) | (with_reducible refine bstep ?_ (by with_reducible assumption)) | go_size)
theorem mx_one (a : Int) : 1 ≤ mxI a 1 := by unfold mxI; split <;> omega
set_option maxRecDepth 10000 in
set_option maxHeartbeats 4000000 in
theorem VX.implOpened (v : VX) (hs : v.size ≤ 1048576) (w : World) :
    Calls Tryz.prog 35 #[v.val] w fun e w' => ∃ g, e = .returned (.slice (some ⟨g, 0, none⟩) (mxI v.size 1).toNat (mxI v.size 1).toNat) ∧ w.heap.size ≤ g ∧ w'.heap[g]? = some (.cells (List.replicate (mxI v.size 1).toNat (.int .i64 v.init)).toArray 3 (0, 0)) ∧ Below w.heap.size w w' := by
  obtain ⟨n, hn⟩ : ∃ n, (mxI v.size 1).toNat = n := ⟨_, rfl⟩
  have hmx := mx_one v.size
  have hni : mxI v.size 1 = (n : Int) := by omega
  have hn1 : 1 ≤ n := by omega
  have hn2 : n ≤ 1048576 := by unfold mxI at hni; split at hni <;> omega
  rw [hn]
  have hN : ∀ W, Calls Tryz.prog 73 #[v.val] W fun e w' => e = .returned (.int .i64 (n : Int)) ∧ Below W.heap.size W w' := by rw [← hni]; exact VX.implMany v
  clear hn hmx hni
  obtain ⟨W1, hW1⟩ : ∃ W1, w.alloc (.cells #[.string v.name, .int .i64 v.size, .int .i64 v.init, .int .i64 v.lo, .int .i64 v.hi, .string v.lock, .int .i64 v.task] 58) = W1 := ⟨_, rfl⟩
  have hs1 : w.heap.size + 1 = W1.heap.size := by rw [← hW1]; simp
  have hB1 : Below w.heap.size w W1 := by rw [← hW1]; exact (Below.refl _ w).alloc (Nat.le_refl _) _
  have hC : VX.At W1 w.heap.size 0 v := by
    rw [← hW1]
    exact ⟨World.cell?_alloc_new w _ _ 0, World.cell?_alloc_new w _ _ 1, World.cell?_alloc_new w _ _ 2, World.cell?_alloc_new w _ _ 3, World.cell?_alloc_new w _ _ 4, World.cell?_alloc_new w _ _ 5, World.cell?_alloc_new w _ _ 6⟩
  have hz : w.heap.size < W1.heap.size := by omega
  obtain ⟨vn, vs, vi, vl, vh, vk, vt⟩ := v
  dsimp only at hC hN hW1 ⊢
  obtain ⟨c0, c1, c2, c3, c4, c5, c6⟩ := hC
  dsimp only at c0 c1 c2 c3 c4 c5 c6
  go_enter Tryz.func35, Tryz.ntmps35
  go_wp2_with fail
  go_region_held3 (fun w' => w'.cell? ⟨w.heap.size, 0, none⟩ = some (.string vn) ∧ w'.cell? ⟨w.heap.size, 1, none⟩ = some (.int .i64 vs) ∧ w'.cell? ⟨w.heap.size, 2, none⟩ = some (.int .i64 vi) ∧ w'.cell? ⟨w.heap.size, 3, none⟩ = some (.int .i64 vl) ∧ w'.cell? ⟨w.heap.size, 4, none⟩ = some (.int .i64 vh) ∧ w'.cell? ⟨w.heap.size, 5, none⟩ = some (.string vk) ∧ w'.cell? ⟨w.heap.size, 6, none⟩ = some (.int .i64 vt)) (simp [*, go_sem, World.cell?_alloc_some, World.cell?_setCell_far, apart1, apart2, apart3, apart4, apart5, apart6]) (first | (go_at_call 73; refine (hN _).mono ?_; rintro e w2 ⟨rfl, hb2⟩; (have hz2 := hb2.size); (have k0 := cell_later (a := ⟨w.heap.size, 0, none⟩) (v := .string vn) hb2 (by repeat' (first | (with_reducible assumption) | (with_reducible refine cell_later (by with_reducible assumption) ?_) | (with_reducible refine cnew ?_) | (with_reducible refine calloc ?_ _) | (with_reducible refine cdrew ?_) | (with_reducible refine cset_same ?_ _) | (with_reducible refine cset_ne ?_ ?_ _) | (simp [go_sem]; done) | (simp [*, go_sem]; done) | (simp; omega)))); (have k1 := cell_later (a := ⟨w.heap.size, 1, none⟩) (v := .int .i64 vs) hb2 (by repeat' (first | (with_reducible assumption) | (with_reducible refine cell_later (by with_reducible assumption) ?_) | (with_reducible refine cnew ?_) | (with_reducible refine calloc ?_ _) | (with_reducible refine cdrew ?_) | (with_reducible refine cset_same ?_ _) | (with_reducible refine cset_ne ?_ ?_ _) | (simp [go_sem]; done) | (simp [*, go_sem]; done) | (simp; omega)))); (have k2 := cell_later (a := ⟨w.heap.size, 2, none⟩) (v := .int .i64 vi) hb2 (by repeat' (first | (with_reducible assumption) | (with_reducible refine cell_later (by with_reducible assumption) ?_) | (with_reducible refine cnew ?_) | (with_reducible refine calloc ?_ _) | (with_reducible refine cdrew ?_) | (with_reducible refine cset_same ?_ _) | (with_reducible refine cset_ne ?_ ?_ _) | (simp [go_sem]; done) | (simp [*, go_sem]; done) | (simp; omega)))); (have k3 := cell_later (a := ⟨w.heap.size, 3, none⟩) (v := .int .i64 vl) hb2 (by repeat' (first | (with_reducible assumption) | (with_reducible refine cell_later (by with_reducible assumption) ?_) | (with_reducible refine cnew ?_) | (with_reducible refine calloc ?_ _) | (with_reducible refine cdrew ?_) | (with_reducible refine cset_same ?_ _) | (with_reducible refine cset_ne ?_ ?_ _) | (simp [go_sem]; done) | (simp [*, go_sem]; done) | (simp; omega)))); (have k4 := cell_later (a := ⟨w.heap.size, 4, none⟩) (v := .int .i64 vh) hb2 (by repeat' (first | (with_reducible assumption) | (with_reducible refine cell_later (by with_reducible assumption) ?_) | (with_reducible refine cnew ?_) | (with_reducible refine calloc ?_ _) | (with_reducible refine cdrew ?_) | (with_reducible refine cset_same ?_ _) | (with_reducible refine cset_ne ?_ ?_ _) | (simp [go_sem]; done) | (simp [*, go_sem]; done) | (simp; omega)))); (have k5 := cell_later (a := ⟨w.heap.size, 5, none⟩) (v := .string vk) hb2 (by repeat' (first | (with_reducible assumption) | (with_reducible refine cell_later (by with_reducible assumption) ?_) | (with_reducible refine cnew ?_) | (with_reducible refine calloc ?_ _) | (with_reducible refine cdrew ?_) | (with_reducible refine cset_same ?_ _) | (with_reducible refine cset_ne ?_ ?_ _) | (simp [go_sem]; done) | (simp [*, go_sem]; done) | (simp; omega)))); (have k6 := cell_later (a := ⟨w.heap.size, 6, none⟩) (v := .int .i64 vt) hb2 (by repeat' (first | (with_reducible assumption) | (with_reducible refine cell_later (by with_reducible assumption) ?_) | (with_reducible refine cnew ?_) | (with_reducible refine calloc ?_ _) | (with_reducible refine cdrew ?_) | (with_reducible refine cset_same ?_ _) | (with_reducible refine cset_ne ?_ ?_ _) | (simp [go_sem]; done) | (simp [*, go_sem]; done) | (simp; omega))))) | (go_at_call 72; refine (repeatI vi n hn1 hn2 _ _ _ _ (by repeat' (first | (with_reducible assumption) | (with_reducible refine cell_later (by with_reducible assumption) ?_) | (with_reducible refine cnew ?_) | (with_reducible refine calloc ?_ _) | (with_reducible refine cdrew ?_) | (with_reducible refine cset_same ?_ _) | (with_reducible refine cset_ne ?_ ?_ _) | (simp [go_sem]; done) | (simp [*, go_sem]; done) | (simp; omega)))).mono ?_; rintro e w3 ⟨rfl, hblk, hb3⟩; (have l0 := cell_later (a := ⟨w.heap.size, 0, none⟩) (v := .string vn) hb3 (by repeat' (first | (with_reducible assumption) | (with_reducible refine cell_later (by with_reducible assumption) ?_) | (with_reducible refine cnew ?_) | (with_reducible refine calloc ?_ _) | (with_reducible refine cdrew ?_) | (with_reducible refine cset_same ?_ _) | (with_reducible refine cset_ne ?_ ?_ _) | (simp [go_sem]; done) | (simp [*, go_sem]; done) | (simp; omega)))); (have l1 := cell_later (a := ⟨w.heap.size, 1, none⟩) (v := .int .i64 vs) hb3 (by repeat' (first | (with_reducible assumption) | (with_reducible refine cell_later (by with_reducible assumption) ?_) | (with_reducible refine cnew ?_) | (with_reducible refine calloc ?_ _) | (with_reducible refine cdrew ?_) | (with_reducible refine cset_same ?_ _) | (with_reducible refine cset_ne ?_ ?_ _) | (simp [go_sem]; done) | (simp [*, go_sem]; done) | (simp; omega)))); (have l2 := cell_later (a := ⟨w.heap.size, 2, none⟩) (v := .int .i64 vi) hb3 (by repeat' (first | (with_reducible assumption) | (with_reducible refine cell_later (by with_reducible assumption) ?_) | (with_reducible refine cnew ?_) | (with_reducible refine calloc ?_ _) | (with_reducible refine cdrew ?_) | (with_reducible refine cset_same ?_ _) | (with_reducible refine cset_ne ?_ ?_ _) | (simp [go_sem]; done) | (simp [*, go_sem]; done) | (simp; omega)))); (have l3 := cell_later (a := ⟨w.heap.size, 3, none⟩) (v := .int .i64 vl) hb3 (by repeat' (first | (with_reducible assumption) | (with_reducible refine cell_later (by with_reducible assumption) ?_) | (with_reducible refine cnew ?_) | (with_reducible refine calloc ?_ _) | (with_reducible refine cdrew ?_) | (with_reducible refine cset_same ?_ _) | (with_reducible refine cset_ne ?_ ?_ _) | (simp [go_sem]; done) | (simp [*, go_sem]; done) | (simp; omega)))); (have l4 := cell_later (a := ⟨w.heap.size, 4, none⟩) (v := .int .i64 vh) hb3 (by repeat' (first | (with_reducible assumption) | (with_reducible refine cell_later (by with_reducible assumption) ?_) | (with_reducible refine cnew ?_) | (with_reducible refine calloc ?_ _) | (with_reducible refine cdrew ?_) | (with_reducible refine cset_same ?_ _) | (with_reducible refine cset_ne ?_ ?_ _) | (simp [go_sem]; done) | (simp [*, go_sem]; done) | (simp; omega)))); (have l5 := cell_later (a := ⟨w.heap.size, 5, none⟩) (v := .string vk) hb3 (by repeat' (first | (with_reducible assumption) | (with_reducible refine cell_later (by with_reducible assumption) ?_) | (with_reducible refine cnew ?_) | (with_reducible refine calloc ?_ _) | (with_reducible refine cdrew ?_) | (with_reducible refine cset_same ?_ _) | (with_reducible refine cset_ne ?_ ?_ _) | (simp [go_sem]; done) | (simp [*, go_sem]; done) | (simp; omega)))); (have l6 := cell_later (a := ⟨w.heap.size, 6, none⟩) (v := .int .i64 vt) hb3 (by repeat' (first | (with_reducible assumption) | (with_reducible refine cell_later (by with_reducible assumption) ?_) | (with_reducible refine cnew ?_) | (with_reducible refine calloc ?_ _) | (with_reducible refine cdrew ?_) | (with_reducible refine cset_same ?_ _) | (with_reducible refine cset_ne ?_ ?_ _) | (simp [go_sem]; done) | (simp [*, go_sem]; done) | (simp; omega))))))
  all_goals
    have hbb : Below w.heap.size w w3 := by repeat' (first | (with_reducible exact Below.refl _ _) | (with_reducible assumption) | (with_reducible refine balloc ?_ _) | (with_reducible refine bdrew ?_) | (with_reducible refine Below.setCell ?_ ?_ _) | (with_reducible refine bstep ?_ (by with_reducible assumption)) | go_size)
    go_wp2
    go_returns
    refine ⟨_, rfl, ?_, by first | exact hblk | simpa using hblk, hbb⟩
    have hdz : W1.drew.heap.size = W1.heap.size := rfl
    first | omega | (simp at hz2; omega) | (simp; omega)
end Go.Proofs.YtaajdoipjalgmaaGreatDoor
namespace Go.Proofs.YtaajdoipjalgmaaGreatDoor
open Go.RowKit Go.Shelf
set_option linter.unusedSimpArgs false
set_option linter.unusedVariables false
attribute [local go_sem] Oper.semAt_some

structure AccG (W : World) (base : Nat) (v : Value) (us : List GX) : Prop where
  own : W.ownsRow base 45 1 v us.length (us.map GX.val)
  inner : ∀ (i : Nat) (k : GX), us[i]? = some k → k.l ≠ [] → k.base = some ⟨k.blk, 0, none⟩ ∧ base ≤ k.blk ∧ k.blk < W.heap.size ∧ IRow (fun b => b = k.blk) W k.base k.l ∧ (∃ N, RowAt W k.blk N 3 ∧ k.l.length ≤ N) ∧ ∀ g, v.ownBlock = some g → k.blk ≠ g
  apart : ∀ (i j : Nat) (x y : GX), us[i]? = some x → us[j]? = some y → x.l ≠ [] → y.l ≠ [] → i ≠ j → x.blk ≠ y.blk
theorem AccG.nil (W : World) (base : Nat) : AccG W base (.slice none 0 0) [] :=
  ⟨World.ownsRow_nil _ _ _ _, fun i k h => by simp at h, fun i j x y h => by simp at h⟩
theorem AccG.below {A B : World} {base : Nat} {v : Value} {us : List GX} (hA : AccG A base v us) (hb : Below A.heap.size A B) : AccG B base v us := by
  refine ⟨own_on hA.own (fun g hg => hb.block g (hA.own.lt g hg).2), fun i k hk hn => ?_, hA.apart⟩
  obtain ⟨h1, h2, h3, h4, ⟨N, h5, h6⟩, h7⟩ := hA.inner i k hk hn
  exact ⟨h1, h2, Nat.lt_of_lt_of_le h3 hb.size, IRow.mono h4 (fun b e hl => ⟨e, hb.block b hl⟩), ⟨N, h5.of_block (hb.block _ h3), h6⟩, h7⟩
theorem AccG.push {A B : World} {base n : Nat} {v v' : Value} {us : List GX} {t : GX} (hA : AccG A base v us) (hn : us.length = n) (hbase : base ≤ A.heap.size)
    (hO : t.l ≠ [] → t.base = some ⟨t.blk, 0, none⟩ ∧ base ≤ t.blk ∧ t.blk < A.heap.size ∧ IRow (fun b => b = t.blk) A t.base t.l ∧ (∃ N, RowAt A t.blk N 3 ∧ t.l.length ≤ N) ∧ (∀ g, v.ownBlock = some g → t.blk ≠ g) ∧ ∀ (i : Nat) (k : GX), us[i]? = some k → k.l ≠ [] → k.blk ≠ t.blk)
    (hown : B.ownsRow base 45 1 v' (n + 1) (us.map GX.val ++ [t.val])) (hback : Back A B base 45 1 n 1 v v' (us.map GX.val) [t.val]) :
    AccG B base v' (us ++ [t]) := by
  have hblk : ∀ b, b < A.heap.size → (∀ g, v.ownBlock = some g → b ≠ g) → B.heap[b]? = A.heap[b]? := by
    intro b hb hg
    rcases hback with ⟨h1, h2, h3, h4⟩ | ⟨h1, h3⟩
    · exact h3.block b hb (fun e => hg b e.symm rfl)
    · exact h3.block b hb
  have hz : A.heap.size ≤ B.heap.size := by
    rcases hback with ⟨h1, h2, h3, h4⟩ | ⟨h1, h3⟩
    · exact h3.size
    · exact h3.size
  have hv' : ∀ g, v'.ownBlock = some g → v.ownBlock = some g ∨ g = A.heap.size := by
    intro g hg
    rcases hback with ⟨h1, h2, h3, h4⟩ | ⟨h1, h3⟩
    · rw [h1] at hg; exact .inl hg
    · rw [h1] at hg; cases hg; exact .inr rfl
  have hget : ∀ (i : Nat) (k : GX), (us ++ [t])[i]? = some k → (i < n ∧ us[i]? = some k) ∨ (i = n ∧ k = t) := by
    intro i k hk
    by_cases e : i < us.length
    · rw [List.getElem?_append_left e] at hk
      exact .inl ⟨by omega, hk⟩
    · have hi' : i = n := by
        have := (List.getElem?_eq_some_iff.1 hk).1
        simp at this
        omega
      rw [List.getElem?_append_right (by omega)] at hk
      simp [hi', hn] at hk
      exact .inr ⟨hi', hk.symm⟩
  have hall : ∀ (k : GX), k.base = some ⟨k.blk, 0, none⟩ ∧ base ≤ k.blk ∧ k.blk < A.heap.size ∧ IRow (fun b => b = k.blk) A k.base k.l ∧ (∃ N, RowAt A k.blk N 3 ∧ k.l.length ≤ N) ∧ (∀ g, v.ownBlock = some g → k.blk ≠ g) →
      k.base = some ⟨k.blk, 0, none⟩ ∧ base ≤ k.blk ∧ k.blk < B.heap.size ∧ IRow (fun b => b = k.blk) B k.base k.l ∧ (∃ N, RowAt B k.blk N 3 ∧ k.l.length ≤ N) ∧ ∀ g, v'.ownBlock = some g → k.blk ≠ g := by
    rintro k ⟨h1, h2, h3, h4, ⟨N, h5, h6⟩, h7⟩
    have hb := hblk k.blk h3 h7
    refine ⟨h1, h2, by omega, IRow.mono h4 (fun b e hl => ⟨e, by rw [e]; exact hb⟩), ⟨N, h5.of_block hb, h6⟩, fun g hg => ?_⟩
    rcases hv' g hg with h | h
    · exact h7 g h
    · omega
  refine ⟨?_, fun i k hk hkn => ?_, fun i j x y hx hy hxn hyn hij => ?_⟩
  · rw [List.map_append, List.length_append, hn]
    exact hown
  · rcases hget i k hk with ⟨e, h⟩ | ⟨e, rfl⟩
    · exact hall k (hA.inner i k h hkn)
    · obtain ⟨h1, h2, h3, h4, h5, h6, -⟩ := hO hkn
      exact hall k ⟨h1, h2, h3, h4, h5, h6⟩
  · rcases hget i x hx with ⟨e, h⟩ | ⟨e, rfl⟩
    · rcases hget j y hy with ⟨e', h'⟩ | ⟨e', rfl⟩
      · exact hA.apart i j x y h h' hxn hyn hij
      · exact (hO hyn).2.2.2.2.2.2 i x h hxn
    · rcases hget j y hy with ⟨e', h'⟩ | ⟨e', rfl⟩
      · exact fun h => (hO hxn).2.2.2.2.2.2 j y h' hyn h.symm
      · omega
theorem AccG.done {W : World} {base : Nat} {v : Value} {us : List GX} (hA : AccG W base v us) : ∃ a c, v = .slice a us.length c ∧ OwnG W base W.heap.size a us := by
  rcases hA.own.2 with ⟨rfl, h0⟩ | ⟨g, cap, cur, rfl, hb, hg, hnc, hcm, hcs, htk⟩
  · have : us = [] := List.length_eq_zero_iff.1 h0
    subst this
    exact ⟨none, 0, rfl, fun i k hk => by simp at hk, fun i k hk => by simp at hk, fun i j x y hx => by simp at hx⟩
  · refine ⟨_, cap, rfl, fun i k hk => ?_, fun i k hk hn => ?_, hA.apart⟩
    · refine ⟨g, rfl, hb, (Array.getElem?_eq_some_iff.1 hg).1, ?_, fun j y hy hyn => (hA.inner j y hy hyn).2.2.2.2.2 g rfl⟩
      have h1 := hA.own.cells (g := g) rfl i (.slice k.base k.l.length k.cap) (by rw [List.getElem?_map, hk]; rfl)
      have hadd : (⟨g, 0, none⟩ : Addr).add i = ⟨g, 0 + i, none⟩ := by unfold Addr.add; split <;> simp_all
      rw [hadd] at h1
      exact h1
    · obtain ⟨h1, h2, h3, h4, h5, -⟩ := hA.inner i k hk hn
      exact ⟨h1, h2, h3, h4, h5⟩
/-- what a variable is at first -/
def VX.openL (v : VX) : List Int := List.replicate (mxI v.size 1).toNat v.init
theorem infoGS : (Tryz.prog.info? 45).map (fun i => (i.zero, i.size, i.bytes)) = some (some (.slice none 0 0), 1, 24) := by kernel_rfl
theorem newsG (w : World) (v : Value) (T : TypeId) : ∀ j u, [v][j]? = some u → (w.alloc (.cells #[v] T)).cell? ((⟨w.heap.size, 0, none⟩ : Addr).add j) = some u := by
  intro j u hj
  have hadd : (⟨w.heap.size, 0, none⟩ : Addr).add j = ⟨w.heap.size, j, none⟩ := by unfold Addr.add; split <;> simp_all
  rw [hadd]
  have h := World.cell?_alloc_new w #[v] T j
  rw [h]
  simpa using hj
set_option maxRecDepth 10000 in
set_option maxHeartbeats 4000000 in
theorem eachOpen (ks : List VX) (a : Option Addr) (c : Nat) (ok : Nat → Prop) (w : World) (hok : ∀ b, ok b → b < w.heap.size) (hcl : VX.Row ok w a ks) (hlen : ks.length ≤ 1048577) (hsz : ∀ (i : Nat) (k : VX), ks[i]? = some k → k.size ≤ 1048576) :
    Calls Tryz.prog 34 #[.slice a ks.length c, .func (.func 35) #[] #[]] w fun e w' => ∃ (v : Value) (us : List GX), e = .returned v ∧ us.map GX.l = ks.map VX.openL ∧ AccG w' w.heap.size v us ∧ Below w.heap.size w w' := by
  obtain ⟨len, hl⟩ : ∃ len, ks.length = len := ⟨_, rfl⟩
  rw [hl] at hlen ⊢
  obtain ⟨i0, hi0, hz0, hz1, hz2⟩ := info_parts infoGS
  go_enter Tryz.func34, Tryz.ntmps34
  go_wp2_with fail
  go_loopw [5, 10] (fun v5 v10 wr => ∃ (i : Nat) (us : List GX), v10 = .int .i64 i ∧ i ≤ len ∧ Hid (us.map GX.l = (ks.take i).map VX.openL) ∧ Hid (AccG wr w.heap.size v5 us) ∧ Below w.heap.size w wr) (fun _ v10 _ => len - (intOf v10).toNat)
  case atStart => exact ⟨0, [], rfl, by omega, rfl, AccG.nil _ _, Below.refl _ _⟩
  case round =>
    obtain ⟨i, us, rfl, hi, hul, hA, hB⟩ := hrel
    obtain ⟨v, rfl⟩ : ∃ v, v = u5 := ⟨_, rfl⟩
    have hun : us.length = min i ks.length := by
      have h := congrArg List.length hul.out
      simpa using h
    by_cases hlt : i < len
    · obtain ⟨x, hx⟩ : ∃ x, ks[i]? = some x := ⟨_, List.getElem?_eq_getElem (by omega)⟩
      obtain ⟨b1, o1, hbase1, hok1, hc1⟩ := hcl i x hx
      obtain ⟨c0, c1, c2, c3, c4q, c5, c6⟩ := hc1.below hB (hok b1 hok1)
      obtain ⟨W1, hW1⟩ : ∃ W1, wr.alloc (.cells #[.string x.name, .int .i64 x.size, .int .i64 x.init, .int .i64 x.lo, .int .i64 x.hi, .string x.lock, .int .i64 x.task] 58) = W1 := ⟨_, rfl⟩
      have hB1 : Below wr.heap.size wr W1 := by rw [← hW1]; exact (Below.refl _ _).alloc (Nat.le_refl _) _
      have hd : ∀ j, j < 7 → W1.cell? ⟨wr.heap.size, j, none⟩ = some ([.string x.name, .int .i64 x.size, .int .i64 x.init, .int .i64 x.lo, .int .i64 x.hi, .string x.lock, .int .i64 x.task].getD j (.bool false)) := by
        intro j hj
        rw [← hW1, World.cell?_alloc_new]
        have : j = 0 ∨ j = 1 ∨ j = 2 ∨ j = 3 ∨ j = 4 ∨ j = 5 ∨ j = 6 := by omega
        rcases this with rfl | rfl | rfl | rfl | rfl | rfl | rfl <;> rfl
      have d0 := hd 0 (by omega); have d1 := hd 1 (by omega); have d2 := hd 2 (by omega); have d3 := hd 3 (by omega); have d4 := hd 4 (by omega); have d5 := hd 5 (by omega); have d6 := hd 6 (by omega)
      clear hd
      have hcall : Hid (Calls Tryz.prog 35 #[x.val] W1 fun e w' => ∃ g, e = .returned (.slice (some ⟨g, 0, none⟩) (mxI x.size 1).toNat (mxI x.size 1).toNat) ∧ W1.heap.size ≤ g ∧ w'.heap[g]? = some (.cells (List.replicate (mxI x.size 1).toNat (.int .i64 x.init)).toArray 3 (0, 0)) ∧ Below W1.heap.size W1 w') := VX.implOpened x (hsz i x hx) W1
      subst hbase1
      go_wp2_with fail
      go_at_call 35
      refine hcall.out.mono ?_
      rintro e w2 ⟨g, rfl, hg1, hg2, hB2⟩
      clear c0 c1 c2 c3 c4q c5 c6 d0 d1 d2 d3 d4 d5 d6 hcall hW1
      have hzw := hB.size
      have hz1' := hB1.size
      have hz2' := hB2.size
      have hgl : g < w2.heap.size := (Array.getElem?_eq_some_iff.1 hg2).1
      obtain ⟨t, ht⟩ : ∃ t : GX, t = ⟨some ⟨g, 0, none⟩, (mxI x.size 1).toNat, x.openL⟩ := ⟨_, rfl⟩
      have htl : t.l = x.openL := by rw [ht]
      have htv : t.val = .slice (some ⟨g, 0, none⟩) (mxI x.size 1).toNat (mxI x.size 1).toNat := by rw [ht]; unfold GX.val VX.openL; simp
      obtain ⟨nn, hnn⟩ : ∃ nn, (mxI x.size 1).toNat = nn := ⟨_, rfl⟩
      rw [hnn] at htv ht hg2 ⊢
      have hblk : t.blk = g := by rw [ht]; rfl
      have hbaseT : t.base = some ⟨g, 0, none⟩ := by rw [ht]
      clear ht
      obtain ⟨W3, hW3⟩ : ∃ W3, w2.alloc (.cells #[.slice (some ⟨g, 0, none⟩) nn nn] 45) = W3 := ⟨_, rfl⟩
      have hB3 : Below w2.heap.size w2 W3 := by rw [← hW3]; exact (Below.refl _ _).alloc (Nat.le_refl _) _
      have hs3 : w2.heap.size + 1 = W3.heap.size := by rw [← hW3]; simp
      have hnewH : Hid (∀ j u, [Value.slice (some ⟨g, 0, none⟩) nn nn][j]? = some u → W3.cell? ((⟨w2.heap.size, 0, none⟩ : Addr).add j) = some u) := by rw [← hW3]; exact newsG w2 (.slice (some ⟨g, 0, none⟩) nn nn) _
      have hA3 : AccG W3 w.heap.size v us := ((hA.out.below hB1).below hB2).below hB3
      have hown3 : Hid (W3.ownsRow w.heap.size 45 1 v us.length (us.map GX.val)) := hA3.own
      have hg3 : W3.heap[g]? = some (.cells (List.replicate nn (.int .i64 x.init)).toArray 3 (0, 0)) := (hB3.block g hgl).trans hg2
      have hone : ∀ u ∈ [Value.slice (some ⟨g, 0, none⟩) nn nn], u.oneCell' = true := by intro u hu; simp at hu; subst hu; rfl
      have htvH : Hid (t.val = .slice (some ⟨g, 0, none⟩) nn nn) := htv
      have htlH : Hid (t.l = x.openL) := htl
      have hbkH : Hid (t.blk = g) := hblk
      have hbtH : Hid (t.base = some ⟨g, 0, none⟩) := hbaseT
      clear htl hblk hbaseT htv
      have hmin : us.length ≤ 1048577 := by omega
      go_wp2_with (at_builtin; go_loud (refine wpList_append_back _ rfl _ _ 29 rfl w.heap.size 45 i0 _ 1 24 Tryz.underlying29 hi0 hz0 hz1 hz2 rfl (by decide) v us.length (us.map GX.val) rfl hown3.out ⟨w2.heap.size, 0, none⟩ 1 1 [Value.slice (some ⟨g, 0, none⟩) nn nn] rfl rfl hnewH.out hone (by unfold maxLen; omega) (by omega) (by omega) (by omega) ?_); intro v' w4 hown' hback)
      have htv := htvH.out
      have htl := htlH.out
      have hblk := hbkH.out
      have hbaseT := hbtH.out
      rw [← htv] at hown' hback
      have hP : AccG w4 w.heap.size v' (us ++ [t]) := hA3.push rfl (by omega) (fun hne => by
        rw [hblk]
        refine ⟨hbaseT, by omega, by omega, fun j n hn => ?_, ⟨_, ⟨_, hg3, rfl⟩, by rw [htl]; simp [VX.openL, hnn]⟩, fun g' hg' => by have := (hA.out.own.lt g' hg').2; omega, fun j k hk hkn => by have := (hA.out.inner j k hk hkn).2.2.1; omega⟩
        refine ⟨g, 0, hbaseT, rfl, ?_⟩
        rw [htl] at hn
        unfold VX.openL at hn
        rw [hnn] at hn
        have hj := (List.getElem?_eq_some_iff.1 hn).1
        rw [List.length_replicate] at hj
        rw [List.getElem?_replicate, if_pos hj] at hn
        simp [World.cell?, hg3, hj, List.getElem?_replicate]
        simpa using hn) hown' hback
      have hB4 : Below w.heap.size w w4 := by
        have h0 : Below w.heap.size w W3 := bstep (bstep (bstep hB hB1) hB2) hB3
        refine h0.trans (hback.kept.below (by omega) (fun k hk => ?_))
        rcases hk with hk | hk
        · exact (hA3.own.lt k hk).1
        · exact (hown'.lt k hk).1
      refine ⟨⟨i + 1, us ++ [t], by go_num, by omega, ?_, hP, hB4⟩, by simp [intOf]; omega⟩
      show (us ++ [t]).map GX.l = _
      rw [List.map_append, hul.out, List.take_add_one, hx]
      simp [htl]
    · have he : i = len := by omega
      go_wp2_with fail
      go_returns
      refine ⟨v, us, rfl, ?_, hA.out, hB⟩
      have h := hul.out
      rw [List.take_of_length_le (by omega)] at h
      exact h
end Go.Proofs.YtaajdoipjalgmaaGreatDoor
