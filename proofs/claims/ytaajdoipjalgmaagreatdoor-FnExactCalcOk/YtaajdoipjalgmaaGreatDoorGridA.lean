/-
  Lists of numbers and lists of such lists as they lie in memory: their sizes, copies of them, that the same are told to be so, and how arguments of these kinds are read.
-/
import Derived.Test.YtaajdoipjalgmaaGreatDoorProgD
namespace Go.Proofs.YtaajdoipjalgmaaGreatDoor
open Go.RowKit
set_option linter.unusedSimpArgs false
set_option linter.unusedVariables false

def IRow (ok : Nat → Prop) (W : World) (base : Option Addr) (l : List Int) : Prop := ∀ (i : Nat) (k : Int), l[i]? = some k → ∃ b o, base = some ⟨b, o, none⟩ ∧ ok b ∧ W.cell? ⟨b, o + i, none⟩ = some (.int .i64 k)
theorem IRow.mono {ok ok' : Nat → Prop} {A B : World} {base : Option Addr} {l : List Int} (h : IRow ok A base l) (hb : ∀ b, ok b → b < A.heap.size → ok' b ∧ B.heap[b]? = A.heap[b]?) : IRow ok' B base l := by
  intro i k hk
  obtain ⟨b, o, h1, h2, h3⟩ := h i k hk
  obtain ⟨h4, h5⟩ := hb b h2 (World.block_lt_of_cell? A _ h3)
  exact ⟨b, o, h1, h4, (cell_of_block (a := ⟨b, _, none⟩) h5).trans h3⟩
theorem IRow.under {ok : Nat → Prop} {n : Nat} {A B : World} {base : Option Addr} {l : List Int} (h : IRow ok A base l) (hk : Below n A B) (hs : ∀ b, ok b → b < n) : IRow ok B base l := h.mono fun b ho hb => ⟨ho, hk.block b (hs b ho)⟩
theorem IRow.kept {S ok : Nat → Prop} {A B : World} {base : Option Addr} {l : List Int} (h : IRow ok A base l) (hk : Kept S A B) (hs : ∀ b, ok b → ¬ S b) : IRow ok B base l := h.mono fun b ho hb => ⟨ho, hk.block b hb (hs b ho)⟩
set_option maxHeartbeats 2000000 in
theorem szI (ks : List Int) (a : Option Addr) (c : Nat) (w : World) (hlen : ks.length ≤ maxLen) (left : Int) (h0 : 0 ≤ left) (h1 : left ≤ 1048576) :
    Calls Tryz.prog 47 #[.slice a ks.length c, .int .i64 left] w fun e w' => e = .returned (.int .i64 (subI left ks.length)) ∧ Below w.heap.size w w' := by
  unfold maxLen at hlen
  obtain ⟨len, hl⟩ : ∃ len, ks.length = len := ⟨_, rfl⟩
  rw [hl] at hlen ⊢
  go_enter Tryz.func47, Tryz.ntmps47
  by_cases hs : left < len
  · go_wp2
    all_goals first | (exfalso; omega) | skip
    go_returns
    exact ⟨ret_int (subI_no (by omega)).symm, Below.refl _ _⟩
  · go_wp2
    all_goals first | (exfalso; omega) | skip
    go_returns
    exact ⟨ret_int (by rw [subI_yes (by omega)]), Below.refl _ _⟩
set_option maxHeartbeats 2000000 in
theorem eqI (ks : List Int) (a a' : Option Addr) (c c' : Nat) (ok : Nat → Prop) (w : World) (hok : ∀ b, ok b → b < w.heap.size) (hcl : IRow ok w a ks) (hcl' : IRow ok w a' ks) (hlen : ks.length ≤ 1048577) :
    Calls Tryz.prog 36 #[.slice a ks.length c, .slice a' ks.length c'] w fun e w' => e = .returned (.bool true) ∧ Below w.heap.size w w' := by
  obtain ⟨len, hl⟩ : ∃ len, ks.length = len := ⟨_, rfl⟩
  rw [hl] at hlen ⊢
  go_enter Tryz.func36, Tryz.ntmps36
  go_wp2
  go_loopw [5] (fun v5 wr => ∃ (i : Nat), v5 = .int .i64 i ∧ i ≤ len ∧ Below w.heap.size w wr) (fun v5 _ => len - (intOf v5).toNat)
  case atStart => exact ⟨0, rfl, by omega, Below.refl _ _⟩
  case round =>
    obtain ⟨i, rfl, hi, hB⟩ := hrel
    by_cases hlt : i < len
    · obtain ⟨x, hx⟩ : ∃ x, ks[i]? = some x := ⟨_, List.getElem?_eq_getElem (by omega)⟩
      obtain ⟨b1, o1, hbase1, hok1, hc1⟩ := hcl i x hx
      obtain ⟨b2, o2, hbase2, hok2, hc2⟩ := hcl' i x hx
      have e0 := below_cell hB hc1 (hok b1 hok1)
      have g0 := below_cell hB hc2 (hok b2 hok2)
      subst hbase1
      subst hbase2
      haveI : Nonempty (Later wr) := ⟨⟨wr, Below.refl _ _⟩⟩
      have e1 := Later.cell e0
      have g1 := Later.cell g0
      go_wp2_with fail
      refine region_class (fun w' => ∃ z : Later wr, w' = z.at) (by kernel_rfl) (by kernel_rfl) ⟨⟨_, (Below.refl _ _).drew⟩, rfl⟩ ?_
      repeat (go_big_quiet_step (fail))
      refine wpQuiet_nil ?_
      rintro w' ⟨z, rfl⟩
      go_wp2
      go_roundw
      case rel => exact ⟨i + 1, by go_num, by omega, hB.trans ((Later.below z).mono hB.size)⟩
      case measure => simp [intOf]; omega
    · go_wp2
      go_returns
      exact ⟨rfl, hB⟩
theorem infoI : (Tryz.prog.info? 3).map (fun i => (i.zero, i.size, i.bytes)) = some (some (.int .i64 0), 1, 8) := by kernel_rfl
set_option maxRecDepth 10000 in
set_option maxHeartbeats 4000000 in
theorem toI (ks : List Int) (a : Option Addr) (c : Nat) (ok : Nat → Prop) (w : World) (hok : ∀ b, ok b → b < w.heap.size) (hcl : IRow ok w a ks) (hlen : ks.length ≤ 1048577) :
    Calls Tryz.prog 49 #[.slice a ks.length c] w fun e w' => e = .returned (.slice (some ⟨w.heap.size, 0, none⟩) ks.length ks.length) ∧ IRow (fun b => b = w.heap.size) w' (some ⟨w.heap.size, 0, none⟩) ks ∧ Below w.heap.size w w' := by
  obtain ⟨len, hl⟩ : ∃ len, ks.length = len := ⟨_, rfl⟩
  rw [hl] at hlen ⊢
  obtain ⟨i0, hi, hz0, hz1, hz2⟩ := info_parts infoI
  obtain ⟨W1, hW1⟩ : ∃ W1, w.alloc (.cells (madeCells (Value.cells (.int .i64 0)) (len * 1)) 3) = W1 := ⟨_, rfl⟩
  have hmk : (Instr.makeSlice 45 (.int .i64 (len : Int)) (.int .i64 (len : Int))).run Tryz.prog w = .ok (.slice (some ⟨w.heap.size, 0, none⟩) len len) W1 := by
    have h := run_make w 45 3 i0 _ Tryz.underlying45 hi hz0 .i64 .i64 len len (by omega) (by omega) (by rw [hz2]; omega) (by omega)
    simp only [Int.toNat_natCast, hz1] at h
    rw [hW1] at h
    exact h
  have hR1 : RowAt W1 w.heap.size (len * 1) 3 := by
    have h := RowAt.new w (madeCells (Value.cells (.int .i64 0)) (len * 1)) 3
    rw [hW1, size_madeCells] at h
    exact h
  have hB1 : Below w.heap.size w W1 := by rw [← hW1]; exact (Below.refl _ w).alloc (Nat.le_refl _) _
  clear hW1
  go_enter Tryz.func49, Tryz.ntmps49
  go_wp2
  go_loopw [4] (fun v4 wr => ∃ (i : Nat), v4 = .int .i64 i ∧ i ≤ len ∧ Below w.heap.size w wr ∧ RowAt wr w.heap.size (len * 1) 3 ∧
      (∀ (j : Nat) (x : Int), ks[j]? = some x → j < i → wr.cell? ⟨w.heap.size, 0 + j, none⟩ = some (.int .i64 x))) (fun v4 _ => len - (intOf v4).toNat)
  case atStart => exact ⟨0, rfl, by omega, hB1, hR1, fun j x _ h => by omega⟩
  case round =>
    obtain ⟨i, rfl, hi, hB, hR, hS⟩ := hrel
    by_cases hlt : i < len
    · obtain ⟨x, hx⟩ : ∃ x, ks[i]? = some x := ⟨_, List.getElem?_eq_getElem (by omega)⟩
      obtain ⟨b1, o1, hbase1, hok1, hc1⟩ := hcl i x hx
      have c0 := below_cell hB hc1 (hok b1 hok1)
      subst hbase1
      obtain ⟨v0, r0⟩ := hR.cell (o := i) (by omega)
      have f0 := hR.frozen i
      go_wp2
      have hg : w.heap.size < wr.heap.size := hR.lt
      refine ⟨⟨i + 1, by go_num, by omega, ?_, hR.set i (.int .i64 x), ?_⟩, ?_⟩
      · exact hB.trans (((Kept.refl (fun k => k = w.heap.size) wr).setCell (p := ⟨w.heap.size, i, none⟩) rfl _).below (by omega) (fun k h => by omega))
      · intro j x' hx' hj
        rw [Nat.zero_add]
        by_cases hji : j = i
        · subst hji
          rw [hx] at hx'
          cases hx'
          exact hR.put (by omega) _
        · rw [set_far (by omega)]
          have := hS j x' hx' (by omega)
          rwa [Nat.zero_add] at this
      · simp [intOf]
        omega
    · have he : i = len := by omega
      go_wp2
      go_returns
      refine ⟨rfl, fun j x hx => ⟨w.heap.size, 0, rfl, rfl, hS j x hx (by have := (List.getElem?_eq_some_iff.1 hx).1; omega)⟩, hB⟩

structure GX where
  base : Option Addr
  cap : Nat
  l : List Int
abbrev GX.val (t : GX) : Value := .slice t.base t.l.length t.cap
def GX.Lies (ok : Nat → Prop) (W : World) (t : GX) : Prop := IRow ok W t.base t.l
def GX.Row (ok : Nat → Prop) (W : World) (base : Option Addr) (l : List GX) : Prop := ∀ (i : Nat) (t : GX), l[i]? = some t → ∃ b o, base = some ⟨b, o, none⟩ ∧ ok b ∧ W.cell? ⟨b, o + i, none⟩ = some t.val
theorem GX.Row.mono {ok ok' : Nat → Prop} {A B : World} {base : Option Addr} {l : List GX} (h : GX.Row ok A base l) (hb : ∀ b, ok b → b < A.heap.size → ok' b ∧ B.heap[b]? = A.heap[b]?) : GX.Row ok' B base l := by
  intro i k hk
  obtain ⟨b, o, h1, h2, h3⟩ := h i k hk
  obtain ⟨h4, h5⟩ := hb b h2 (World.block_lt_of_cell? A _ h3)
  exact ⟨b, o, h1, h4, (cell_of_block (a := ⟨b, _, none⟩) h5).trans h3⟩
theorem GX.Row.under {ok : Nat → Prop} {n : Nat} {A B : World} {base : Option Addr} {l : List GX} (h : GX.Row ok A base l) (hk : Below n A B) (hs : ∀ b, ok b → b < n) : GX.Row ok B base l := h.mono fun b ho hb => ⟨ho, hk.block b (hs b ho)⟩
theorem GX.Row.kept {S ok : Nat → Prop} {A B : World} {base : Option Addr} {l : List GX} (h : GX.Row ok A base l) (hk : Kept S A B) (hs : ∀ b, ok b → ¬ S b) : GX.Row ok B base l := h.mono fun b ho hb => ⟨ho, hk.block b hb (hs b ho)⟩
set_option maxHeartbeats 2000000 in
theorem GX.szs (ks : List GX) (a : Option Addr) (c : Nat) (ok : Nat → Prop) (w : World) (hok : ∀ b, ok b → b < w.heap.size) (hcl : GX.Row ok w a ks) (hlen : ks.length ≤ maxLen) (hW : ∀ (i : Nat) (k : GX), ks[i]? = some k → k.l.length ≤ maxLen)
    (left : Int) (h0 : 0 ≤ left) (h1 : left ≤ 1048576) :
    Calls Tryz.prog 15 #[.slice a ks.length c, .int .i64 left] w fun e w' => e = .returned (.int .i64 (subI left (ks.length + sumOf (fun t : GX => t.l.length) ks))) ∧ Below w.heap.size w w' := by
  unfold maxLen at hlen
  obtain ⟨len, hl⟩ : ∃ len, ks.length = len := ⟨_, rfl⟩
  rw [hl] at hlen ⊢
  go_enter Tryz.func15, Tryz.ntmps15
  by_cases hs : left < len
  · go_wp2
    all_goals
      first
        | (exfalso; omega)
        | (go_returns; exact ⟨ret_int (subI_no (by omega)).symm, Below.refl _ _⟩)
        | skip
  · go_wp2
    go_loopw [1, 5] (fun v1 v5 wr => ∃ (i : Nat) (l : Int), v5 = .int .i64 i ∧ v1 = .int .i64 l ∧ i ≤ len ∧ 0 ≤ l ∧ l + len + sumOf (fun t : GX => t.l.length) (ks.take i) = left ∧ Below w.heap.size w wr) (fun _ v5 _ => len - (intOf v5).toNat)
    case atStart => exact ⟨0, left - len, rfl, rfl, by omega, by omega, by simp [sumOf], Below.refl _ _⟩
    case round =>
      obtain ⟨i, l, rfl, rfl, hi, hl0, hle, hB⟩ := hrel
      by_cases hlt : i < len
      · obtain ⟨kid, hkid⟩ : ∃ kid, ks[i]? = some kid := ⟨_, List.getElem?_eq_getElem (by omega)⟩
        obtain ⟨bb, o, hbase, hokb, hc⟩ := hcl i kid hkid
        have c0 := below_cell hB hc (hok bb hokb)
        have hcall := szI kid.l kid.base kid.cap wr (hW i kid hkid) l hl0 (by omega)
        have htk := sumOf_take (fun t : GX => t.l.length) hkid
        have htl := sumOf_le (fun t : GX => t.l.length) ks (i + 1)
        subst hbase
        by_cases hk : (kid.l.length : Int) ≤ l
        · rw [subI_yes hk] at hcall
          go_wp2_with (go_at_call 47; refine hcall.mono ?_; rintro e w4 ⟨rfl, hB4⟩)
          all_goals
            first
              | (exfalso; omega)
              | skip
          refine ⟨⟨i + 1, l - kid.l.length, by go_num, rfl, by omega, by omega, by omega, hB.trans (hB4.mono hB.size)⟩, ?_⟩
          simp [intOf]
          omega
        · rw [subI_no (by omega)] at hcall
          go_wp2_with (go_at_call 47; refine hcall.mono ?_; rintro e w4 ⟨rfl, hB4⟩)
          go_returns
          exact ⟨ret_int (subI_no (by omega)).symm, hB.trans (hB4.mono hB.size)⟩
      · have he : i = len := by omega
        have hall : ks.take i = ks := List.take_of_length_le (by omega)
        rw [hall] at hle
        go_wp2
        go_returns
        exact ⟨ret_int (by rw [subI_yes (by omega)]; omega), hB⟩
set_option maxHeartbeats 2000000 in
theorem GX.eqs (ks us : List GX) (a a' : Option Addr) (c c' : Nat) (ok : Nat → Prop) (w : World) (hok : ∀ b, ok b → b < w.heap.size) (hcl : GX.Row ok w a ks) (hcl' : GX.Row ok w a' us) (hlen : ks.length ≤ 1048577) (hlen' : us.length = ks.length)
    (hL : ∀ (i : Nat) (k : GX), ks[i]? = some k → GX.Lies ok w k) (hU : ∀ (i : Nat) (k : GX), us[i]? = some k → GX.Lies ok w k) (hm : ∀ (i : Nat) (k : GX), ks[i]? = some k → k.l.length ≤ 1048577) (hS : ∀ (i : Nat) (x y : GX), ks[i]? = some x → us[i]? = some y → y.l = x.l) :
    Calls Tryz.prog 10 #[.slice a ks.length c, .slice a' us.length c'] w fun e w' => e = .returned (.bool true) ∧ Below w.heap.size w w' := by
  obtain ⟨len, hl⟩ : ∃ len, ks.length = len := ⟨_, rfl⟩
  rw [hlen', hl]
  rw [hl] at hlen
  go_enter Tryz.func10, Tryz.ntmps10
  go_wp2
  go_loopw [5] (fun v5 wr => ∃ (i : Nat), v5 = .int .i64 i ∧ i ≤ len ∧ Below w.heap.size w wr) (fun v5 _ => len - (intOf v5).toNat)
  case atStart => exact ⟨0, rfl, by omega, Below.refl _ _⟩
  case round =>
    obtain ⟨i, rfl, hi, hB⟩ := hrel
    by_cases hlt : i < len
    · obtain ⟨x, hx⟩ : ∃ x, ks[i]? = some x := ⟨_, List.getElem?_eq_getElem (by omega)⟩
      obtain ⟨y, hy⟩ : ∃ y, us[i]? = some y := ⟨_, List.getElem?_eq_getElem (by omega)⟩
      obtain ⟨b1, o1, hbase1, hok1, hc1⟩ := hcl i x hx
      obtain ⟨b2, o2, hbase2, hok2, hc2⟩ := hcl' i y hy
      have hd1 := below_cell hB hc1 (hok b1 hok1)
      have hd2 := below_cell hB hc2 (hok b2 hok2)
      have H' : ∀ (W : World), Below wr.heap.size wr W → Calls Tryz.prog 36 #[x.val, y.val] W fun e w' => e = .returned (.bool true) ∧ Below W.heap.size W w' := by
        intro W hBW
        have hB2 := hB.trans (hBW.mono hB.size)
        have hU' := hU i y hy
        unfold GX.Lies at hU'
        unfold GX.val
        rw [hS i x y hx hy] at hU' ⊢
        exact eqI x.l x.base y.base x.cap y.cap ok W (fun b hb => Nat.lt_of_lt_of_le (hok b hb) hB2.size) (IRow.under (hL i x hx) hB2 hok) (IRow.under hU' hB2 hok) (hm i x hx)
      subst hbase1
      subst hbase2
      haveI : Nonempty (Later wr) := ⟨⟨wr, Below.refl _ _⟩⟩
      have e0 := Later.cell hd1
      have g0 := Later.cell hd2
      go_wp2_with fail
      refine region_class (fun w' => ∃ z : Later wr, w' = z.at) (by kernel_rfl) (by kernel_rfl) ⟨⟨_, (Below.refl _ _).drew⟩, rfl⟩ ?_
      repeat (go_big_quiet_step ((go_at_call 36; refine (H' _ (Later.below _)).mono ?_; rintro e w2 ⟨rfl, hb⟩; exact ⟨rfl, ⟨_, bstep (Later.below _) hb⟩, rfl⟩)))
      refine wpQuiet_nil ?_
      rintro w' ⟨z, rfl⟩
      go_wp2
      go_roundw
      case rel => exact ⟨i + 1, by go_num, by omega, hB.trans ((Later.below z).mono hB.size)⟩
      case measure => simp [intOf]; omega
    · go_wp2
      go_returns
      exact ⟨rfl, hB⟩
theorem infoG : (Tryz.prog.info? 45).map (fun i => (i.zero, i.size, i.bytes)) = some (some (.slice none 0 0), 1, 24) := by kernel_rfl
set_option maxRecDepth 10000 in
set_option maxHeartbeats 4000000 in
theorem GX.tos (ks : List GX) (a : Option Addr) (c : Nat) (ok : Nat → Prop) (w : World) (hok : ∀ b, ok b → b < w.heap.size) (hcl : GX.Row ok w a ks) (hlen : ks.length ≤ 1048577)
    (hL : ∀ (i : Nat) (k : GX), ks[i]? = some k → GX.Lies ok w k) (hm : ∀ (i : Nat) (k : GX), ks[i]? = some k → k.l.length ≤ 1048577) :
    Calls Tryz.prog 17 #[.slice a ks.length c] w fun e w' => ∃ us : List GX, e = .returned (.slice (some ⟨w.heap.size, 0, none⟩) ks.length ks.length) ∧ us.length = ks.length ∧ GX.Row (fun b => b = w.heap.size) w' (some ⟨w.heap.size, 0, none⟩) us ∧
      (∀ (i : Nat) (x y : GX), ks[i]? = some x → us[i]? = some y → y.l = x.l ∧ GX.Lies (fun b => w.heap.size < b) w' y) ∧ Below w.heap.size w w' := by
  obtain ⟨len, hl⟩ : ∃ len, ks.length = len := ⟨_, rfl⟩
  rw [hl] at hlen ⊢
  obtain ⟨i0, hi, hz0, hz1, hz2⟩ := info_parts infoG
  obtain ⟨W1, hW1⟩ : ∃ W1, w.alloc (.cells (madeCells (Value.cells (.slice none 0 0)) (len * 1)) 45) = W1 := ⟨_, rfl⟩
  have hmk : (Instr.makeSlice 29 (.int .i64 (len : Int)) (.int .i64 (len : Int))).run Tryz.prog w = .ok (.slice (some ⟨w.heap.size, 0, none⟩) len len) W1 := by
    have h := run_make w 29 45 i0 _ Tryz.underlying29 hi hz0 .i64 .i64 len len (by omega) (by omega) (by rw [hz2]; omega) (by omega)
    simp only [Int.toNat_natCast, hz1] at h
    rw [hW1] at h
    exact h
  have hR1 : RowAt W1 w.heap.size (len * 1) 45 := by
    have h := RowAt.new w (madeCells (Value.cells (.slice none 0 0)) (len * 1)) 45
    rw [hW1, size_madeCells] at h
    exact h
  have hB1 : Below w.heap.size w W1 := by rw [← hW1]; exact (Below.refl _ w).alloc (Nat.le_refl _) _
  clear hW1
  go_enter Tryz.func17, Tryz.ntmps17
  go_wp2
  go_loopw [4] (fun v4 wr => ∃ (i : Nat) (us : List GX), v4 = .int .i64 i ∧ i ≤ len ∧ us.length = i ∧ Below w.heap.size w wr ∧ RowAt wr w.heap.size (len * 1) 45 ∧
      (∀ (j : Nat) (x y : GX), ks[j]? = some x → us[j]? = some y → y.l = x.l ∧ wr.cell? ⟨w.heap.size, 0 + j, none⟩ = some y.val ∧ GX.Lies (fun b => w.heap.size < b) wr y)) (fun v4 _ => len - (intOf v4).toNat)
  case atStart => exact ⟨0, [], rfl, by omega, rfl, hB1, hR1, fun j x y _ h => by simp at h⟩
  case round =>
    obtain ⟨i, us, rfl, hi, hus, hB, hR, hS⟩ := hrel
    by_cases hlt : i < len
    · obtain ⟨x, hx⟩ : ∃ x, ks[i]? = some x := ⟨_, List.getElem?_eq_getElem (by omega)⟩
      obtain ⟨b1, o1, hbase1, hok1, hc1⟩ := hcl i x hx
      have c0 := below_cell hB hc1 (hok b1 hok1)
      have hcall := toI x.l x.base x.cap ok wr (fun b hb => Nat.lt_of_lt_of_le (hok b hb) hB.size) (IRow.under (hL i x hx) hB hok) (hm i x hx)
      subst hbase1
      go_wp2_with fail
      go_at_call 49
      refine hcall.mono ?_
      clear hcall c0
      rintro e w4 ⟨rfl, hLy0, hB4⟩
      obtain ⟨y, hyd⟩ : ∃ y : GX, y = ⟨some ⟨wr.heap.size, 0, none⟩, x.l.length, x.l⟩ := ⟨_, rfl⟩
      have hxy : y.l = x.l := by rw [hyd]
      have hLy : GX.Lies (fun b => b = wr.heap.size) w4 y := by rw [hyd]; exact hLy0
      have hyv : y.val = .slice (some ⟨wr.heap.size, 0, none⟩) x.l.length x.l.length := by rw [hyd]
      have hR4 := hR.of_block (hB4.block _ hR.lt)
      obtain ⟨v0, r0⟩ := hR4.cell (o := i) (by omega)
      have f0 := hR4.frozen i
      go_wp2
      have hg : w.heap.size < wr.heap.size := hR.lt
      have p2 := (Kept.refl (fun k => k = w.heap.size) w4).setCell (p := ⟨w.heap.size, i, none⟩) rfl (.slice (some ⟨wr.heap.size, 0, none⟩) x.l.length x.l.length)
      refine ⟨⟨i + 1, us ++ [y], by go_num, by omega, by simp [hus], ?_, hR4.set i (.slice (some ⟨wr.heap.size, 0, none⟩) x.l.length x.l.length), ?_⟩, ?_⟩
      · exact (hB.trans (hB4.mono hB.size)).trans (p2.below (by have := hB4.size; omega) (fun k h => by omega))
      · intro j x' y' hx' hy'
        rw [Nat.zero_add]
        by_cases hj : j < i
        · rw [List.getElem?_append_left (by omega)] at hy'
          obtain ⟨q1, q2, q3⟩ := hS j x' y' hx' hy'
          rw [Nat.zero_add] at q2
          refine ⟨q1, ?_, ?_⟩
          · rw [set_far (by omega)]
            exact below_cell hB4 q2 hg
          have q4 := IRow.kept q3 (Kept.of_new (fun k => k = w.heap.size) hB4) (fun b hb => by omega)
          exact IRow.kept q4 p2 (fun b hb => by omega)
        · have hji : j = i := by
            have := (List.getElem?_eq_some_iff.1 hy').1
            simp [hus] at this
            omega
          subst hji
          rw [List.getElem?_append_right (by omega)] at hy'
          simp [hus] at hy'
          subst hy'
          rw [hx] at hx'
          cases hx'
          refine ⟨hxy, by rw [hyv]; exact hR4.put (by omega) _, ?_⟩
          have q4 : IRow (fun b => w.heap.size < b) w4 y.base y.l := IRow.mono hLy (fun b hb _ => ⟨by omega, rfl⟩)
          exact IRow.kept q4 p2 (fun b hb => by omega)
      · simp [intOf]
        omega
    · have he : i = len := by omega
      have hget : ∀ (i : Nat) (y : GX), us[i]? = some y → ∃ x, ks[i]? = some x := fun i y hy => ⟨_, List.getElem?_eq_getElem (by have := (List.getElem?_eq_some_iff.1 hy).1; omega)⟩
      go_wp2
      go_returns
      refine ⟨us, rfl, by omega, fun j y hy => ?_, fun j x y hx hy => ⟨(hS j x y hx hy).1, (hS j x y hx hy).2.2⟩, hB⟩
      obtain ⟨x, hx⟩ := hget j y hy
      exact ⟨w.heap.size, 0, rfl, rfl, (hS j x y hx hy).2.1⟩
theorem cellsI3 : Tryz.prog.cellsOf 3 = 1 := by kernel_rfl
theorem cellsTIS : Tryz.prog.cellsOf 45 = 1 := by kernel_rfl
set_option maxRecDepth 100000 in
theorem readsI {H : Type} {enc : TypeId × Value → H} {W : World} {base : Nat} {spare : Nat → Bool} {held : Bool} (n : Nat) (c : Value) (y : DataW H × List MemPlace) (g : DataW.trod enc Tryz.prog W base spare held n 45 [c] = some y) :
    ∃ (a : Option Addr) (cap : Nat) (ks : List Int), c = .slice a ks.length cap ∧ ks.length ≤ maxLen ∧ IRow (fun b => b < W.heap.size) W a ks ∧ ∀ (i : Nat) (q : Int), ks[i]? = some q → (Lit.int .i64 q).wf = true := by
  rcases DataW.trod_slice Tryz.underlying45 g with ⟨e3, -⟩ | ⟨a, len, cap, elems, rest, n', rfl, e3, -, hb, hlc, hcm, hel, hget, -, -⟩
  · simp only [List.cons.injEq, and_true] at e3
    subst e3
    exact ⟨none, 0, [], rfl, Nat.zero_le _, fun i k hk => by simp at hk, fun i k hk => by simp at hk⟩
  · simp only [List.cons.injEq, and_true] at e3
    subst e3
    rw [cellsI3] at hget
    have hkid : ∀ i, i < len → ∃ q : Int, ((Lit.int .i64 q).wf = true) ∧ ∃ cs', W.cells? base (a.add (i * 1)) 1 = some cs' ∧ cs' = [.int .i64 q] := by
      intro i hi
      have h1 := hget i hi
      rw [List.getElem?_eq_getElem (by omega)] at h1
      obtain ⟨cs', h2, h3⟩ := Option.bind_eq_some_iff.1 h1
      obtain ⟨q, h4, -, h5⟩ := DataW.trod_int Tryz.underlying3 h3
      exact ⟨q, h5, cs', h2, h4⟩
    obtain ⟨ks, hks, hq⟩ := list_of hkid
    refine ⟨some a, cap, ks, by rw [hks], by omega, fun i q hk => ?_, fun i q hk => (hq i q hk).1⟩
    obtain ⟨-, cs', h2, h4⟩ := hq i q hk
    obtain ⟨-, -, h5⟩ := World.cells?_some h2
    obtain ⟨b, o, spot⟩ := a
    have hspot : spot = none := by
      obtain ⟨q0, -, cs0, k2, k4⟩ := hkid 0 (by have := (List.getElem?_eq_some_iff.1 hk).1; omega)
      obtain ⟨-, -, k5⟩ := World.cells?_some k2
      have k6 := k5 0 (by omega)
      rw [k4] at k6
      have k7 := World.cell?_spot k6
      simpa [Addr.add] using k7
    subst hspot
    subst h4
    have p0 := h5 0 (by omega)
    rw [add_one] at p0
    exact ⟨b, o, rfl, World.block_lt_of_cell? W _ p0, p0⟩
set_option maxRecDepth 100000 in
theorem GX.reads {H : Type} {enc : TypeId × Value → H} {W : World} {base : Nat} {spare : Nat → Bool} {held : Bool} (n : Nat) (c : Value) (y : DataW H × List MemPlace) (g : DataW.trod enc Tryz.prog W base spare held n 29 [c] = some y) :
    ∃ (a : Option Addr) (cap : Nat) (ks : List GX), c = .slice a ks.length cap ∧ ks.length ≤ maxLen ∧ GX.Row (fun b => b < W.heap.size) W a ks ∧ ∀ (i : Nat) (q : GX), ks[i]? = some q → q.l.length ≤ maxLen ∧ GX.Lies (fun b => b < W.heap.size) W q := by
  rcases DataW.trod_slice Tryz.underlying29 g with ⟨e3, -⟩ | ⟨a, len, cap, elems, rest, n', rfl, e3, -, hb, hlc, hcm, hel, hget, -, -⟩
  · simp only [List.cons.injEq, and_true] at e3
    subst e3
    exact ⟨none, 0, [], rfl, Nat.zero_le _, fun i k hk => by simp at hk, fun i k hk => by simp at hk⟩
  · simp only [List.cons.injEq, and_true] at e3
    subst e3
    rw [cellsTIS] at hget
    have hkid : ∀ i, i < len → ∃ q : GX, (q.l.length ≤ maxLen ∧ GX.Lies (fun b => b < W.heap.size) W q) ∧ ∃ cs', W.cells? base (a.add (i * 1)) 1 = some cs' ∧ cs' = [q.val] := by
      intro i hi
      have h1 := hget i hi
      rw [List.getElem?_eq_getElem (by omega)] at h1
      obtain ⟨cs', h2, h3⟩ := Option.bind_eq_some_iff.1 h1
      have hl1 := (World.cells?_some h2).2.1
      obtain ⟨c0, rfl⟩ : ∃ c0, cs' = [c0] := by
        match cs', hl1 with
        | [c0], _ => exact ⟨c0, rfl⟩
      obtain ⟨b', cap', l', rfl, h6, h7, h8⟩ := readsI n' c0 _ h3
      exact ⟨⟨b', cap', l'⟩, ⟨h6, h7⟩, _, h2, rfl⟩
    obtain ⟨ks, hks, hq⟩ := list_of hkid
    refine ⟨some a, cap, ks, by rw [hks], by omega, fun i q hk => ?_, fun i q hk => (hq i q hk).1⟩
    obtain ⟨-, cs', h2, h4⟩ := hq i q hk
    obtain ⟨-, -, h5⟩ := World.cells?_some h2
    obtain ⟨b, o, spot⟩ := a
    have hspot : spot = none := by
      obtain ⟨q0, -, cs0, k2, k4⟩ := hkid 0 (by have := (List.getElem?_eq_some_iff.1 hk).1; omega)
      obtain ⟨-, -, k5⟩ := World.cells?_some k2
      have k6 := k5 0 (by omega)
      rw [k4] at k6
      have k7 := World.cell?_spot k6
      simpa [Addr.add] using k7
    subst hspot
    subst h4
    have p0 := h5 0 (by omega)
    rw [add_one] at p0
    exact ⟨b, o, rfl, World.block_lt_of_cell? W _ p0, p0⟩
end Go.Proofs.YtaajdoipjalgmaaGreatDoor
