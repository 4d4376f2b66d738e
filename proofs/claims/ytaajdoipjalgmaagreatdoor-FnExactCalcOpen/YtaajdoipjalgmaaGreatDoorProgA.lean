/-
  Lists of variables, channels and words as they lie in memory: their sizes, copies of them, and that the same are told to be so.
-/
import Derived.Test.YtaajdoipjalgmaaGreatDoorStmtD
namespace Go.Proofs.YtaajdoipjalgmaaGreatDoor
open Go.RowKit
set_option linter.unusedSimpArgs false
set_option linter.unusedVariables false

def sumOf {α : Type} (f : α → Nat) : List α → Nat
  | [] => 0
  | x :: xs => f x + sumOf f xs
theorem sumOf_append {α : Type} (f : α → Nat) (us bs : List α) : sumOf f (us ++ bs) = sumOf f us + sumOf f bs := by
  induction us with
  | nil => simp [sumOf]
  | cons x xs ih => simp [sumOf, ih]; omega
theorem sumOf_take {α : Type} (f : α → Nat) {ks : List α} {i : Nat} {t : α} (h : ks[i]? = some t) : sumOf f (ks.take (i + 1)) = sumOf f (ks.take i) + f t := by
  rw [List.take_add_one, h, sumOf_append]
  simp [sumOf]
theorem sumOf_le {α : Type} (f : α → Nat) (ks : List α) (i : Nat) : sumOf f (ks.take i) ≤ sumOf f ks := by
  have h := sumOf_append f (ks.take i) (ks.drop i)
  rw [List.take_append_drop] at h
  omega
structure VX where
  name : ByteArray
  size : Int
  init : Int
  lo : Int
  hi : Int
  lock : ByteArray
  task : Int
abbrev VX.val (v : VX) : Value := .agg #[.string v.name, .int .i64 v.size, .int .i64 v.init, .int .i64 v.lo, .int .i64 v.hi, .string v.lock, .int .i64 v.task]
def VX.tot (v : VX) : Nat := v.name.size + v.lock.size
def VX.Wide (v : VX) : Prop := v.name.size ≤ maxLen ∧ v.lock.size ≤ maxLen
structure VX.At (W : World) (b o : Nat) (v : VX) : Prop where
  c0 : W.cell? ⟨b, o, none⟩ = some (.string v.name)
  c1 : W.cell? ⟨b, o + 1, none⟩ = some (.int .i64 v.size)
  c2 : W.cell? ⟨b, o + 2, none⟩ = some (.int .i64 v.init)
  c3 : W.cell? ⟨b, o + 3, none⟩ = some (.int .i64 v.lo)
  c4 : W.cell? ⟨b, o + 4, none⟩ = some (.int .i64 v.hi)
  c5 : W.cell? ⟨b, o + 5, none⟩ = some (.string v.lock)
  c6 : W.cell? ⟨b, o + 6, none⟩ = some (.int .i64 v.task)
theorem VX.At.lt {W : World} {b o : Nat} {v : VX} (h : VX.At W b o v) : b < W.heap.size := World.block_lt_of_cell? W _ h.c0
theorem VX.At.below {n : Nat} {A B : World} {b o : Nat} {v : VX} (h : VX.At A b o v) (hk : Below n A B) (hs : b < n) : VX.At B b o v :=
  ⟨below_cell hk h.c0 hs, below_cell hk h.c1 hs, below_cell hk h.c2 hs, below_cell hk h.c3 hs, below_cell hk h.c4 hs, below_cell hk h.c5 hs, below_cell hk h.c6 hs⟩
theorem VX.At.of_block {A B : World} {b o : Nat} {v : VX} (h : VX.At A b o v) (hb : B.heap[b]? = A.heap[b]?) : VX.At B b o v :=
  ⟨(cell_of_block (a := ⟨b, _, none⟩) hb).trans h.c0, (cell_of_block (a := ⟨b, _, none⟩) hb).trans h.c1, (cell_of_block (a := ⟨b, _, none⟩) hb).trans h.c2, (cell_of_block (a := ⟨b, _, none⟩) hb).trans h.c3, (cell_of_block (a := ⟨b, _, none⟩) hb).trans h.c4, (cell_of_block (a := ⟨b, _, none⟩) hb).trans h.c5, (cell_of_block (a := ⟨b, _, none⟩) hb).trans h.c6⟩
def VX.Row (ok : Nat → Prop) (W : World) (base : Option Addr) (l : List VX) : Prop := ∀ (i : Nat) (k : VX), l[i]? = some k → ∃ b o, base = some ⟨b, o, none⟩ ∧ ok b ∧ VX.At W b (o + i * 7) k
theorem VX.Row.mono {ok ok' : Nat → Prop} {A B : World} {base : Option Addr} {l : List VX} (h : VX.Row ok A base l) (hb : ∀ b, ok b → b < A.heap.size → ok' b ∧ B.heap[b]? = A.heap[b]?) : VX.Row ok' B base l := by
  intro i k hk
  obtain ⟨b, o, h1, h2, h3⟩ := h i k hk
  obtain ⟨h4, h5⟩ := hb b h2 h3.lt
  exact ⟨b, o, h1, h4, h3.of_block h5⟩
theorem VX.Row.under {ok : Nat → Prop} {n : Nat} {A B : World} {base : Option Addr} {l : List VX} (h : VX.Row ok A base l) (hk : Below n A B) (hs : ∀ b, ok b → b < n) : VX.Row ok B base l := h.mono fun b ho hb => ⟨ho, hk.block b (hs b ho)⟩
theorem VX.Row.kept {S ok : Nat → Prop} {A B : World} {base : Option Addr} {l : List VX} (h : VX.Row ok A base l) (hk : Kept S A B) (hs : ∀ b, ok b → ¬ S b) : VX.Row ok B base l := h.mono fun b ho hb => ⟨ho, hk.block b hb (hs b ho)⟩
set_option maxHeartbeats 2000000 in
theorem VX.sz (v : VX) (hW : v.Wide) (w : World) (left : Int) (h0 : 0 ≤ left) (h1 : left ≤ 1048576) :
    Calls Tryz.prog 60 #[v.val, .int .i64 left] w fun e w' => e = .returned (.int .i64 (subI left v.tot)) ∧ Below w.heap.size w w' := by
  unfold VX.Wide maxLen at hW
  have ht : v.tot = v.name.size + v.lock.size := rfl
  have hB1 : Below w.heap.size w (w.alloc (.cells #[.string v.name, .int .i64 v.size, .int .i64 v.init, .int .i64 v.lo, .int .i64 v.hi, .string v.lock, .int .i64 v.task] 92)) := (Below.refl _ w).alloc (Nat.le_refl _) _
  go_enter Tryz.func60, Tryz.ntmps60
  by_cases hk0 : (v.name.size : Int) ≤ left
  · skip
    by_cases hk1 : (v.lock.size : Int) ≤ left - v.name.size
    · go_wp2
      all_goals first | (exfalso; omega) | skip
      go_returns
      exact ⟨ret_int (by rw [subI_yes (by omega)]; omega), hB1⟩
    · go_wp2
      all_goals first | (exfalso; omega) | skip
      go_returns
      exact ⟨ret_int (subI_no (by omega)).symm, hB1⟩
  · go_wp2
    all_goals first | (exfalso; omega) | skip
    go_returns
    exact ⟨ret_int (subI_no (by omega)).symm, hB1⟩
set_option maxHeartbeats 2000000 in
theorem VX.szs (ks : List VX) (a : Option Addr) (c : Nat) (ok : Nat → Prop) (w : World) (hok : ∀ b, ok b → b < w.heap.size) (hcl : VX.Row ok w a ks) (hlen : ks.length ≤ maxLen) (hW : ∀ (i : Nat) (k : VX), ks[i]? = some k → k.Wide)
    (left : Int) (h0 : 0 ≤ left) (h1 : left ≤ 1048576) :
    Calls Tryz.prog 24 #[.slice a ks.length c, .int .i64 left] w fun e w' => e = .returned (.int .i64 (subI left (ks.length + sumOf VX.tot ks))) ∧ Below w.heap.size w w' := by
  unfold maxLen at hlen
  obtain ⟨len, hl⟩ : ∃ len, ks.length = len := ⟨_, rfl⟩
  rw [hl] at hlen ⊢
  go_enter Tryz.func24, Tryz.ntmps24
  by_cases hs : left < len
  · go_wp2
    all_goals
      first
        | (exfalso; omega)
        | (go_returns; exact ⟨ret_int (subI_no (by omega)).symm, Below.refl _ _⟩)
        | skip
  · go_wp2
    go_loopw [1, 5] (fun v1 v5 wr => ∃ (i : Nat) (l : Int), v5 = .int .i64 i ∧ v1 = .int .i64 l ∧ i ≤ len ∧ 0 ≤ l ∧ l + len + sumOf VX.tot (ks.take i) = left ∧ Below w.heap.size w wr) (fun _ v5 _ => len - (intOf v5).toNat)
    case atStart => exact ⟨0, left - len, rfl, rfl, by omega, by omega, by simp [sumOf], Below.refl _ _⟩
    case round =>
      obtain ⟨i, l, rfl, rfl, hi, hl0, hle, hB⟩ := hrel
      by_cases hlt : i < len
      · obtain ⟨kid, hkid⟩ : ∃ kid, ks[i]? = some kid := ⟨_, List.getElem?_eq_getElem (by omega)⟩
        obtain ⟨bb, o, hbase, hokb, hc⟩ := hcl i kid hkid
        obtain ⟨c0, c1, c2, c3, c4, c5, c6⟩ := hc.below hB (hok bb hokb)
        have hcall := VX.sz kid (hW i kid hkid) wr l hl0 (by omega)
        have htk := sumOf_take VX.tot hkid
        have htl := sumOf_le VX.tot ks (i + 1)
        subst hbase
        by_cases hk : (kid.tot : Int) ≤ l
        · rw [subI_yes hk] at hcall
          go_wp2_with (go_at_call 60; refine hcall.mono ?_; rintro e w4 ⟨rfl, hB4⟩)
          all_goals
            first
              | (exfalso; omega)
              | skip
          refine ⟨⟨i + 1, l - kid.tot, by go_num, rfl, by omega, by omega, by omega, hB.trans (hB4.mono hB.size)⟩, ?_⟩
          simp [intOf]
          omega
        · rw [subI_no (by omega)] at hcall
          go_wp2_with (go_at_call 60; refine hcall.mono ?_; rintro e w4 ⟨rfl, hB4⟩)
          go_returns
          exact ⟨ret_int (subI_no (by omega)).symm, hB.trans (hB4.mono hB.size)⟩
      · have he : i = len := by omega
        have hall : ks.take i = ks := List.take_of_length_le (by omega)
        rw [hall] at hle
        go_wp2
        go_returns
        exact ⟨ret_int (by rw [subI_yes (by omega)]; omega), hB⟩
set_option maxHeartbeats 2000000 in
theorem VX.eq (v : VX) (w : World) : Calls Tryz.prog 74 #[v.val, v.val] w fun e w' => e = .returned (.bool true) ∧ Below w.heap.size w w' := by
  go_enter Tryz.func74, Tryz.ntmps74
  go_wp2
  go_returns
  exact ⟨rfl, ((Below.refl _ w).alloc (Nat.le_refl _) _).alloc (by simp) _⟩
set_option maxHeartbeats 2000000 in
theorem VX.eqs (ks : List VX) (a a' : Option Addr) (c c' : Nat) (ok : Nat → Prop) (w : World) (hok : ∀ b, ok b → b < w.heap.size) (hcl : VX.Row ok w a ks) (hcl' : VX.Row ok w a' ks) (hlen : ks.length ≤ 1048577) :
    Calls Tryz.prog 37 #[.slice a ks.length c, .slice a' ks.length c'] w fun e w' => e = .returned (.bool true) ∧ Below w.heap.size w w' := by
  obtain ⟨len, hl⟩ : ∃ len, ks.length = len := ⟨_, rfl⟩
  rw [hl] at hlen ⊢
  go_enter Tryz.func37, Tryz.ntmps37
  go_wp2
  go_loopw [5] (fun v5 wr => ∃ (i : Nat), v5 = .int .i64 i ∧ i ≤ len ∧ Below w.heap.size w wr) (fun v5 _ => len - (intOf v5).toNat)
  case atStart => exact ⟨0, rfl, by omega, Below.refl _ _⟩
  case round =>
    obtain ⟨i, rfl, hi, hB⟩ := hrel
    by_cases hlt : i < len
    · obtain ⟨x, hx⟩ : ∃ x, ks[i]? = some x := ⟨_, List.getElem?_eq_getElem (by omega)⟩
      obtain ⟨b1, o1, hbase1, hok1, hc1⟩ := hcl i x hx
      obtain ⟨b2, o2, hbase2, hok2, hc2⟩ := hcl' i x hx
      have hd1 := hc1.below hB (hok b1 hok1)
      have hd2 := hc2.below hB (hok b2 hok2)
      subst hbase1
      subst hbase2
      haveI : Nonempty (Later wr) := ⟨⟨wr, Below.refl _ _⟩⟩
      have e0 := Later.cell hd1.c0
      have e1 := Later.cell hd1.c1
      have e2 := Later.cell hd1.c2
      have e3 := Later.cell hd1.c3
      have e4 := Later.cell hd1.c4
      have e5 := Later.cell hd1.c5
      have e6 := Later.cell hd1.c6
      have g0 := Later.cell hd2.c0
      have g1 := Later.cell hd2.c1
      have g2 := Later.cell hd2.c2
      have g3 := Later.cell hd2.c3
      have g4 := Later.cell hd2.c4
      have g5 := Later.cell hd2.c5
      have g6 := Later.cell hd2.c6
      go_wp2_with fail
      refine region_class (fun w' => ∃ z : Later wr, w' = z.at) (by kernel_rfl) (by kernel_rfl) ⟨⟨_, (Below.refl _ _).drew⟩, rfl⟩ ?_
      repeat (go_big_quiet_step ((go_at_call 74; refine (VX.eq x _).mono ?_; rintro e w2 ⟨rfl, hb⟩; exact ⟨rfl, ⟨_, bstep (Later.below _) hb⟩, rfl⟩)))
      refine wpQuiet_nil ?_
      rintro w' ⟨z, rfl⟩
      go_wp2
      go_roundw
      case rel => exact ⟨i + 1, by go_num, by omega, hB.trans ((Later.below z).mono hB.size)⟩
      case measure => simp [intOf]; omega
    · go_wp2
      go_returns
      exact ⟨rfl, hB⟩
theorem VX.put {W : World} {g N : Nat} {t : TypeId} (h0 : RowAt W g N t) (i : Nat) (hi : i * 7 + 6 < N) (v : VX) :
    RowAt (((((((W.setCell ⟨g, i * 7, none⟩ (.string v.name)).setCell ⟨g, i * 7 + 1, none⟩ (.int .i64 v.size)).setCell ⟨g, i * 7 + 2, none⟩ (.int .i64 v.init)).setCell ⟨g, i * 7 + 3, none⟩ (.int .i64 v.lo)).setCell ⟨g, i * 7 + 4, none⟩ (.int .i64 v.hi)).setCell ⟨g, i * 7 + 5, none⟩ (.string v.lock)).setCell ⟨g, i * 7 + 6, none⟩ (.int .i64 v.task)) g N t ∧ Kept (fun k => k = g) W (((((((W.setCell ⟨g, i * 7, none⟩ (.string v.name)).setCell ⟨g, i * 7 + 1, none⟩ (.int .i64 v.size)).setCell ⟨g, i * 7 + 2, none⟩ (.int .i64 v.init)).setCell ⟨g, i * 7 + 3, none⟩ (.int .i64 v.lo)).setCell ⟨g, i * 7 + 4, none⟩ (.int .i64 v.hi)).setCell ⟨g, i * 7 + 5, none⟩ (.string v.lock)).setCell ⟨g, i * 7 + 6, none⟩ (.int .i64 v.task)) ∧ VX.At (((((((W.setCell ⟨g, i * 7, none⟩ (.string v.name)).setCell ⟨g, i * 7 + 1, none⟩ (.int .i64 v.size)).setCell ⟨g, i * 7 + 2, none⟩ (.int .i64 v.init)).setCell ⟨g, i * 7 + 3, none⟩ (.int .i64 v.lo)).setCell ⟨g, i * 7 + 4, none⟩ (.int .i64 v.hi)).setCell ⟨g, i * 7 + 5, none⟩ (.string v.lock)).setCell ⟨g, i * 7 + 6, none⟩ (.int .i64 v.task)) g (0 + i * 7) v ∧
    ∀ (j : Nat) (x : VX), j ≠ i → VX.At W g (0 + j * 7) x → VX.At (((((((W.setCell ⟨g, i * 7, none⟩ (.string v.name)).setCell ⟨g, i * 7 + 1, none⟩ (.int .i64 v.size)).setCell ⟨g, i * 7 + 2, none⟩ (.int .i64 v.init)).setCell ⟨g, i * 7 + 3, none⟩ (.int .i64 v.lo)).setCell ⟨g, i * 7 + 4, none⟩ (.int .i64 v.hi)).setCell ⟨g, i * 7 + 5, none⟩ (.string v.lock)).setCell ⟨g, i * 7 + 6, none⟩ (.int .i64 v.task)) g (0 + j * 7) x := by
  have h1 := h0.set (i * 7) (.string v.name)
  have h2 := h1.set (i * 7 + 1) (.int .i64 v.size)
  have h3 := h2.set (i * 7 + 2) (.int .i64 v.init)
  have h4 := h3.set (i * 7 + 3) (.int .i64 v.lo)
  have h5 := h4.set (i * 7 + 4) (.int .i64 v.hi)
  have h6 := h5.set (i * 7 + 5) (.string v.lock)
  have h7 := h6.set (i * 7 + 6) (.int .i64 v.task)
  refine ⟨h7, ((((((((Kept.refl (fun k => k = g) W).setCell (p := ⟨g, i * 7, none⟩) rfl _).setCell (p := ⟨g, i * 7 + 1, none⟩) rfl _).setCell (p := ⟨g, i * 7 + 2, none⟩) rfl _).setCell (p := ⟨g, i * 7 + 3, none⟩) rfl _).setCell (p := ⟨g, i * 7 + 4, none⟩) rfl _).setCell (p := ⟨g, i * 7 + 5, none⟩) rfl _).setCell (p := ⟨g, i * 7 + 6, none⟩) rfl _), ?_, ?_⟩
  · rw [Nat.zero_add]
    refine ⟨?_, ?_, ?_, ?_, ?_, ?_, ?_⟩
    · rw [set_far (by omega), set_far (by omega), set_far (by omega), set_far (by omega), set_far (by omega), set_far (by omega)]
      exact h0.put (by omega) _
    · rw [set_far (by omega), set_far (by omega), set_far (by omega), set_far (by omega), set_far (by omega)]
      exact h1.put (by omega) _
    · rw [set_far (by omega), set_far (by omega), set_far (by omega), set_far (by omega)]
      exact h2.put (by omega) _
    · rw [set_far (by omega), set_far (by omega), set_far (by omega)]
      exact h3.put (by omega) _
    · rw [set_far (by omega), set_far (by omega)]
      exact h4.put (by omega) _
    · rw [set_far (by omega)]
      exact h5.put (by omega) _
    · exact h6.put (by omega) _
  · intro j x hj hc
    rw [Nat.zero_add] at hc ⊢
    refine ⟨?_, ?_, ?_, ?_, ?_, ?_, ?_⟩
    · rw [set_far (by omega), set_far (by omega), set_far (by omega), set_far (by omega), set_far (by omega), set_far (by omega), set_far (by omega)]; exact hc.c0
    · rw [set_far (by omega), set_far (by omega), set_far (by omega), set_far (by omega), set_far (by omega), set_far (by omega), set_far (by omega)]; exact hc.c1
    · rw [set_far (by omega), set_far (by omega), set_far (by omega), set_far (by omega), set_far (by omega), set_far (by omega), set_far (by omega)]; exact hc.c2
    · rw [set_far (by omega), set_far (by omega), set_far (by omega), set_far (by omega), set_far (by omega), set_far (by omega), set_far (by omega)]; exact hc.c3
    · rw [set_far (by omega), set_far (by omega), set_far (by omega), set_far (by omega), set_far (by omega), set_far (by omega), set_far (by omega)]; exact hc.c4
    · rw [set_far (by omega), set_far (by omega), set_far (by omega), set_far (by omega), set_far (by omega), set_far (by omega), set_far (by omega)]; exact hc.c5
    · rw [set_far (by omega), set_far (by omega), set_far (by omega), set_far (by omega), set_far (by omega), set_far (by omega), set_far (by omega)]; exact hc.c6
set_option maxHeartbeats 2000000 in
theorem VX.to (v : VX) (w : World) : Calls Tryz.prog 67 #[v.val] w fun e w' => e = .returned v.val ∧ Below w.heap.size w w' := by
  go_enter Tryz.func67, Tryz.ntmps67
  go_wp2
  first | go_returns | (refine bodyPost_ret (by simp [results, Tryz.results67, go_sem, *]; try rfl) rfl ?_)
  refine ⟨rfl, ?_⟩
  repeat' (first | (with_reducible exact Below.refl _ _) | (with_reducible assumption) | (with_reducible refine balloc ?_ _) | (with_reducible refine bdrew ?_) | (with_reducible refine Below.setCell ?_ ?_ _) | (with_reducible refine bstep ?_ (by with_reducible assumption)) | go_size)
theorem VX.info : (Tryz.prog.info? 58).map (fun i => (i.zero, i.size, i.bytes)) = some (some (.agg #[.string ByteArray.empty, .int .i64 0, .int .i64 0, .int .i64 0, .int .i64 0, .string ByteArray.empty, .int .i64 0]), 7, 72) := by kernel_rfl
set_option maxRecDepth 10000 in
set_option maxHeartbeats 4000000 in
theorem VX.tos (ks : List VX) (a : Option Addr) (c : Nat) (ok : Nat → Prop) (w : World) (hok : ∀ b, ok b → b < w.heap.size) (hcl : VX.Row ok w a ks) (hlen : ks.length ≤ 1048577) :
    Calls Tryz.prog 29 #[.slice a ks.length c] w fun e w' => e = .returned (.slice (some ⟨w.heap.size, 0, none⟩) ks.length ks.length) ∧ VX.Row (fun b => b = w.heap.size) w' (some ⟨w.heap.size, 0, none⟩) ks ∧ Below w.heap.size w w' := by
  obtain ⟨len, hl⟩ : ∃ len, ks.length = len := ⟨_, rfl⟩
  rw [hl] at hlen ⊢
  obtain ⟨i0, hi, hz0, hz1, hz2⟩ := info_parts VX.info
  obtain ⟨W1, hW1⟩ : ∃ W1, w.alloc (.cells (madeCells (Value.cells (.agg #[.string ByteArray.empty, .int .i64 0, .int .i64 0, .int .i64 0, .int .i64 0, .string ByteArray.empty, .int .i64 0])) (len * 7)) 58) = W1 := ⟨_, rfl⟩
  have hmk : (Instr.makeSlice 31 (.int .i64 (len : Int)) (.int .i64 (len : Int))).run Tryz.prog w = .ok (.slice (some ⟨w.heap.size, 0, none⟩) len len) W1 := by
    have h := run_make w 31 58 i0 _ Tryz.underlying31 hi hz0 .i64 .i64 len len (by omega) (by omega) (by rw [hz2]; omega) (by omega)
    simp only [Int.toNat_natCast, hz1] at h
    rw [hW1] at h
    exact h
  have hR1 : RowAt W1 w.heap.size (len * 7) 58 := by
    have h := RowAt.new w (madeCells (Value.cells (.agg #[.string ByteArray.empty, .int .i64 0, .int .i64 0, .int .i64 0, .int .i64 0, .string ByteArray.empty, .int .i64 0])) (len * 7)) 58
    rw [hW1, size_madeCells] at h
    exact h
  have hB1 : Below w.heap.size w W1 := by rw [← hW1]; exact (Below.refl _ w).alloc (Nat.le_refl _) _
  clear hW1
  go_enter Tryz.func29, Tryz.ntmps29
  go_wp2
  go_loopw [4] (fun v4 wr => ∃ (i : Nat), v4 = .int .i64 i ∧ i ≤ len ∧ Below w.heap.size w wr ∧ RowAt wr w.heap.size (len * 7) 58 ∧
      (∀ (j : Nat) (x : VX), ks[j]? = some x → j < i → VX.At wr w.heap.size (0 + j * 7) x)) (fun v4 _ => len - (intOf v4).toNat)
  case atStart => exact ⟨0, rfl, by omega, hB1, hR1, fun j x _ h => by omega⟩
  case round =>
    obtain ⟨i, rfl, hi, hB, hR, hS⟩ := hrel
    by_cases hlt : i < len
    · obtain ⟨x, hx⟩ : ∃ x, ks[i]? = some x := ⟨_, List.getElem?_eq_getElem (by omega)⟩
      obtain ⟨b1, o1, hbase1, hok1, hc1⟩ := hcl i x hx
      obtain ⟨c0, c1, c2, c3, c4, c5, c6⟩ := hc1.below hB (hok b1 hok1)
      have hcall := VX.to x wr
      subst hbase1
      go_wp2_with fail
      go_at_call 67
      refine hcall.mono ?_
      clear hcall c0 c1 c2 c3 c4 c5 c6
      rintro e w4 ⟨rfl, hB4⟩
      have hR4 := hR.of_block (hB4.block _ hR.lt)
      obtain ⟨v0, r0⟩ := hR4.cell (o := i * 7) (by omega)
      have f0 := hR4.frozen (i * 7)
      obtain ⟨v1, r1⟩ := hR4.cell (o := i * 7 + 1) (by omega)
      have f1 := hR4.frozen (i * 7 + 1)
      obtain ⟨v2, r2⟩ := hR4.cell (o := i * 7 + 2) (by omega)
      have f2 := hR4.frozen (i * 7 + 2)
      obtain ⟨v3, r3⟩ := hR4.cell (o := i * 7 + 3) (by omega)
      have f3 := hR4.frozen (i * 7 + 3)
      obtain ⟨v4, r4⟩ := hR4.cell (o := i * 7 + 4) (by omega)
      have f4 := hR4.frozen (i * 7 + 4)
      obtain ⟨v5, r5⟩ := hR4.cell (o := i * 7 + 5) (by omega)
      have f5 := hR4.frozen (i * 7 + 5)
      obtain ⟨v6, r6⟩ := hR4.cell (o := i * 7 + 6) (by omega)
      have f6 := hR4.frozen (i * 7 + 6)
      obtain ⟨p1, p2, p3, p4⟩ := VX.put hR4 i (by omega) x
      go_wp2
      have hg : w.heap.size < wr.heap.size := hR.lt
      refine ⟨⟨i + 1, by go_num, by omega, ?_, p1, ?_⟩, ?_⟩
      · exact (hB.trans (hB4.mono hB.size)).trans (p2.below (by have := hB4.size; omega) (fun k h => by omega))
      · intro j x' hx' hj
        by_cases hji : j = i
        · subst hji
          rw [hx] at hx'
          cases hx'
          exact p3
        · exact p4 j x' hji ((hS j x' hx' (by omega)).below hB4 hg)
      · simp [intOf]
        omega
    · have he : i = len := by omega
      go_wp2
      go_returns
      refine ⟨rfl, fun j x hx => ⟨w.heap.size, 0, rfl, rfl, hS j x hx (by have := (List.getElem?_eq_some_iff.1 hx).1; omega)⟩, hB⟩
structure CX where
  name : ByteArray
  cap : Int
  lo : Int
  hi : Int
abbrev CX.val (v : CX) : Value := .agg #[.string v.name, .int .i64 v.cap, .int .i64 v.lo, .int .i64 v.hi]
def CX.tot (v : CX) : Nat := v.name.size
def CX.Wide (v : CX) : Prop := v.name.size ≤ maxLen
structure CX.At (W : World) (b o : Nat) (v : CX) : Prop where
  c0 : W.cell? ⟨b, o, none⟩ = some (.string v.name)
  c1 : W.cell? ⟨b, o + 1, none⟩ = some (.int .i64 v.cap)
  c2 : W.cell? ⟨b, o + 2, none⟩ = some (.int .i64 v.lo)
  c3 : W.cell? ⟨b, o + 3, none⟩ = some (.int .i64 v.hi)
theorem CX.At.lt {W : World} {b o : Nat} {v : CX} (h : CX.At W b o v) : b < W.heap.size := World.block_lt_of_cell? W _ h.c0
theorem CX.At.below {n : Nat} {A B : World} {b o : Nat} {v : CX} (h : CX.At A b o v) (hk : Below n A B) (hs : b < n) : CX.At B b o v :=
  ⟨below_cell hk h.c0 hs, below_cell hk h.c1 hs, below_cell hk h.c2 hs, below_cell hk h.c3 hs⟩
theorem CX.At.of_block {A B : World} {b o : Nat} {v : CX} (h : CX.At A b o v) (hb : B.heap[b]? = A.heap[b]?) : CX.At B b o v :=
  ⟨(cell_of_block (a := ⟨b, _, none⟩) hb).trans h.c0, (cell_of_block (a := ⟨b, _, none⟩) hb).trans h.c1, (cell_of_block (a := ⟨b, _, none⟩) hb).trans h.c2, (cell_of_block (a := ⟨b, _, none⟩) hb).trans h.c3⟩
def CX.Row (ok : Nat → Prop) (W : World) (base : Option Addr) (l : List CX) : Prop := ∀ (i : Nat) (k : CX), l[i]? = some k → ∃ b o, base = some ⟨b, o, none⟩ ∧ ok b ∧ CX.At W b (o + i * 4) k
theorem CX.Row.mono {ok ok' : Nat → Prop} {A B : World} {base : Option Addr} {l : List CX} (h : CX.Row ok A base l) (hb : ∀ b, ok b → b < A.heap.size → ok' b ∧ B.heap[b]? = A.heap[b]?) : CX.Row ok' B base l := by
  intro i k hk
  obtain ⟨b, o, h1, h2, h3⟩ := h i k hk
  obtain ⟨h4, h5⟩ := hb b h2 h3.lt
  exact ⟨b, o, h1, h4, h3.of_block h5⟩
theorem CX.Row.under {ok : Nat → Prop} {n : Nat} {A B : World} {base : Option Addr} {l : List CX} (h : CX.Row ok A base l) (hk : Below n A B) (hs : ∀ b, ok b → b < n) : CX.Row ok B base l := h.mono fun b ho hb => ⟨ho, hk.block b (hs b ho)⟩
theorem CX.Row.kept {S ok : Nat → Prop} {A B : World} {base : Option Addr} {l : List CX} (h : CX.Row ok A base l) (hk : Kept S A B) (hs : ∀ b, ok b → ¬ S b) : CX.Row ok B base l := h.mono fun b ho hb => ⟨ho, hk.block b hb (hs b ho)⟩
set_option maxHeartbeats 2000000 in
theorem CX.sz (v : CX) (hW : v.Wide) (w : World) (left : Int) (h0 : 0 ≤ left) (h1 : left ≤ 1048576) :
    Calls Tryz.prog 61 #[v.val, .int .i64 left] w fun e w' => e = .returned (.int .i64 (subI left v.tot)) ∧ Below w.heap.size w w' := by
  unfold CX.Wide maxLen at hW
  have ht : v.tot = v.name.size := rfl
  have hB1 : Below w.heap.size w (w.alloc (.cells #[.string v.name, .int .i64 v.cap, .int .i64 v.lo, .int .i64 v.hi] 95)) := (Below.refl _ w).alloc (Nat.le_refl _) _
  go_enter Tryz.func61, Tryz.ntmps61
  by_cases hk0 : (v.name.size : Int) ≤ left
  · go_wp2
    all_goals first | (exfalso; omega) | skip
    go_returns
    exact ⟨ret_int (by rw [subI_yes (by omega)]; omega), hB1⟩
  · go_wp2
    all_goals first | (exfalso; omega) | skip
    go_returns
    exact ⟨ret_int (subI_no (by omega)).symm, hB1⟩
set_option maxHeartbeats 2000000 in
theorem CX.szs (ks : List CX) (a : Option Addr) (c : Nat) (ok : Nat → Prop) (w : World) (hok : ∀ b, ok b → b < w.heap.size) (hcl : CX.Row ok w a ks) (hlen : ks.length ≤ maxLen) (hW : ∀ (i : Nat) (k : CX), ks[i]? = some k → k.Wide)
    (left : Int) (h0 : 0 ≤ left) (h1 : left ≤ 1048576) :
    Calls Tryz.prog 25 #[.slice a ks.length c, .int .i64 left] w fun e w' => e = .returned (.int .i64 (subI left (ks.length + sumOf CX.tot ks))) ∧ Below w.heap.size w w' := by
  unfold maxLen at hlen
  obtain ⟨len, hl⟩ : ∃ len, ks.length = len := ⟨_, rfl⟩
  rw [hl] at hlen ⊢
  go_enter Tryz.func25, Tryz.ntmps25
  by_cases hs : left < len
  · go_wp2
    all_goals
      first
        | (exfalso; omega)
        | (go_returns; exact ⟨ret_int (subI_no (by omega)).symm, Below.refl _ _⟩)
        | skip
  · go_wp2
    go_loopw [1, 5] (fun v1 v5 wr => ∃ (i : Nat) (l : Int), v5 = .int .i64 i ∧ v1 = .int .i64 l ∧ i ≤ len ∧ 0 ≤ l ∧ l + len + sumOf CX.tot (ks.take i) = left ∧ Below w.heap.size w wr) (fun _ v5 _ => len - (intOf v5).toNat)
    case atStart => exact ⟨0, left - len, rfl, rfl, by omega, by omega, by simp [sumOf], Below.refl _ _⟩
    case round =>
      obtain ⟨i, l, rfl, rfl, hi, hl0, hle, hB⟩ := hrel
      by_cases hlt : i < len
      · obtain ⟨kid, hkid⟩ : ∃ kid, ks[i]? = some kid := ⟨_, List.getElem?_eq_getElem (by omega)⟩
        obtain ⟨bb, o, hbase, hokb, hc⟩ := hcl i kid hkid
        obtain ⟨c0, c1, c2, c3⟩ := hc.below hB (hok bb hokb)
        have hcall := CX.sz kid (hW i kid hkid) wr l hl0 (by omega)
        have htk := sumOf_take CX.tot hkid
        have htl := sumOf_le CX.tot ks (i + 1)
        subst hbase
        by_cases hk : (kid.tot : Int) ≤ l
        · rw [subI_yes hk] at hcall
          go_wp2_with (go_at_call 61; refine hcall.mono ?_; rintro e w4 ⟨rfl, hB4⟩)
          all_goals
            first
              | (exfalso; omega)
              | skip
          refine ⟨⟨i + 1, l - kid.tot, by go_num, rfl, by omega, by omega, by omega, hB.trans (hB4.mono hB.size)⟩, ?_⟩
          simp [intOf]
          omega
        · rw [subI_no (by omega)] at hcall
          go_wp2_with (go_at_call 61; refine hcall.mono ?_; rintro e w4 ⟨rfl, hB4⟩)
          go_returns
          exact ⟨ret_int (subI_no (by omega)).symm, hB.trans (hB4.mono hB.size)⟩
      · have he : i = len := by omega
        have hall : ks.take i = ks := List.take_of_length_le (by omega)
        rw [hall] at hle
        go_wp2
        go_returns
        exact ⟨ret_int (by rw [subI_yes (by omega)]; omega), hB⟩
set_option maxHeartbeats 2000000 in
theorem CX.eq (v : CX) (w : World) : Calls Tryz.prog 75 #[v.val, v.val] w fun e w' => e = .returned (.bool true) ∧ Below w.heap.size w w' := by
  go_enter Tryz.func75, Tryz.ntmps75
  go_wp2
  go_returns
  exact ⟨rfl, ((Below.refl _ w).alloc (Nat.le_refl _) _).alloc (by simp) _⟩
set_option maxHeartbeats 2000000 in
theorem CX.eqs (ks : List CX) (a a' : Option Addr) (c c' : Nat) (ok : Nat → Prop) (w : World) (hok : ∀ b, ok b → b < w.heap.size) (hcl : CX.Row ok w a ks) (hcl' : CX.Row ok w a' ks) (hlen : ks.length ≤ 1048577) :
    Calls Tryz.prog 38 #[.slice a ks.length c, .slice a' ks.length c'] w fun e w' => e = .returned (.bool true) ∧ Below w.heap.size w w' := by
  obtain ⟨len, hl⟩ : ∃ len, ks.length = len := ⟨_, rfl⟩
  rw [hl] at hlen ⊢
  go_enter Tryz.func38, Tryz.ntmps38
  go_wp2
  go_loopw [5] (fun v5 wr => ∃ (i : Nat), v5 = .int .i64 i ∧ i ≤ len ∧ Below w.heap.size w wr) (fun v5 _ => len - (intOf v5).toNat)
  case atStart => exact ⟨0, rfl, by omega, Below.refl _ _⟩
  case round =>
    obtain ⟨i, rfl, hi, hB⟩ := hrel
    by_cases hlt : i < len
    · obtain ⟨x, hx⟩ : ∃ x, ks[i]? = some x := ⟨_, List.getElem?_eq_getElem (by omega)⟩
      obtain ⟨b1, o1, hbase1, hok1, hc1⟩ := hcl i x hx
      obtain ⟨b2, o2, hbase2, hok2, hc2⟩ := hcl' i x hx
      have hd1 := hc1.below hB (hok b1 hok1)
      have hd2 := hc2.below hB (hok b2 hok2)
      subst hbase1
      subst hbase2
      haveI : Nonempty (Later wr) := ⟨⟨wr, Below.refl _ _⟩⟩
      have e0 := Later.cell hd1.c0
      have e1 := Later.cell hd1.c1
      have e2 := Later.cell hd1.c2
      have e3 := Later.cell hd1.c3
      have g0 := Later.cell hd2.c0
      have g1 := Later.cell hd2.c1
      have g2 := Later.cell hd2.c2
      have g3 := Later.cell hd2.c3
      go_wp2_with fail
      refine region_class (fun w' => ∃ z : Later wr, w' = z.at) (by kernel_rfl) (by kernel_rfl) ⟨⟨_, (Below.refl _ _).drew⟩, rfl⟩ ?_
      repeat (go_big_quiet_step ((go_at_call 75; refine (CX.eq x _).mono ?_; rintro e w2 ⟨rfl, hb⟩; exact ⟨rfl, ⟨_, bstep (Later.below _) hb⟩, rfl⟩)))
      refine wpQuiet_nil ?_
      rintro w' ⟨z, rfl⟩
      go_wp2
      go_roundw
      case rel => exact ⟨i + 1, by go_num, by omega, hB.trans ((Later.below z).mono hB.size)⟩
      case measure => simp [intOf]; omega
    · go_wp2
      go_returns
      exact ⟨rfl, hB⟩
theorem CX.put {W : World} {g N : Nat} {t : TypeId} (h0 : RowAt W g N t) (i : Nat) (hi : i * 4 + 3 < N) (v : CX) :
    RowAt ((((W.setCell ⟨g, i * 4, none⟩ (.string v.name)).setCell ⟨g, i * 4 + 1, none⟩ (.int .i64 v.cap)).setCell ⟨g, i * 4 + 2, none⟩ (.int .i64 v.lo)).setCell ⟨g, i * 4 + 3, none⟩ (.int .i64 v.hi)) g N t ∧ Kept (fun k => k = g) W ((((W.setCell ⟨g, i * 4, none⟩ (.string v.name)).setCell ⟨g, i * 4 + 1, none⟩ (.int .i64 v.cap)).setCell ⟨g, i * 4 + 2, none⟩ (.int .i64 v.lo)).setCell ⟨g, i * 4 + 3, none⟩ (.int .i64 v.hi)) ∧ CX.At ((((W.setCell ⟨g, i * 4, none⟩ (.string v.name)).setCell ⟨g, i * 4 + 1, none⟩ (.int .i64 v.cap)).setCell ⟨g, i * 4 + 2, none⟩ (.int .i64 v.lo)).setCell ⟨g, i * 4 + 3, none⟩ (.int .i64 v.hi)) g (0 + i * 4) v ∧
    ∀ (j : Nat) (x : CX), j ≠ i → CX.At W g (0 + j * 4) x → CX.At ((((W.setCell ⟨g, i * 4, none⟩ (.string v.name)).setCell ⟨g, i * 4 + 1, none⟩ (.int .i64 v.cap)).setCell ⟨g, i * 4 + 2, none⟩ (.int .i64 v.lo)).setCell ⟨g, i * 4 + 3, none⟩ (.int .i64 v.hi)) g (0 + j * 4) x := by
  have h1 := h0.set (i * 4) (.string v.name)
  have h2 := h1.set (i * 4 + 1) (.int .i64 v.cap)
  have h3 := h2.set (i * 4 + 2) (.int .i64 v.lo)
  have h4 := h3.set (i * 4 + 3) (.int .i64 v.hi)
  refine ⟨h4, (((((Kept.refl (fun k => k = g) W).setCell (p := ⟨g, i * 4, none⟩) rfl _).setCell (p := ⟨g, i * 4 + 1, none⟩) rfl _).setCell (p := ⟨g, i * 4 + 2, none⟩) rfl _).setCell (p := ⟨g, i * 4 + 3, none⟩) rfl _), ?_, ?_⟩
  · rw [Nat.zero_add]
    refine ⟨?_, ?_, ?_, ?_⟩
    · rw [set_far (by omega), set_far (by omega), set_far (by omega)]
      exact h0.put (by omega) _
    · rw [set_far (by omega), set_far (by omega)]
      exact h1.put (by omega) _
    · rw [set_far (by omega)]
      exact h2.put (by omega) _
    · exact h3.put (by omega) _
  · intro j x hj hc
    rw [Nat.zero_add] at hc ⊢
    refine ⟨?_, ?_, ?_, ?_⟩
    · rw [set_far (by omega), set_far (by omega), set_far (by omega), set_far (by omega)]; exact hc.c0
    · rw [set_far (by omega), set_far (by omega), set_far (by omega), set_far (by omega)]; exact hc.c1
    · rw [set_far (by omega), set_far (by omega), set_far (by omega), set_far (by omega)]; exact hc.c2
    · rw [set_far (by omega), set_far (by omega), set_far (by omega), set_far (by omega)]; exact hc.c3
set_option maxHeartbeats 2000000 in
theorem CX.to (v : CX) (w : World) : Calls Tryz.prog 68 #[v.val] w fun e w' => e = .returned v.val ∧ Below w.heap.size w w' := by
  go_enter Tryz.func68, Tryz.ntmps68
  go_wp2
  first | go_returns | (refine bodyPost_ret (by simp [results, Tryz.results68, go_sem, *]; try rfl) rfl ?_)
  refine ⟨rfl, ?_⟩
  repeat' (first | (with_reducible exact Below.refl _ _) | (with_reducible assumption) | (with_reducible refine balloc ?_ _) | (with_reducible refine bdrew ?_) | (with_reducible refine Below.setCell ?_ ?_ _) | (with_reducible refine bstep ?_ (by with_reducible assumption)) | go_size)
theorem CX.info : (Tryz.prog.info? 101).map (fun i => (i.zero, i.size, i.bytes)) = some (some (.agg #[.string ByteArray.empty, .int .i64 0, .int .i64 0, .int .i64 0]), 4, 40) := by kernel_rfl
set_option maxRecDepth 10000 in
set_option maxHeartbeats 4000000 in
theorem CX.tos (ks : List CX) (a : Option Addr) (c : Nat) (ok : Nat → Prop) (w : World) (hok : ∀ b, ok b → b < w.heap.size) (hcl : CX.Row ok w a ks) (hlen : ks.length ≤ 1048577) :
    Calls Tryz.prog 30 #[.slice a ks.length c] w fun e w' => e = .returned (.slice (some ⟨w.heap.size, 0, none⟩) ks.length ks.length) ∧ CX.Row (fun b => b = w.heap.size) w' (some ⟨w.heap.size, 0, none⟩) ks ∧ Below w.heap.size w w' := by
  obtain ⟨len, hl⟩ : ∃ len, ks.length = len := ⟨_, rfl⟩
  rw [hl] at hlen ⊢
  obtain ⟨i0, hi, hz0, hz1, hz2⟩ := info_parts CX.info
  obtain ⟨W1, hW1⟩ : ∃ W1, w.alloc (.cells (madeCells (Value.cells (.agg #[.string ByteArray.empty, .int .i64 0, .int .i64 0, .int .i64 0])) (len * 4)) 101) = W1 := ⟨_, rfl⟩
  have hmk : (Instr.makeSlice 32 (.int .i64 (len : Int)) (.int .i64 (len : Int))).run Tryz.prog w = .ok (.slice (some ⟨w.heap.size, 0, none⟩) len len) W1 := by
    have h := run_make w 32 101 i0 _ Tryz.underlying32 hi hz0 .i64 .i64 len len (by omega) (by omega) (by rw [hz2]; omega) (by omega)
    simp only [Int.toNat_natCast, hz1] at h
    rw [hW1] at h
    exact h
  have hR1 : RowAt W1 w.heap.size (len * 4) 101 := by
    have h := RowAt.new w (madeCells (Value.cells (.agg #[.string ByteArray.empty, .int .i64 0, .int .i64 0, .int .i64 0])) (len * 4)) 101
    rw [hW1, size_madeCells] at h
    exact h
  have hB1 : Below w.heap.size w W1 := by rw [← hW1]; exact (Below.refl _ w).alloc (Nat.le_refl _) _
  clear hW1
  go_enter Tryz.func30, Tryz.ntmps30
  go_wp2
  go_loopw [4] (fun v4 wr => ∃ (i : Nat), v4 = .int .i64 i ∧ i ≤ len ∧ Below w.heap.size w wr ∧ RowAt wr w.heap.size (len * 4) 101 ∧
      (∀ (j : Nat) (x : CX), ks[j]? = some x → j < i → CX.At wr w.heap.size (0 + j * 4) x)) (fun v4 _ => len - (intOf v4).toNat)
  case atStart => exact ⟨0, rfl, by omega, hB1, hR1, fun j x _ h => by omega⟩
  case round =>
    obtain ⟨i, rfl, hi, hB, hR, hS⟩ := hrel
    by_cases hlt : i < len
    · obtain ⟨x, hx⟩ : ∃ x, ks[i]? = some x := ⟨_, List.getElem?_eq_getElem (by omega)⟩
      obtain ⟨b1, o1, hbase1, hok1, hc1⟩ := hcl i x hx
      obtain ⟨c0, c1, c2, c3⟩ := hc1.below hB (hok b1 hok1)
      have hcall := CX.to x wr
      subst hbase1
      go_wp2_with fail
      go_at_call 68
      refine hcall.mono ?_
      clear hcall c0 c1 c2 c3
      rintro e w4 ⟨rfl, hB4⟩
      have hR4 := hR.of_block (hB4.block _ hR.lt)
      obtain ⟨v0, r0⟩ := hR4.cell (o := i * 4) (by omega)
      have f0 := hR4.frozen (i * 4)
      obtain ⟨v1, r1⟩ := hR4.cell (o := i * 4 + 1) (by omega)
      have f1 := hR4.frozen (i * 4 + 1)
      obtain ⟨v2, r2⟩ := hR4.cell (o := i * 4 + 2) (by omega)
      have f2 := hR4.frozen (i * 4 + 2)
      obtain ⟨v3, r3⟩ := hR4.cell (o := i * 4 + 3) (by omega)
      have f3 := hR4.frozen (i * 4 + 3)
      obtain ⟨p1, p2, p3, p4⟩ := CX.put hR4 i (by omega) x
      go_wp2
      have hg : w.heap.size < wr.heap.size := hR.lt
      refine ⟨⟨i + 1, by go_num, by omega, ?_, p1, ?_⟩, ?_⟩
      · exact (hB.trans (hB4.mono hB.size)).trans (p2.below (by have := hB4.size; omega) (fun k h => by omega))
      · intro j x' hx' hj
        by_cases hji : j = i
        · subst hji
          rw [hx] at hx'
          cases hx'
          exact p3
        · exact p4 j x' hji ((hS j x' hx' (by omega)).below hB4 hg)
      · simp [intOf]
        omega
    · have he : i = len := by omega
      go_wp2
      go_returns
      refine ⟨rfl, fun j x hx => ⟨w.heap.size, 0, rfl, rfl, hS j x hx (by have := (List.getElem?_eq_some_iff.1 hx).1; omega)⟩, hB⟩
end Go.Proofs.YtaajdoipjalgmaaGreatDoor
