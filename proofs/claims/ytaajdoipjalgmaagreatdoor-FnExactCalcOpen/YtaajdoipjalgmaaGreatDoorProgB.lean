/-
  Lists of words and lists of tasks as they lie in memory: their sizes, copies of them, and that the same are told to be so.
-/
import Derived.Test.YtaajdoipjalgmaaGreatDoorProgA
namespace Go.Proofs.YtaajdoipjalgmaaGreatDoor
open Go.RowKit
set_option linter.unusedSimpArgs false
set_option linter.unusedVariables false

def NRow (ok : Nat → Prop) (W : World) (base : Option Addr) (l : List ByteArray) : Prop := ∀ (i : Nat) (k : ByteArray), l[i]? = some k → ∃ b o, base = some ⟨b, o, none⟩ ∧ ok b ∧ W.cell? ⟨b, o + i, none⟩ = some (.string k)
theorem NRow.mono {ok ok' : Nat → Prop} {A B : World} {base : Option Addr} {l : List ByteArray} (h : NRow ok A base l) (hb : ∀ b, ok b → b < A.heap.size → ok' b ∧ B.heap[b]? = A.heap[b]?) : NRow ok' B base l := by
  intro i k hk
  obtain ⟨b, o, h1, h2, h3⟩ := h i k hk
  obtain ⟨h4, h5⟩ := hb b h2 (World.block_lt_of_cell? A _ h3)
  exact ⟨b, o, h1, h4, (cell_of_block (a := ⟨b, _, none⟩) h5).trans h3⟩
theorem NRow.under {ok : Nat → Prop} {n : Nat} {A B : World} {base : Option Addr} {l : List ByteArray} (h : NRow ok A base l) (hk : Below n A B) (hs : ∀ b, ok b → b < n) : NRow ok B base l := h.mono fun b ho hb => ⟨ho, hk.block b (hs b ho)⟩
theorem NRow.kept {S ok : Nat → Prop} {A B : World} {base : Option Addr} {l : List ByteArray} (h : NRow ok A base l) (hk : Kept S A B) (hs : ∀ b, ok b → ¬ S b) : NRow ok B base l := h.mono fun b ho hb => ⟨ho, hk.block b hb (hs b ho)⟩
set_option maxHeartbeats 2000000 in
theorem szN (ks : List ByteArray) (a : Option Addr) (c : Nat) (ok : Nat → Prop) (w : World) (hok : ∀ b, ok b → b < w.heap.size) (hcl : NRow ok w a ks) (hlen : ks.length ≤ maxLen) (hW : ∀ (i : Nat) (k : ByteArray), ks[i]? = some k → k.size ≤ maxLen)
    (left : Int) (h0 : 0 ≤ left) (h1 : left ≤ 1048576) :
    Calls Tryz.prog 26 #[.slice a ks.length c, .int .i64 left] w fun e w' => e = .returned (.int .i64 (subI left (ks.length + sumOf ByteArray.size ks))) ∧ Below w.heap.size w w' := by
  unfold maxLen at hlen hW
  obtain ⟨len, hl⟩ : ∃ len, ks.length = len := ⟨_, rfl⟩
  rw [hl] at hlen ⊢
  go_enter Tryz.func26, Tryz.ntmps26
  by_cases hs : left < len
  · go_wp2
    all_goals
      first
        | (exfalso; omega)
        | (go_returns; exact ⟨ret_int (subI_no (by omega)).symm, Below.refl _ _⟩)
        | skip
  · go_wp2
    go_loopw [1, 5] (fun v1 v5 wr => ∃ (i : Nat) (l : Int), v5 = .int .i64 i ∧ v1 = .int .i64 l ∧ i ≤ len ∧ 0 ≤ l ∧ l + len + sumOf ByteArray.size (ks.take i) = left ∧ Below w.heap.size w wr) (fun _ v5 _ => len - (intOf v5).toNat)
    case atStart => exact ⟨0, left - len, rfl, rfl, by omega, by omega, by simp [sumOf], Below.refl _ _⟩
    case round =>
      obtain ⟨i, l, rfl, rfl, hi, hl0, hle, hB⟩ := hrel
      by_cases hlt : i < len
      · obtain ⟨kid, hkid⟩ : ∃ kid, ks[i]? = some kid := ⟨_, List.getElem?_eq_getElem (by omega)⟩
        obtain ⟨bb, o, hbase, hokb, hc⟩ := hcl i kid hkid
        have c0 := below_cell hB hc (hok bb hokb)
        have hkw := hW i kid hkid
        have htk := sumOf_take ByteArray.size hkid
        have htl := sumOf_le ByteArray.size ks (i + 1)
        subst hbase
        by_cases hk : (kid.size : Int) ≤ l
        · go_wp2
          all_goals
            first
              | (exfalso; omega)
              | skip
          refine ⟨⟨i + 1, l - kid.size, by go_num, rfl, by omega, by omega, by omega, hB⟩, ?_⟩
          simp [intOf]
          omega
        · go_wp2
          all_goals first | (exfalso; omega) | skip
          go_returns
          exact ⟨ret_int (subI_no (by omega)).symm, hB⟩
      · have he : i = len := by omega
        have hall : ks.take i = ks := List.take_of_length_le (by omega)
        rw [hall] at hle
        go_wp2
        go_returns
        exact ⟨ret_int (by rw [subI_yes (by omega)]; omega), hB⟩
set_option maxHeartbeats 2000000 in
theorem eqN (ks : List ByteArray) (a a' : Option Addr) (c c' : Nat) (ok : Nat → Prop) (w : World) (hok : ∀ b, ok b → b < w.heap.size) (hcl : NRow ok w a ks) (hcl' : NRow ok w a' ks) (hlen : ks.length ≤ 1048577) :
    Calls Tryz.prog 39 #[.slice a ks.length c, .slice a' ks.length c'] w fun e w' => e = .returned (.bool true) ∧ Below w.heap.size w w' := by
  obtain ⟨len, hl⟩ : ∃ len, ks.length = len := ⟨_, rfl⟩
  rw [hl] at hlen ⊢
  go_enter Tryz.func39, Tryz.ntmps39
  go_wp2
  go_loopw [5] (fun v5 wr => ∃ (i : Nat), v5 = .int .i64 i ∧ i ≤ len ∧ Below w.heap.size w wr) (fun v5 _ => len - (intOf v5).toNat)
  case atStart => exact ⟨0, rfl, by omega, Below.refl _ _⟩
  case round =>
    obtain ⟨i, rfl, hi, hB⟩ := hrel
    by_cases hlt : i < len
    · obtain ⟨x, hx⟩ : ∃ x, ks[i]? = some x := ⟨_, List.getElem?_eq_getElem (by omega)⟩
      obtain ⟨b1, o1, hbase1, hok1, hc1⟩ := hcl i x hx
      obtain ⟨b2, o2, hbase2, hok2, hc2⟩ := hcl' i x hx
      have e0 := below_cell hB hc1 (hok b1 hok1)
      have g0 := below_cell hB hc2 (hok b2 hok2)
      subst hbase1
      subst hbase2
      haveI : Nonempty (Later wr) := ⟨⟨wr, Below.refl _ _⟩⟩
      have e1 := Later.cell e0
      have g1 := Later.cell g0
      go_wp2_with fail
      refine region_class (fun w' => ∃ z : Later wr, w' = z.at) (by kernel_rfl) (by kernel_rfl) ⟨⟨_, (Below.refl _ _).drew⟩, rfl⟩ ?_
      repeat (go_big_quiet_step (fail))
      refine wpQuiet_nil ?_
      rintro w' ⟨z, rfl⟩
      go_wp2
      go_roundw
      case rel => exact ⟨i + 1, by go_num, by omega, hB.trans ((Later.below z).mono hB.size)⟩
      case measure => simp [intOf]; omega
    · go_wp2
      go_returns
      exact ⟨rfl, hB⟩
theorem infoN : (Tryz.prog.info? 9).map (fun i => (i.zero, i.size, i.bytes)) = some (some (.string ByteArray.empty), 1, 16) := by kernel_rfl
set_option maxRecDepth 10000 in
set_option maxHeartbeats 4000000 in
theorem toN (ks : List ByteArray) (a : Option Addr) (c : Nat) (ok : Nat → Prop) (w : World) (hok : ∀ b, ok b → b < w.heap.size) (hcl : NRow ok w a ks) (hlen : ks.length ≤ 1048577) :
    Calls Tryz.prog 31 #[.slice a ks.length c] w fun e w' => e = .returned (.slice (some ⟨w.heap.size, 0, none⟩) ks.length ks.length) ∧ NRow (fun b => b = w.heap.size) w' (some ⟨w.heap.size, 0, none⟩) ks ∧ Below w.heap.size w w' := by
  obtain ⟨len, hl⟩ : ∃ len, ks.length = len := ⟨_, rfl⟩
  rw [hl] at hlen ⊢
  obtain ⟨i0, hi, hz0, hz1, hz2⟩ := info_parts infoN
  obtain ⟨W1, hW1⟩ : ∃ W1, w.alloc (.cells (madeCells (Value.cells (.string ByteArray.empty)) (len * 1)) 9) = W1 := ⟨_, rfl⟩
  have hmk : (Instr.makeSlice 24 (.int .i64 (len : Int)) (.int .i64 (len : Int))).run Tryz.prog w = .ok (.slice (some ⟨w.heap.size, 0, none⟩) len len) W1 := by
    have h := run_make w 24 9 i0 _ Tryz.underlying24 hi hz0 .i64 .i64 len len (by omega) (by omega) (by rw [hz2]; omega) (by omega)
    simp only [Int.toNat_natCast, hz1] at h
    rw [hW1] at h
    exact h
  have hR1 : RowAt W1 w.heap.size (len * 1) 9 := by
    have h := RowAt.new w (madeCells (Value.cells (.string ByteArray.empty)) (len * 1)) 9
    rw [hW1, size_madeCells] at h
    exact h
  have hB1 : Below w.heap.size w W1 := by rw [← hW1]; exact (Below.refl _ w).alloc (Nat.le_refl _) _
  clear hW1
  go_enter Tryz.func31, Tryz.ntmps31
  go_wp2
  go_loopw [4] (fun v4 wr => ∃ (i : Nat), v4 = .int .i64 i ∧ i ≤ len ∧ Below w.heap.size w wr ∧ RowAt wr w.heap.size (len * 1) 9 ∧
      (∀ (j : Nat) (x : ByteArray), ks[j]? = some x → j < i → wr.cell? ⟨w.heap.size, 0 + j, none⟩ = some (.string x))) (fun v4 _ => len - (intOf v4).toNat)
  case atStart => exact ⟨0, rfl, by omega, hB1, hR1, fun j x _ h => by omega⟩
  case round =>
    obtain ⟨i, rfl, hi, hB, hR, hS⟩ := hrel
    by_cases hlt : i < len
    · obtain ⟨x, hx⟩ : ∃ x, ks[i]? = some x := ⟨_, List.getElem?_eq_getElem (by omega)⟩
      obtain ⟨b1, o1, hbase1, hok1, hc1⟩ := hcl i x hx
      have c0 := below_cell hB hc1 (hok b1 hok1)
      subst hbase1
      obtain ⟨v0, r0⟩ := hR.cell (o := i) (by omega)
      have f0 := hR.frozen i
      go_wp2
      have hg : w.heap.size < wr.heap.size := hR.lt
      refine ⟨⟨i + 1, by go_num, by omega, ?_, hR.set i (.string x), ?_⟩, ?_⟩
      · exact hB.trans (((Kept.refl (fun k => k = w.heap.size) wr).setCell (p := ⟨w.heap.size, i, none⟩) rfl _).below (by omega) (fun k h => by omega))
      · intro j x' hx' hj
        rw [Nat.zero_add]
        by_cases hji : j = i
        · subst hji
          rw [hx] at hx'
          cases hx'
          exact hR.put (by omega) _
        · rw [set_far (by omega)]
          have := hS j x' hx' (by omega)
          rwa [Nat.zero_add] at this
      · simp [intOf]
        omega
    · have he : i = len := by omega
      go_wp2
      go_returns
      refine ⟨rfl, fun j x hx => ⟨w.heap.size, 0, rfl, rfl, hS j x hx (by have := (List.getElem?_eq_some_iff.1 hx).1; omega)⟩, hB⟩

structure LX where
  base : Option Addr
  cap : Nat
  l : List SX
abbrev LX.val (t : LX) : Value := .slice t.base t.l.length t.cap
def LX.tot (t : LX) : Nat := t.l.length + SX.totAll t.l
structure LX.Wide (t : LX) : Prop where
  len : t.l.length ≤ maxLen
  kid : ∀ (i : Nat) (k : SX), t.l[i]? = some k → WideS k
structure LX.Small (t : LX) : Prop where
  len : t.l.length ≤ 1048576
  kid : ∀ (i : Nat) (k : SX), t.l[i]? = some k → SmallS k
structure LX.Lies (ok : Nat → Prop) (W : World) (t : LX) : Prop where
  row : SRow ok W t.base t.l
  kid : ∀ (i : Nat) (k : SX), t.l[i]? = some k → LiesS ok W k
structure LX.Same (t u : LX) : Prop where
  len : u.l.length = t.l.length
  kid : ∀ (i : Nat) (x y : SX), t.l[i]? = some x → u.l[i]? = some y → SameS x y
theorem LX.small {t : LX} (h : t.tot ≤ 1048576) : t.Small := by
  unfold LX.tot at h
  exact ⟨by omega, fun i k hk => SX.small _ k (Nat.le_refl _) (by have := SX.tot_get hk; omega)⟩
theorem LX.Lies.mono {ok ok' : Nat → Prop} {A B : World} {t : LX} (h : LX.Lies ok A t) (hb : ∀ b, ok b → b < A.heap.size → ok' b ∧ B.heap[b]? = A.heap[b]?) : LX.Lies ok' B t := ⟨h.row.mono hb, fun i k hk => (h.kid i k hk).mono hb⟩
theorem LX.Lies.under {ok : Nat → Prop} {n : Nat} {A B : World} {t : LX} (h : LX.Lies ok A t) (hk : Below n A B) (hs : ∀ b, ok b → b < n) : LX.Lies ok B t := h.mono fun b ho hb => ⟨ho, hk.block b (hs b ho)⟩
theorem LX.Lies.kept {S ok : Nat → Prop} {A B : World} {t : LX} (h : LX.Lies ok A t) (hk : Kept S A B) (hs : ∀ b, ok b → ¬ S b) : LX.Lies ok B t := h.mono fun b ho hb => ⟨ho, hk.block b hb (hs b ho)⟩
theorem LX.Lies.bound {ok : Nat → Prop} {W : World} {t : LX} (h : LX.Lies ok W t) : LX.Lies (fun b => b < W.heap.size) W t := h.mono (fun b _ hb => ⟨hb, rfl⟩)
theorem LX.Same.join {t u v : LX} (hu : LX.Same t u) (hv : LX.Same t v) : LX.Same u v := by
  refine ⟨by rw [hu.len, hv.len], fun i x y hx hy => ?_⟩
  have hi : i < t.l.length := by have := (List.getElem?_eq_some_iff.1 hx).1; have := hu.len; omega
  have hc := List.getElem?_eq_getElem hi
  exact SameS.join _ _ (Nat.le_refl _) x y (hu.kid i _ x hc hx) (hv.kid i _ y hc hy)
theorem LX.sz (t : LX) (hW : t.Wide) (ok : Nat → Prop) (w : World) (hok : ∀ b, ok b → b < w.heap.size) (hL : LX.Lies ok w t) (left : Int) (h0 : 0 ≤ left) (h1 : left ≤ 1048576) :
    Calls Tryz.prog 62 #[t.val, .int .i64 left] w fun e w' => e = .returned (.int .i64 (subI left t.tot)) ∧ Below w.heap.size w w' :=
  szSS t.l t.base t.cap ok w hok hL.row hW.len (fun i k hk l w' hl0 hl1 hB => szS1 _ k (Nat.le_refl _) (hW.kid i k hk) ok w' (fun b hb => Nat.lt_of_lt_of_le (hok b hb) hB.size) ((hL.kid i k hk).under hB hok) l hl0 hl1) left h0 h1
theorem LX.eq (t u : LX) (hm : t.Small) (hS : LX.Same t u) (ok : Nat → Prop) (w : World) (hok : ∀ b, ok b → b < w.heap.size) (hL : LX.Lies ok w t) (hU : LX.Lies ok w u) :
    Calls Tryz.prog 76 #[t.val, u.val] w fun e w' => e = .returned (.bool true) ∧ Below w.heap.size w w' :=
  eqSS t.l u.l t.base u.base t.cap u.cap ok w hok hL.row hU.row (by have := hm.len; omega) hS.len (fun i x y hx hy w' hB => eqS1 _ x y (Nat.le_refl _) (hm.kid i x hx) (hS.kid i x y hx hy) ok w' (fun b hb => Nat.lt_of_lt_of_le (hok b hb) hB.size) ((hL.kid i x hx).under hB hok) ((hU.kid i y hy).under hB hok))
/-- a list whose statements lie behind its own row -/
def LX.Ahead (W : World) (g : Nat) (t : LX) : Prop := t.base = some ⟨g, 0, none⟩ ∧ SRow (fun b => b = g) W t.base t.l ∧ ∀ (i : Nat) (k : SX), t.l[i]? = some k → LiesS (fun b => g < b) W k
theorem LX.Lies.plain {P S : Nat → Prop} {A B : World} {t : LX} (h : LX.Lies (fun b => P b ∧ Pl A b) A t) (hk : Kept S A B) (hs : ∀ b, P b → ¬ S b) : LX.Lies (fun b => P b ∧ Pl B b) B t :=
  h.mono fun b ho hb => ⟨⟨ho.1, ho.2.kept hk (hs b ho.1)⟩, hk.block b hb (hs b ho.1)⟩
theorem LX.Lies.wider {P Q : Nat → Prop} {A : World} {t : LX} (h : LX.Lies (fun b => P b ∧ Pl A b) A t) (hs : ∀ b, P b → Q b) : LX.Lies (fun b => Q b ∧ Pl A b) A t :=
  h.mono fun b ho hb => ⟨⟨hs b ho.1, ho.2⟩, rfl⟩
theorem LX.to (t : LX) (hm : t.Small) (ok : Nat → Prop) (w : World) (hok : ∀ b, ok b → b < w.heap.size) (hL : LX.Lies ok w t) :
    Calls Tryz.prog 69 #[t.val] w fun e w' => ∃ t' : LX, e = .returned t'.val ∧ LX.Same t t' ∧ LX.Lies (fun b => w.heap.size ≤ b ∧ Pl w' b) w' t' ∧ Below w.heap.size w w' := by
  refine (toSS t.l t.base t.cap ok w hok hL.row (by have := hm.len; omega) (fun i k hk w' hB => toS1 _ k (Nat.le_refl _) (hm.kid i k hk) ok w' (fun b hb => Nat.lt_of_lt_of_le (hok b hb) hB.size) ((hL.kid i k hk).under hB hok))).mono ?_
  rintro e w1 ⟨us, rfl, hul, hus, hpl, hB⟩
  have hget : ∀ (i : Nat) (y : SX), us[i]? = some y → ∃ x, t.l[i]? = some x := fun i y hy => ⟨_, List.getElem?_eq_getElem (by have := (List.getElem?_eq_some_iff.1 hy).1; omega)⟩
  refine ⟨⟨some ⟨w.heap.size, 0, none⟩, t.l.length, us⟩, ?_, ⟨hul, fun i x y hx hy => (hus i x y hx hy).1⟩, ⟨fun i y hy => ?_, fun i y hy => ?_⟩, hB⟩
  · simp only [LX.val, hul]
  · obtain ⟨x, hx⟩ := hget i y hy
    exact ⟨w.heap.size, 0, rfl, ⟨Nat.le_refl _, hpl⟩, (hus i x y hx hy).2.1⟩
  · obtain ⟨x, hx⟩ := hget i y hy
    exact (hus i x y hx hy).2.2.wider (fun b hb => by omega)
def LX.Row (ok : Nat → Prop) (W : World) (base : Option Addr) (l : List LX) : Prop := ∀ (i : Nat) (t : LX), l[i]? = some t → ∃ b o, base = some ⟨b, o, none⟩ ∧ ok b ∧ W.cell? ⟨b, o + i, none⟩ = some t.val
theorem LX.Row.mono {ok ok' : Nat → Prop} {A B : World} {base : Option Addr} {l : List LX} (h : LX.Row ok A base l) (hb : ∀ b, ok b → b < A.heap.size → ok' b ∧ B.heap[b]? = A.heap[b]?) : LX.Row ok' B base l := by
  intro i k hk
  obtain ⟨b, o, h1, h2, h3⟩ := h i k hk
  obtain ⟨h4, h5⟩ := hb b h2 (World.block_lt_of_cell? A _ h3)
  exact ⟨b, o, h1, h4, (cell_of_block (a := ⟨b, _, none⟩) h5).trans h3⟩
theorem LX.Row.under {ok : Nat → Prop} {n : Nat} {A B : World} {base : Option Addr} {l : List LX} (h : LX.Row ok A base l) (hk : Below n A B) (hs : ∀ b, ok b → b < n) : LX.Row ok B base l := h.mono fun b ho hb => ⟨ho, hk.block b (hs b ho)⟩
theorem LX.Row.kept {S ok : Nat → Prop} {A B : World} {base : Option Addr} {l : List LX} (h : LX.Row ok A base l) (hk : Kept S A B) (hs : ∀ b, ok b → ¬ S b) : LX.Row ok B base l := h.mono fun b ho hb => ⟨ho, hk.block b hb (hs b ho)⟩
set_option maxHeartbeats 2000000 in
theorem LX.szs (ks : List LX) (a : Option Addr) (c : Nat) (ok : Nat → Prop) (w : World) (hok : ∀ b, ok b → b < w.heap.size) (hcl : LX.Row ok w a ks) (hL : ∀ (i : Nat) (k : LX), ks[i]? = some k → LX.Lies ok w k) (hlen : ks.length ≤ maxLen) (hW : ∀ (i : Nat) (k : LX), ks[i]? = some k → k.Wide)
    (left : Int) (h0 : 0 ≤ left) (h1 : left ≤ 1048576) :
    Calls Tryz.prog 27 #[.slice a ks.length c, .int .i64 left] w fun e w' => e = .returned (.int .i64 (subI left (ks.length + sumOf LX.tot ks))) ∧ Below w.heap.size w w' := by
  unfold maxLen at hlen
  obtain ⟨len, hl⟩ : ∃ len, ks.length = len := ⟨_, rfl⟩
  rw [hl] at hlen ⊢
  go_enter Tryz.func27, Tryz.ntmps27
  by_cases hs : left < len
  · go_wp2
    all_goals
      first
        | (exfalso; omega)
        | (go_returns; exact ⟨ret_int (subI_no (by omega)).symm, Below.refl _ _⟩)
        | skip
  · go_wp2
    go_loopw [1, 5] (fun v1 v5 wr => ∃ (i : Nat) (l : Int), v5 = .int .i64 i ∧ v1 = .int .i64 l ∧ i ≤ len ∧ 0 ≤ l ∧ l + len + sumOf LX.tot (ks.take i) = left ∧ Below w.heap.size w wr) (fun _ v5 _ => len - (intOf v5).toNat)
    case atStart => exact ⟨0, left - len, rfl, rfl, by omega, by omega, by simp [sumOf], Below.refl _ _⟩
    case round =>
      obtain ⟨i, l, rfl, rfl, hi, hl0, hle, hB⟩ := hrel
      by_cases hlt : i < len
      · obtain ⟨kid, hkid⟩ : ∃ kid, ks[i]? = some kid := ⟨_, List.getElem?_eq_getElem (by omega)⟩
        obtain ⟨bb, o, hbase, hokb, hc⟩ := hcl i kid hkid
        have c0 := below_cell hB hc (hok bb hokb)
        have hcall := LX.sz kid (hW i kid hkid) ok wr (fun b hb => Nat.lt_of_lt_of_le (hok b hb) hB.size) ((hL i kid hkid).under hB hok) l hl0 (by omega)
        have htk := sumOf_take LX.tot hkid
        have htl := sumOf_le LX.tot ks (i + 1)
        subst hbase
        by_cases hk : (kid.tot : Int) ≤ l
        · rw [subI_yes hk] at hcall
          go_wp2_with (go_at_call 62; refine hcall.mono ?_; rintro e w4 ⟨rfl, hB4⟩)
          all_goals
            first
              | (exfalso; omega)
              | skip
          refine ⟨⟨i + 1, l - kid.tot, by go_num, rfl, by omega, by omega, by omega, hB.trans (hB4.mono hB.size)⟩, ?_⟩
          simp [intOf]
          omega
        · rw [subI_no (by omega)] at hcall
          go_wp2_with (go_at_call 62; refine hcall.mono ?_; rintro e w4 ⟨rfl, hB4⟩)
          go_returns
          exact ⟨ret_int (subI_no (by omega)).symm, hB.trans (hB4.mono hB.size)⟩
      · have he : i = len := by omega
        have hall : ks.take i = ks := List.take_of_length_le (by omega)
        rw [hall] at hle
        go_wp2
        go_returns
        exact ⟨ret_int (by rw [subI_yes (by omega)]; omega), hB⟩
set_option maxHeartbeats 2000000 in
theorem LX.eqs (ks us : List LX) (a a' : Option Addr) (c c' : Nat) (ok : Nat → Prop) (w : World) (hok : ∀ b, ok b → b < w.heap.size) (hcl : LX.Row ok w a ks) (hcl' : LX.Row ok w a' us) (hlen : ks.length ≤ 1048577) (hlen' : us.length = ks.length)
    (hL : ∀ (i : Nat) (k : LX), ks[i]? = some k → LX.Lies ok w k) (hU : ∀ (i : Nat) (k : LX), us[i]? = some k → LX.Lies ok w k) (hm : ∀ (i : Nat) (k : LX), ks[i]? = some k → k.Small) (hS : ∀ (i : Nat) (x y : LX), ks[i]? = some x → us[i]? = some y → LX.Same x y) :
    Calls Tryz.prog 40 #[.slice a ks.length c, .slice a' us.length c'] w fun e w' => e = .returned (.bool true) ∧ Below w.heap.size w w' := by
  obtain ⟨len, hl⟩ : ∃ len, ks.length = len := ⟨_, rfl⟩
  rw [hlen', hl]
  rw [hl] at hlen
  go_enter Tryz.func40, Tryz.ntmps40
  go_wp2
  go_loopw [5] (fun v5 wr => ∃ (i : Nat), v5 = .int .i64 i ∧ i ≤ len ∧ Below w.heap.size w wr) (fun v5 _ => len - (intOf v5).toNat)
  case atStart => exact ⟨0, rfl, by omega, Below.refl _ _⟩
  case round =>
    obtain ⟨i, rfl, hi, hB⟩ := hrel
    by_cases hlt : i < len
    · obtain ⟨x, hx⟩ : ∃ x, ks[i]? = some x := ⟨_, List.getElem?_eq_getElem (by omega)⟩
      obtain ⟨y, hy⟩ : ∃ y, us[i]? = some y := ⟨_, List.getElem?_eq_getElem (by omega)⟩
      obtain ⟨b1, o1, hbase1, hok1, hc1⟩ := hcl i x hx
      obtain ⟨b2, o2, hbase2, hok2, hc2⟩ := hcl' i y hy
      have hd1 := below_cell hB hc1 (hok b1 hok1)
      have hd2 := below_cell hB hc2 (hok b2 hok2)
      have H' : ∀ (W : World), Below wr.heap.size wr W → Calls Tryz.prog 76 #[x.val, y.val] W fun e w' => e = .returned (.bool true) ∧ Below W.heap.size W w' := by
        intro W hBW
        have hB2 := hB.trans (hBW.mono hB.size)
        exact LX.eq x y (hm i x hx) (hS i x y hx hy) ok W (fun b hb => Nat.lt_of_lt_of_le (hok b hb) hB2.size) ((hL i x hx).under hB2 hok) ((hU i y hy).under hB2 hok)
      subst hbase1
      subst hbase2
      haveI : Nonempty (Later wr) := ⟨⟨wr, Below.refl _ _⟩⟩
      have e0 := Later.cell hd1
      have g0 := Later.cell hd2
      go_wp2_with fail
      refine region_class (fun w' => ∃ z : Later wr, w' = z.at) (by kernel_rfl) (by kernel_rfl) ⟨⟨_, (Below.refl _ _).drew⟩, rfl⟩ ?_
      repeat (go_big_quiet_step ((go_at_call 76; refine (H' _ (Later.below _)).mono ?_; rintro e w2 ⟨rfl, hb⟩; exact ⟨rfl, ⟨_, bstep (Later.below _) hb⟩, rfl⟩)))
      refine wpQuiet_nil ?_
      rintro w' ⟨z, rfl⟩
      go_wp2
      go_roundw
      case rel => exact ⟨i + 1, by go_num, by omega, hB.trans ((Later.below z).mono hB.size)⟩
      case measure => simp [intOf]; omega
    · go_wp2
      go_returns
      exact ⟨rfl, hB⟩
theorem infoL : (Tryz.prog.info? 81).map (fun i => (i.zero, i.size, i.bytes)) = some (some (.slice none 0 0), 1, 24) := by kernel_rfl
set_option maxRecDepth 10000 in
set_option maxHeartbeats 4000000 in
theorem LX.tos (ks : List LX) (a : Option Addr) (c : Nat) (ok : Nat → Prop) (w : World) (hok : ∀ b, ok b → b < w.heap.size) (hcl : LX.Row ok w a ks) (hlen : ks.length ≤ 1048577)
    (hL : ∀ (i : Nat) (k : LX), ks[i]? = some k → LX.Lies ok w k) (hm : ∀ (i : Nat) (k : LX), ks[i]? = some k → k.Small) :
    Calls Tryz.prog 32 #[.slice a ks.length c] w fun e w' => ∃ us : List LX, e = .returned (.slice (some ⟨w.heap.size, 0, none⟩) ks.length ks.length) ∧ us.length = ks.length ∧ LX.Row (fun b => b = w.heap.size) w' (some ⟨w.heap.size, 0, none⟩) us ∧
      (∀ (i : Nat) (x y : LX), ks[i]? = some x → us[i]? = some y → LX.Same x y ∧ LX.Lies (fun b => w.heap.size < b ∧ Pl w' b) w' y) ∧ Below w.heap.size w w' := by
  obtain ⟨len, hl⟩ : ∃ len, ks.length = len := ⟨_, rfl⟩
  rw [hl] at hlen ⊢
  obtain ⟨i0, hi, hz0, hz1, hz2⟩ := info_parts infoL
  obtain ⟨W1, hW1⟩ : ∃ W1, w.alloc (.cells (madeCells (Value.cells (.slice none 0 0)) (len * 1)) 81) = W1 := ⟨_, rfl⟩
  have hmk : (Instr.makeSlice 33 (.int .i64 (len : Int)) (.int .i64 (len : Int))).run Tryz.prog w = .ok (.slice (some ⟨w.heap.size, 0, none⟩) len len) W1 := by
    have h := run_make w 33 81 i0 _ Tryz.underlying33 hi hz0 .i64 .i64 len len (by omega) (by omega) (by rw [hz2]; omega) (by omega)
    simp only [Int.toNat_natCast, hz1] at h
    rw [hW1] at h
    exact h
  have hR1 : RowAt W1 w.heap.size (len * 1) 81 := by
    have h := RowAt.new w (madeCells (Value.cells (.slice none 0 0)) (len * 1)) 81
    rw [hW1, size_madeCells] at h
    exact h
  have hB1 : Below w.heap.size w W1 := by rw [← hW1]; exact (Below.refl _ w).alloc (Nat.le_refl _) _
  clear hW1
  go_enter Tryz.func32, Tryz.ntmps32
  go_wp2
  go_loopw [4] (fun v4 wr => ∃ (i : Nat) (us : List LX), v4 = .int .i64 i ∧ i ≤ len ∧ us.length = i ∧ Below w.heap.size w wr ∧ RowAt wr w.heap.size (len * 1) 81 ∧
      (∀ (j : Nat) (x y : LX), ks[j]? = some x → us[j]? = some y → LX.Same x y ∧ wr.cell? ⟨w.heap.size, 0 + j, none⟩ = some y.val ∧ LX.Lies (fun b => w.heap.size < b ∧ Pl wr b) wr y)) (fun v4 _ => len - (intOf v4).toNat)
  case atStart => exact ⟨0, [], rfl, by omega, rfl, hB1, hR1, fun j x y _ h => by simp at h⟩
  case round =>
    obtain ⟨i, us, rfl, hi, hus, hB, hR, hS⟩ := hrel
    by_cases hlt : i < len
    · obtain ⟨x, hx⟩ : ∃ x, ks[i]? = some x := ⟨_, List.getElem?_eq_getElem (by omega)⟩
      obtain ⟨b1, o1, hbase1, hok1, hc1⟩ := hcl i x hx
      have c0 := below_cell hB hc1 (hok b1 hok1)
      have hcall := LX.to x (hm i x hx) ok wr (fun b hb => Nat.lt_of_lt_of_le (hok b hb) hB.size) ((hL i x hx).under hB hok)
      subst hbase1
      go_wp2_with fail
      go_at_call 69
      refine hcall.mono ?_
      clear hcall c0
      rintro e w4 ⟨y, rfl, hxy, hLy, hB4⟩
      have hR4 := hR.of_block (hB4.block _ hR.lt)
      obtain ⟨v0, r0⟩ := hR4.cell (o := i) (by omega)
      have f0 := hR4.frozen i
      go_wp2
      have hg : w.heap.size < wr.heap.size := hR.lt
      have p2 := (Kept.refl (fun k => k = w.heap.size) w4).setCell (p := ⟨w.heap.size, i, none⟩) rfl y.val
      refine ⟨⟨i + 1, us ++ [y], by go_num, by omega, by simp [hus], ?_, hR4.set i y.val, ?_⟩, ?_⟩
      · exact (hB.trans (hB4.mono hB.size)).trans (p2.below (by have := hB4.size; omega) (fun k h => by omega))
      · intro j x' y' hx' hy'
        rw [Nat.zero_add]
        by_cases hj : j < i
        · rw [List.getElem?_append_left (by omega)] at hy'
          obtain ⟨q1, q2, q3⟩ := hS j x' y' hx' hy'
          rw [Nat.zero_add] at q2
          refine ⟨q1, ?_, ?_⟩
          · rw [set_far (by omega)]
            exact below_cell hB4 q2 hg
          have q4 := q3.plain (Kept.of_new (fun k => k = w.heap.size) hB4) (fun b hb => by omega)
          exact q4.plain p2 (fun b hb => by omega)
        · have hji : j = i := by
            have := (List.getElem?_eq_some_iff.1 hy').1
            simp [hus] at this
            omega
          subst hji
          rw [List.getElem?_append_right (by omega)] at hy'
          simp [hus] at hy'
          subst hy'
          rw [hx] at hx'
          cases hx'
          refine ⟨hxy, hR4.put (by omega) _, ?_⟩
          have q4 := hLy.wider (Q := fun b => w.heap.size < b) (fun b hb => by omega)
          exact q4.plain p2 (fun b hb => by omega)
      · simp [intOf]
        omega
    · have he : i = len := by omega
      have hget : ∀ (i : Nat) (y : LX), us[i]? = some y → ∃ x, ks[i]? = some x := fun i y hy => ⟨_, List.getElem?_eq_getElem (by have := (List.getElem?_eq_some_iff.1 hy).1; omega)⟩
      go_wp2
      go_returns
      refine ⟨us, rfl, by omega, fun j y hy => ?_, fun j x y hx hy => ⟨(hS j x y hx hy).1, (hS j x y hx hy).2.2⟩, hB⟩
      obtain ⟨x, hx⟩ := hget j y hy
      exact ⟨w.heap.size, 0, rfl, rfl, (hS j x y hx hy).2.1⟩
end Go.Proofs.YtaajdoipjalgmaaGreatDoor
