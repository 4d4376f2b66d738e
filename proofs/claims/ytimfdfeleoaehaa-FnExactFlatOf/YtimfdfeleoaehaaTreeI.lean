/-
  Two expressions that are the same in all parts are told to be so, and a copy in new memory is the same in all parts.
-/
import Derived.Test.YtimfdfeleoaehaaTreeH
import Derived.Laws.MakeOwn
namespace Go.Proofs.Ytimfdfeleoaehaa
open Go.RowKit
set_option linter.unusedSimpArgs false
set_option linter.unusedVariables false

set_option maxHeartbeats 2000000 in
theorem eqS (ks us : List XT) (a a' : Option Addr) (c c' : Nat) (ok : Nat → Prop) (w : World) (hok : ∀ b, ok b → b < w.heap.size)
    (hcl : ∀ (i : Nat) (k : XT), ks[i]? = some k → ∃ b o, a = some ⟨b, o, none⟩ ∧ ok b ∧ Cells4 w b (o + i * 4) k) (hcl' : ∀ (i : Nat) (k : XT), us[i]? = some k → ∃ b o, a' = some ⟨b, o, none⟩ ∧ ok b ∧ Cells4 w b (o + i * 4) k)
    (hlen : ks.length ≤ 1099511627776) (hlen' : us.length = ks.length)
    (H : ∀ (i : Nat) (x y : XT), ks[i]? = some x → us[i]? = some y → ∀ (w' : World), Below w.heap.size w w' →
      Calls Try.prog 53 #[x.val, y.val] w' fun e w'' => e = .returned (.bool true) ∧ Below w'.heap.size w' w'') :
    Calls Try.prog 72 #[.slice a ks.length c, .slice a' us.length c'] w fun e w' => e = .returned (.bool true) ∧ Below w.heap.size w w' := by
  obtain ⟨len, hl⟩ : ∃ len, ks.length = len := ⟨_, rfl⟩
  rw [hlen', hl]
  rw [hl] at hlen
  go_enter Try.func72, Try.ntmps72
  go_wp2
  go_loopw [5] (fun v5 wr => ∃ (i : Nat), v5 = .int .i64 i ∧ i ≤ len ∧ Below w.heap.size w wr) (fun v5 _ => len - (intOf v5).toNat)
  case atStart => exact ⟨0, rfl, by omega, Below.refl _ _⟩
  case round =>
    obtain ⟨i, rfl, hi, hB⟩ := hrel
    by_cases hlt : i < len
    · obtain ⟨x, hx⟩ : ∃ x, ks[i]? = some x := ⟨_, List.getElem?_eq_getElem (by omega)⟩
      obtain ⟨y, hy⟩ : ∃ y, us[i]? = some y := ⟨_, List.getElem?_eq_getElem (by omega)⟩
      obtain ⟨b1, o1, hbase1, hok1, hc1⟩ := hcl i x hx
      obtain ⟨b2, o2, hbase2, hok2, hc2⟩ := hcl' i y hy
      have hd1 := hc1.below hB (hok b1 hok1)
      have hd2 := hc2.below hB (hok b2 hok2)
      have H' := H i x y hx hy
      subst hbase1
      subst hbase2
      haveI : Nonempty (Later wr) := ⟨⟨wr, Below.refl _ _⟩⟩
      have e0 := Later.cell hd1.c0
      have e1 := Later.cell hd1.c1
      have e2 := Later.cell hd1.c2
      have e3 := Later.cell hd1.c3
      have g0 := Later.cell hd2.c0
      have g1 := Later.cell hd2.c1
      have g2 := Later.cell hd2.c2
      have g3 := Later.cell hd2.c3
      go_wp2_with fail
      refine region_class (fun w' => ∃ z : Later wr, w' = z.at) (by kernel_rfl) (by kernel_rfl) ⟨⟨_, (Below.refl _ _).drew⟩, rfl⟩ ?_
      repeat (go_big_quiet_step ((go_at_call 53; refine (H' _ (hB.trans ((Later.below _).mono hB.size))).mono ?_; rintro e w2 ⟨rfl, hb⟩; exact ⟨rfl, ⟨_, bstep (Later.below _) hb⟩, rfl⟩)))
      refine wpQuiet_nil ?_
      rintro w' ⟨z, rfl⟩
      go_wp2
      go_roundw
      case rel => exact ⟨i + 1, by go_num, by omega, hB.trans ((Later.below z).mono hB.size)⟩
      case measure => simp [intOf]; omega
    · go_wp2
      go_returns
      exact ⟨rfl, hB⟩
set_option maxHeartbeats 2000000 in
theorem eq1 (sz : Nat) : ∀ (t u : XT), sz ≤ 1099511627776 → t.size ≤ sz → Same t u → ∀ (ok : Nat → Prop) (w : World), (∀ b, ok b → b < w.heap.size) → Lies ok w t → Lies ok w u →
    Calls Try.prog 53 #[t.val, u.val] w fun e w' => e = .returned (.bool true) ∧ Below w.heap.size w w' := by
  induction sz with
  | zero => intro t u _ h; rw [XT.size_eq] at h; omega
  | succ sz ih =>
  intro t u hlim hsz hS ok w hok hL hU
  obtain ⟨h1, h2, h3, h4⟩ := hS.heads
  have hB1 : Below w.heap.size w ((w.alloc (.cells #[.int .i64 t.kind, .int .i64 t.num, .string t.name, .slice t.base t.kids.length t.cap] 48)).alloc (.cells #[.int .i64 u.kind, .int .i64 u.num, .string u.name, .slice u.base u.kids.length u.cap] 48)) := ((Below.refl _ w).alloc (Nat.le_refl _) _).alloc (by simp) _
  have hok1 : ∀ b, ok b → b < ((w.alloc (.cells #[.int .i64 t.kind, .int .i64 t.num, .string t.name, .slice t.base t.kids.length t.cap] 48)).alloc (.cells #[.int .i64 u.kind, .int .i64 u.num, .string u.name, .slice u.base u.kids.length u.cap] 48)).heap.size := fun b hb => Nat.lt_of_lt_of_le (hok b hb) hB1.size
  have hL1 := hL.under hB1 hok
  have hU1 := hU.under hB1 hok
  have hlt := t.length_le
  have hcall := eqS t.kids u.kids t.base u.base t.cap u.cap ok _ hok1 hL1.cells hU1.cells (by omega) h4
    (fun i x y hx hy w' hBw => ih x y (by omega) (by have h5 := XT.size_get hx; have h6 := t.size_eq; omega) (hS.kid i x y hx hy) ok w' (fun b hb => Nat.lt_of_lt_of_le (hok1 b hb) hBw.size) ((hL1.kid i x hx).under hBw hok1) ((hU1.kid i y hy).under hBw hok1))
  clear ih hL1 hU1 hok1 hL hU hS hsz hlt
  obtain ⟨k, n, s, a, c, ks⟩ := t
  obtain ⟨k', n', s', a', c', us⟩ := u
  simp only [XT.kind, XT.num, XT.name, XT.kids, XT.base, XT.cap, XT.val] at h1 h2 h3 h4 hB1 hcall ⊢
  subst h1 h2 h3
  rw [h4] at hB1 hcall ⊢
  go_enter Try.func53, Try.ntmps53
  go_wp2_with (go_at_call 72; refine hcall.mono ?_; rintro e w4 ⟨rfl, hB4⟩)
  go_returns
  exact ⟨rfl, hB1.trans (hB4.mono hB1.size)⟩
theorem Lies.bound {ok : Nat → Prop} {W : World} {t : XT} (h : Lies ok W t) : Lies (fun b => b < W.heap.size) W t := h.mono (fun b _ hb => ⟨hb, rfl⟩)
/-- A block of cells of which none may not be written. -/
def Pl (W : World) (b : Nat) : Prop := ∃ arr t, W.heap[b]? = some (.cells arr t (0, 0))
theorem Pl.of_block {A B : World} {b : Nat} (h : Pl A b) (hb : B.heap[b]? = A.heap[b]?) : Pl B b := by
  obtain ⟨arr, t, e⟩ := h
  exact ⟨arr, t, hb.trans e⟩
theorem Pl.lt {A : World} {b : Nat} (h : Pl A b) : b < A.heap.size := by
  obtain ⟨arr, t, e⟩ := h
  exact (Array.getElem?_eq_some_iff.1 e).1
theorem Pl.kept {S : Nat → Prop} {A B : World} {b : Nat} (h : Pl A b) (hk : Kept S A B) (hs : ¬ S b) : Pl B b := h.of_block (hk.block b h.lt hs)
theorem Pl.below {A B : World} {b n : Nat} (h : Pl A b) (hk : Below n A B) (hs : b < n) : Pl B b := h.of_block (hk.block b hs)
theorem Lies.plain {P S : Nat → Prop} {A B : World} {t : XT} (h : Lies (fun b => P b ∧ Pl A b) A t) (hk : Kept S A B) (hs : ∀ b, P b → ¬ S b) : Lies (fun b => P b ∧ Pl B b) B t :=
  h.mono fun b ho hb => ⟨⟨ho.1, ho.2.kept hk (hs b ho.1)⟩, hk.block b hb (hs b ho.1)⟩
theorem Lies.wider {P Q : Nat → Prop} {A : World} {t : XT} (h : Lies (fun b => P b ∧ Pl A b) A t) (hs : ∀ b, P b → Q b) : Lies (fun b => Q b ∧ Pl A b) A t :=
  h.mono fun b ho hb => ⟨⟨hs b ho.1, ho.2⟩, rfl⟩
/-- A row of N cells that may be written. -/
def RowAt (W : World) (g N : Nat) (t : TypeId) : Prop := ∃ arr, W.heap[g]? = some (.cells arr t (0, 0)) ∧ arr.size = N
theorem RowAt.plain {W : World} {g N : Nat} {t : TypeId} (h : RowAt W g N t) : Pl W g := by
  obtain ⟨arr, e, _⟩ := h
  exact ⟨arr, t, e⟩
theorem RowAt.cell {W : World} {g N : Nat} {t : TypeId} (h : RowAt W g N t) {o : Nat} (ho : o < N) : ∃ v, W.cell? ⟨g, o, none⟩ = some v := by
  obtain ⟨arr, h1, h2⟩ := h
  exact ⟨arr[o], by simp [World.cell?, h1, show o < arr.size by omega]⟩
theorem RowAt.frozen {W : World} {g N : Nat} {t : TypeId} (h : RowAt W g N t) (o : Nat) : W.frozen? ⟨g, o, none⟩ = false := by
  obtain ⟨arr, h1, h2⟩ := h
  simp [World.frozen?, h1]
theorem RowAt.of_block {W W' : World} {g N : Nat} {t : TypeId} (h : RowAt W g N t) (hb : W'.heap[g]? = W.heap[g]?) : RowAt W' g N t := by
  obtain ⟨arr, h1, h2⟩ := h
  exact ⟨arr, hb.trans h1, h2⟩
theorem RowAt.lt {W : World} {g N : Nat} {t : TypeId} (h : RowAt W g N t) : g < W.heap.size := by
  obtain ⟨arr, h1, h2⟩ := h
  exact (Array.getElem?_eq_some_iff.1 h1).1
theorem RowAt.set {W : World} {g N : Nat} {t : TypeId} (h : RowAt W g N t) (o : Nat) (v : Value) : RowAt (W.setCell ⟨g, o, none⟩ v) g N t := by
  obtain ⟨arr, h1, h2⟩ := h
  refine ⟨arr.setIfInBounds o v, ?_, by simpa using h2⟩
  obtain ⟨h3, h4⟩ := Array.getElem?_eq_some_iff.1 h1
  simp [World.setCell, Array.getElem?_modify, h1]
theorem RowAt.new (W : World) (arr : Array Value) (t : TypeId) : RowAt (W.alloc (.cells arr t)) W.heap.size arr.size t := ⟨arr, World.alloc_heap_new W _, rfl⟩

theorem far {g a b : Nat} (h : a ≠ b) : (⟨g, a, none⟩ : Addr) ≠ ⟨g, b, none⟩ := fun e => h (by cases e; rfl)
theorem set_far {W : World} {g a b : Nat} (h : a ≠ b) (v : Value) : (W.setCell ⟨g, a, none⟩ v).cell? ⟨g, b, none⟩ = W.cell? ⟨g, b, none⟩ := World.cell?_setCell_other W _ _ v (far h)
theorem RowAt.put {W : World} {g N : Nat} {t : TypeId} (h : RowAt W g N t) {o : Nat} (ho : o < N) (v : Value) : (W.setCell ⟨g, o, none⟩ v).cell? ⟨g, o, none⟩ = some v := by
  obtain ⟨u, hu⟩ := h.cell ho
  exact World.cell?_setCell_same' W _ v (by rw [hu]; rfl)
theorem put4 {W : World} {g N : Nat} {t : TypeId} (hR : RowAt W g N t) (i : Nat) (hi : i * 4 + 3 < N) (y : XT) :
    RowAt ((((W.setCell ⟨g, i * 4, none⟩ (.int .i64 y.kind)).setCell ⟨g, i * 4 + 1, none⟩ (.int .i64 y.num)).setCell ⟨g, i * 4 + 2, none⟩ (.string y.name)).setCell ⟨g, i * 4 + 3, none⟩ (.slice y.base y.kids.length y.cap)) g N t ∧ Kept (fun k => k = g) W ((((W.setCell ⟨g, i * 4, none⟩ (.int .i64 y.kind)).setCell ⟨g, i * 4 + 1, none⟩ (.int .i64 y.num)).setCell ⟨g, i * 4 + 2, none⟩ (.string y.name)).setCell ⟨g, i * 4 + 3, none⟩ (.slice y.base y.kids.length y.cap)) ∧ Cells4 ((((W.setCell ⟨g, i * 4, none⟩ (.int .i64 y.kind)).setCell ⟨g, i * 4 + 1, none⟩ (.int .i64 y.num)).setCell ⟨g, i * 4 + 2, none⟩ (.string y.name)).setCell ⟨g, i * 4 + 3, none⟩ (.slice y.base y.kids.length y.cap)) g (0 + i * 4) y ∧
    ∀ (j : Nat) (x : XT), j ≠ i → Cells4 W g (0 + j * 4) x → Cells4 ((((W.setCell ⟨g, i * 4, none⟩ (.int .i64 y.kind)).setCell ⟨g, i * 4 + 1, none⟩ (.int .i64 y.num)).setCell ⟨g, i * 4 + 2, none⟩ (.string y.name)).setCell ⟨g, i * 4 + 3, none⟩ (.slice y.base y.kids.length y.cap)) g (0 + j * 4) x := by
  have h0 := hR.set (i * 4) (.int .i64 y.kind)
  have h1 := h0.set (i * 4 + 1) (.int .i64 y.num)
  have h2 := h1.set (i * 4 + 2) (.string y.name)
  have h3 := h2.set (i * 4 + 3) (.slice y.base y.kids.length y.cap)
  refine ⟨h3, ((((Kept.refl (fun k => k = g) W).setCell (p := ⟨g, i * 4, none⟩) rfl _).setCell (p := ⟨g, i * 4 + 1, none⟩) rfl _).setCell (p := ⟨g, i * 4 + 2, none⟩) rfl _).setCell (p := ⟨g, i * 4 + 3, none⟩) rfl _, ?_, ?_⟩
  · rw [Nat.zero_add]
    refine ⟨?_, ?_, ?_, ?_⟩
    · rw [set_far (by omega), set_far (by omega), set_far (by omega)]
      exact hR.put (by omega) _
    · rw [set_far (by omega), set_far (by omega)]
      exact h0.put (by omega) _
    · rw [set_far (by omega)]
      exact h1.put (by omega) _
    · exact h2.put (by omega) _
  · intro j x hj hc
    rw [Nat.zero_add] at hc ⊢
    refine ⟨?_, ?_, ?_, ?_⟩
    · rw [set_far (by omega), set_far (by omega), set_far (by omega), set_far (by omega)]; exact hc.c0
    · rw [set_far (by omega), set_far (by omega), set_far (by omega), set_far (by omega)]; exact hc.c1
    · rw [set_far (by omega), set_far (by omega), set_far (by omega), set_far (by omega)]; exact hc.c2
    · rw [set_far (by omega), set_far (by omega), set_far (by omega), set_far (by omega)]; exact hc.c3

theorem infoE : (Try.prog.info? 48).map (fun i => (i.zero, i.size, i.bytes)) = some (some (.agg #[.int .i64 0, .int .i64 0, .string ByteArray.empty, .slice none 0 0]), 4, 56) := by kernel_rfl
set_option maxHeartbeats 2000000 in
theorem toS (ks : List XT) (a : Option Addr) (c : Nat) (ok : Nat → Prop) (w : World) (hok : ∀ b, ok b → b < w.heap.size) (hcl : ∀ (i : Nat) (k : XT), ks[i]? = some k → ∃ b o, a = some ⟨b, o, none⟩ ∧ ok b ∧ Cells4 w b (o + i * 4) k) (hlen : ks.length ≤ 1048577)
    (H : ∀ (i : Nat) (k : XT), ks[i]? = some k → ∀ (w' : World), Below w.heap.size w w' →
      Calls Try.prog 46 #[k.val] w' fun e w'' => ∃ k' : XT, e = .returned k'.val ∧ Same k k' ∧ Lies (fun b => w'.heap.size ≤ b ∧ Pl w'' b) w'' k' ∧ Below w'.heap.size w' w'') :
    Calls Try.prog 62 #[.slice a ks.length c] w fun e w' => ∃ us : List XT, e = .returned (.slice (some ⟨w.heap.size, 0, none⟩) ks.length ks.length) ∧ us.length = ks.length ∧
      (∀ (i : Nat) (x y : XT), ks[i]? = some x → us[i]? = some y → Same x y ∧ Cells4 w' w.heap.size (0 + i * 4) y ∧ Lies (fun b => w.heap.size ≤ b ∧ Pl w' b) w' y) ∧ Pl w' w.heap.size ∧ Below w.heap.size w w' := by
  obtain ⟨len, hl⟩ : ∃ len, ks.length = len := ⟨_, rfl⟩
  rw [hl] at hlen ⊢
  obtain ⟨i0, hi, hz0, hz1, hz2⟩ := info_parts infoE
  have hmk : ∀ w : World, (Instr.makeSlice 46 (.int .i64 (len : Int)) (.int .i64 (len : Int))).run Try.prog w = .ok (.slice (some ⟨w.heap.size, 0, none⟩) len len) (w.alloc (.cells (madeCells (Value.cells (.agg #[.int .i64 0, .int .i64 0, .string ByteArray.empty, .slice none 0 0])) (len * 4)) 48)) := by
    intro w
    have h := run_make w 46 48 i0 _ Try.underlying46 hi hz0 .i64 .i64 len len (by omega) (by omega) (by rw [hz2]; omega) (by omega)
    simp only [Int.toNat_natCast, hz1] at h
    exact h
  obtain ⟨W1, hW1⟩ : ∃ W1, w.alloc (.cells (madeCells (Value.cells (.agg #[.int .i64 0, .int .i64 0, .string ByteArray.empty, .slice none 0 0])) (len * 4)) 48) = W1 := ⟨_, rfl⟩
  have hR1 : RowAt W1 w.heap.size (len * 4) 48 := by
    have h := RowAt.new w (madeCells (Value.cells (.agg #[.int .i64 0, .int .i64 0, .string ByteArray.empty, .slice none 0 0])) (len * 4)) 48
    rw [hW1, size_madeCells] at h
    exact h
  have hB1 : Below w.heap.size w W1 := by rw [← hW1]; exact (Below.refl _ w).alloc (Nat.le_refl _) _
  have hmk' := hmk w
  rw [hW1] at hmk'
  clear hmk
  go_enter Try.func62, Try.ntmps62
  go_wp2
  go_loopw [4] (fun v4 wr => ∃ (i : Nat) (us : List XT), v4 = .int .i64 i ∧ i ≤ len ∧ us.length = i ∧ Below w.heap.size w wr ∧ RowAt wr w.heap.size (len * 4) 48 ∧
      (∀ (j : Nat) (x y : XT), ks[j]? = some x → us[j]? = some y → Same x y ∧ Cells4 wr w.heap.size (0 + j * 4) y ∧ Lies (fun b => w.heap.size < b ∧ Pl wr b) wr y)) (fun v4 _ => len - (intOf v4).toNat)
  case atStart => exact ⟨0, [], rfl, by omega, rfl, hB1, hR1, fun j x y _ h => by simp at h⟩
  case round =>
    obtain ⟨i, us, rfl, hi, hus, hB, hR, hS⟩ := hrel
    by_cases hlt : i < len
    · obtain ⟨x, hx⟩ : ∃ x, ks[i]? = some x := ⟨_, List.getElem?_eq_getElem (by omega)⟩
      obtain ⟨b1, o1, hbase1, hok1, hc1⟩ := hcl i x hx
      have hd1 := hc1.below hB (hok b1 hok1)
      have c0 := hd1.c0
      have c1 := hd1.c1
      have c2 := hd1.c2
      have c3 := hd1.c3
      have hcall := H i x hx wr hB
      subst hbase1
      go_wp2_with fail
      go_at_call 46
      refine hcall.mono ?_
      rintro e w4 ⟨y, rfl, hxy, hLy, hB4⟩
      have hR4 := hR.of_block (hB4.block _ hR.lt)
      obtain ⟨v0, r0⟩ := hR4.cell (o := i * 4) (by omega)
      obtain ⟨v1, r1⟩ := hR4.cell (o := i * 4 + 1) (by omega)
      obtain ⟨v2, r2⟩ := hR4.cell (o := i * 4 + 2) (by omega)
      obtain ⟨v3, r3⟩ := hR4.cell (o := i * 4 + 3) (by omega)
      have f0 := hR4.frozen (i * 4)
      have f1 := hR4.frozen (i * 4 + 1)
      have f2 := hR4.frozen (i * 4 + 2)
      have f3 := hR4.frozen (i * 4 + 3)
      obtain ⟨p1, p2, p3, p4⟩ := put4 hR4 i (by omega) y
      go_wp2
      have hg : w.heap.size < wr.heap.size := hR.lt
      refine ⟨⟨i + 1, us ++ [y], by go_num, by omega, by simp [hus], ?_, p1, ?_⟩, ?_⟩
      · exact (hB.trans (hB4.mono hB.size)).trans (p2.below (by have := hB4.size; omega) (fun k h => by omega))
      · intro j x' y' hx' hy'
        by_cases hj : j < i
        · rw [List.getElem?_append_left (by omega)] at hy'
          obtain ⟨q1, q2, q3⟩ := hS j x' y' hx' hy'
          refine ⟨q1, p4 j y' (by omega) (q2.below hB4 hg), ?_⟩
          have q4 := q3.plain (Kept.of_new (fun k => k = w.heap.size) hB4) (fun b hb => by omega)
          exact q4.plain p2 (fun b hb => by omega)
        · have hji : j = i := by
            have := (List.getElem?_eq_some_iff.1 hy').1
            simp [hus] at this
            omega
          subst hji
          rw [List.getElem?_append_right (by omega)] at hy'
          simp [hus] at hy'
          subst hy'
          rw [hx] at hx'
          cases hx'
          refine ⟨hxy, p3, ?_⟩
          have q4 := hLy.wider (Q := fun b => w.heap.size < b) (fun b hb => by omega)
          exact q4.plain p2 (fun b hb => by omega)
      · simp [intOf]
        omega
    · have he : i = len := by omega
      go_wp2
      go_returns
      refine ⟨us, rfl, by omega, ?_, hR.plain, hB⟩
      intro j x y hx hy
      obtain ⟨q1, q2, q3⟩ := hS j x y hx hy
      exact ⟨q1, q2, q3.wider (fun b hb => by omega)⟩
set_option maxHeartbeats 2000000 in
theorem to1 (sz : Nat) : ∀ (t : XT), sz ≤ 1048577 → t.size ≤ sz → ∀ (ok : Nat → Prop) (w : World), (∀ b, ok b → b < w.heap.size) → Lies ok w t →
    Calls Try.prog 46 #[t.val] w fun e w' => ∃ t' : XT, e = .returned t'.val ∧ Same t t' ∧ Lies (fun b => w.heap.size ≤ b ∧ Pl w' b) w' t' ∧ Below w.heap.size w w' := by
  induction sz with
  | zero => intro t _ h; rw [XT.size_eq] at h; omega
  | succ sz ih =>
  intro t hlim hsz ok w hok hL
  have hlt := t.length_le
  go_enter Try.func46, Try.ntmps46
  go_wp2_with fail
  obtain ⟨W1, hW1⟩ : ∃ W1, w.alloc (.cells #[.int .i64 t.kind, .int .i64 t.num, .string t.name, .slice t.base t.kids.length t.cap] 42) = W1 := ⟨_, rfl⟩
  obtain ⟨W2, hW2⟩ : ∃ W2, W1.alloc (.cells #[.int .i64 0, .int .i64 0, .string ⟨#[]⟩, .slice none 0 0] 48) = W2 := ⟨_, rfl⟩
  obtain ⟨W3, hW3⟩ : ∃ W3, W2.alloc (.cells #[.int .i64 t.kind, .int .i64 t.num, .string t.name, .slice none 0 0] 48) = W3 := ⟨_, rfl⟩
  rw [hW1, hW2, hW3]
  have s1 : W1.heap.size = w.heap.size + 1 := by rw [← hW1]; simp
  have s2 : W2.heap.size = w.heap.size + 2 := by rw [← hW2]; simp [s1]
  have s3 : W3.heap.size = w.heap.size + 3 := by rw [← hW3]; simp [s2]
  have hB3 : Below w.heap.size w W3 := by
    rw [← hW3, ← hW2, ← hW1]
    exact (((Below.refl _ w).alloc (Nat.le_refl _) _).alloc (by simp) _).alloc (by simp; omega) _
  have hRr : RowAt W3 (w.heap.size + 1) 4 48 := by
    have h := RowAt.new W1 #[.int .i64 0, .int .i64 0, .string ⟨#[]⟩, .slice none 0 0] 48
    rw [hW2, s1] at h
    rw [← hW3]
    exact h.of_block (Below.heap_alloc _ _ _ (by omega))
  have hRm : RowAt W3 (w.heap.size + 2) 4 48 := by
    have h := RowAt.new W2 #[.int .i64 t.kind, .int .i64 t.num, .string t.name, .slice none 0 0] 48
    rw [hW3, s2] at h
    exact h
  have m0 : W3.cell? ⟨w.heap.size + 2, 0, none⟩ = some (.int .i64 t.kind) := by rw [← hW3, ← s2]; exact World.cell?_alloc_new W2 _ _ 0
  have m1 : W3.cell? ⟨w.heap.size + 2, 1, none⟩ = some (.int .i64 t.num) := by rw [← hW3, ← s2]; exact World.cell?_alloc_new W2 _ _ 1
  have m2 : W3.cell? ⟨w.heap.size + 2, 2, none⟩ = some (.string t.name) := by rw [← hW3, ← s2]; exact World.cell?_alloc_new W2 _ _ 2
  have hL3 := hL.under hB3 hok
  have hok3 : ∀ b, ok b → b < W3.heap.size := fun b hb => Nat.lt_of_lt_of_le (hok b hb) hB3.size
  clear hW1 hW2 hW3
  refine (toS t.kids t.base t.cap ok W3 hok3 hL3.cells (by omega) (fun i k hk w' hBw => ih k (by omega) (by have h5 := XT.size_get hk; have h6 := t.size_eq; omega) ok w' (fun b hb => Nat.lt_of_lt_of_le (hok3 b hb) hBw.size) ((hL3.kid i k hk).under hBw hok3))).mono ?_
  rintro e w4 ⟨us, rfl, hul, hus, hpl, hB4⟩
  have hRr4 := hRr.of_block (hB4.block _ (by omega))
  have hRm4 := hRm.of_block (hB4.block _ (by omega))
  have n0 := below_cell hB4 m0 (by dsimp only; omega)
  have n1 := below_cell hB4 m1 (by dsimp only; omega)
  have n2 := below_cell hB4 m2 (by dsimp only; omega)
  obtain ⟨v3, n3⟩ := hRm4.cell (o := 3) (by omega)
  have g3 := hRm4.frozen 3
  obtain ⟨u0, q0⟩ := hRr4.cell (o := 0) (by omega)
  obtain ⟨u1, q1⟩ := hRr4.cell (o := 1) (by omega)
  obtain ⟨u2, q2⟩ := hRr4.cell (o := 2) (by omega)
  obtain ⟨u3, q3⟩ := hRr4.cell (o := 3) (by omega)
  have f0 := hRr4.frozen 0
  have f1 := hRr4.frozen 1
  have f2 := hRr4.frozen 2
  have f3 := hRr4.frozen 3
  go_wp2
  have hK5 : Kept (fun k => k = w.heap.size + 1 ∨ k = w.heap.size + 2) w4 (((((w4.setCell ⟨w.heap.size + 1 + 1, 3, none⟩ (.slice (some ⟨w.heap.size + 3, 0, none⟩) t.kids.length t.kids.length)).setCell ⟨w.heap.size + 1, 0, none⟩ (.int .i64 t.kind)).setCell ⟨w.heap.size + 1, 1, none⟩ (.int .i64 t.num)).setCell ⟨w.heap.size + 1, 2, none⟩ (.string t.name)).setCell ⟨w.heap.size + 1, 3, none⟩ (.slice (some ⟨w.heap.size + 3, 0, none⟩) t.kids.length t.kids.length)) :=
    (((((Kept.refl (fun k => k = w.heap.size + 1 ∨ k = w.heap.size + 2) w4).setCell (p := ⟨w.heap.size + 1 + 1, 3, none⟩) (.inr rfl) _).setCell (p := ⟨w.heap.size + 1, 0, none⟩) (.inl rfl) _).setCell (p := ⟨w.heap.size + 1, 1, none⟩) (.inl rfl) _).setCell (p := ⟨w.heap.size + 1, 2, none⟩) (.inl rfl) _).setCell (p := ⟨w.heap.size + 1, 3, none⟩) (.inl rfl) _
  first | go_returns | (refine bodyPost_ret (by simp [results, Try.results46, go_sem, *]; try rfl) rfl ?_)
  refine ⟨.mk t.kind t.num t.name (some ⟨w.heap.size + 3, 0, none⟩) t.kids.length us, ?_, ?_, ?_, ?_⟩
  · simp only [XT.val, XT.kind, XT.num, XT.name, XT.kids, XT.base, XT.cap, hul]
  · exact .mk _ _ rfl rfl rfl hul (fun i a b ha hb => (hus i a b ha hb).1)
  · have hget : ∀ (i : Nat) (y : XT), us[i]? = some y → ∃ x, t.kids[i]? = some x := fun i y hy => ⟨_, List.getElem?_eq_getElem (by have := (List.getElem?_eq_some_iff.1 hy).1; omega)⟩
    refine .mk _ (fun i y hy => ?_) (fun i y hy => ?_)
    · obtain ⟨x, hx⟩ := hget i y hy
      obtain ⟨z1, z2, z3⟩ := hus i x y hx hy
      rw [s3] at z2
      rw [s3] at hpl
      exact ⟨w.heap.size + 3, 0, rfl, ⟨by omega, hpl.kept hK5 (by omega)⟩, z2.kept hK5 (by omega)⟩
    · obtain ⟨x, hx⟩ := hget i y hy
      obtain ⟨z1, z2, z3⟩ := hus i x y hx hy
      have z4 := z3.plain hK5 (fun b hb => by omega)
      exact z4.wider (fun b hb => by omega)
  · exact (hB3.trans (hB4.mono (by omega))).trans (hK5.below (by have := hB4.size; omega) (fun k h => by omega))
end Go.Proofs.Ytimfdfeleoaehaa
