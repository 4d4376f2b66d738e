/-
  Instructions as they lie in memory, how much of a bound they leave, and that the same are told to be so.
-/
import Derived.Test.YtimfdfeleoaehaaFlatP
import Derived.Test.YtimfdfeleoaehaaStmtB
namespace Go.Proofs.Ytimfdfeleoaehaa
open Go.RowKit
set_option linter.unusedSimpArgs false
set_option linter.unusedVariables false

abbrev IX.val (x : IX) : Value := .agg #[.int .i64 x.op, .int .i64 x.s.kind, .string x.s.name, .int .i64 x.s.e.kind, .int .i64 x.s.e.num, .string x.s.e.name, .slice x.s.e.base x.s.e.kids.length x.s.e.cap, .int .i64 x.s.f.kind, .int .i64 x.s.f.num, .string x.s.f.name, .slice x.s.f.base x.s.f.kids.length x.s.f.cap, .slice x.s.abase x.s.la.length x.s.acap, .slice x.s.bbase x.s.lb.length x.s.bcap, .int .i64 x.dst]
structure Cells14 (W : World) (b o : Nat) (x : IX) : Prop where
  c0 : W.cell? ⟨b, o, none⟩ = some (.int .i64 x.op)
  c1 : W.cell? ⟨b, o + 1, none⟩ = some (.int .i64 x.s.kind)
  c2 : W.cell? ⟨b, o + 2, none⟩ = some (.string x.s.name)
  c3 : W.cell? ⟨b, o + 3, none⟩ = some (.int .i64 x.s.e.kind)
  c4 : W.cell? ⟨b, o + 4, none⟩ = some (.int .i64 x.s.e.num)
  c5 : W.cell? ⟨b, o + 5, none⟩ = some (.string x.s.e.name)
  c6 : W.cell? ⟨b, o + 6, none⟩ = some (.slice x.s.e.base x.s.e.kids.length x.s.e.cap)
  c7 : W.cell? ⟨b, o + 7, none⟩ = some (.int .i64 x.s.f.kind)
  c8 : W.cell? ⟨b, o + 8, none⟩ = some (.int .i64 x.s.f.num)
  c9 : W.cell? ⟨b, o + 9, none⟩ = some (.string x.s.f.name)
  c10 : W.cell? ⟨b, o + 10, none⟩ = some (.slice x.s.f.base x.s.f.kids.length x.s.f.cap)
  c11 : W.cell? ⟨b, o + 11, none⟩ = some (.slice x.s.abase x.s.la.length x.s.acap)
  c12 : W.cell? ⟨b, o + 12, none⟩ = some (.slice x.s.bbase x.s.lb.length x.s.bcap)
  c13 : W.cell? ⟨b, o + 13, none⟩ = some (.int .i64 x.dst)
theorem Cells14.lt {W : World} {b o : Nat} {x : IX} (h : Cells14 W b o x) : b < W.heap.size := World.block_lt_of_cell? W _ h.c0
theorem Cells14.of_block {A B : World} {b o : Nat} {x : IX} (h : Cells14 A b o x) (hb : B.heap[b]? = A.heap[b]?) : Cells14 B b o x :=
  ⟨(cell_of_block (a := ⟨b, _, none⟩) hb).trans h.c0, (cell_of_block (a := ⟨b, _, none⟩) hb).trans h.c1, (cell_of_block (a := ⟨b, _, none⟩) hb).trans h.c2, (cell_of_block (a := ⟨b, _, none⟩) hb).trans h.c3, (cell_of_block (a := ⟨b, _, none⟩) hb).trans h.c4, (cell_of_block (a := ⟨b, _, none⟩) hb).trans h.c5, (cell_of_block (a := ⟨b, _, none⟩) hb).trans h.c6, (cell_of_block (a := ⟨b, _, none⟩) hb).trans h.c7, (cell_of_block (a := ⟨b, _, none⟩) hb).trans h.c8, (cell_of_block (a := ⟨b, _, none⟩) hb).trans h.c9, (cell_of_block (a := ⟨b, _, none⟩) hb).trans h.c10, (cell_of_block (a := ⟨b, _, none⟩) hb).trans h.c11, (cell_of_block (a := ⟨b, _, none⟩) hb).trans h.c12, (cell_of_block (a := ⟨b, _, none⟩) hb).trans h.c13⟩
theorem Cells14.below {n : Nat} {A B : World} {b o : Nat} {x : IX} (h : Cells14 A b o x) (hk : Below n A B) (hs : b < n) : Cells14 B b o x := h.of_block (hk.block b hs)
theorem Cells14.kept {S : Nat → Prop} {A B : World} {b o : Nat} {x : IX} (h : Cells14 A b o x) (hk : Kept S A B) (hs : ¬ S b) : Cells14 B b o x := h.of_block (hk.block b h.lt hs)
theorem Cells14.new (W : World) (x : IX) (T : TypeId) : Cells14 (W.alloc (.cells #[.int .i64 x.op, .int .i64 x.s.kind, .string x.s.name, .int .i64 x.s.e.kind, .int .i64 x.s.e.num, .string x.s.e.name, .slice x.s.e.base x.s.e.kids.length x.s.e.cap, .int .i64 x.s.f.kind, .int .i64 x.s.f.num, .string x.s.f.name, .slice x.s.f.base x.s.f.kids.length x.s.f.cap, .slice x.s.abase x.s.la.length x.s.acap, .slice x.s.bbase x.s.lb.length x.s.bcap, .int .i64 x.dst] T)) W.heap.size 0 x := by
  refine ⟨?_, ?_, ?_, ?_, ?_, ?_, ?_, ?_, ?_, ?_, ?_, ?_, ?_, ?_⟩
  · exact World.cell?_alloc_new W _ _ 0
  · exact World.cell?_alloc_new W _ _ 1
  · exact World.cell?_alloc_new W _ _ 2
  · exact World.cell?_alloc_new W _ _ 3
  · exact World.cell?_alloc_new W _ _ 4
  · exact World.cell?_alloc_new W _ _ 5
  · exact World.cell?_alloc_new W _ _ 6
  · exact World.cell?_alloc_new W _ _ 7
  · exact World.cell?_alloc_new W _ _ 8
  · exact World.cell?_alloc_new W _ _ 9
  · exact World.cell?_alloc_new W _ _ 10
  · exact World.cell?_alloc_new W _ _ 11
  · exact World.cell?_alloc_new W _ _ 12
  · exact World.cell?_alloc_new W _ _ 13
def IX.Row (ok : Nat → Prop) (W : World) (base : Option Addr) (l : List IX) : Prop := ∀ (i : Nat) (k : IX), l[i]? = some k → ∃ b o, base = some ⟨b, o, none⟩ ∧ ok b ∧ Cells14 W b (o + i * 14) k
theorem IX.Row.mono {ok ok' : Nat → Prop} {A B : World} {base : Option Addr} {l : List IX} (h : IX.Row ok A base l) (hb : ∀ b, ok b → b < A.heap.size → ok' b ∧ B.heap[b]? = A.heap[b]?) : IX.Row ok' B base l := by
  intro i k hk
  obtain ⟨b, o, h1, h2, h3⟩ := h i k hk
  obtain ⟨h4, h5⟩ := hb b h2 h3.lt
  exact ⟨b, o, h1, h4, h3.of_block h5⟩
theorem IX.Row.under {ok : Nat → Prop} {n : Nat} {A B : World} {base : Option Addr} {l : List IX} (h : IX.Row ok A base l) (hk : Below n A B) (hs : ∀ b, ok b → b < n) : IX.Row ok B base l := h.mono fun b ho hb => ⟨ho, hk.block b (hs b ho)⟩
theorem IX.Row.kept {S ok : Nat → Prop} {A B : World} {base : Option Addr} {l : List IX} (h : IX.Row ok A base l) (hk : Kept S A B) (hs : ∀ b, ok b → ¬ S b) : IX.Row ok B base l := h.mono fun b ho hb => ⟨ho, hk.block b hb (hs b ho)⟩
def sumI : List IX → Nat
  | [] => 0
  | t :: ts => t.s.tot + sumI ts
theorem sumI_append (us bs : List IX) : sumI (us ++ bs) = sumI us + sumI bs := by
  induction us with
  | nil => simp [sumI]
  | cons u us ih => simp only [List.cons_append, sumI, ih]; omega
theorem sumI_take {ks : List IX} {i : Nat} {t : IX} (h : ks[i]? = some t) : sumI (ks.take (i + 1)) = sumI (ks.take i) + t.s.tot := by
  have hlt := (List.getElem?_eq_some_iff.1 h).1
  rw [List.take_add_one, h, Option.toList_some, sumI_append]
  simp [sumI]
theorem sumI_le (ks : List IX) (i : Nat) : sumI (ks.take i) ≤ sumI ks := by
  have h := sumI_append (ks.take i) (ks.drop i)
  rw [List.take_append_drop] at h
  omega
theorem sumI_get {ks : List IX} {i : Nat} {t : IX} (h : ks[i]? = some t) : t.s.tot ≤ sumI ks := by
  have h1 := sumI_take h
  have h2 := sumI_le ks (i + 1)
  omega
set_option maxRecDepth 10000 in
set_option maxHeartbeats 2000000 in
theorem IX.sz (x : IX) (hW : WideS x.s) (ok : Nat → Prop) (w : World) (hok : ∀ b, ok b → b < w.heap.size) (hL : LiesS ok w x.s) (left : Int) (h0 : 0 ≤ left) (h1 : left ≤ 1048576) :
    Calls Try.prog 38 #[x.val, .int .i64 left] w fun e w' => e = .returned (.int .i64 (subI left x.s.tot)) ∧ Below w.heap.size w w' := by
  have hcall : ∀ W, Below w.heap.size w W → Calls Try.prog 21 #[x.s.val, .int .i64 left] W fun e w' => e = .returned (.int .i64 (subI left x.s.tot)) ∧ Below W.heap.size W w' := fun W hB =>
    szS1 _ x.s (Nat.le_refl _) hW ok W (fun b hb => Nat.lt_of_lt_of_le (hok b hb) hB.size) (hL.under hB hok) left h0 h1
  obtain ⟨W1, hW1⟩ : ∃ W1, w.alloc (.cells #[.int .i64 x.op, .int .i64 x.s.kind, .string x.s.name, .int .i64 x.s.e.kind, .int .i64 x.s.e.num, .string x.s.e.name, .slice x.s.e.base x.s.e.kids.length x.s.e.cap, .int .i64 x.s.f.kind, .int .i64 x.s.f.num, .string x.s.f.name, .slice x.s.f.base x.s.f.kids.length x.s.f.cap, .slice x.s.abase x.s.la.length x.s.acap, .slice x.s.bbase x.s.lb.length x.s.bcap, .int .i64 x.dst] 75) = W1 := ⟨_, rfl⟩
  have hB1 : Below w.heap.size w W1 := by rw [← hW1]; exact (Below.refl _ w).alloc (Nat.le_refl _) _
  have hC1 : Cells14 W1 w.heap.size 0 x := by rw [← hW1]; exact Cells14.new w x _
  have hc := hcall W1 hB1
  clear hcall hL
  obtain ⟨c0, c1, c2, c3, c4, c5, c6, c7, c8, c9, c10, c11, c12, c13⟩ := hC1
  go_enter Try.func38, Try.ntmps38
  by_cases hk : (x.s.tot : Int) ≤ left
  · rw [subI_yes hk] at hc
    go_wp2_with fail
    go_at_call 21
    refine hc.mono ?_
    clear hc
    rintro e w2 ⟨rfl, hb2⟩
    go_wp2
    all_goals first | (exfalso; omega) | skip
    go_returns
    exact ⟨ret_int (by rw [subI_yes hk]), hB1.trans (hb2.mono hB1.size)⟩
  · rw [subI_no (by omega)] at hc
    go_wp2_with fail
    go_at_call 21
    refine hc.mono ?_
    clear hc
    rintro e w2 ⟨rfl, hb2⟩
    go_wp2
    go_returns
    exact ⟨ret_int (by rw [subI_no (by omega)]), hB1.trans (hb2.mono hB1.size)⟩
set_option maxHeartbeats 2000000 in
theorem IX.szs (ks : List IX) (a : Option Addr) (c : Nat) (ok : Nat → Prop) (w : World) (hok : ∀ b, ok b → b < w.heap.size) (hcl : IX.Row ok w a ks) (hlen : ks.length ≤ maxLen) (hW : ∀ (i : Nat) (k : IX), ks[i]? = some k → WideS k.s ∧ LiesS ok w k.s)
    (left : Int) (h0 : 0 ≤ left) (h1 : left ≤ 1048576) :
    Calls Try.prog 15 #[.slice a ks.length c, .int .i64 left] w fun e w' => e = .returned (.int .i64 (subI left (ks.length + sumI ks))) ∧ Below w.heap.size w w' := by
  have H : ∀ (i : Nat) (k : IX), ks[i]? = some k → ∀ (left : Int) (w' : World), 0 ≤ left → left ≤ 1048576 → Below w.heap.size w w' →
      Calls Try.prog 38 #[k.val, .int .i64 left] w' fun e w'' => e = .returned (.int .i64 (subI left k.s.tot)) ∧ Below w'.heap.size w' w'' := fun i k hk l W g0 g1 hB =>
    IX.sz k (hW i k hk).1 ok W (fun b hb => Nat.lt_of_lt_of_le (hok b hb) hB.size) ((hW i k hk).2.under hB hok) l g0 g1
  clear hW
  unfold maxLen at hlen
  obtain ⟨len, hl⟩ : ∃ len, ks.length = len := ⟨_, rfl⟩
  rw [hl] at hlen ⊢
  go_enter Try.func15, Try.ntmps15
  by_cases hs : left < len
  · go_wp2
    all_goals
      first
        | (exfalso; omega)
        | (go_returns; exact ⟨ret_int (subI_no (by omega)).symm, Below.refl _ _⟩)
        | skip
  · go_wp2
    go_loopw [1, 5] (fun v1 v5 wr => ∃ (i : Nat) (l : Int), v5 = .int .i64 i ∧ v1 = .int .i64 l ∧ i ≤ len ∧ 0 ≤ l ∧ l + len + sumI (ks.take i) = left ∧ Below w.heap.size w wr) (fun _ v5 _ => len - (intOf v5).toNat)
    case atStart => exact ⟨0, left - len, rfl, rfl, by omega, by omega, by simp [sumI], Below.refl _ _⟩
    case round =>
      obtain ⟨i, l, rfl, rfl, hi, hl0, hle, hB⟩ := hrel
      by_cases hlt : i < len
      · obtain ⟨kid, hkid⟩ : ∃ kid, ks[i]? = some kid := ⟨_, List.getElem?_eq_getElem (by omega)⟩
        obtain ⟨bb, o, hbase, hokb, hc⟩ := hcl i kid hkid
        obtain ⟨c0, c1, c2, c3, c4, c5, c6, c7, c8, c9, c10, c11, c12, c13⟩ := hc.below hB (hok bb hokb)
        have hcall := H i kid hkid l wr hl0 (by omega) hB
        have htk := sumI_take hkid
        have htl := sumI_le ks (i + 1)
        subst hbase
        by_cases hk : (kid.s.tot : Int) ≤ l
        · rw [subI_yes hk] at hcall
          go_wp2_with (go_at_call 38; refine hcall.mono ?_; rintro e w4 ⟨rfl, hB4⟩)
          all_goals
            first
              | (exfalso; omega)
              | skip
          refine ⟨⟨i + 1, l - kid.s.tot, by go_num, rfl, by omega, by omega, by omega, hB.trans (hB4.mono hB.size)⟩, ?_⟩
          simp [intOf]
          omega
        · rw [subI_no (by omega)] at hcall
          go_wp2_with (go_at_call 38; refine hcall.mono ?_; rintro e w4 ⟨rfl, hB4⟩)
          go_returns
          exact ⟨ret_int (subI_no (by omega)).symm, hB.trans (hB4.mono hB.size)⟩
      · have he : i = len := by omega
        have hall : ks.take i = ks := List.take_of_length_le (by omega)
        rw [hall] at hle
        go_wp2
        go_returns
        exact ⟨ret_int (by rw [subI_yes (by omega)]; omega), hB⟩
structure IX.Same (t u : IX) : Prop where
  op : u.op = t.op
  s : SameS t.s u.s
  dst : u.dst = t.dst
set_option maxRecDepth 10000 in
set_option maxHeartbeats 2000000 in
theorem IX.eq (t u : IX) (hm : SmallS t.s) (hS : IX.Same t u) (ok : Nat → Prop) (w : World) (hok : ∀ b, ok b → b < w.heap.size) (hL : LiesS ok w t.s) (hU : LiesS ok w u.s) :
    Calls Try.prog 32 #[t.val, u.val] w fun e w' => e = .returned (.bool true) ∧ Below w.heap.size w w' := by
  have hcall : ∀ W, Below w.heap.size w W → Calls Try.prog 33 #[t.s.val, u.s.val] W fun e w' => e = .returned (.bool true) ∧ Below W.heap.size W w' := fun W hB =>
    eqS1 _ t.s u.s (Nat.le_refl _) hm hS.s ok W (fun b hb => Nat.lt_of_lt_of_le (hok b hb) hB.size) (hL.under hB hok) (hU.under hB hok)
  have hp := hS.op
  have hq := hS.dst
  clear hS hm hL hU
  obtain ⟨W1, hW1⟩ : ∃ W1, w.alloc (.cells #[.int .i64 t.op, .int .i64 t.s.kind, .string t.s.name, .int .i64 t.s.e.kind, .int .i64 t.s.e.num, .string t.s.e.name, .slice t.s.e.base t.s.e.kids.length t.s.e.cap, .int .i64 t.s.f.kind, .int .i64 t.s.f.num, .string t.s.f.name, .slice t.s.f.base t.s.f.kids.length t.s.f.cap, .slice t.s.abase t.s.la.length t.s.acap, .slice t.s.bbase t.s.lb.length t.s.bcap, .int .i64 t.dst] 52) = W1 := ⟨_, rfl⟩
  obtain ⟨W2, hW2⟩ : ∃ W2, W1.alloc (.cells #[.int .i64 u.op, .int .i64 u.s.kind, .string u.s.name, .int .i64 u.s.e.kind, .int .i64 u.s.e.num, .string u.s.e.name, .slice u.s.e.base u.s.e.kids.length u.s.e.cap, .int .i64 u.s.f.kind, .int .i64 u.s.f.num, .string u.s.f.name, .slice u.s.f.base u.s.f.kids.length u.s.f.cap, .slice u.s.abase u.s.la.length u.s.acap, .slice u.s.bbase u.s.lb.length u.s.bcap, .int .i64 u.dst] 52) = W2 := ⟨_, rfl⟩
  have hs1 : w.heap.size + 1 = W1.heap.size := by rw [← hW1]; simp
  have hs2 : W1.heap.size + 1 = W2.heap.size := by rw [← hW2]; simp
  have hB1 : Below w.heap.size w W1 := by rw [← hW1]; exact (Below.refl _ w).alloc (Nat.le_refl _) _
  have hB2 : Below w.heap.size w W2 := by rw [← hW2]; exact hB1.alloc (by omega) _
  have hC : Cells14 W2 w.heap.size 0 t := by
    have h := Cells14.new w t 52
    rw [hW1] at h
    rw [← hW2]
    exact h.below (n := W1.heap.size) ((Below.refl _ _).alloc (Nat.le_refl _) _) (by omega)
  have hD : Cells14 W2 W1.heap.size 0 u := by rw [← hW2]; exact Cells14.new W1 u _
  have hc := hcall W2 hB2
  clear hcall
  go_enter Try.func32, Try.ntmps32
  obtain ⟨c0, c1, c2, c3, c4, c5, c6, c7, c8, c9, c10, c11, c12, c13⟩ := hC
  obtain ⟨d0, d1, d2, d3, d4, d5, d6, d7, d8, d9, d10, d11, d12, d13⟩ := hD
  rw [hp] at d0
  rw [hq] at d13
  have k13 := c13
  have k13' := d13
  clear hp hq
  go_wp2_with fail
  go_at_call 33
  refine hc.mono ?_
  clear hc
  rintro e x1 ⟨rfl, hb1⟩
  have m13 := below_cell hb1 k13 (by dsimp only; omega)
  have m13' := below_cell hb1 k13' (by dsimp only; omega)
  clear c0 c1 c2 c3 c4 c5 c6 c7 c8 c9 c10 c11 c12 c13 d0 d1 d2 d3 d4 d5 d6 d7 d8 d9 d10 d11 d12 d13 k13 k13'
  go_wp2
  go_returns
  exact ⟨rfl, hB2.trans (hb1.mono hB2.size)⟩
set_option maxHeartbeats 2000000 in
theorem IX.eqs (ks us : List IX) (a a' : Option Addr) (c c' : Nat) (ok : Nat → Prop) (w : World) (hok : ∀ b, ok b → b < w.heap.size)
    (hcl : IX.Row ok w a ks) (hcl' : IX.Row ok w a' us) (hlen : ks.length ≤ 1099511627776) (hlen' : us.length = ks.length)
    (hL : ∀ (i : Nat) (k : IX), ks[i]? = some k → SmallS k.s ∧ LiesS ok w k.s) (hU : ∀ (i : Nat) (k : IX), us[i]? = some k → LiesS ok w k.s) (hS : ∀ (i : Nat) (x y : IX), ks[i]? = some x → us[i]? = some y → IX.Same x y) :
    Calls Try.prog 10 #[.slice a ks.length c, .slice a' us.length c'] w fun e w' => e = .returned (.bool true) ∧ Below w.heap.size w w' := by
  have H : ∀ (i : Nat) (x y : IX), ks[i]? = some x → us[i]? = some y → ∀ (w' : World), Below w.heap.size w w' →
      Calls Try.prog 32 #[x.val, y.val] w' fun e w'' => e = .returned (.bool true) ∧ Below w'.heap.size w' w'' := fun i x y hx hy W hB =>
    IX.eq x y (hL i x hx).1 (hS i x y hx hy) ok W (fun b hb => Nat.lt_of_lt_of_le (hok b hb) hB.size) ((hL i x hx).2.under hB hok) ((hU i y hy).under hB hok)
  clear hL hU hS
  obtain ⟨len, hl⟩ : ∃ len, ks.length = len := ⟨_, rfl⟩
  rw [hlen', hl]
  rw [hl] at hlen
  go_enter Try.func10, Try.ntmps10
  go_wp2
  go_loopw [5] (fun v5 wr => ∃ (i : Nat), v5 = .int .i64 i ∧ i ≤ len ∧ Below w.heap.size w wr) (fun v5 _ => len - (intOf v5).toNat)
  case atStart => exact ⟨0, rfl, by omega, Below.refl _ _⟩
  case round =>
    obtain ⟨i, rfl, hi, hB⟩ := hrel
    by_cases hlt : i < len
    · obtain ⟨x, hx⟩ : ∃ x, ks[i]? = some x := ⟨_, List.getElem?_eq_getElem (by omega)⟩
      obtain ⟨y, hy⟩ : ∃ y, us[i]? = some y := ⟨_, List.getElem?_eq_getElem (by omega)⟩
      obtain ⟨b1, o1, hbase1, hok1, hc1⟩ := hcl i x hx
      obtain ⟨b2, o2, hbase2, hok2, hc2⟩ := hcl' i y hy
      have hd1 := hc1.below hB (hok b1 hok1)
      have hd2 := hc2.below hB (hok b2 hok2)
      have H' := H i x y hx hy
      subst hbase1
      subst hbase2
      haveI : Nonempty (Later wr) := ⟨⟨wr, Below.refl _ _⟩⟩
      have e0 := Later.cell hd1.c0
      have e1 := Later.cell hd1.c1
      have e2 := Later.cell hd1.c2
      have e3 := Later.cell hd1.c3
      have e4 := Later.cell hd1.c4
      have e5 := Later.cell hd1.c5
      have e6 := Later.cell hd1.c6
      have e7 := Later.cell hd1.c7
      have e8 := Later.cell hd1.c8
      have e9 := Later.cell hd1.c9
      have e10 := Later.cell hd1.c10
      have e11 := Later.cell hd1.c11
      have e12 := Later.cell hd1.c12
      have e13 := Later.cell hd1.c13
      have g0 := Later.cell hd2.c0
      have g1 := Later.cell hd2.c1
      have g2 := Later.cell hd2.c2
      have g3 := Later.cell hd2.c3
      have g4 := Later.cell hd2.c4
      have g5 := Later.cell hd2.c5
      have g6 := Later.cell hd2.c6
      have g7 := Later.cell hd2.c7
      have g8 := Later.cell hd2.c8
      have g9 := Later.cell hd2.c9
      have g10 := Later.cell hd2.c10
      have g11 := Later.cell hd2.c11
      have g12 := Later.cell hd2.c12
      have g13 := Later.cell hd2.c13
      go_wp2_with fail
      refine region_class (fun w' => ∃ z : Later wr, w' = z.at) (by kernel_rfl) (by kernel_rfl) ⟨⟨_, (Below.refl _ _).drew⟩, rfl⟩ ?_
      repeat (go_big_quiet_step ((go_at_call 32; refine (H' _ (hB.trans ((Later.below _).mono hB.size))).mono ?_; rintro e w2 ⟨rfl, hb⟩; exact ⟨rfl, ⟨_, bstep (Later.below _) hb⟩, rfl⟩)))
      refine wpQuiet_nil ?_
      rintro w' ⟨z, rfl⟩
      go_wp2
      go_roundw
      case rel => exact ⟨i + 1, by go_num, by omega, hB.trans ((Later.below z).mono hB.size)⟩
      case measure => simp [intOf]; omega
    · go_wp2
      go_returns
      exact ⟨rfl, hB⟩
end Go.Proofs.Ytimfdfeleoaehaa
