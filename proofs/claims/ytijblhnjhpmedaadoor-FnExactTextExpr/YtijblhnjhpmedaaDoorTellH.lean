/-
  What the program's TextExpr answers: the text of an expression; how an expression of the laws' own type is read, with the bounds of its numbers.
-/
import Derived.Test.YtijblhnjhpmedaaDoorTellG
import Derived.Test.YtijblhnjhpmedaaDoorTreeJ
import Derived.DataShut
namespace Go.Proofs.YtijblhnjhpmedaaDoor
open Go.RowKit Go.Shelf
set_option linter.unusedSimpArgs false
set_option linter.unusedVariables false
attribute [local go_sem] Oper.semAt_some

theorem wf64 {n : Int} (h : (Lit.int .i64 n).wf = true) : -9223372036854775808 ≤ n ∧ n ≤ 9223372036854775807 := (Lit.wf_int_iff .i64 n).1 h
set_option maxRecDepth 100000 in
theorem readEN {H : Type} {enc : TypeId × Value → H} {W : World} {base : Nat} {spare : Nat → Bool} {held : Bool} (fuel : Nat) : ∀ (cs : List Value) (x : DataW H × List MemPlace),
    DataW.trod enc Tryd.prog W base spare held fuel 24 cs = some x → ∃ t : XT, cs = [.int .i64 t.kind, .int .i64 t.num, .string t.name, .slice t.base t.kids.length t.cap] ∧ Wide t ∧ Lies (fun b => b < W.heap.size) W t ∧ Nums t := by
  induction fuel using Nat.strongRecOn with
  | _ fuel ih =>
  intro cs x h
  obtain ⟨xs, n, rfl, -, hl, hlen, hf⟩ := DataW.trod_struct Tryd.underlying24 h
  rw [cellsTL] at hl
  obtain ⟨c0, c1, c2, c3, rfl⟩ : ∃ c0 c1 c2 c3, cs = [c0, c1, c2, c3] := by
    match cs, hl with
    | [c0, c1, c2, c3], _ => exact ⟨c0, c1, c2, c3, rfl⟩
  obtain ⟨y0, y1, y2, y3, rfl⟩ : ∃ y0 y1 y2 y3, xs = [y0, y1, y2, y3] := by
    match xs, hlen with
    | [y0, y1, y2, y3], _ => exact ⟨y0, y1, y2, y3, rfl⟩
  have g0 : DataW.trod enc Tryd.prog W base spare held n 3 (List.take (Tryd.prog.cellsOf 3) (List.drop 0 [c0, c1, c2, c3])) = some y0 := hf 0 _ rfl
  have g1 : DataW.trod enc Tryd.prog W base spare held n 3 (List.take (Tryd.prog.cellsOf 3) (List.drop 1 [c0, c1, c2, c3])) = some y1 := hf 1 _ rfl
  have g2 : DataW.trod enc Tryd.prog W base spare held n 9 (List.take (Tryd.prog.cellsOf 9) (List.drop 2 [c0, c1, c2, c3])) = some y2 := hf 2 _ rfl
  have g3 : DataW.trod enc Tryd.prog W base spare held n 22 (List.take (Tryd.prog.cellsOf 22) (List.drop 3 [c0, c1, c2, c3])) = some y3 := hf 3 _ rfl
  simp only [cellsInt, cellsStr, cellsTLS, List.drop_zero, List.drop_succ_cons, List.take_succ_cons, List.take_zero, List.getElem?_cons_zero, List.getElem?_cons_succ] at g0 g1 g2 g3
  obtain ⟨k, e0, -, -⟩ := DataW.trod_int Tryd.underlying3 g0
  obtain ⟨m, e1, -, hm⟩ := DataW.trod_int Tryd.underlying3 g1
  have hmb := wf64 hm
  obtain ⟨s, e2, -, hs⟩ := DataW.trod_string Tryd.underlying9 g2
  simp only [List.cons.injEq, and_true] at e0 e1 e2
  subst e0 e1 e2
  rcases DataW.trod_slice Tryd.underlying22 g3 with ⟨e3, -⟩ | ⟨a, len, cap, elems, rest, n', rfl, e3, -, hb, hlc, hcm, hel, hget, -, -⟩
  · simp only [List.cons.injEq, and_true] at e3
    subst e3
    exact ⟨.mk k m s none 0 [], rfl, .mk _ hs (Nat.zero_le _) (fun i q hq => by simp [XT.kids] at hq), .mk _ (fun i q hq => by simp [XT.kids] at hq) (fun i q hq => by simp [XT.kids] at hq), .mk _ hmb (fun i q hq => by simp [XT.kids] at hq)⟩
  · simp only [List.cons.injEq, and_true] at e3
    subst e3
    rw [cellsTL] at hget
    have hkid : ∀ i, i < len → ∃ q : XT, (Wide q ∧ Nums q) ∧ Lies (fun b => b < W.heap.size) W q ∧ ∃ cs', W.cells? base (a.add (i * 4)) 4 = some cs' ∧ cs' = [.int .i64 q.kind, .int .i64 q.num, .string q.name, .slice q.base q.kids.length q.cap] := by
      intro i hi
      have h1 := hget i hi
      rw [List.getElem?_eq_getElem (by omega)] at h1
      obtain ⟨cs', h2, h3⟩ := Option.bind_eq_some_iff.1 h1
      obtain ⟨q, h4, h5, h6, h7⟩ := ih n' (by omega) cs' _ h3
      exact ⟨q, ⟨h5, h7⟩, h6, cs', h2, h4⟩
    obtain ⟨ks, hks, hq⟩ := list_of hkid
    refine ⟨.mk k m s (some a) cap ks, by simp [XT.kind, XT.num, XT.name, XT.base, XT.kids, XT.cap, hks], .mk _ hs (by simp only [XT.kids]; omega) (fun i q hk => (hq i q hk).1.1), .mk _ (fun i q hk => ?_) (fun i q hk => (hq i q hk).2.1), .mk _ hmb (fun i q hk => (hq i q hk).1.2)⟩
    obtain ⟨-, -, cs', h2, h4⟩ := hq i q hk
    obtain ⟨-, -, h5⟩ := World.cells?_some h2
    obtain ⟨b, o, spot⟩ := a
    have hspot : spot = none := by
      obtain ⟨q0, -, -, cs0, k2, k4⟩ := hkid 0 (by have := (List.getElem?_eq_some_iff.1 hk).1; simp only [XT.kids] at this; omega)
      obtain ⟨-, -, k5⟩ := World.cells?_some k2
      have k6 := k5 0 (by omega)
      rw [k4] at k6
      have k7 := World.cell?_spot k6
      simpa [Addr.add] using k7
    subst hspot
    subst h4
    have p0 := h5 0 (by omega)
    have p1 := h5 1 (by omega)
    have p2 := h5 2 (by omega)
    have p3 := h5 3 (by omega)
    rw [add_add] at p0 p1 p2 p3
    exact ⟨b, o, rfl, World.block_lt_of_cell? W _ p0, p0, p1, p2, p3⟩
theorem Same.nums (sz : Nat) : ∀ t : XT, t.size ≤ sz → ∀ u : XT, Same t u → Nums t → Nums u := by
  induction sz with
  | zero => intro t h; rw [XT.size_eq] at h; omega
  | succ sz ih =>
    intro t hsz u hS hn
    obtain ⟨h1, h2, h3, h4⟩ := hS.heads
    have hse := t.size_eq
    refine .mk u (by rw [h2]; exact hn.num) (fun i k hk => ?_)
    have hi := (List.getElem?_eq_some_iff.1 hk).1
    have hx := List.getElem?_eq_getElem (l := t.kids) (i := i) (by omega)
    have hq := XT.size_get hx
    exact ih _ (by omega) k (hS.kid i _ k hx hk) (hn.kid i _ hx)
theorem Same.text (sz : Nat) : ∀ t : XT, t.size ≤ sz → ∀ u : XT, Same t u → u.text = t.text := by
  induction sz with
  | zero => intro t h; rw [XT.size_eq] at h; omega
  | succ sz ih =>
    intro t hsz u hS
    obtain ⟨h1, h2, h3, h4⟩ := hS.heads
    have hse := t.size_eq
    have hall : ∀ ks us : List XT, XT.sizeAll ks ≤ sz → us.length = ks.length → (∀ (i : Nat) (a b : XT), ks[i]? = some a → us[i]? = some b → Same a b) → XT.textAll us = XT.textAll ks := by
      intro ks
      induction ks with
      | nil => intro us _ hl _; rw [List.length_eq_zero_iff.1 hl]
      | cons x xs ihx =>
        intro us hz hl hk
        match us, hl with
        | y :: ys, hl =>
          simp only [XT.sizeAll] at hz
          have e1 := ih x (by omega) y (hk 0 x y rfl rfl)
          have e2 := ihx ys (by omega) (by simpa using hl) (fun i a b ha hb => hk (i + 1) a b (by simpa using ha) (by simpa using hb))
          simp only [XT.textAll]
          rw [e1, e2]
    rw [u.text_eq, t.text_eq, h1, h2, h3, hall t.kids u.kids (by omega) h4 hS.kid]
theorem kept_noneT {A B : World} (h : Kept (fun k => (Value.slice none 0 0).ownBlock = some k) A B) : Below A.heap.size A B := h.below (Nat.le_refl _) (fun k e => by simp [Value.ownBlock] at e)
set_option maxRecDepth 20000 in
set_option maxHeartbeats 4000000 in
theorem implText (t : XT) (hsz : t.size ≤ 1048577) (htot : t.tot ≤ 1048576) (hn : Nums t) (ok : Nat → Prop) (w : World) (hok : ∀ b, ok b → b < w.heap.size ∧ Pl w b) (hL : Lies ok w t) (htab : Tab w) (hG : 0 < w.heap.size) :
    Calls Tryd.prog 7 #[t.val] w fun e w' => e = .returned (.string (ba t.text)) ∧ Below w.heap.size w w' := by
  obtain ⟨W1, hW1⟩ : ∃ W1, w.alloc (.cells #[.int .i64 t.kind, .int .i64 t.num, .string t.name, .slice t.base t.kids.length t.cap] 29) = W1 := ⟨_, rfl⟩
  obtain ⟨W2, hW2⟩ : ∃ W2, W1.alloc (.cells #[.int .i64 t.kind, .int .i64 t.num, .string t.name, .slice t.base t.kids.length t.cap] 29) = W2 := ⟨_, rfl⟩
  have hs1 : w.heap.size + 1 = W1.heap.size := by rw [← hW1]; simp
  have hs2 : W1.heap.size + 1 = W2.heap.size := by rw [← hW2]; simp
  have hB1 : Below w.heap.size w W1 := by rw [← hW1]; exact (Below.refl _ w).alloc (Nat.le_refl _) _
  have hB2 : Below W1.heap.size W1 W2 := by rw [← hW2]; exact (Below.refl _ W1).alloc (Nat.le_refl _) _
  have hB12 : Below w.heap.size w W2 := hB1.trans (hB2.mono hB1.size)
  have hC1 : Cells4 W1 w.heap.size 0 t := by rw [← hW1]; exact Cells4.new w t
  have hC2 : Cells4 W2 W1.heap.size 0 t := by rw [← hW2]; exact Cells4.new W1 t
  have hC1' : Cells4 W2 w.heap.size 0 t := hC1.below hB2 (by omega)
  have hpl : Pl W2 W1.heap.size := ⟨_, _, by rw [← hW2]; exact World.alloc_heap_new W1 _⟩
  have hL2 : Lies (fun b => ok b ∨ b = W1.heap.size) W2 t := hL.mono (fun b hb hlt => ⟨.inl hb, hB12.block b hlt⟩)
  have hok2 : ∀ b, (ok b ∨ b = W1.heap.size) → b < W2.heap.size ∧ Pl W2 b := fun b hb => by
    rcases hb with hb | hb
    · exact ⟨by have := (hok b hb).1; omega, (hok b hb).2.of_block (hB12.block b (hok b hb).1)⟩
    · subst hb; exact ⟨by omega, hpl⟩
  have hsa : XT.sizeAll [t] = t.size := by simp [XT.sizeAll]
  have hH := holdsT _ [t] (Nat.le_refl _) (by simp) (some ⟨W1.heap.size, 0, none⟩) 1 (fun b => ok b ∨ b = W1.heap.size) W2.heap.size (.slice none 0 0) [] W2 hok2 (Nat.le_refl _)
    (fun i k hk => by
      match i, hk with
      | 0, hk => simp at hk; subst hk; exact ⟨W1.heap.size, 0, rfl, .inr rfl, by simpa using hC2⟩
      | i + 1, hk => simp at hk)
    (fun i k hk => by
      match i, hk with
      | 0, hk => simp at hk; subst hk; exact hL2
      | i + 1, hk => simp at hk)
    ⟨World.ownsRow_nil _ _ _ _, fun y hy => by simp at hy⟩ (by rw [hsa]; simp; omega)
  have hle := XT.text_le _ t (Nat.le_refl _) hn
  obtain ⟨a0, a1, a2, a3⟩ := hC1
  go_enter Tryd.func7, Tryd.ntmps7
  go_wp2_with fail
  go_at_call 13
  clear hW2 hW1 a0 a1 a2 a3
  refine hH.mono ?_
  clear hH
  rintro e w3 ⟨rfl, hK3, -⟩
  have hB3 := kept_noneT hK3
  have hz3 := hB3.size
  have hC3 := hC1'.below hB3 (by omega)
  have hB13 : Below w.heap.size w w3 := hB12.trans (hB3.mono (by omega))
  obtain ⟨W4, hW4⟩ : ∃ W4, w3.alloc (.cells #[.pointer none, .slice none 0 0] 46) = W4 := ⟨_, rfl⟩
  have hs4 : w3.heap.size + 1 = W4.heap.size := by rw [← hW4]; simp
  have hB4 : Below w3.heap.size w3 W4 := by rw [← hW4]; exact (Below.refl _ w3).alloc (Nat.le_refl _) _
  have hT4 : Tl w3.heap.size w3.heap.size (Lib.byteCells []) W4 := by rw [← hW4]; exact Tl.new w3
  have hC4 := hC3.below hB4 (by omega)
  have hB14 : Below w.heap.size w W4 := hB13.trans (hB4.mono (by have := hB13.size; omega))
  have hT := tellX _ t (Nat.le_refl _) (by omega) hn ok w3.heap.size w3.heap.size [] W4 (by omega) (fun x hx => by have := (hok x hx).1; omega) (hL.mono (fun b hb hlt => ⟨hb, hB14.block b hlt⟩)) hT4 (by simp; omega) (htab.below hB14 hG)
  obtain ⟨c0, c1, c2, c3⟩ := hC4
  go_wp2_with fail
  go_at_call 15
  clear hW4 c0 c1 c2 c3
  refine hT.mono ?_
  clear hT
  rintro e w5 ⟨⟨v, rfl⟩, hT5, hB5, -⟩
  rw [List.nil_append] at hT5
  go_wp2_with fail
  go_at_call 16
  refine (tlRead _ _ t.text w5 hT5 (by omega)).mono ?_
  rintro e w6 ⟨rfl, hB6⟩
  go_wp2
  go_returns
  exact ⟨rfl, (hB13.trans ((hB4.trans (hB5.mono (Nat.le_refl _))).mono (by have := hB13.size; omega))).trans (hB6.mono (by have := hB13.size; omega))⟩
end Go.Proofs.YtijblhnjhpmedaaDoor
