/-
  The law's copies of expressions own their memory.
  The law's copies of statements own their memory.
-/
import Derived.Test.YtimfdfeleoaehaaStmtsA
namespace Go.Proofs.Ytimfdfeleoaehaa
open Go.RowKit Go.Shelf
set_option linter.unusedSimpArgs false
set_option linter.unusedVariables false
attribute [local go_sem] Oper.semAt_some

/-- A made list that is being filled: what is filled owns its memory. -/
structure RowE (W : World) (g N : Nat) (us : List XT) (l h : Nat → Nat) : Prop where
  row : RowAt W g N 48
  cell : ∀ (i : Nat) (k : XT), us[i]? = some k → Cells4 W g (0 + i * 4) k
  int : ∀ (i : Nat), i < us.length → g < l i ∧ h i ≤ W.heap.size
  ord : ∀ (i j : Nat), i < j → j < us.length → h i ≤ l j
  kid : ∀ (i : Nat) (t : XT), us[i]? = some t → OwnR W (l i) (h i) t.base t.kids
theorem RowE.below {A B : World} {g N : Nat} {us : List XT} {l h : Nat → Nat} (hE : RowE A g N us l h) (hb : Below A.heap.size A B) : RowE B g N us l h := by
  refine ⟨hE.row.of_block (hb.block _ hE.row.lt), fun i k hk => (hE.cell i k hk).below hb hE.row.lt, fun i hi => ?_, hE.ord, fun i t ht => (hE.kid i t ht).mono (fun b q1 q2 => hb.block b ?_)⟩
  · obtain ⟨h1, h2⟩ := hE.int i hi
    exact ⟨h1, Nat.le_trans h2 hb.size⟩
  · have := (hE.int i (List.getElem?_eq_some_iff.1 ht).1).2; omega
theorem RowE.push {A B : World} {g N n : Nat} {us : List XT} {l h : Nat → Nat} {t : XT} {lo hi : Nat} (hE : RowE A g N us l h) (hn : us.length = n) (hO : OwnR A lo hi t.base t.kids) (hlo : ∀ i, i < n → h i ≤ lo) (hg : g < lo) (hhi : hi ≤ A.heap.size)
    (p1 : RowAt B g N 48) (p2 : Kept (fun k => k = g) A B) (p3 : Cells4 B g (0 + n * 4) t) (p4 : ∀ (j : Nat) (x : XT), j ≠ n → Cells4 A g (0 + j * 4) x → Cells4 B g (0 + j * 4) x) :
    RowE B g N (us ++ [t]) (fun i => if i = n then lo else l i) (fun i => if i = n then hi else h i) := by
  have hz := p2.size
  refine ⟨p1, fun i k hk => ?_, fun i hi' => ?_, fun i j hij hj => ?_, fun i y hy => ?_⟩
  · by_cases e : i < us.length
    · rw [List.getElem?_append_left e] at hk
      exact p4 i k (by omega) (hE.cell i k hk)
    · have hi' : i = n := by
        have := (List.getElem?_eq_some_iff.1 hk).1
        simp at this
        omega
      rw [List.getElem?_append_right (by omega)] at hk
      simp [hi', hn] at hk
      subst hk
      rw [hi']
      exact p3
  · simp only [List.length_append, List.length_singleton] at hi'
    by_cases e : i = n
    · simp only [e, if_true]
      exact ⟨hg, by omega⟩
    · simp only [e, if_false]
      obtain ⟨h1, h2⟩ := hE.int i (by omega)
      exact ⟨h1, by omega⟩
  · simp only [List.length_append, List.length_singleton] at hj
    have hi' : i ≠ n := by omega
    simp only [hi', if_false]
    by_cases e : j = n
    · simp only [e, if_true]
      exact hlo i (by omega)
    · simp only [e, if_false]
      exact hE.ord i j hij (by omega)
  · by_cases e : i < us.length
    · rw [List.getElem?_append_left e] at hy
      have hi' : i ≠ n := by omega
      simp only [hi', if_false]
      obtain ⟨h1, h2⟩ := hE.int i e
      exact (hE.kid i y hy).mono (fun b q1 q2 => p2.block b (by omega) (by omega))
    · have hi' : i = n := by
        have := (List.getElem?_eq_some_iff.1 hy).1
        simp at this
        omega
      rw [List.getElem?_append_right (by omega)] at hy
      simp [hi', hn] at hy
      subst hy
      simp only [hi', if_true]
      exact hO.mono (fun b q1 q2 => p2.block b (by omega) (by omega))
theorem RowE.done {W : World} {g N : Nat} {us : List XT} {l h : Nat → Nat} (hE : RowE W g N us l h) (hN : us.length * 4 ≤ N) : OwnR W g W.heap.size (some ⟨g, 0, none⟩) us :=
  .mk g W.heap.size _ us g N l h (fun i k hk => ⟨rfl, Nat.le_refl _, hE.row.lt, hE.row, hN⟩) hE.cell (fun i hi => ⟨by have := (hE.int i hi).1; omega, (hE.int i hi).2, .inl (hE.int i hi).1⟩) (fun i j hi hj hij => by
    rcases Nat.lt_or_gt_of_ne hij with h1 | h1
    · exact .inl (hE.ord i j h1 hj)
    · exact .inr (hE.ord j i h1 hi)) hE.kid
set_option maxHeartbeats 2000000 in
theorem toSO (ks : List XT) (a : Option Addr) (c : Nat) (ok : Nat → Prop) (w : World) (hok : ∀ b, ok b → b < w.heap.size) (hcl : ∀ (i : Nat) (k : XT), ks[i]? = some k → ∃ b o, a = some ⟨b, o, none⟩ ∧ ok b ∧ Cells4 w b (o + i * 4) k) (hlen : ks.length ≤ 1048577)
    (H : ∀ (i : Nat) (k : XT), ks[i]? = some k → ∀ (w' : World), Below w.heap.size w w' →
      Calls Try.prog 46 #[k.val] w' fun e w'' => ∃ k' : XT, e = .returned k'.val ∧ Same k k' ∧ OwnR w'' w'.heap.size w''.heap.size k'.base k'.kids ∧ Below w'.heap.size w' w'') :
    Calls Try.prog 62 #[.slice a ks.length c] w fun e w' => ∃ us : List XT, e = .returned (.slice (some ⟨w.heap.size, 0, none⟩) ks.length ks.length) ∧ us.length = ks.length ∧
      (∀ (i : Nat) (x y : XT), ks[i]? = some x → us[i]? = some y → Same x y) ∧ OwnR w' w.heap.size w'.heap.size (some ⟨w.heap.size, 0, none⟩) us ∧ Below w.heap.size w w' := by
  obtain ⟨len, hl⟩ : ∃ len, ks.length = len := ⟨_, rfl⟩
  rw [hl] at hlen ⊢
  obtain ⟨i0, hi, hz0, hz1, hz2⟩ := info_parts infoE
  have hmk : ∀ w : World, (Instr.makeSlice 46 (.int .i64 (len : Int)) (.int .i64 (len : Int))).run Try.prog w = .ok (.slice (some ⟨w.heap.size, 0, none⟩) len len) (w.alloc (.cells (madeCells (Value.cells (.agg #[.int .i64 0, .int .i64 0, .string ByteArray.empty, .slice none 0 0])) (len * 4)) 48)) := by
    intro w
    have h := run_make w 46 48 i0 _ Try.underlying46 hi hz0 .i64 .i64 len len (by omega) (by omega) (by rw [hz2]; omega) (by omega)
    simp only [Int.toNat_natCast, hz1] at h
    exact h
  obtain ⟨W1, hW1⟩ : ∃ W1, w.alloc (.cells (madeCells (Value.cells (.agg #[.int .i64 0, .int .i64 0, .string ByteArray.empty, .slice none 0 0])) (len * 4)) 48) = W1 := ⟨_, rfl⟩
  have hR1 : RowAt W1 w.heap.size (len * 4) 48 := by
    have h := RowAt.new w (madeCells (Value.cells (.agg #[.int .i64 0, .int .i64 0, .string ByteArray.empty, .slice none 0 0])) (len * 4)) 48
    rw [hW1, size_madeCells] at h
    exact h
  have hB1 : Below w.heap.size w W1 := by rw [← hW1]; exact (Below.refl _ w).alloc (Nat.le_refl _) _
  have hmk' := hmk w
  rw [hW1] at hmk'
  clear hmk
  go_enter Try.func62, Try.ntmps62
  go_wp2
  go_loopw [4] (fun v4 wr => ∃ (i : Nat) (us : List XT) (l h : Nat → Nat), v4 = .int .i64 i ∧ i ≤ len ∧ us.length = i ∧ Below w.heap.size w wr ∧ Hid (RowE wr w.heap.size (len * 4) us l h) ∧ Hid (∀ (j : Nat) (x y : XT), ks[j]? = some x → us[j]? = some y → Same x y)) (fun v4 _ => len - (intOf v4).toNat)
  case atStart => exact ⟨0, [], fun _ => 0, fun _ => 0, rfl, by omega, rfl, hB1, ⟨hR1, fun i k hk => by simp at hk, fun i hi => by simp at hi, fun i j _ hj => by simp at hj, fun i k hk => by simp at hk⟩, fun j x y _ h => by simp at h⟩
  case round =>
    obtain ⟨i, us, l, h, rfl, hi, hus, hB, hE, hS⟩ := hrel
    have hR := hE.out.row
    by_cases hlt : i < len
    · obtain ⟨x, hx⟩ : ∃ x, ks[i]? = some x := ⟨_, List.getElem?_eq_getElem (by omega)⟩
      obtain ⟨b1, o1, hbase1, hok1, hc1⟩ := hcl i x hx
      have hd1 := hc1.below hB (hok b1 hok1)
      have c0 := hd1.c0
      have c1 := hd1.c1
      have c2 := hd1.c2
      have c3 := hd1.c3
      have hcall := H i x hx wr hB
      subst hbase1
      go_wp2_with fail
      go_at_call 46
      refine hcall.mono ?_
      rintro e w4 ⟨y, rfl, hxy, hO, hB4⟩
      have hE4 := hE.out.below hB4
      have hzz := hB4.size
      have hR4 := hR.of_block (hB4.block _ hR.lt)
      obtain ⟨v0, r0⟩ := hR4.cell (o := i * 4) (by omega)
      obtain ⟨v1, r1⟩ := hR4.cell (o := i * 4 + 1) (by omega)
      obtain ⟨v2, r2⟩ := hR4.cell (o := i * 4 + 2) (by omega)
      obtain ⟨v3, r3⟩ := hR4.cell (o := i * 4 + 3) (by omega)
      have f0 := hR4.frozen (i * 4)
      have f1 := hR4.frozen (i * 4 + 1)
      have f2 := hR4.frozen (i * 4 + 2)
      have f3 := hR4.frozen (i * 4 + 3)
      obtain ⟨p1, p2, p3, p4⟩ := put4 hR4 i (by omega) y
      go_wp2
      have hg : w.heap.size < wr.heap.size := hR.lt
      have hEn := hE4.push hus hO (fun j hj => (hE.out.int j (by omega)).2) hg (Nat.le_refl _) p1 p2 p3 p4
      refine ⟨⟨i + 1, us ++ [y], _, _, by go_num, by omega, by simp [hus], ?_, hEn, ?_⟩, ?_⟩
      · exact (hB.trans (hB4.mono hB.size)).trans (p2.below (by have := hB4.size; omega) (fun k h => by omega))
      · intro j x' y' hx' hy'
        by_cases hj : j < i
        · rw [List.getElem?_append_left (by omega)] at hy'
          exact hS.out j x' y' hx' hy'
        · have hji : j = i := by
            have := (List.getElem?_eq_some_iff.1 hy').1
            simp [hus] at this
            omega
          subst hji
          rw [List.getElem?_append_right (by omega)] at hy'
          simp [hus] at hy'
          subst hy'
          rw [hx] at hx'
          cases hx'
          exact hxy
      · simp [intOf]
        omega
    · have he : i = len := by omega
      go_wp2
      go_returns
      exact ⟨us, rfl, by omega, hS.out, hE.out.done (by omega), hB⟩
set_option maxHeartbeats 2000000 in
theorem to1O (sz : Nat) : ∀ (t : XT), sz ≤ 1048577 → t.size ≤ sz → ∀ (ok : Nat → Prop) (w : World), (∀ b, ok b → b < w.heap.size) → Lies ok w t →
    Calls Try.prog 46 #[t.val] w fun e w' => ∃ t' : XT, e = .returned t'.val ∧ Same t t' ∧ OwnR w' w.heap.size w'.heap.size t'.base t'.kids ∧ Below w.heap.size w w' := by
  induction sz with
  | zero => intro t _ h; rw [XT.size_eq] at h; omega
  | succ sz ih =>
  intro t hlim hsz ok w hok hL
  have hlt := t.length_le
  go_enter Try.func46, Try.ntmps46
  go_wp2_with fail
  obtain ⟨W1, hW1⟩ : ∃ W1, w.alloc (.cells #[.int .i64 t.kind, .int .i64 t.num, .string t.name, .slice t.base t.kids.length t.cap] 42) = W1 := ⟨_, rfl⟩
  obtain ⟨W2, hW2⟩ : ∃ W2, W1.alloc (.cells #[.int .i64 0, .int .i64 0, .string ⟨#[]⟩, .slice none 0 0] 48) = W2 := ⟨_, rfl⟩
  obtain ⟨W3, hW3⟩ : ∃ W3, W2.alloc (.cells #[.int .i64 t.kind, .int .i64 t.num, .string t.name, .slice none 0 0] 48) = W3 := ⟨_, rfl⟩
  rw [hW1, hW2, hW3]
  have s1 : W1.heap.size = w.heap.size + 1 := by rw [← hW1]; simp
  have s2 : W2.heap.size = w.heap.size + 2 := by rw [← hW2]; simp [s1]
  have s3 : W3.heap.size = w.heap.size + 3 := by rw [← hW3]; simp [s2]
  have hB3 : Below w.heap.size w W3 := by
    rw [← hW3, ← hW2, ← hW1]
    exact (((Below.refl _ w).alloc (Nat.le_refl _) _).alloc (by simp) _).alloc (by simp; omega) _
  have hRr : RowAt W3 (w.heap.size + 1) 4 48 := by
    have h := RowAt.new W1 #[.int .i64 0, .int .i64 0, .string ⟨#[]⟩, .slice none 0 0] 48
    rw [hW2, s1] at h
    rw [← hW3]
    exact h.of_block (Below.heap_alloc _ _ _ (by omega))
  have hRm : RowAt W3 (w.heap.size + 2) 4 48 := by
    have h := RowAt.new W2 #[.int .i64 t.kind, .int .i64 t.num, .string t.name, .slice none 0 0] 48
    rw [hW3, s2] at h
    exact h
  have m0 : W3.cell? ⟨w.heap.size + 2, 0, none⟩ = some (.int .i64 t.kind) := by rw [← hW3, ← s2]; exact World.cell?_alloc_new W2 _ _ 0
  have m1 : W3.cell? ⟨w.heap.size + 2, 1, none⟩ = some (.int .i64 t.num) := by rw [← hW3, ← s2]; exact World.cell?_alloc_new W2 _ _ 1
  have m2 : W3.cell? ⟨w.heap.size + 2, 2, none⟩ = some (.string t.name) := by rw [← hW3, ← s2]; exact World.cell?_alloc_new W2 _ _ 2
  have hL3 := hL.under hB3 hok
  have hok3 : ∀ b, ok b → b < W3.heap.size := fun b hb => Nat.lt_of_lt_of_le (hok b hb) hB3.size
  clear hW1 hW2 hW3
  refine (toSO t.kids t.base t.cap ok W3 hok3 hL3.cells (by omega) (fun i k hk w' hBw => ih k (by omega) (by have h5 := XT.size_get hk; have h6 := t.size_eq; omega) ok w' (fun b hb => Nat.lt_of_lt_of_le (hok3 b hb) hBw.size) ((hL3.kid i k hk).under hBw hok3))).mono ?_
  rintro e w4 ⟨us, rfl, hul, hus, hO, hB4⟩
  rw [s3] at hO
  have hzz := hB4.size
  have hRr4 := hRr.of_block (hB4.block _ (by omega))
  have hRm4 := hRm.of_block (hB4.block _ (by omega))
  have n0 := below_cell hB4 m0 (by dsimp only; omega)
  have n1 := below_cell hB4 m1 (by dsimp only; omega)
  have n2 := below_cell hB4 m2 (by dsimp only; omega)
  obtain ⟨v3, n3⟩ := hRm4.cell (o := 3) (by omega)
  have g3 := hRm4.frozen 3
  obtain ⟨u0, q0⟩ := hRr4.cell (o := 0) (by omega)
  obtain ⟨u1, q1⟩ := hRr4.cell (o := 1) (by omega)
  obtain ⟨u2, q2⟩ := hRr4.cell (o := 2) (by omega)
  obtain ⟨u3, q3⟩ := hRr4.cell (o := 3) (by omega)
  have f0 := hRr4.frozen 0
  have f1 := hRr4.frozen 1
  have f2 := hRr4.frozen 2
  have f3 := hRr4.frozen 3
  go_wp2
  have hK5 : Kept (fun k => k = w.heap.size + 1 ∨ k = w.heap.size + 2) w4 (((((w4.setCell ⟨w.heap.size + 1 + 1, 3, none⟩ (.slice (some ⟨w.heap.size + 3, 0, none⟩) t.kids.length t.kids.length)).setCell ⟨w.heap.size + 1, 0, none⟩ (.int .i64 t.kind)).setCell ⟨w.heap.size + 1, 1, none⟩ (.int .i64 t.num)).setCell ⟨w.heap.size + 1, 2, none⟩ (.string t.name)).setCell ⟨w.heap.size + 1, 3, none⟩ (.slice (some ⟨w.heap.size + 3, 0, none⟩) t.kids.length t.kids.length)) :=
    (((((Kept.refl (fun k => k = w.heap.size + 1 ∨ k = w.heap.size + 2) w4).setCell (p := ⟨w.heap.size + 1 + 1, 3, none⟩) (.inr rfl) _).setCell (p := ⟨w.heap.size + 1, 0, none⟩) (.inl rfl) _).setCell (p := ⟨w.heap.size + 1, 1, none⟩) (.inl rfl) _).setCell (p := ⟨w.heap.size + 1, 2, none⟩) (.inl rfl) _).setCell (p := ⟨w.heap.size + 1, 3, none⟩) (.inl rfl) _
  first | go_returns | (refine bodyPost_ret (by simp [results, Try.results46, go_sem, *]; try rfl) rfl ?_)
  refine ⟨.mk t.kind t.num t.name (some ⟨w.heap.size + 3, 0, none⟩) t.kids.length us, ?_, ?_, ?_, ?_⟩
  · simp only [XT.val, XT.kind, XT.num, XT.name, XT.kids, XT.base, XT.cap, hul]
  · exact .mk _ _ rfl rfl rfl hul hus
  · have hk5 := hK5.size
    exact (hO.mono (fun b q1 q2 => hK5.block b q2 (by omega))).wide (by omega) hk5
  · exact (hB3.trans (hB4.mono (by omega))).trans (hK5.below (by have := hB4.size; omega) (fun k h => by omega))
end Go.Proofs.Ytimfdfeleoaehaa
namespace Go.Proofs.Ytimfdfeleoaehaa
open Go.RowKit Go.Shelf
set_option linter.unusedSimpArgs false
set_option linter.unusedVariables false
attribute [local go_sem] Oper.semAt_some

/-- A made list that is being filled: what is filled owns its memory. -/
structure RowS (W : World) (g N : Nat) (us : List SX) (l h : Nat → Nat) : Prop where
  row : RowAt W g N 50
  cell : ∀ (i : Nat) (k : SX), us[i]? = some k → Cells12 W g (0 + i * 12) k
  int : ∀ (i : Nat), i < us.length → g < l i ∧ h i ≤ W.heap.size
  ord : ∀ (i j : Nat), i < j → j < us.length → h i ≤ l j
  kid : ∀ (i : Nat) (t : SX), us[i]? = some t → OwnS1 W (l i) (h i) t
theorem RowS.below {A B : World} {g N : Nat} {us : List SX} {l h : Nat → Nat} (hE : RowS A g N us l h) (hb : Below A.heap.size A B) : RowS B g N us l h := by
  refine ⟨hE.row.of_block (hb.block _ hE.row.lt), fun i k hk => (hE.cell i k hk).below hb hE.row.lt, fun i hi => ?_, hE.ord, fun i t ht => (hE.kid i t ht).mono (fun b q1 q2 => hb.block b ?_)⟩
  · obtain ⟨h1, h2⟩ := hE.int i hi
    exact ⟨h1, Nat.le_trans h2 hb.size⟩
  · have := (hE.int i (List.getElem?_eq_some_iff.1 ht).1).2; omega
theorem RowS.push {A B : World} {g N n : Nat} {us : List SX} {l h : Nat → Nat} {t : SX} {lo hi : Nat} (hE : RowS A g N us l h) (hn : us.length = n) (hO : OwnS1 A lo hi t) (hlo : ∀ i, i < n → h i ≤ lo) (hg : g < lo) (hhi : hi ≤ A.heap.size)
    (p1 : RowAt B g N 50) (p2 : Kept (fun k => k = g) A B) (p3 : Cells12 B g (0 + n * 12) t) (p4 : ∀ (j : Nat) (x : SX), j ≠ n → Cells12 A g (0 + j * 12) x → Cells12 B g (0 + j * 12) x) :
    RowS B g N (us ++ [t]) (fun i => if i = n then lo else l i) (fun i => if i = n then hi else h i) := by
  have hz := p2.size
  refine ⟨p1, fun i k hk => ?_, fun i hi' => ?_, fun i j hij hj => ?_, fun i y hy => ?_⟩
  · by_cases e : i < us.length
    · rw [List.getElem?_append_left e] at hk
      exact p4 i k (by omega) (hE.cell i k hk)
    · have hi' : i = n := by
        have := (List.getElem?_eq_some_iff.1 hk).1
        simp at this
        omega
      rw [List.getElem?_append_right (by omega)] at hk
      simp [hi', hn] at hk
      subst hk
      rw [hi']
      exact p3
  · simp only [List.length_append, List.length_singleton] at hi'
    by_cases e : i = n
    · simp only [e, if_true]
      exact ⟨hg, by omega⟩
    · simp only [e, if_false]
      obtain ⟨h1, h2⟩ := hE.int i (by omega)
      exact ⟨h1, by omega⟩
  · simp only [List.length_append, List.length_singleton] at hj
    have hi' : i ≠ n := by omega
    simp only [hi', if_false]
    by_cases e : j = n
    · simp only [e, if_true]
      exact hlo i (by omega)
    · simp only [e, if_false]
      exact hE.ord i j hij (by omega)
  · by_cases e : i < us.length
    · rw [List.getElem?_append_left e] at hy
      have hi' : i ≠ n := by omega
      simp only [hi', if_false]
      obtain ⟨h1, h2⟩ := hE.int i e
      exact (hE.kid i y hy).mono (fun b q1 q2 => p2.block b (by omega) (by omega))
    · have hi' : i = n := by
        have := (List.getElem?_eq_some_iff.1 hy).1
        simp at this
        omega
      rw [List.getElem?_append_right (by omega)] at hy
      simp [hi', hn] at hy
      subst hy
      simp only [hi', if_true]
      exact hO.mono (fun b q1 q2 => p2.block b (by omega) (by omega))
theorem RowS.done {W : World} {g N : Nat} {us : List SX} {l h : Nat → Nat} (hE : RowS W g N us l h) (hN : us.length * 12 ≤ N) : OwnSR W g W.heap.size (some ⟨g, 0, none⟩) us := by
  obtain ⟨f, hf⟩ : ∃ f : Nat → (Nat → Nat) × (Nat → Nat), ∀ i, ∀ t, us[i]? = some t → (∀ m, m < 4 → l i ≤ (f i).1 m ∧ (f i).2 m ≤ h i) ∧ (∀ m n, m < 4 → n < 4 → m ≠ n → (f i).2 m ≤ (f i).1 n ∨ (f i).2 n ≤ (f i).1 m) ∧
      OwnR W ((f i).1 0) ((f i).2 0) t.e.base t.e.kids ∧ OwnR W ((f i).1 1) ((f i).2 1) t.f.base t.f.kids ∧ OwnSR W ((f i).1 2) ((f i).2 2) t.abase t.la ∧ OwnSR W ((f i).1 3) ((f i).2 3) t.bbase t.lb := by
    refine (Classical.skolem (b := fun _ => (Nat → Nat) × (Nat → Nat)) (p := fun (i : Nat) (q : (Nat → Nat) × (Nat → Nat)) => ∀ t, us[i]? = some t → (∀ m, m < 4 → l i ≤ q.1 m ∧ q.2 m ≤ h i) ∧ (∀ m n, m < 4 → n < 4 → m ≠ n → q.2 m ≤ q.1 n ∨ q.2 n ≤ q.1 m) ∧
      OwnR W (q.1 0) (q.2 0) t.e.base t.e.kids ∧ OwnR W (q.1 1) (q.2 1) t.f.base t.f.kids ∧ OwnSR W (q.1 2) (q.2 2) t.abase t.la ∧ OwnSR W (q.1 3) (q.2 3) t.bbase t.lb)).1 (fun i => ?_)
    cases hu : us[i]? with
    | none => exact ⟨⟨fun _ => 0, fun _ => 0⟩, fun t ht => by cases ht⟩
    | some t =>
      obtain ⟨l', h', q⟩ := hE.kid i t hu
      exact ⟨⟨l', h'⟩, fun y hy => by cases hy; exact q⟩
  have hget : ∀ i, i < us.length → ∃ t, us[i]? = some t := fun i hi => ⟨_, List.getElem?_eq_getElem hi⟩
  refine .mk g W.heap.size _ us g N (fun m => (f (m / 4)).1 (m % 4)) (fun m => (f (m / 4)).2 (m % 4)) (fun i k hk => ⟨rfl, Nat.le_refl _, hE.row.lt, hE.row, hN⟩) hE.cell (fun m hm => ?_) (fun m n hm hn hmn => ?_) (fun i k hk => ?_) (fun i k hk => ?_) (fun i k hk => ?_) (fun i k hk => ?_)
  · obtain ⟨t, ht⟩ := hget (m / 4) (by omega)
    obtain ⟨h1, h2⟩ := hE.int (m / 4) (by omega)
    obtain ⟨p1, p2⟩ := (hf _ t ht).1 (m % 4) (by omega)
    exact ⟨by omega, by omega, by omega⟩
  · obtain ⟨t, ht⟩ := hget (m / 4) (by omega)
    obtain ⟨u, hu⟩ := hget (n / 4) (by omega)
    by_cases e : m / 4 = n / 4
    · rw [e] at ht ⊢
      exact (hf _ t ht).2.1 (m % 4) (n % 4) (by omega) (by omega) (by omega)
    · have p1 := (hf _ t ht).1 (m % 4) (by omega)
      have p2 := (hf _ u hu).1 (n % 4) (by omega)
      rcases Nat.lt_or_gt_of_ne e with h1 | h1
      · have := hE.ord _ _ h1 (by omega); left; omega
      · have := hE.ord _ _ h1 (by omega); right; omega
  · have h1 : (4 * i) / 4 = i := by omega
    have h2 : (4 * i) % 4 = 0 := by omega
    rw [h1, h2]
    exact (hf i k hk).2.2.1
  · have h1 : (4 * i + 1) / 4 = i := by omega
    have h2 : (4 * i + 1) % 4 = 1 := by omega
    rw [h1, h2]
    exact (hf i k hk).2.2.2.1
  · have h1 : (4 * i + 2) / 4 = i := by omega
    have h2 : (4 * i + 2) % 4 = 2 := by omega
    rw [h1, h2]
    exact (hf i k hk).2.2.2.2.1
  · have h1 : (4 * i + 3) / 4 = i := by omega
    have h2 : (4 * i + 3) % 4 = 3 := by omega
    rw [h1, h2]
    exact (hf i k hk).2.2.2.2.2
set_option maxRecDepth 10000 in
set_option maxHeartbeats 4000000 in
theorem toSSO (ks : List SX) (a : Option Addr) (c : Nat) (ok : Nat → Prop) (w : World) (hok : ∀ b, ok b → b < w.heap.size) (hcl : SRow ok w a ks) (hlen : ks.length ≤ 1048577)
    (H : ∀ (i : Nat) (k : SX), ks[i]? = some k → ∀ (w' : World), Below w.heap.size w w' →
      Calls Try.prog 23 #[k.val] w' fun e w'' => ∃ k' : SX, e = .returned k'.val ∧ SameS k k' ∧ OwnS1 w'' w'.heap.size w''.heap.size k' ∧ Below w'.heap.size w' w'') :
    Calls Try.prog 8 #[.slice a ks.length c] w fun e w' => ∃ us : List SX, e = .returned (.slice (some ⟨w.heap.size, 0, none⟩) ks.length ks.length) ∧ us.length = ks.length ∧
      (∀ (i : Nat) (x y : SX), ks[i]? = some x → us[i]? = some y → SameS x y) ∧ OwnSR w' w.heap.size w'.heap.size (some ⟨w.heap.size, 0, none⟩) us ∧ Below w.heap.size w w' := by
  obtain ⟨len, hl⟩ : ∃ len, ks.length = len := ⟨_, rfl⟩
  rw [hl] at hlen ⊢
  obtain ⟨i0, hi, hz0, hz1, hz2⟩ := info_parts infoS
  obtain ⟨W1, hW1⟩ : ∃ W1, w.alloc (.cells (madeCells (Value.cells (.agg #[.int .i64 0, .string ByteArray.empty, .int .i64 0, .int .i64 0, .string ByteArray.empty, .slice none 0 0, .int .i64 0, .int .i64 0, .string ByteArray.empty, .slice none 0 0, .slice none 0 0, .slice none 0 0])) (len * 12)) 50) = W1 := ⟨_, rfl⟩
  have hmk : (Instr.makeSlice 26 (.int .i64 (len : Int)) (.int .i64 (len : Int))).run Try.prog w = .ok (.slice (some ⟨w.heap.size, 0, none⟩) len len) W1 := by
    have h := run_make w 26 50 i0 _ Try.underlying26 hi hz0 .i64 .i64 len len (by omega) (by omega) (by rw [hz2]; omega) (by omega)
    simp only [Int.toNat_natCast, hz1] at h
    rw [hW1] at h
    exact h
  have hR1 : RowAt W1 w.heap.size (len * 12) 50 := by
    have h := RowAt.new w (madeCells (Value.cells (.agg #[.int .i64 0, .string ByteArray.empty, .int .i64 0, .int .i64 0, .string ByteArray.empty, .slice none 0 0, .int .i64 0, .int .i64 0, .string ByteArray.empty, .slice none 0 0, .slice none 0 0, .slice none 0 0])) (len * 12)) 50
    rw [hW1, size_madeCells] at h
    exact h
  have hB1 : Below w.heap.size w W1 := by rw [← hW1]; exact (Below.refl _ w).alloc (Nat.le_refl _) _
  clear hW1
  go_enter Try.func8, Try.ntmps8
  go_wp2
  go_loopw [4] (fun v4 wr => ∃ (i : Nat) (us : List SX) (l h : Nat → Nat), v4 = .int .i64 i ∧ i ≤ len ∧ us.length = i ∧ Below w.heap.size w wr ∧ Hid (RowS wr w.heap.size (len * 12) us l h) ∧ Hid (∀ (j : Nat) (x y : SX), ks[j]? = some x → us[j]? = some y → SameS x y)) (fun v4 _ => len - (intOf v4).toNat)
  case atStart => exact ⟨0, [], fun _ => 0, fun _ => 0, rfl, by omega, rfl, hB1, ⟨hR1, fun i k hk => by simp at hk, fun i hi => by simp at hi, fun i j _ hj => by simp at hj, fun i k hk => by simp at hk⟩, fun j x y _ h => by simp at h⟩
  case round =>
    obtain ⟨i, us, l, h, rfl, hi, hus, hB, hE, hS⟩ := hrel
    have hR := hE.out.row
    by_cases hlt : i < len
    · obtain ⟨x, hx⟩ : ∃ x, ks[i]? = some x := ⟨_, List.getElem?_eq_getElem (by omega)⟩
      obtain ⟨b1, o1, hbase1, hok1, hc1⟩ := hcl i x hx
      obtain ⟨c0, c1, c2, c3, c4, c5, c6, c7, c8, c9, c10, c11⟩ := hc1.below hB (hok b1 hok1)
      have hcall := H i x hx wr hB
      subst hbase1
      go_wp2_with fail
      go_at_call 23
      refine hcall.mono ?_
      clear hcall c0 c1 c2 c3 c4 c5 c6 c7 c8 c9 c10 c11
      rintro e w4 ⟨y, rfl, hxy, hO, hB4⟩
      have hE4 := hE.out.below hB4
      have hzz := hB4.size
      have hR4 := hR.of_block (hB4.block _ hR.lt)
      obtain ⟨v0, r0⟩ := hR4.cell (o := i * 12) (by omega)
      have f0 := hR4.frozen (i * 12)
      obtain ⟨v1, r1⟩ := hR4.cell (o := i * 12 + 1) (by omega)
      have f1 := hR4.frozen (i * 12 + 1)
      obtain ⟨v2, r2⟩ := hR4.cell (o := i * 12 + 2) (by omega)
      have f2 := hR4.frozen (i * 12 + 2)
      obtain ⟨v3, r3⟩ := hR4.cell (o := i * 12 + 3) (by omega)
      have f3 := hR4.frozen (i * 12 + 3)
      obtain ⟨v4, r4⟩ := hR4.cell (o := i * 12 + 4) (by omega)
      have f4 := hR4.frozen (i * 12 + 4)
      obtain ⟨v5, r5⟩ := hR4.cell (o := i * 12 + 5) (by omega)
      have f5 := hR4.frozen (i * 12 + 5)
      obtain ⟨v6, r6⟩ := hR4.cell (o := i * 12 + 6) (by omega)
      have f6 := hR4.frozen (i * 12 + 6)
      obtain ⟨v7, r7⟩ := hR4.cell (o := i * 12 + 7) (by omega)
      have f7 := hR4.frozen (i * 12 + 7)
      obtain ⟨v8, r8⟩ := hR4.cell (o := i * 12 + 8) (by omega)
      have f8 := hR4.frozen (i * 12 + 8)
      obtain ⟨v9, r9⟩ := hR4.cell (o := i * 12 + 9) (by omega)
      have f9 := hR4.frozen (i * 12 + 9)
      obtain ⟨v10, r10⟩ := hR4.cell (o := i * 12 + 10) (by omega)
      have f10 := hR4.frozen (i * 12 + 10)
      obtain ⟨v11, r11⟩ := hR4.cell (o := i * 12 + 11) (by omega)
      have f11 := hR4.frozen (i * 12 + 11)
      obtain ⟨p1, p2, p3, p4⟩ := put12 hR4 i (by omega) y
      go_wp2
      have hg : w.heap.size < wr.heap.size := hR.lt
      have hEn := hE4.push hus hO (fun j hj => (hE.out.int j (by omega)).2) hg (Nat.le_refl _) p1 p2 p3 p4
      refine ⟨⟨i + 1, us ++ [y], _, _, by go_num, by omega, by simp [hus], ?_, hEn, ?_⟩, ?_⟩
      · exact (hB.trans (hB4.mono hB.size)).trans (p2.below (by have := hB4.size; omega) (fun k h => by omega))
      · intro j x' y' hx' hy'
        by_cases hj : j < i
        · rw [List.getElem?_append_left (by omega)] at hy'
          exact hS.out j x' y' hx' hy'
        · have hji : j = i := by
            have := (List.getElem?_eq_some_iff.1 hy').1
            simp [hus] at this
            omega
          subst hji
          rw [List.getElem?_append_right (by omega)] at hy'
          simp [hus] at hy'
          subst hy'
          rw [hx] at hx'
          cases hx'
          exact hxy
      · simp [intOf]
        omega
    · have he : i = len := by omega
      go_wp2
      go_returns
      exact ⟨us, rfl, by omega, hS.out, hE.out.done (by omega), hB⟩
set_option maxRecDepth 10000 in
set_option maxHeartbeats 4000000 in
theorem toS1O (sz : Nat) : ∀ (s : SX), s.size ≤ sz → SmallS s → ∀ (ok : Nat → Prop) (w : World), (∀ b, ok b → b < w.heap.size) → LiesS ok w s →
    Calls Try.prog 23 #[s.val] w fun e w' => ∃ s' : SX, e = .returned s'.val ∧ SameS s s' ∧ OwnS1 w' w.heap.size w'.heap.size s' ∧ Below w.heap.size w w' := by
  induction sz with
  | zero => intro s h; rw [SX.size_eq] at h; omega
  | succ sz ih =>
  intro s hsz hm ok w hok hL
  obtain ⟨m1, m2, m3, m4, m5, m6⟩ := hm.parts
  have hse := s.size_eq
  go_enter Try.func23, Try.ntmps23
  go_wp2_with fail
  obtain ⟨W1, hW1⟩ : ∃ W1, w.alloc (.cells #[.int .i64 s.kind, .string s.name, .int .i64 s.e.kind, .int .i64 s.e.num, .string s.e.name, .slice s.e.base s.e.kids.length s.e.cap, .int .i64 s.f.kind, .int .i64 s.f.num, .string s.f.name, .slice s.f.base s.f.kids.length s.f.cap, .slice s.abase s.la.length s.acap, .slice s.bbase s.lb.length s.bcap] 44) = W1 := ⟨_, rfl⟩
  obtain ⟨W2, hW2⟩ : ∃ W2, W1.alloc (.cells #[.int .i64 0, .string ⟨#[]⟩, .int .i64 0, .int .i64 0, .string ⟨#[]⟩, .slice none 0 0, .int .i64 0, .int .i64 0, .string ⟨#[]⟩, .slice none 0 0, .slice none 0 0, .slice none 0 0] 50) = W2 := ⟨_, rfl⟩
  obtain ⟨W3, hW3⟩ : ∃ W3, W2.alloc (.cells #[.int .i64 s.kind, .string s.name, .int .i64 0, .int .i64 0, .string ⟨#[]⟩, .slice none 0 0, .int .i64 0, .int .i64 0, .string ⟨#[]⟩, .slice none 0 0, .slice none 0 0, .slice none 0 0] 50) = W3 := ⟨_, rfl⟩
  rw [hW1, hW2, hW3]
  have s1 : W1.heap.size = w.heap.size + 1 := by rw [← hW1]; simp
  have s2 : W2.heap.size = w.heap.size + 2 := by rw [← hW2]; simp [s1]
  have s3 : W3.heap.size = w.heap.size + 3 := by rw [← hW3]; simp [s2]
  have hB : Below w.heap.size w W3 := by
    rw [← hW3, ← hW2, ← hW1]
    exact (((Below.refl _ w).alloc (Nat.le_refl _) _).alloc (by simp) _).alloc (by simp; omega) _
  have hP : Cells12 W3 w.heap.size 0 s := by
    have h := Cells12.new w s 44
    rw [hW1] at h
    have h2 := h.below (n := W1.heap.size) (B := W2) (by rw [← hW2]; exact (Below.refl _ _).alloc (Nat.le_refl _) _) (by omega)
    exact h2.below (n := W1.heap.size) (B := W3) (by rw [← hW3]; exact (Below.refl _ _).alloc (by omega) _) (by omega)
  have hT : RowAt W3 (w.heap.size + 1) 12 50 := by
    have h := RowAt.new W1 #[.int .i64 0, .string ⟨#[]⟩, .int .i64 0, .int .i64 0, .string ⟨#[]⟩, .slice none 0 0, .int .i64 0, .int .i64 0, .string ⟨#[]⟩, .slice none 0 0, .slice none 0 0, .slice none 0 0] 50
    rw [hW2, s1] at h
    rw [← hW3]
    exact h.of_block (Below.heap_alloc _ _ _ (by omega))
  have hM : RowAt W3 (w.heap.size + 1 + 1) 12 50 := by
    have h := RowAt.new W2 #[.int .i64 s.kind, .string s.name, .int .i64 0, .int .i64 0, .string ⟨#[]⟩, .slice none 0 0, .int .i64 0, .int .i64 0, .string ⟨#[]⟩, .slice none 0 0, .slice none 0 0, .slice none 0 0] 50
    rw [hW3, s2] at h
    exact h
  have n0 : W3.cell? ⟨w.heap.size + 1 + 1, 0, none⟩ = some (.int .i64 s.kind) := by
    have h := World.cell?_alloc_new W2 #[.int .i64 s.kind, .string s.name, .int .i64 0, .int .i64 0, .string ⟨#[]⟩, .slice none 0 0, .int .i64 0, .int .i64 0, .string ⟨#[]⟩, .slice none 0 0, .slice none 0 0, .slice none 0 0] 50 0
    rw [hW3, s2] at h
    exact h
  have n1 : W3.cell? ⟨w.heap.size + 1 + 1, 1, none⟩ = some (.string s.name) := by
    have h := World.cell?_alloc_new W2 #[.int .i64 s.kind, .string s.name, .int .i64 0, .int .i64 0, .string ⟨#[]⟩, .slice none 0 0, .int .i64 0, .int .i64 0, .string ⟨#[]⟩, .slice none 0 0, .slice none 0 0, .slice none 0 0] 50 1
    rw [hW3, s2] at h
    exact h
  have hz : w.heap.size + 3 ≤ W3.heap.size := by omega
  clear hW1 hW2 hW3 s1 s2
  have hLX := hL.under hB hok
  have hokX : ∀ b, ok b → b < W3.heap.size := fun b hb => by have := hok b hb; omega
  obtain ⟨l1, l2, l3, l4, l5, l6⟩ := hLX.parts
  refine (to1O _ s.e (by omega) (Nat.le_refl _) ok W3 hokX l1).mono ?_
  rintro e y0 ⟨e', rfl, hS0, hL0, hb⟩
  obtain ⟨oa0, ob0, hL0, hoa0, hob0⟩ : ∃ a b, OwnR y0 a b e'.base e'.kids ∧ (w.heap.size + 3 ≤ a ∧ a ≤ b) ∧ b ≤ y0.heap.size := ⟨_, _, hL0, ⟨hz, hb.size⟩, Nat.le_refl _⟩
  have hzy : W3.heap.size ≤ y0.heap.size := hb.size
  replace hB := hB.trans (hb.mono (by omega))
  replace hP := hP.below hb (by omega)
  replace hT := hT.of_block (hb.block _ (by omega))
  replace hM := hM.of_block (hb.block _ (by omega))
  replace hLX := hLX.under hb hokX
  replace n0 := below_cell hb n0 (by dsimp only; omega)
  replace n1 := below_cell hb n1 (by dsimp only; omega)
  obtain ⟨o2, z2⟩ := hM.cell (o := 2) (by omega)
  have fz2 := hM.frozen 2
  obtain ⟨o3, z3⟩ := hM.cell (o := 3) (by omega)
  have fz3 := hM.frozen 3
  obtain ⟨o4, z4⟩ := hM.cell (o := 4) (by omega)
  have fz4 := hM.frozen 4
  obtain ⟨o5, z5⟩ := hM.cell (o := 5) (by omega)
  have fz5 := hM.frozen 5
  obtain ⟨c0, c1, c2, c3, c4, c5, c6, c7, c8, c9, c10, c11⟩ := hP
  go_wp2_with fail
  go_at_call 46
  replace hP : Cells12 y0 w.heap.size 0 s := ⟨c0, c1, c2, c3, c4, c5, c6, c7, c8, c9, c10, c11⟩
  clear c0 c1 c2 c3 c4 c5 c6 c7 c8 c9 c10 c11
  have hK := (((((Kept.refl (fun k => k = w.heap.size + 1 + 1) y0).setCell (p := ⟨w.heap.size + 1 + 1, 2, none⟩) rfl (.int .i64 e'.kind)).setCell (p := ⟨w.heap.size + 1 + 1, 3, none⟩) rfl (.int .i64 e'.num)).setCell (p := ⟨w.heap.size + 1 + 1, 4, none⟩) rfl (.string e'.name)).setCell (p := ⟨w.heap.size + 1 + 1, 5, none⟩) rfl (.slice e'.base e'.kids.length e'.cap))
  have hM' := ((((hM.set 2 (.int .i64 e'.kind)).set 3 (.int .i64 e'.num)).set 4 (.string e'.name)).set 5 (.slice e'.base e'.kids.length e'.cap))
  have n2 : ((((y0.setCell ⟨w.heap.size + 1 + 1, 2, none⟩ (.int .i64 e'.kind)).setCell ⟨w.heap.size + 1 + 1, 3, none⟩ (.int .i64 e'.num)).setCell ⟨w.heap.size + 1 + 1, 4, none⟩ (.string e'.name)).setCell ⟨w.heap.size + 1 + 1, 5, none⟩ (.slice e'.base e'.kids.length e'.cap)).cell? ⟨w.heap.size + 1 + 1, 2, none⟩ = some (.int .i64 e'.kind) := by rw [set_far (by omega), set_far (by omega), set_far (by omega)]; exact hM.put (by omega) _
  have n3 : ((((y0.setCell ⟨w.heap.size + 1 + 1, 2, none⟩ (.int .i64 e'.kind)).setCell ⟨w.heap.size + 1 + 1, 3, none⟩ (.int .i64 e'.num)).setCell ⟨w.heap.size + 1 + 1, 4, none⟩ (.string e'.name)).setCell ⟨w.heap.size + 1 + 1, 5, none⟩ (.slice e'.base e'.kids.length e'.cap)).cell? ⟨w.heap.size + 1 + 1, 3, none⟩ = some (.int .i64 e'.num) := by rw [set_far (by omega), set_far (by omega)]; exact (hM.set 2 (.int .i64 e'.kind)).put (by omega) _
  have n4 : ((((y0.setCell ⟨w.heap.size + 1 + 1, 2, none⟩ (.int .i64 e'.kind)).setCell ⟨w.heap.size + 1 + 1, 3, none⟩ (.int .i64 e'.num)).setCell ⟨w.heap.size + 1 + 1, 4, none⟩ (.string e'.name)).setCell ⟨w.heap.size + 1 + 1, 5, none⟩ (.slice e'.base e'.kids.length e'.cap)).cell? ⟨w.heap.size + 1 + 1, 4, none⟩ = some (.string e'.name) := by rw [set_far (by omega)]; exact ((hM.set 2 (.int .i64 e'.kind)).set 3 (.int .i64 e'.num)).put (by omega) _
  have n5 : ((((y0.setCell ⟨w.heap.size + 1 + 1, 2, none⟩ (.int .i64 e'.kind)).setCell ⟨w.heap.size + 1 + 1, 3, none⟩ (.int .i64 e'.num)).setCell ⟨w.heap.size + 1 + 1, 4, none⟩ (.string e'.name)).setCell ⟨w.heap.size + 1 + 1, 5, none⟩ (.slice e'.base e'.kids.length e'.cap)).cell? ⟨w.heap.size + 1 + 1, 5, none⟩ = some (.slice e'.base e'.kids.length e'.cap) := by exact (((hM.set 2 (.int .i64 e'.kind)).set 3 (.int .i64 e'.num)).set 4 (.string e'.name)).put (by omega) _
  replace n0 : ((((y0.setCell ⟨w.heap.size + 1 + 1, 2, none⟩ (.int .i64 e'.kind)).setCell ⟨w.heap.size + 1 + 1, 3, none⟩ (.int .i64 e'.num)).setCell ⟨w.heap.size + 1 + 1, 4, none⟩ (.string e'.name)).setCell ⟨w.heap.size + 1 + 1, 5, none⟩ (.slice e'.base e'.kids.length e'.cap)).cell? ⟨w.heap.size + 1 + 1, 0, none⟩ = some (.int .i64 s.kind) := by rw [set_far (by omega), set_far (by omega), set_far (by omega), set_far (by omega)]; exact n0
  replace n1 : ((((y0.setCell ⟨w.heap.size + 1 + 1, 2, none⟩ (.int .i64 e'.kind)).setCell ⟨w.heap.size + 1 + 1, 3, none⟩ (.int .i64 e'.num)).setCell ⟨w.heap.size + 1 + 1, 4, none⟩ (.string e'.name)).setCell ⟨w.heap.size + 1 + 1, 5, none⟩ (.slice e'.base e'.kids.length e'.cap)).cell? ⟨w.heap.size + 1 + 1, 1, none⟩ = some (.string s.name) := by rw [set_far (by omega), set_far (by omega), set_far (by omega), set_far (by omega)]; exact n1
  clear z2 fz2 z3 fz3 z4 fz4 z5 fz5
  obtain ⟨X0, hX⟩ : ∃ X, ((((y0.setCell ⟨w.heap.size + 1 + 1, 2, none⟩ (.int .i64 e'.kind)).setCell ⟨w.heap.size + 1 + 1, 3, none⟩ (.int .i64 e'.num)).setCell ⟨w.heap.size + 1 + 1, 4, none⟩ (.string e'.name)).setCell ⟨w.heap.size + 1 + 1, 5, none⟩ (.slice e'.base e'.kids.length e'.cap)) = X := ⟨_, rfl⟩
  rw [hX] at hK hM' n0 n1 n2 n3 n4 n5 ⊢
  have hzx : X0.heap.size = y0.heap.size := by rw [← hX]; simp
  clear hX
  replace hM := hM'
  replace hT := hT.of_block (hK.block _ hT.lt (by omega))
  replace hP := hP.kept hK (by omega)
  replace hLX := hLX.kept hK (fun b hb => by have := hok b hb; omega)
  replace hB := hB.trans (hK.below (n := w.heap.size) (by omega) (fun k h => by omega))
  replace hL0 := hL0.mono (fun b q1 q2 => hK.block b (by omega) (by omega))
  replace hob0 : ob0 ≤ X0.heap.size := by omega
  have hz' : w.heap.size + 3 ≤ X0.heap.size := by omega
  clear hM' hK hb hzy
  have hokX : ∀ b, ok b → b < X0.heap.size := fun b hb => by have := hok b hb; omega
  obtain ⟨l1, l2, l3, l4, l5, l6⟩ := hLX.parts
  refine (to1O _ s.f (by omega) (Nat.le_refl _) ok X0 hokX l2).mono ?_
  rintro e y1 ⟨f', rfl, hS1, hL1, hb⟩
  obtain ⟨oa1, ob1, hL1, hoa1, hob1⟩ : ∃ a b, OwnR y1 a b f'.base f'.kids ∧ (w.heap.size + 3 ≤ a ∧ ob0 ≤ a ∧ a ≤ b) ∧ b ≤ y1.heap.size := ⟨_, _, hL1, ⟨by omega, hob0, hb.size⟩, Nat.le_refl _⟩
  have hzy : X0.heap.size ≤ y1.heap.size := hb.size
  replace hB := hB.trans (hb.mono (by omega))
  replace hP := hP.below hb (by omega)
  replace hT := hT.of_block (hb.block _ (by omega))
  replace hM := hM.of_block (hb.block _ (by omega))
  replace hLX := hLX.under hb hokX
  replace n0 := below_cell hb n0 (by dsimp only; omega)
  replace n1 := below_cell hb n1 (by dsimp only; omega)
  replace n2 := below_cell hb n2 (by dsimp only; omega)
  replace n3 := below_cell hb n3 (by dsimp only; omega)
  replace n4 := below_cell hb n4 (by dsimp only; omega)
  replace n5 := below_cell hb n5 (by dsimp only; omega)
  replace hL0 := hL0.mono (fun b q1 q2 => hb.block b (by omega))
  replace hob0 : ob0 ≤ y1.heap.size := by omega
  obtain ⟨o6, z6⟩ := hM.cell (o := 6) (by omega)
  have fz6 := hM.frozen 6
  obtain ⟨o7, z7⟩ := hM.cell (o := 7) (by omega)
  have fz7 := hM.frozen 7
  obtain ⟨o8, z8⟩ := hM.cell (o := 8) (by omega)
  have fz8 := hM.frozen 8
  obtain ⟨o9, z9⟩ := hM.cell (o := 9) (by omega)
  have fz9 := hM.frozen 9
  obtain ⟨c0, c1, c2, c3, c4, c5, c6, c7, c8, c9, c10, c11⟩ := hP
  go_wp2_with fail
  go_at_call 8
  replace hP : Cells12 y1 w.heap.size 0 s := ⟨c0, c1, c2, c3, c4, c5, c6, c7, c8, c9, c10, c11⟩
  clear c0 c1 c2 c3 c4 c5 c6 c7 c8 c9 c10 c11
  have hK := (((((Kept.refl (fun k => k = w.heap.size + 1 + 1) y1).setCell (p := ⟨w.heap.size + 1 + 1, 6, none⟩) rfl (.int .i64 f'.kind)).setCell (p := ⟨w.heap.size + 1 + 1, 7, none⟩) rfl (.int .i64 f'.num)).setCell (p := ⟨w.heap.size + 1 + 1, 8, none⟩) rfl (.string f'.name)).setCell (p := ⟨w.heap.size + 1 + 1, 9, none⟩) rfl (.slice f'.base f'.kids.length f'.cap))
  have hM' := ((((hM.set 6 (.int .i64 f'.kind)).set 7 (.int .i64 f'.num)).set 8 (.string f'.name)).set 9 (.slice f'.base f'.kids.length f'.cap))
  have n6 : ((((y1.setCell ⟨w.heap.size + 1 + 1, 6, none⟩ (.int .i64 f'.kind)).setCell ⟨w.heap.size + 1 + 1, 7, none⟩ (.int .i64 f'.num)).setCell ⟨w.heap.size + 1 + 1, 8, none⟩ (.string f'.name)).setCell ⟨w.heap.size + 1 + 1, 9, none⟩ (.slice f'.base f'.kids.length f'.cap)).cell? ⟨w.heap.size + 1 + 1, 6, none⟩ = some (.int .i64 f'.kind) := by rw [set_far (by omega), set_far (by omega), set_far (by omega)]; exact hM.put (by omega) _
  have n7 : ((((y1.setCell ⟨w.heap.size + 1 + 1, 6, none⟩ (.int .i64 f'.kind)).setCell ⟨w.heap.size + 1 + 1, 7, none⟩ (.int .i64 f'.num)).setCell ⟨w.heap.size + 1 + 1, 8, none⟩ (.string f'.name)).setCell ⟨w.heap.size + 1 + 1, 9, none⟩ (.slice f'.base f'.kids.length f'.cap)).cell? ⟨w.heap.size + 1 + 1, 7, none⟩ = some (.int .i64 f'.num) := by rw [set_far (by omega), set_far (by omega)]; exact (hM.set 6 (.int .i64 f'.kind)).put (by omega) _
  have n8 : ((((y1.setCell ⟨w.heap.size + 1 + 1, 6, none⟩ (.int .i64 f'.kind)).setCell ⟨w.heap.size + 1 + 1, 7, none⟩ (.int .i64 f'.num)).setCell ⟨w.heap.size + 1 + 1, 8, none⟩ (.string f'.name)).setCell ⟨w.heap.size + 1 + 1, 9, none⟩ (.slice f'.base f'.kids.length f'.cap)).cell? ⟨w.heap.size + 1 + 1, 8, none⟩ = some (.string f'.name) := by rw [set_far (by omega)]; exact ((hM.set 6 (.int .i64 f'.kind)).set 7 (.int .i64 f'.num)).put (by omega) _
  have n9 : ((((y1.setCell ⟨w.heap.size + 1 + 1, 6, none⟩ (.int .i64 f'.kind)).setCell ⟨w.heap.size + 1 + 1, 7, none⟩ (.int .i64 f'.num)).setCell ⟨w.heap.size + 1 + 1, 8, none⟩ (.string f'.name)).setCell ⟨w.heap.size + 1 + 1, 9, none⟩ (.slice f'.base f'.kids.length f'.cap)).cell? ⟨w.heap.size + 1 + 1, 9, none⟩ = some (.slice f'.base f'.kids.length f'.cap) := by exact (((hM.set 6 (.int .i64 f'.kind)).set 7 (.int .i64 f'.num)).set 8 (.string f'.name)).put (by omega) _
  replace n0 : ((((y1.setCell ⟨w.heap.size + 1 + 1, 6, none⟩ (.int .i64 f'.kind)).setCell ⟨w.heap.size + 1 + 1, 7, none⟩ (.int .i64 f'.num)).setCell ⟨w.heap.size + 1 + 1, 8, none⟩ (.string f'.name)).setCell ⟨w.heap.size + 1 + 1, 9, none⟩ (.slice f'.base f'.kids.length f'.cap)).cell? ⟨w.heap.size + 1 + 1, 0, none⟩ = some (.int .i64 s.kind) := by rw [set_far (by omega), set_far (by omega), set_far (by omega), set_far (by omega)]; exact n0
  replace n1 : ((((y1.setCell ⟨w.heap.size + 1 + 1, 6, none⟩ (.int .i64 f'.kind)).setCell ⟨w.heap.size + 1 + 1, 7, none⟩ (.int .i64 f'.num)).setCell ⟨w.heap.size + 1 + 1, 8, none⟩ (.string f'.name)).setCell ⟨w.heap.size + 1 + 1, 9, none⟩ (.slice f'.base f'.kids.length f'.cap)).cell? ⟨w.heap.size + 1 + 1, 1, none⟩ = some (.string s.name) := by rw [set_far (by omega), set_far (by omega), set_far (by omega), set_far (by omega)]; exact n1
  replace n2 : ((((y1.setCell ⟨w.heap.size + 1 + 1, 6, none⟩ (.int .i64 f'.kind)).setCell ⟨w.heap.size + 1 + 1, 7, none⟩ (.int .i64 f'.num)).setCell ⟨w.heap.size + 1 + 1, 8, none⟩ (.string f'.name)).setCell ⟨w.heap.size + 1 + 1, 9, none⟩ (.slice f'.base f'.kids.length f'.cap)).cell? ⟨w.heap.size + 1 + 1, 2, none⟩ = some (.int .i64 e'.kind) := by rw [set_far (by omega), set_far (by omega), set_far (by omega), set_far (by omega)]; exact n2
  replace n3 : ((((y1.setCell ⟨w.heap.size + 1 + 1, 6, none⟩ (.int .i64 f'.kind)).setCell ⟨w.heap.size + 1 + 1, 7, none⟩ (.int .i64 f'.num)).setCell ⟨w.heap.size + 1 + 1, 8, none⟩ (.string f'.name)).setCell ⟨w.heap.size + 1 + 1, 9, none⟩ (.slice f'.base f'.kids.length f'.cap)).cell? ⟨w.heap.size + 1 + 1, 3, none⟩ = some (.int .i64 e'.num) := by rw [set_far (by omega), set_far (by omega), set_far (by omega), set_far (by omega)]; exact n3
  replace n4 : ((((y1.setCell ⟨w.heap.size + 1 + 1, 6, none⟩ (.int .i64 f'.kind)).setCell ⟨w.heap.size + 1 + 1, 7, none⟩ (.int .i64 f'.num)).setCell ⟨w.heap.size + 1 + 1, 8, none⟩ (.string f'.name)).setCell ⟨w.heap.size + 1 + 1, 9, none⟩ (.slice f'.base f'.kids.length f'.cap)).cell? ⟨w.heap.size + 1 + 1, 4, none⟩ = some (.string e'.name) := by rw [set_far (by omega), set_far (by omega), set_far (by omega), set_far (by omega)]; exact n4
  replace n5 : ((((y1.setCell ⟨w.heap.size + 1 + 1, 6, none⟩ (.int .i64 f'.kind)).setCell ⟨w.heap.size + 1 + 1, 7, none⟩ (.int .i64 f'.num)).setCell ⟨w.heap.size + 1 + 1, 8, none⟩ (.string f'.name)).setCell ⟨w.heap.size + 1 + 1, 9, none⟩ (.slice f'.base f'.kids.length f'.cap)).cell? ⟨w.heap.size + 1 + 1, 5, none⟩ = some (.slice e'.base e'.kids.length e'.cap) := by rw [set_far (by omega), set_far (by omega), set_far (by omega), set_far (by omega)]; exact n5
  clear z6 fz6 z7 fz7 z8 fz8 z9 fz9
  obtain ⟨X1, hX⟩ : ∃ X, ((((y1.setCell ⟨w.heap.size + 1 + 1, 6, none⟩ (.int .i64 f'.kind)).setCell ⟨w.heap.size + 1 + 1, 7, none⟩ (.int .i64 f'.num)).setCell ⟨w.heap.size + 1 + 1, 8, none⟩ (.string f'.name)).setCell ⟨w.heap.size + 1 + 1, 9, none⟩ (.slice f'.base f'.kids.length f'.cap)) = X := ⟨_, rfl⟩
  rw [hX] at hK hM' n0 n1 n2 n3 n4 n5 n6 n7 n8 n9 ⊢
  have hzx : X1.heap.size = y1.heap.size := by rw [← hX]; simp
  clear hX
  replace hM := hM'
  replace hT := hT.of_block (hK.block _ hT.lt (by omega))
  replace hP := hP.kept hK (by omega)
  replace hLX := hLX.kept hK (fun b hb => by have := hok b hb; omega)
  replace hB := hB.trans (hK.below (n := w.heap.size) (by omega) (fun k h => by omega))
  replace hL0 := hL0.mono (fun b q1 q2 => hK.block b (by omega) (by omega))
  replace hob0 : ob0 ≤ X1.heap.size := by omega
  replace hL1 := hL1.mono (fun b q1 q2 => hK.block b (by omega) (by omega))
  replace hob1 : ob1 ≤ X1.heap.size := by omega
  have hz' : w.heap.size + 3 ≤ X1.heap.size := by omega
  clear hM' hK hb hzy
  have hokX : ∀ b, ok b → b < X1.heap.size := fun b hb => by have := hok b hb; omega
  obtain ⟨l1, l2, l3, l4, l5, l6⟩ := hLX.parts
  refine (toSSO s.la s.abase s.acap ok X1 hokX l3 (by omega) (fun j k hk w' hBw => ih k (by have := SX.size_get hk; omega) (m5 j k hk) ok w' (fun b hb => Nat.lt_of_lt_of_le (hokX b hb) hBw.size) ((l5 j k hk).under hBw hokX))).mono ?_
  rintro e y2 ⟨la', rfl, hS2, hsm2, hL2, hb⟩
  obtain ⟨g2, hg2⟩ : ∃ g, X1.heap.size = g := ⟨_, rfl⟩
  rw [hg2] at hL2 ⊢
  have hog2 : ob1 ≤ g2 := by omega
  obtain ⟨ob2, hL2, hgb2, hob2⟩ : ∃ b, OwnSR y2 g2 b (some ⟨g2, 0, none⟩) la' ∧ g2 ≤ b ∧ b ≤ y2.heap.size := ⟨_, hL2, by have := hb.size; omega, Nat.le_refl _⟩
  have hgz2 : w.heap.size + 3 ≤ g2 := by omega
  have hzy : X1.heap.size ≤ y2.heap.size := hb.size
  replace hB := hB.trans (hb.mono (by omega))
  replace hP := hP.below hb (by omega)
  replace hT := hT.of_block (hb.block _ (by omega))
  replace hM := hM.of_block (hb.block _ (by omega))
  replace hLX := hLX.under hb hokX
  replace n0 := below_cell hb n0 (by dsimp only; omega)
  replace n1 := below_cell hb n1 (by dsimp only; omega)
  replace n2 := below_cell hb n2 (by dsimp only; omega)
  replace n3 := below_cell hb n3 (by dsimp only; omega)
  replace n4 := below_cell hb n4 (by dsimp only; omega)
  replace n5 := below_cell hb n5 (by dsimp only; omega)
  replace n6 := below_cell hb n6 (by dsimp only; omega)
  replace n7 := below_cell hb n7 (by dsimp only; omega)
  replace n8 := below_cell hb n8 (by dsimp only; omega)
  replace n9 := below_cell hb n9 (by dsimp only; omega)
  replace hL0 := hL0.mono (fun b q1 q2 => hb.block b (by omega))
  replace hob0 : ob0 ≤ y2.heap.size := by omega
  replace hL1 := hL1.mono (fun b q1 q2 => hb.block b (by omega))
  replace hob1 : ob1 ≤ y2.heap.size := by omega
  obtain ⟨o10, z10⟩ := hM.cell (o := 10) (by omega)
  have fz10 := hM.frozen 10
  obtain ⟨c0, c1, c2, c3, c4, c5, c6, c7, c8, c9, c10, c11⟩ := hP
  go_wp2_with fail
  go_at_call 8
  replace hP : Cells12 y2 w.heap.size 0 s := ⟨c0, c1, c2, c3, c4, c5, c6, c7, c8, c9, c10, c11⟩
  clear c0 c1 c2 c3 c4 c5 c6 c7 c8 c9 c10 c11
  have hK := ((Kept.refl (fun k => k = w.heap.size + 1 + 1) y2).setCell (p := ⟨w.heap.size + 1 + 1, 10, none⟩) rfl (.slice (some ⟨g2, 0, none⟩) s.la.length s.la.length))
  have hM' := (hM.set 10 (.slice (some ⟨g2, 0, none⟩) s.la.length s.la.length))
  have n10 : (y2.setCell ⟨w.heap.size + 1 + 1, 10, none⟩ (.slice (some ⟨g2, 0, none⟩) s.la.length s.la.length)).cell? ⟨w.heap.size + 1 + 1, 10, none⟩ = some (.slice (some ⟨g2, 0, none⟩) s.la.length s.la.length) := by exact hM.put (by omega) _
  replace n0 : (y2.setCell ⟨w.heap.size + 1 + 1, 10, none⟩ (.slice (some ⟨g2, 0, none⟩) s.la.length s.la.length)).cell? ⟨w.heap.size + 1 + 1, 0, none⟩ = some (.int .i64 s.kind) := by rw [set_far (by omega)]; exact n0
  replace n1 : (y2.setCell ⟨w.heap.size + 1 + 1, 10, none⟩ (.slice (some ⟨g2, 0, none⟩) s.la.length s.la.length)).cell? ⟨w.heap.size + 1 + 1, 1, none⟩ = some (.string s.name) := by rw [set_far (by omega)]; exact n1
  replace n2 : (y2.setCell ⟨w.heap.size + 1 + 1, 10, none⟩ (.slice (some ⟨g2, 0, none⟩) s.la.length s.la.length)).cell? ⟨w.heap.size + 1 + 1, 2, none⟩ = some (.int .i64 e'.kind) := by rw [set_far (by omega)]; exact n2
  replace n3 : (y2.setCell ⟨w.heap.size + 1 + 1, 10, none⟩ (.slice (some ⟨g2, 0, none⟩) s.la.length s.la.length)).cell? ⟨w.heap.size + 1 + 1, 3, none⟩ = some (.int .i64 e'.num) := by rw [set_far (by omega)]; exact n3
  replace n4 : (y2.setCell ⟨w.heap.size + 1 + 1, 10, none⟩ (.slice (some ⟨g2, 0, none⟩) s.la.length s.la.length)).cell? ⟨w.heap.size + 1 + 1, 4, none⟩ = some (.string e'.name) := by rw [set_far (by omega)]; exact n4
  replace n5 : (y2.setCell ⟨w.heap.size + 1 + 1, 10, none⟩ (.slice (some ⟨g2, 0, none⟩) s.la.length s.la.length)).cell? ⟨w.heap.size + 1 + 1, 5, none⟩ = some (.slice e'.base e'.kids.length e'.cap) := by rw [set_far (by omega)]; exact n5
  replace n6 : (y2.setCell ⟨w.heap.size + 1 + 1, 10, none⟩ (.slice (some ⟨g2, 0, none⟩) s.la.length s.la.length)).cell? ⟨w.heap.size + 1 + 1, 6, none⟩ = some (.int .i64 f'.kind) := by rw [set_far (by omega)]; exact n6
  replace n7 : (y2.setCell ⟨w.heap.size + 1 + 1, 10, none⟩ (.slice (some ⟨g2, 0, none⟩) s.la.length s.la.length)).cell? ⟨w.heap.size + 1 + 1, 7, none⟩ = some (.int .i64 f'.num) := by rw [set_far (by omega)]; exact n7
  replace n8 : (y2.setCell ⟨w.heap.size + 1 + 1, 10, none⟩ (.slice (some ⟨g2, 0, none⟩) s.la.length s.la.length)).cell? ⟨w.heap.size + 1 + 1, 8, none⟩ = some (.string f'.name) := by rw [set_far (by omega)]; exact n8
  replace n9 : (y2.setCell ⟨w.heap.size + 1 + 1, 10, none⟩ (.slice (some ⟨g2, 0, none⟩) s.la.length s.la.length)).cell? ⟨w.heap.size + 1 + 1, 9, none⟩ = some (.slice f'.base f'.kids.length f'.cap) := by rw [set_far (by omega)]; exact n9
  clear z10 fz10
  obtain ⟨X2, hX⟩ : ∃ X, (y2.setCell ⟨w.heap.size + 1 + 1, 10, none⟩ (.slice (some ⟨g2, 0, none⟩) s.la.length s.la.length)) = X := ⟨_, rfl⟩
  rw [hX] at hK hM' n0 n1 n2 n3 n4 n5 n6 n7 n8 n9 n10 ⊢
  have hzx : X2.heap.size = y2.heap.size := by rw [← hX]; simp
  clear hX
  replace hM := hM'
  replace hT := hT.of_block (hK.block _ hT.lt (by omega))
  replace hP := hP.kept hK (by omega)
  replace hLX := hLX.kept hK (fun b hb => by have := hok b hb; omega)
  replace hB := hB.trans (hK.below (n := w.heap.size) (by omega) (fun k h => by omega))
  replace hL0 := hL0.mono (fun b q1 q2 => hK.block b (by omega) (by omega))
  replace hob0 : ob0 ≤ X2.heap.size := by omega
  replace hL1 := hL1.mono (fun b q1 q2 => hK.block b (by omega) (by omega))
  replace hob1 : ob1 ≤ X2.heap.size := by omega
  replace hL2 := hL2.mono (fun b q1 q2 => hK.block b (by omega) (by omega))
  replace hob2 : ob2 ≤ X2.heap.size := by omega
  have hz' : w.heap.size + 3 ≤ X2.heap.size := by omega
  clear hM' hK hb hzy
  have hokX : ∀ b, ok b → b < X2.heap.size := fun b hb => by have := hok b hb; omega
  obtain ⟨l1, l2, l3, l4, l5, l6⟩ := hLX.parts
  refine (toSSO s.lb s.bbase s.bcap ok X2 hokX l4 (by omega) (fun j k hk w' hBw => ih k (by have := SX.size_get hk; omega) (m6 j k hk) ok w' (fun b hb => Nat.lt_of_lt_of_le (hokX b hb) hBw.size) ((l6 j k hk).under hBw hokX))).mono ?_
  rintro e y3 ⟨lb', rfl, hS3, hsm3, hL3, hb⟩
  obtain ⟨g3, hg3⟩ : ∃ g, X2.heap.size = g := ⟨_, rfl⟩
  rw [hg3] at hL3 ⊢
  have hog3 : ob2 ≤ g3 := by omega
  obtain ⟨ob3, hL3, hgb3, hob3⟩ : ∃ b, OwnSR y3 g3 b (some ⟨g3, 0, none⟩) lb' ∧ g3 ≤ b ∧ b ≤ y3.heap.size := ⟨_, hL3, by have := hb.size; omega, Nat.le_refl _⟩
  have hgz3 : w.heap.size + 3 ≤ g3 := by omega
  have hzy : X2.heap.size ≤ y3.heap.size := hb.size
  replace hB := hB.trans (hb.mono (by omega))
  replace hP := hP.below hb (by omega)
  replace hT := hT.of_block (hb.block _ (by omega))
  replace hM := hM.of_block (hb.block _ (by omega))
  replace hLX := hLX.under hb hokX
  replace n0 := below_cell hb n0 (by dsimp only; omega)
  replace n1 := below_cell hb n1 (by dsimp only; omega)
  replace n2 := below_cell hb n2 (by dsimp only; omega)
  replace n3 := below_cell hb n3 (by dsimp only; omega)
  replace n4 := below_cell hb n4 (by dsimp only; omega)
  replace n5 := below_cell hb n5 (by dsimp only; omega)
  replace n6 := below_cell hb n6 (by dsimp only; omega)
  replace n7 := below_cell hb n7 (by dsimp only; omega)
  replace n8 := below_cell hb n8 (by dsimp only; omega)
  replace n9 := below_cell hb n9 (by dsimp only; omega)
  replace n10 := below_cell hb n10 (by dsimp only; omega)
  replace hL0 := hL0.mono (fun b q1 q2 => hb.block b (by omega))
  replace hob0 : ob0 ≤ y3.heap.size := by omega
  replace hL1 := hL1.mono (fun b q1 q2 => hb.block b (by omega))
  replace hob1 : ob1 ≤ y3.heap.size := by omega
  replace hL2 := hL2.mono (fun b q1 q2 => hb.block b (by omega))
  replace hob2 : ob2 ≤ y3.heap.size := by omega
  obtain ⟨o11, z11⟩ := hM.cell (o := 11) (by omega)
  have fz11 := hM.frozen 11
  obtain ⟨c0, c1, c2, c3, c4, c5, c6, c7, c8, c9, c10, c11⟩ := hP
  obtain ⟨p0, t0⟩ := hT.cell (o := 0) (by omega)
  have ft0 := hT.frozen 0
  obtain ⟨p1, t1⟩ := hT.cell (o := 1) (by omega)
  have ft1 := hT.frozen 1
  obtain ⟨p2, t2⟩ := hT.cell (o := 2) (by omega)
  have ft2 := hT.frozen 2
  obtain ⟨p3, t3⟩ := hT.cell (o := 3) (by omega)
  have ft3 := hT.frozen 3
  obtain ⟨p4, t4⟩ := hT.cell (o := 4) (by omega)
  have ft4 := hT.frozen 4
  obtain ⟨p5, t5⟩ := hT.cell (o := 5) (by omega)
  have ft5 := hT.frozen 5
  obtain ⟨p6, t6⟩ := hT.cell (o := 6) (by omega)
  have ft6 := hT.frozen 6
  obtain ⟨p7, t7⟩ := hT.cell (o := 7) (by omega)
  have ft7 := hT.frozen 7
  obtain ⟨p8, t8⟩ := hT.cell (o := 8) (by omega)
  have ft8 := hT.frozen 8
  obtain ⟨p9, t9⟩ := hT.cell (o := 9) (by omega)
  have ft9 := hT.frozen 9
  obtain ⟨p10, t10⟩ := hT.cell (o := 10) (by omega)
  have ft10 := hT.frozen 10
  obtain ⟨p11, t11⟩ := hT.cell (o := 11) (by omega)
  have ft11 := hT.frozen 11
  go_wp2
  have hK : Kept (fun k => k = w.heap.size + 1 ∨ k = w.heap.size + 1 + 1) y3 (((((((((((((y3.setCell ⟨w.heap.size + 1 + 1, 11, none⟩ (.slice (some ⟨g3, 0, none⟩) s.lb.length s.lb.length)).setCell ⟨w.heap.size + 1, 0, none⟩ (.int .i64 s.kind)).setCell ⟨w.heap.size + 1, 1, none⟩ (.string s.name)).setCell ⟨w.heap.size + 1, 2, none⟩ (.int .i64 e'.kind)).setCell ⟨w.heap.size + 1, 3, none⟩ (.int .i64 e'.num)).setCell ⟨w.heap.size + 1, 4, none⟩ (.string e'.name)).setCell ⟨w.heap.size + 1, 5, none⟩ (.slice e'.base e'.kids.length e'.cap)).setCell ⟨w.heap.size + 1, 6, none⟩ (.int .i64 f'.kind)).setCell ⟨w.heap.size + 1, 7, none⟩ (.int .i64 f'.num)).setCell ⟨w.heap.size + 1, 8, none⟩ (.string f'.name)).setCell ⟨w.heap.size + 1, 9, none⟩ (.slice f'.base f'.kids.length f'.cap)).setCell ⟨w.heap.size + 1, 10, none⟩ (.slice (some ⟨g2, 0, none⟩) s.la.length s.la.length)).setCell ⟨w.heap.size + 1, 11, none⟩ (.slice (some ⟨g3, 0, none⟩) s.lb.length s.lb.length)) :=
    ((((((((((((((Kept.refl (fun k => k = w.heap.size + 1 ∨ k = w.heap.size + 1 + 1) y3).setCell (p := ⟨w.heap.size + 1 + 1, 11, none⟩) (.inr rfl) _).setCell (p := ⟨w.heap.size + 1, 0, none⟩) (.inl rfl) _).setCell (p := ⟨w.heap.size + 1, 1, none⟩) (.inl rfl) _).setCell (p := ⟨w.heap.size + 1, 2, none⟩) (.inl rfl) _).setCell (p := ⟨w.heap.size + 1, 3, none⟩) (.inl rfl) _).setCell (p := ⟨w.heap.size + 1, 4, none⟩) (.inl rfl) _).setCell (p := ⟨w.heap.size + 1, 5, none⟩) (.inl rfl) _).setCell (p := ⟨w.heap.size + 1, 6, none⟩) (.inl rfl) _).setCell (p := ⟨w.heap.size + 1, 7, none⟩) (.inl rfl) _).setCell (p := ⟨w.heap.size + 1, 8, none⟩) (.inl rfl) _).setCell (p := ⟨w.heap.size + 1, 9, none⟩) (.inl rfl) _).setCell (p := ⟨w.heap.size + 1, 10, none⟩) (.inl rfl) _).setCell (p := ⟨w.heap.size + 1, 11, none⟩) (.inl rfl) _)
  first | go_returns | (refine bodyPost_ret (by simp [results, Try.results23, go_sem, *]; try rfl) rfl ?_)
  refine ⟨.mk s.kind s.name e' f' (some ⟨g2, 0, none⟩) s.la.length la' (some ⟨g3, 0, none⟩) s.lb.length lb', ?_, ?_, ?_, ?_⟩
  · simp only [SX.val, SX.kind, SX.name, SX.e, SX.f, SX.abase, SX.acap, SX.la, SX.bbase, SX.bcap, SX.lb, hS2, hS3]
  · exact .mk _ _ rfl rfl hS0 hS1 hS2 hS3 hsm2 hsm3
  · have hzK := hK.size
    refine ⟨fun m => if m = 0 then oa0 else if m = 1 then oa1 else if m = 2 then g2 else g3, fun m => if m = 0 then ob0 else if m = 1 then ob1 else if m = 2 then ob2 else ob3, fun m hm => ?_, fun m n hm hn hmn => ?_, ?_, ?_, ?_, ?_⟩
    · rcases (show m = 0 ∨ m = 1 ∨ m = 2 ∨ m = 3 by omega) with rfl | rfl | rfl | rfl <;> simp <;> omega
    · rcases (show m = 0 ∨ m = 1 ∨ m = 2 ∨ m = 3 by omega) with rfl | rfl | rfl | rfl <;> rcases (show n = 0 ∨ n = 1 ∨ n = 2 ∨ n = 3 by omega) with rfl | rfl | rfl | rfl <;> first | exact absurd rfl hmn | (simp; omega)
    · exact hL0.mono (fun b q1 q2 => hK.block b (by first | omega | (simp at q2; omega)) (by first | omega | (simp at q1; omega)))
    · exact hL1.mono (fun b q1 q2 => hK.block b (by first | omega | (simp at q2; omega)) (by first | omega | (simp at q1; omega)))
    · exact hL2.mono (fun b q1 q2 => hK.block b (by first | omega | (simp at q2; omega)) (by first | omega | (simp at q1; omega)))
    · exact hL3.mono (fun b q1 q2 => hK.block b (by first | omega | (simp at q2; omega)) (by first | omega | (simp at q1; omega)))
  · exact hB.trans (hK.below (by have := hB.size; omega) (fun k h => by omega))
end Go.Proofs.Ytimfdfeleoaehaa
