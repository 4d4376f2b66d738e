/-
  The program's copies of expressions: the same, in memory of their own.
-/
import Derived.Test.YtomdbaokidphjaaMarkA
import Derived.Test.YtomdbaokidphjaaHoldA
namespace Go.Proofs.Ytomdbaokidphjaa
open Go.RowKit Go.Shelf
set_option linter.unusedSimpArgs false
set_option linter.unusedVariables false
attribute [local go_sem] Oper.semAt_some

def c4 (t : XT) : List Value := [.int .i64 t.kind, .int .i64 t.num, .string t.name, .slice t.base t.kids.length t.cap]
def fl4 : List XT → List Value
  | [] => []
  | t :: ts => c4 t ++ fl4 ts
theorem fl4_length (us : List XT) : (fl4 us).length = us.length * 4 := by
  induction us with
  | nil => rfl
  | cons x xs ih => simp [fl4, c4, ih]; omega
theorem fl4_snoc (us : List XT) (t : XT) : fl4 (us ++ [t]) = fl4 us ++ c4 t := by
  induction us with
  | nil => simp [fl4]
  | cons x xs ih => simp [fl4, ih]
theorem fl4_get {us : List XT} {i j : Nat} {t : XT} {v : Value} (h : us[i]? = some t) (hv : (c4 t)[j]? = some v) : (fl4 us)[i * 4 + j]? = some v := by
  induction us generalizing i with
  | nil => simp at h
  | cons x xs ih =>
    have hj : j < 4 := by have := (List.getElem?_eq_some_iff.1 hv).1; simpa [c4] using this
    cases i with
    | zero =>
      simp at h
      subst h
      rw [fl4, List.getElem?_append_left (by simp [c4]; omega)]
      simpa using hv
    | succ i =>
      rw [fl4, List.getElem?_append_right (by simp [c4]; omega)]
      have h1 := ih (i := i) (by simpa using h)
      have h2 : (i + 1) * 4 + j - (c4 x).length = i * 4 + j := by simp [c4]; omega
      rw [h2]
      exact h1
/-- A list that has been appended to, each of its expressions with all within it in an interval of blocks of its own. -/
structure AccE (W : World) (base : Nat) (v : Value) (us : List XT) (l h : Nat → Nat) : Prop where
  own : W.ownsRow base 38 4 v us.length (fl4 us)
  int : ∀ (i : Nat), i < us.length → base ≤ l i ∧ h i ≤ W.heap.size ∧ (∀ g, v.ownBlock = some g → g < l i ∨ h i ≤ g)
  ord : ∀ (i j : Nat), i < j → j < us.length → h i ≤ l j
  kid : ∀ (i : Nat) (t : XT), us[i]? = some t → OwnR W (l i) (h i) t.base t.kids
theorem AccE.nil (W : World) (base : Nat) : AccE W base (.slice none 0 0) [] (fun _ => 0) (fun _ => 0) :=
  ⟨World.ownsRow_nil _ _ _ _, fun i h => by simp at h, fun i j _ h => by simp at h, fun i t h => by simp at h⟩
theorem AccE.below {A B : World} {base : Nat} {v : Value} {us : List XT} {l h : Nat → Nat} (hA : AccE A base v us l h) (hb : Below A.heap.size A B) : AccE B base v us l h := by
  refine ⟨own_on hA.own (fun g hg => hb.block g (hA.own.lt g hg).2), fun i hi => ?_, hA.ord, fun i t ht => (hA.kid i t ht).mono (fun b q1 q2 => hb.block b ?_)⟩
  · obtain ⟨h1, h2, h3⟩ := hA.int i hi
    exact ⟨h1, Nat.le_trans h2 hb.size, h3⟩
  · have := (hA.int i (List.getElem?_eq_some_iff.1 ht).1).2.1; omega
theorem AccE.push {A B : World} {base n : Nat} {v v' : Value} {us : List XT} {l h : Nat → Nat} {t : XT} {lo hi : Nat} (hA : AccE A base v us l h) (hn : us.length = n) (hO : OwnR A lo hi t.base t.kids) (hlo : ∀ i, i < us.length → h i ≤ lo) (hb : base ≤ lo) (hhi : hi ≤ A.heap.size) (hv : ∀ g, v.ownBlock = some g → g < lo ∨ hi ≤ g) (hbase : base ≤ A.heap.size)
    (hown : B.ownsRow base 38 4 v' (n + 1) (fl4 us ++ c4 t)) (hback : Back A B base 38 4 n 1 v v' (fl4 us) (c4 t)) :
    AccE B base v' (us ++ [t]) (fun i => if i = n then lo else l i) (fun i => if i = n then hi else h i) := by
  -- all but the row is as it was
  have hblk : ∀ b, b < A.heap.size → (∀ g, v.ownBlock = some g → b ≠ g) → B.heap[b]? = A.heap[b]? := by
    intro b hb hg
    rcases hback with ⟨h1, h2, h3, h4⟩ | ⟨h1, h3⟩
    · exact h3.block b hb (fun e => hg b e.symm rfl)
    · exact h3.block b hb
  have hz : A.heap.size ≤ B.heap.size := by
    rcases hback with ⟨h1, h2, h3, h4⟩ | ⟨h1, h3⟩
    · exact h3.size
    · exact h3.size
  have hv' : ∀ g, v'.ownBlock = some g → v.ownBlock = some g ∨ g = A.heap.size := by
    intro g hg
    rcases hback with ⟨h1, h2, h3, h4⟩ | ⟨h1, h3⟩
    · rw [h1] at hg; exact .inl hg
    · rw [h1] at hg; cases hg; exact .inr rfl
  refine ⟨?_, fun i hi' => ?_, fun i j hij hj => ?_, fun i y hy => ?_⟩
  · rw [fl4_snoc, List.length_append, hn]
    exact hown
  · simp only [List.length_append, List.length_singleton] at hi'
    by_cases e : i = n
    · simp only [e, if_true]
      refine ⟨hb, by omega, fun g hg => ?_⟩
      rcases hv' g hg with h1 | h1
      · exact hv g h1
      · right; omega
    · simp only [e, if_false]
      obtain ⟨h1, h2, h3⟩ := hA.int i (by omega)
      refine ⟨h1, by omega, fun g hg => ?_⟩
      rcases hv' g hg with h4 | h4
      · exact h3 g h4
      · right; omega
  · simp only [List.length_append, List.length_singleton] at hj
    have hi' : i ≠ n := by omega
    simp only [hi', if_false]
    by_cases e : j = n
    · simp only [e, if_true]
      exact hlo i (by omega)
    · simp only [e, if_false]
      exact hA.ord i j hij (by omega)
  · by_cases e : i < us.length
    · rw [List.getElem?_append_left e] at hy
      have hi' : i ≠ n := by omega
      simp only [hi', if_false]
      obtain ⟨h1, h2, h3⟩ := hA.int i e
      exact (hA.kid i y hy).mono (fun b q1 q2 => hblk b (by omega) (fun g hg e => by rcases h3 g hg with h | h <;> omega))
    · have hi' : i = n := by
        have := (List.getElem?_eq_some_iff.1 hy).1
        simp at this
        omega
      rw [List.getElem?_append_right (by omega)] at hy
      simp [hi', hn] at hy
      subst hy
      simp only [hi', if_true]
      exact hO.mono (fun b q1 q2 => hblk b (by omega) (fun g hg e => by rcases hv g hg with h | h <;> omega))
theorem AccE.done {W : World} {base : Nat} {v : Value} {us : List XT} {l h : Nat → Nat} (hA : AccE W base v us l h) : ∃ a c, v = .slice a us.length c ∧ OwnR W base W.heap.size a us := by
  rcases hA.own.2 with ⟨rfl, h0⟩ | ⟨g, cap, cur, rfl, hb, hg, hnc, hcm, hcs, htk⟩
  · have : us = [] := List.length_eq_zero_iff.1 h0
    subst this
    exact ⟨none, 0, rfl, .mk _ _ _ _ 0 0 (fun _ => 0) (fun _ => 0) (fun i k hk => by simp at hk) (fun i k hk => by simp at hk) (fun i hi => by simp at hi) (fun i j hi => by simp at hi) (fun i k hk => by simp at hk)⟩
  · refine ⟨_, cap, rfl, .mk base W.heap.size _ us g (cap * 4) l h (fun i k hk => ⟨rfl, hb, (Array.getElem?_eq_some_iff.1 hg).1, ⟨cur, hg, hcs⟩, by omega⟩) (fun i k hk => ?_) (fun i hi => ?_) (fun i j hi hj hij => ?_) hA.kid⟩
    · have hcell : ∀ (j : Nat) (u : Value), (c4 k)[j]? = some u → W.cell? ⟨g, 0 + i * 4 + j, none⟩ = some u := by
        intro j u hj
        have h1 := hA.own.cells (g := g) rfl _ u (fl4_get hk hj)
        have hadd : (⟨g, 0, none⟩ : Addr).add (i * 4 + j) = ⟨g, 0 + i * 4 + j, none⟩ := by unfold Addr.add; split <;> simp_all
        rw [hadd] at h1
        exact h1
      exact ⟨hcell 0 _ rfl, hcell 1 _ rfl, hcell 2 _ rfl, hcell 3 _ rfl⟩
    · obtain ⟨h1, h2, h3⟩ := hA.int i hi
      exact ⟨h1, h2, h3 g rfl⟩
    · rcases Nat.lt_or_gt_of_ne hij with h1 | h1
      · exact .inl (hA.ord i j h1 hj)
      · exact .inr (hA.ord j i h1 hi)
theorem news4 (w : World) (t : XT) (T : TypeId) : ∀ j u, (c4 t)[j]? = some u → (w.alloc (.cells #[.int .i64 t.kind, .int .i64 t.num, .string t.name, .slice t.base t.kids.length t.cap] T)).cell? ((⟨w.heap.size, 0, none⟩ : Addr).add j) = some u := by
  intro j u hj
  have hadd : (⟨w.heap.size, 0, none⟩ : Addr).add j = ⟨w.heap.size, j, none⟩ := by unfold Addr.add; split <;> simp_all
  rw [hadd]
  have h := World.cell?_alloc_new w #[.int .i64 t.kind, .int .i64 t.num, .string t.name, .slice t.base t.kids.length t.cap] T j
  rw [h]
  simpa [c4] using hj

set_option maxRecDepth 10000 in
set_option maxHeartbeats 4000000 in
theorem eachE (ks : List XT) (a : Option Addr) (c : Nat) (ok : Nat → Prop) (w : World) (hok : ∀ b, ok b → b < w.heap.size) (hcl : ERow ok w a ks) (hlen : ks.length ≤ 1048577)
    (H : ∀ (i : Nat) (k : XT), ks[i]? = some k → ∀ (w' : World), Below w.heap.size w w' →
      Calls Try.prog 30 #[k.val] w' fun e w'' => ∃ t : XT, e = .returned t.val ∧ Same k t ∧ OwnR w'' w'.heap.size w''.heap.size t.base t.kids ∧ Below w'.heap.size w' w'') :
    Calls Try.prog 37 #[.slice a ks.length c, .func (.func 30) #[] #[]] w fun e w' => ∃ (v : Value) (us : List XT) (l h : Nat → Nat), e = .returned v ∧ us.length = ks.length ∧ (∀ (i : Nat) (x y : XT), ks[i]? = some x → us[i]? = some y → Same x y) ∧ AccE w' w.heap.size v us l h ∧ Below w.heap.size w w' := by
  obtain ⟨len, hl⟩ : ∃ len, ks.length = len := ⟨_, rfl⟩
  rw [hl] at hlen ⊢
  obtain ⟨i0, hi0, hz0, hz1, hz2⟩ := info_parts infoE
  go_enter Try.func37, Try.ntmps37
  go_wp2_with fail
  go_loopw [5, 10] (fun v5 v10 wr => ∃ (i : Nat) (us : List XT) (l h : Nat → Nat), v10 = .int .i64 i ∧ i ≤ len ∧ us.length = i ∧ Hid (∀ (j : Nat) (x y : XT), ks[j]? = some x → us[j]? = some y → Same x y) ∧ Hid (AccE wr w.heap.size v5 us l h) ∧ Below w.heap.size w wr) (fun _ v10 _ => len - (intOf v10).toNat)
  case atStart => exact ⟨0, [], _, _, rfl, by omega, rfl, fun j x y _ hy => by simp at hy, AccE.nil _ _, Below.refl _ _⟩
  case round =>
    obtain ⟨i, us, l, h, rfl, hi, hul, hsm, hA, hB⟩ := hrel
    obtain ⟨v, rfl⟩ : ∃ v, v = u5 := ⟨_, rfl⟩
    by_cases hlt : i < len
    · obtain ⟨x, hx⟩ : ∃ x, ks[i]? = some x := ⟨_, List.getElem?_eq_getElem (by omega)⟩
      obtain ⟨b1, o1, hbase1, hok1, hc1⟩ := hcl i x hx
      obtain ⟨c0, c1, c2, c3⟩ := hc1.below hB (hok b1 hok1)
      obtain ⟨W1, hW1⟩ : ∃ W1, wr.alloc (.cells #[.int .i64 x.kind, .int .i64 x.num, .string x.name, .slice x.base x.kids.length x.cap] 38) = W1 := ⟨_, rfl⟩
      have hB1 : Below wr.heap.size wr W1 := by rw [← hW1]; exact (Below.refl _ _).alloc (Nat.le_refl _) _
      have hs1 : wr.heap.size + 1 = W1.heap.size := by rw [← hW1]; simp
      have hC1 : Cells4 W1 wr.heap.size 0 x := by rw [← hW1]; exact Cells4.new wr x
      have hcall : Hid (Calls Try.prog 30 #[x.val] W1 fun e w'' => ∃ t : XT, e = .returned t.val ∧ Same x t ∧ OwnR w'' W1.heap.size w''.heap.size t.base t.kids ∧ Below W1.heap.size W1 w'') := H i x hx W1 (bstep hB hB1)
      obtain ⟨d0, d1, d2, d3⟩ := hC1
      have hA1 := hA.out.below hB1
      subst hbase1
      go_wp2_with fail
      go_at_call 30
      refine hcall.out.mono ?_
      rintro e w2 ⟨t, rfl, hxt, hO, hB2⟩
      clear c0 c1 c2 c3 d0 d1 d2 d3 hcall hW1
      have hA2 := hA1.below hB2
      have hz2' := hB2.size
      obtain ⟨W3, hW3⟩ : ∃ W3, w2.alloc (.cells #[.int .i64 t.kind, .int .i64 t.num, .string t.name, .slice t.base t.kids.length t.cap] 38) = W3 := ⟨_, rfl⟩
      have hB3 : Below w2.heap.size w2 W3 := by rw [← hW3]; exact (Below.refl _ _).alloc (Nat.le_refl _) _
      have hs3 : w2.heap.size + 1 = W3.heap.size := by rw [← hW3]; simp
      have hnew : ∀ j u, (c4 t)[j]? = some u → W3.cell? ((⟨w2.heap.size, 0, none⟩ : Addr).add j) = some u := by rw [← hW3]; exact news4 w2 t _
      have hA3 := hA2.below hB3
      have hO3 : OwnR W3 W1.heap.size w2.heap.size t.base t.kids := hO.mono (fun b q1 q2 => hB3.block b q2)
      have hzw := hB.size
      have hown3 : Hid (W3.ownsRow w.heap.size 38 4 v us.length (fl4 us)) := hA3.own
      have hnewH : Hid (∀ j u, (c4 t)[j]? = some u → W3.cell? ((⟨w2.heap.size, 0, none⟩ : Addr).add j) = some u) := hnew
      clear hnew
      go_wp2_with (at_builtin; refine wpList_append_back _ rfl _ _ 36 rfl w.heap.size 38 i0 _ 4 56 Try.underlying36 hi0 hz0 hz1 hz2 rfl (by decide) v us.length (fl4 us) rfl hown3.out ⟨w2.heap.size, 0, none⟩ 1 1 (c4 t) rfl rfl hnewH.out (by simp [c4, Value.oneCell']) (by unfold maxLen; omega) (by omega) (by omega) (by omega) ?_; intro v' w4 hown' hback)
      have hP := hA3.push rfl hO3 (fun j hj => by have := (hA1.int j hj).2.1; omega) (by omega) (by omega) (fun g hg => by have := (hA1.own.lt g hg).2; omega) (by omega) hown' hback
      have hB4 : Below w.heap.size w w4 := by
        have h0 : Below w.heap.size w W3 := bstep (bstep (bstep hB hB1) hB2) hB3
        refine h0.trans (hback.kept.below (by omega) (fun k hk => ?_))
        rcases hk with hk | hk
        · exact (hA3.own.lt k hk).1
        · exact (hown'.lt k hk).1
      refine ⟨⟨i + 1, us ++ [t], _, _, by go_num, by omega, by simp [hul], ?_, hP, hB4⟩, by simp [intOf]; omega⟩
      intro j y z hy hz
      by_cases hj : j < us.length
      · rw [List.getElem?_append_left hj] at hz
        exact hsm.out j y z hy hz
      · have hji : j = i := by
          have := (List.getElem?_eq_some_iff.1 hz).1
          simp at this
          omega
        subst hji
        rw [List.getElem?_append_right (by omega)] at hz
        simp [hul] at hz
        subst hz
        rw [hx] at hy
        cases hy
        exact hxt
    · have he : i = len := by omega
      go_wp2_with fail
      go_returns
      exact ⟨v, us, l, h, rfl, by omega, hsm.out, hA.out, hB⟩
set_option maxRecDepth 10000 in
set_option maxHeartbeats 4000000 in
theorem copyE (sz : Nat) : ∀ t : XT, t.size ≤ sz → sz ≤ 1048577 → ∀ (ok : Nat → Prop) (w : World), (∀ b, ok b → b < w.heap.size) → Lies ok w t →
    Calls Try.prog 30 #[t.val] w fun e w' => ∃ t' : XT, e = .returned t'.val ∧ Same t t' ∧ OwnR w' w.heap.size w'.heap.size t'.base t'.kids ∧ Below w.heap.size w w' := by
  induction sz with
  | zero => intro t h; rw [XT.size_eq] at h; omega
  | succ sz ih =>
  intro t hsz hlim ok w hok hL
  have hlt := t.length_le
  obtain ⟨W1, hW1⟩ : ∃ W1, w.alloc (.cells #[.int .i64 t.kind, .int .i64 t.num, .string t.name, .slice t.base t.kids.length t.cap] 38) = W1 := ⟨_, rfl⟩
  obtain ⟨W2, hW2⟩ : ∃ W2, W1.alloc (.cells #[.int .i64 0, .int .i64 0, .string ⟨#[]⟩, .slice none 0 0] 38) = W2 := ⟨_, rfl⟩
  have s1 : W1.heap.size = w.heap.size + 1 := by rw [← hW1]; simp
  have s2 : W2.heap.size = w.heap.size + 2 := by rw [← hW2]; simp [s1]
  have hB2 : Below w.heap.size w W2 := by rw [← hW2, ← hW1]; exact ((Below.refl _ w).alloc (Nat.le_refl _) _).alloc (by simp) _
  have hR1 : RowAt W2 w.heap.size 4 38 := by
    have h := RowAt.new w #[.int .i64 t.kind, .int .i64 t.num, .string t.name, .slice t.base t.kids.length t.cap] 38
    rw [hW1] at h
    rw [← hW2]
    exact h.of_block (Below.heap_alloc _ _ _ (by omega))
  have hR2 : RowAt W2 (w.heap.size + 1) 4 38 := by
    have h := RowAt.new W1 #[.int .i64 0, .int .i64 0, .string ⟨#[]⟩, .slice none 0 0] 38
    rw [hW2, s1] at h
    exact h
  have hC : Cells4 W2 w.heap.size 0 t := by
    have h := Cells4.new w t
    rw [hW1] at h
    rw [← hW2]
    exact h.below (n := W1.heap.size) ((Below.refl _ _).alloc (Nat.le_refl _) _) (by omega)
  have hL2 := hL.under hB2 hok
  have hok2 : ∀ b, ok b → b < W2.heap.size := fun b hb => Nat.lt_of_lt_of_le (hok b hb) hB2.size
  have hcall := eachE t.kids t.base t.cap ok W2 hok2 hL2.cells (by omega) (fun i k hk w' hBw => ih k (by have h5 := XT.size_get hk; have h6 := t.size_eq; omega) (by omega) ok w' (fun b hb => Nat.lt_of_lt_of_le (hok2 b hb) hBw.size) ((hL2.kid i k hk).under hBw hok2))
  have hcH : Hid (Calls Try.prog 37 #[.slice t.base t.kids.length t.cap, .func (.func 30) #[] #[]] W2 fun e w' => ∃ (v : Value) (us : List XT) (l h : Nat → Nat), e = .returned v ∧ us.length = t.kids.length ∧ (∀ (i : Nat) (x y : XT), t.kids[i]? = some x → us[i]? = some y → Same x y) ∧ AccE w' W2.heap.size v us l h ∧ Below W2.heap.size W2 w') := hcall
  clear hcall
  have c3 := hC.c3
  rw [Nat.zero_add] at c3
  go_enter Try.func30, Try.ntmps30
  go_wp2_with fail
  go_at_call 37
  refine hcH.out.mono ?_
  rintro e w3 ⟨v, us, l, h, rfl, hul, hus, hA, hB3⟩
  obtain ⟨a', c', rfl, hO⟩ := hA.done
  clear c3 hcH hW1 hW2
  have hz3 := hB3.size
  have hC3 := hC.below hB3 (by omega)
  have hR13 := hR1.of_block (hB3.block _ (by omega))
  have hR23 := hR2.of_block (hB3.block _ (by omega))
  have m0 : w3.cell? ⟨w.heap.size, 0, none⟩ = some (.int .i64 t.kind) := hC3.c0
  have m1 : w3.cell? ⟨w.heap.size, 1, none⟩ = some (.int .i64 t.num) := hC3.c1
  have m2 : w3.cell? ⟨w.heap.size, 2, none⟩ = some (.string t.name) := hC3.c2
  obtain ⟨v3, m3⟩ := hR13.cell (o := 3) (by omega)
  have f3 := hR13.frozen 3
  obtain ⟨u0, q0⟩ := hR23.cell (o := 0) (by omega)
  obtain ⟨u1, q1⟩ := hR23.cell (o := 1) (by omega)
  obtain ⟨u2, q2⟩ := hR23.cell (o := 2) (by omega)
  obtain ⟨u3, q3⟩ := hR23.cell (o := 3) (by omega)
  have g0 := hR23.frozen 0
  have g1 := hR23.frozen 1
  have g2 := hR23.frozen 2
  have g3 := hR23.frozen 3
  rw [hul]
  go_wp2
  have hK5 : Kept (fun k => k = w.heap.size ∨ k = w.heap.size + 1) w3 (((((w3.setCell ⟨w.heap.size, 3, none⟩ (.slice a' t.kids.length c')).setCell ⟨w.heap.size + 1, 0, none⟩ (.int .i64 t.kind)).setCell ⟨w.heap.size + 1, 1, none⟩ (.int .i64 t.num)).setCell ⟨w.heap.size + 1, 2, none⟩ (.string t.name)).setCell ⟨w.heap.size + 1, 3, none⟩ (.slice a' t.kids.length c')) :=
    (((((Kept.refl (fun k => k = w.heap.size ∨ k = w.heap.size + 1) w3).setCell (p := ⟨w.heap.size, 3, none⟩) (.inl rfl) _).setCell (p := ⟨w.heap.size + 1, 0, none⟩) (.inr rfl) _).setCell (p := ⟨w.heap.size + 1, 1, none⟩) (.inr rfl) _).setCell (p := ⟨w.heap.size + 1, 2, none⟩) (.inr rfl) _).setCell (p := ⟨w.heap.size + 1, 3, none⟩) (.inr rfl) _
  first | go_returns | (refine bodyPost_ret (by simp [results, Try.results30, go_sem, *]; try rfl) rfl ?_)
  refine ⟨.mk t.kind t.num t.name a' c' us, ?_, ?_, ?_, ?_⟩
  · simp only [XT.val, XT.kind, XT.num, XT.name, XT.kids, XT.base, XT.cap, hul]
  · exact .mk _ _ rfl rfl rfl hul (fun i a b ha hb => hus i a b ha hb)
  · have hz5 := hK5.size
    exact (hO.mono (fun b h1 h2 => hK5.block b h2 (fun e => by omega))).wide (by omega) hz5
  · exact (hB2.trans (hB3.mono (by omega))).trans (hK5.below (by omega) (fun k h => by omega))
end Go.Proofs.Ytomdbaokidphjaa
