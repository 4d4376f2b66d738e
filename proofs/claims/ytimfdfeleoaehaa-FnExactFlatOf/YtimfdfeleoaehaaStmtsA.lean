/-
  The program's copies of expressions: the same, in memory of their own.
  A list of copies of statements, each with all within it in an interval of blocks of its own.
  The program's copies of statements: the same, in memory of their own.
  A list of statements to which one is appended as nothing and then written: what it owns.
-/
import Derived.Test.YtimfdfeleoaehaaMarkC
import Derived.Test.YtimfdfeleoaehaaHoldA
import Derived.Deep.RegionLaw
import Derived.Deep.DeepCutAuto
import Derived.Laws.OwnMore
namespace Go.Proofs.Ytimfdfeleoaehaa
open Go.RowKit Go.Shelf
set_option linter.unusedSimpArgs false
set_option linter.unusedVariables false
attribute [local go_sem] Oper.semAt_some

def c4 (t : XT) : List Value := [.int .i64 t.kind, .int .i64 t.num, .string t.name, .slice t.base t.kids.length t.cap]
def fl4 : List XT → List Value
  | [] => []
  | t :: ts => c4 t ++ fl4 ts
theorem fl4_length (us : List XT) : (fl4 us).length = us.length * 4 := by
  induction us with
  | nil => rfl
  | cons x xs ih => simp [fl4, c4, ih]; omega
theorem fl4_snoc (us : List XT) (t : XT) : fl4 (us ++ [t]) = fl4 us ++ c4 t := by
  induction us with
  | nil => simp [fl4]
  | cons x xs ih => simp [fl4, ih]
theorem fl4_get {us : List XT} {i j : Nat} {t : XT} {v : Value} (h : us[i]? = some t) (hv : (c4 t)[j]? = some v) : (fl4 us)[i * 4 + j]? = some v := by
  induction us generalizing i with
  | nil => simp at h
  | cons x xs ih =>
    have hj : j < 4 := by have := (List.getElem?_eq_some_iff.1 hv).1; simpa [c4] using this
    cases i with
    | zero =>
      simp at h
      subst h
      rw [fl4, List.getElem?_append_left (by simp [c4]; omega)]
      simpa using hv
    | succ i =>
      rw [fl4, List.getElem?_append_right (by simp [c4]; omega)]
      have h1 := ih (i := i) (by simpa using h)
      have h2 : (i + 1) * 4 + j - (c4 x).length = i * 4 + j := by simp [c4]; omega
      rw [h2]
      exact h1
/-- A list that has been appended to, each of its expressions with all within it in an interval of blocks of its own. -/
structure AccE (W : World) (base : Nat) (v : Value) (us : List XT) (l h : Nat → Nat) : Prop where
  own : W.ownsRow base 48 4 v us.length (fl4 us)
  int : ∀ (i : Nat), i < us.length → base ≤ l i ∧ h i ≤ W.heap.size ∧ (∀ g, v.ownBlock = some g → g < l i ∨ h i ≤ g)
  ord : ∀ (i j : Nat), i < j → j < us.length → h i ≤ l j
  kid : ∀ (i : Nat) (t : XT), us[i]? = some t → OwnR W (l i) (h i) t.base t.kids
theorem AccE.nil (W : World) (base : Nat) : AccE W base (.slice none 0 0) [] (fun _ => 0) (fun _ => 0) :=
  ⟨World.ownsRow_nil _ _ _ _, fun i h => by simp at h, fun i j _ h => by simp at h, fun i t h => by simp at h⟩
theorem AccE.below {A B : World} {base : Nat} {v : Value} {us : List XT} {l h : Nat → Nat} (hA : AccE A base v us l h) (hb : Below A.heap.size A B) : AccE B base v us l h := by
  refine ⟨own_on hA.own (fun g hg => hb.block g (hA.own.lt g hg).2), fun i hi => ?_, hA.ord, fun i t ht => (hA.kid i t ht).mono (fun b q1 q2 => hb.block b ?_)⟩
  · obtain ⟨h1, h2, h3⟩ := hA.int i hi
    exact ⟨h1, Nat.le_trans h2 hb.size, h3⟩
  · have := (hA.int i (List.getElem?_eq_some_iff.1 ht).1).2.1; omega
theorem AccE.push {A B : World} {base n : Nat} {v v' : Value} {us : List XT} {l h : Nat → Nat} {t : XT} {lo hi : Nat} (hA : AccE A base v us l h) (hn : us.length = n) (hO : OwnR A lo hi t.base t.kids) (hlo : ∀ i, i < us.length → h i ≤ lo) (hb : base ≤ lo) (hhi : hi ≤ A.heap.size) (hv : ∀ g, v.ownBlock = some g → g < lo ∨ hi ≤ g) (hbase : base ≤ A.heap.size)
    (hown : B.ownsRow base 48 4 v' (n + 1) (fl4 us ++ c4 t)) (hback : Back A B base 48 4 n 1 v v' (fl4 us) (c4 t)) :
    AccE B base v' (us ++ [t]) (fun i => if i = n then lo else l i) (fun i => if i = n then hi else h i) := by
  -- all but the row is as it was
  have hblk : ∀ b, b < A.heap.size → (∀ g, v.ownBlock = some g → b ≠ g) → B.heap[b]? = A.heap[b]? := by
    intro b hb hg
    rcases hback with ⟨h1, h2, h3, h4⟩ | ⟨h1, h3⟩
    · exact h3.block b hb (fun e => hg b e.symm rfl)
    · exact h3.block b hb
  have hz : A.heap.size ≤ B.heap.size := by
    rcases hback with ⟨h1, h2, h3, h4⟩ | ⟨h1, h3⟩
    · exact h3.size
    · exact h3.size
  have hv' : ∀ g, v'.ownBlock = some g → v.ownBlock = some g ∨ g = A.heap.size := by
    intro g hg
    rcases hback with ⟨h1, h2, h3, h4⟩ | ⟨h1, h3⟩
    · rw [h1] at hg; exact .inl hg
    · rw [h1] at hg; cases hg; exact .inr rfl
  refine ⟨?_, fun i hi' => ?_, fun i j hij hj => ?_, fun i y hy => ?_⟩
  · rw [fl4_snoc, List.length_append, hn]
    exact hown
  · simp only [List.length_append, List.length_singleton] at hi'
    by_cases e : i = n
    · simp only [e, if_true]
      refine ⟨hb, by omega, fun g hg => ?_⟩
      rcases hv' g hg with h1 | h1
      · exact hv g h1
      · right; omega
    · simp only [e, if_false]
      obtain ⟨h1, h2, h3⟩ := hA.int i (by omega)
      refine ⟨h1, by omega, fun g hg => ?_⟩
      rcases hv' g hg with h4 | h4
      · exact h3 g h4
      · right; omega
  · simp only [List.length_append, List.length_singleton] at hj
    have hi' : i ≠ n := by omega
    simp only [hi', if_false]
    by_cases e : j = n
    · simp only [e, if_true]
      exact hlo i (by omega)
    · simp only [e, if_false]
      exact hA.ord i j hij (by omega)
  · by_cases e : i < us.length
    · rw [List.getElem?_append_left e] at hy
      have hi' : i ≠ n := by omega
      simp only [hi', if_false]
      obtain ⟨h1, h2, h3⟩ := hA.int i e
      exact (hA.kid i y hy).mono (fun b q1 q2 => hblk b (by omega) (fun g hg e => by rcases h3 g hg with h | h <;> omega))
    · have hi' : i = n := by
        have := (List.getElem?_eq_some_iff.1 hy).1
        simp at this
        omega
      rw [List.getElem?_append_right (by omega)] at hy
      simp [hi', hn] at hy
      subst hy
      simp only [hi', if_true]
      exact hO.mono (fun b q1 q2 => hblk b (by omega) (fun g hg e => by rcases hv g hg with h | h <;> omega))
theorem AccE.done {W : World} {base : Nat} {v : Value} {us : List XT} {l h : Nat → Nat} (hA : AccE W base v us l h) : ∃ a c, v = .slice a us.length c ∧ OwnR W base W.heap.size a us := by
  rcases hA.own.2 with ⟨rfl, h0⟩ | ⟨g, cap, cur, rfl, hb, hg, hnc, hcm, hcs, htk⟩
  · have : us = [] := List.length_eq_zero_iff.1 h0
    subst this
    exact ⟨none, 0, rfl, .mk _ _ _ _ 0 0 (fun _ => 0) (fun _ => 0) (fun i k hk => by simp at hk) (fun i k hk => by simp at hk) (fun i hi => by simp at hi) (fun i j hi => by simp at hi) (fun i k hk => by simp at hk)⟩
  · refine ⟨_, cap, rfl, .mk base W.heap.size _ us g (cap * 4) l h (fun i k hk => ⟨rfl, hb, (Array.getElem?_eq_some_iff.1 hg).1, ⟨cur, hg, hcs⟩, by omega⟩) (fun i k hk => ?_) (fun i hi => ?_) (fun i j hi hj hij => ?_) hA.kid⟩
    · have hcell : ∀ (j : Nat) (u : Value), (c4 k)[j]? = some u → W.cell? ⟨g, 0 + i * 4 + j, none⟩ = some u := by
        intro j u hj
        have h1 := hA.own.cells (g := g) rfl _ u (fl4_get hk hj)
        have hadd : (⟨g, 0, none⟩ : Addr).add (i * 4 + j) = ⟨g, 0 + i * 4 + j, none⟩ := by unfold Addr.add; split <;> simp_all
        rw [hadd] at h1
        exact h1
      exact ⟨hcell 0 _ rfl, hcell 1 _ rfl, hcell 2 _ rfl, hcell 3 _ rfl⟩
    · obtain ⟨h1, h2, h3⟩ := hA.int i hi
      exact ⟨h1, h2, h3 g rfl⟩
    · rcases Nat.lt_or_gt_of_ne hij with h1 | h1
      · exact .inl (hA.ord i j h1 hj)
      · exact .inr (hA.ord j i h1 hi)
theorem news4 (w : World) (t : XT) (T : TypeId) : ∀ j u, (c4 t)[j]? = some u → (w.alloc (.cells #[.int .i64 t.kind, .int .i64 t.num, .string t.name, .slice t.base t.kids.length t.cap] T)).cell? ((⟨w.heap.size, 0, none⟩ : Addr).add j) = some u := by
  intro j u hj
  have hadd : (⟨w.heap.size, 0, none⟩ : Addr).add j = ⟨w.heap.size, j, none⟩ := by unfold Addr.add; split <;> simp_all
  rw [hadd]
  have h := World.cell?_alloc_new w #[.int .i64 t.kind, .int .i64 t.num, .string t.name, .slice t.base t.kids.length t.cap] T j
  rw [h]
  simpa [c4] using hj

set_option maxRecDepth 10000 in
set_option maxHeartbeats 4000000 in
theorem eachE (ks : List XT) (a : Option Addr) (c : Nat) (ok : Nat → Prop) (w : World) (hok : ∀ b, ok b → b < w.heap.size) (hcl : ERow ok w a ks) (hlen : ks.length ≤ 1048577)
    (H : ∀ (i : Nat) (k : XT), ks[i]? = some k → ∀ (w' : World), Below w.heap.size w w' →
      Calls Try.prog 70 #[k.val] w' fun e w'' => ∃ t : XT, e = .returned t.val ∧ Same k t ∧ OwnR w'' w'.heap.size w''.heap.size t.base t.kids ∧ Below w'.heap.size w' w'') :
    Calls Try.prog 81 #[.slice a ks.length c, .func (.func 70) #[] #[]] w fun e w' => ∃ (v : Value) (us : List XT) (l h : Nat → Nat), e = .returned v ∧ us.length = ks.length ∧ (∀ (i : Nat) (x y : XT), ks[i]? = some x → us[i]? = some y → Same x y) ∧ AccE w' w.heap.size v us l h ∧ Below w.heap.size w w' := by
  obtain ⟨len, hl⟩ : ∃ len, ks.length = len := ⟨_, rfl⟩
  rw [hl] at hlen ⊢
  obtain ⟨i0, hi0, hz0, hz1, hz2⟩ := info_parts infoE
  go_enter Try.func81, Try.ntmps81
  go_wp2_with fail
  go_loopw [5, 10] (fun v5 v10 wr => ∃ (i : Nat) (us : List XT) (l h : Nat → Nat), v10 = .int .i64 i ∧ i ≤ len ∧ us.length = i ∧ Hid (∀ (j : Nat) (x y : XT), ks[j]? = some x → us[j]? = some y → Same x y) ∧ Hid (AccE wr w.heap.size v5 us l h) ∧ Below w.heap.size w wr) (fun _ v10 _ => len - (intOf v10).toNat)
  case atStart => exact ⟨0, [], _, _, rfl, by omega, rfl, fun j x y _ hy => by simp at hy, AccE.nil _ _, Below.refl _ _⟩
  case round =>
    obtain ⟨i, us, l, h, rfl, hi, hul, hsm, hA, hB⟩ := hrel
    obtain ⟨v, rfl⟩ : ∃ v, v = u5 := ⟨_, rfl⟩
    by_cases hlt : i < len
    · obtain ⟨x, hx⟩ : ∃ x, ks[i]? = some x := ⟨_, List.getElem?_eq_getElem (by omega)⟩
      obtain ⟨b1, o1, hbase1, hok1, hc1⟩ := hcl i x hx
      obtain ⟨c0, c1, c2, c3⟩ := hc1.below hB (hok b1 hok1)
      obtain ⟨W1, hW1⟩ : ∃ W1, wr.alloc (.cells #[.int .i64 x.kind, .int .i64 x.num, .string x.name, .slice x.base x.kids.length x.cap] 48) = W1 := ⟨_, rfl⟩
      have hB1 : Below wr.heap.size wr W1 := by rw [← hW1]; exact (Below.refl _ _).alloc (Nat.le_refl _) _
      have hs1 : wr.heap.size + 1 = W1.heap.size := by rw [← hW1]; simp
      have hC1 : Cells4 W1 wr.heap.size 0 x := by rw [← hW1]; exact Cells4.new wr x
      have hcall : Hid (Calls Try.prog 70 #[x.val] W1 fun e w'' => ∃ t : XT, e = .returned t.val ∧ Same x t ∧ OwnR w'' W1.heap.size w''.heap.size t.base t.kids ∧ Below W1.heap.size W1 w'') := H i x hx W1 (bstep hB hB1)
      obtain ⟨d0, d1, d2, d3⟩ := hC1
      have hA1 := hA.out.below hB1
      subst hbase1
      go_wp2_with fail
      go_at_call 70
      refine hcall.out.mono ?_
      rintro e w2 ⟨t, rfl, hxt, hO, hB2⟩
      clear c0 c1 c2 c3 d0 d1 d2 d3 hcall hW1
      have hA2 := hA1.below hB2
      have hz2' := hB2.size
      obtain ⟨W3, hW3⟩ : ∃ W3, w2.alloc (.cells #[.int .i64 t.kind, .int .i64 t.num, .string t.name, .slice t.base t.kids.length t.cap] 48) = W3 := ⟨_, rfl⟩
      have hB3 : Below w2.heap.size w2 W3 := by rw [← hW3]; exact (Below.refl _ _).alloc (Nat.le_refl _) _
      have hs3 : w2.heap.size + 1 = W3.heap.size := by rw [← hW3]; simp
      have hnew : ∀ j u, (c4 t)[j]? = some u → W3.cell? ((⟨w2.heap.size, 0, none⟩ : Addr).add j) = some u := by rw [← hW3]; exact news4 w2 t _
      have hA3 := hA2.below hB3
      have hO3 : OwnR W3 W1.heap.size w2.heap.size t.base t.kids := hO.mono (fun b q1 q2 => hB3.block b q2)
      have hzw := hB.size
      have hown3 : Hid (W3.ownsRow w.heap.size 48 4 v us.length (fl4 us)) := hA3.own
      have hnewH : Hid (∀ j u, (c4 t)[j]? = some u → W3.cell? ((⟨w2.heap.size, 0, none⟩ : Addr).add j) = some u) := hnew
      clear hnew
      go_wp2_with (at_builtin; refine wpList_append_back _ rfl _ _ 46 rfl w.heap.size 48 i0 _ 4 56 Try.underlying46 hi0 hz0 hz1 hz2 rfl (by decide) v us.length (fl4 us) rfl hown3.out ⟨w2.heap.size, 0, none⟩ 1 1 (c4 t) rfl rfl hnewH.out (by simp [c4, Value.oneCell']) (by unfold maxLen; omega) (by omega) (by omega) (by omega) ?_; intro v' w4 hown' hback)
      have hP := hA3.push rfl hO3 (fun j hj => by have := (hA1.int j hj).2.1; omega) (by omega) (by omega) (fun g hg => by have := (hA1.own.lt g hg).2; omega) (by omega) hown' hback
      have hB4 : Below w.heap.size w w4 := by
        have h0 : Below w.heap.size w W3 := bstep (bstep (bstep hB hB1) hB2) hB3
        refine h0.trans (hback.kept.below (by omega) (fun k hk => ?_))
        rcases hk with hk | hk
        · exact (hA3.own.lt k hk).1
        · exact (hown'.lt k hk).1
      refine ⟨⟨i + 1, us ++ [t], _, _, by go_num, by omega, by simp [hul], ?_, hP, hB4⟩, by simp [intOf]; omega⟩
      intro j y z hy hz
      by_cases hj : j < us.length
      · rw [List.getElem?_append_left hj] at hz
        exact hsm.out j y z hy hz
      · have hji : j = i := by
          have := (List.getElem?_eq_some_iff.1 hz).1
          simp at this
          omega
        subst hji
        rw [List.getElem?_append_right (by omega)] at hz
        simp [hul] at hz
        subst hz
        rw [hx] at hy
        cases hy
        exact hxt
    · have he : i = len := by omega
      go_wp2_with fail
      go_returns
      exact ⟨v, us, l, h, rfl, by omega, hsm.out, hA.out, hB⟩
set_option maxRecDepth 10000 in
set_option maxHeartbeats 4000000 in
theorem copyE (sz : Nat) : ∀ t : XT, t.size ≤ sz → sz ≤ 1048577 → ∀ (ok : Nat → Prop) (w : World), (∀ b, ok b → b < w.heap.size) → Lies ok w t →
    Calls Try.prog 70 #[t.val] w fun e w' => ∃ t' : XT, e = .returned t'.val ∧ Same t t' ∧ OwnR w' w.heap.size w'.heap.size t'.base t'.kids ∧ Below w.heap.size w w' := by
  induction sz with
  | zero => intro t h; rw [XT.size_eq] at h; omega
  | succ sz ih =>
  intro t hsz hlim ok w hok hL
  have hlt := t.length_le
  obtain ⟨W1, hW1⟩ : ∃ W1, w.alloc (.cells #[.int .i64 t.kind, .int .i64 t.num, .string t.name, .slice t.base t.kids.length t.cap] 48) = W1 := ⟨_, rfl⟩
  obtain ⟨W2, hW2⟩ : ∃ W2, W1.alloc (.cells #[.int .i64 0, .int .i64 0, .string ⟨#[]⟩, .slice none 0 0] 48) = W2 := ⟨_, rfl⟩
  have s1 : W1.heap.size = w.heap.size + 1 := by rw [← hW1]; simp
  have s2 : W2.heap.size = w.heap.size + 2 := by rw [← hW2]; simp [s1]
  have hB2 : Below w.heap.size w W2 := by rw [← hW2, ← hW1]; exact ((Below.refl _ w).alloc (Nat.le_refl _) _).alloc (by simp) _
  have hR1 : RowAt W2 w.heap.size 4 48 := by
    have h := RowAt.new w #[.int .i64 t.kind, .int .i64 t.num, .string t.name, .slice t.base t.kids.length t.cap] 48
    rw [hW1] at h
    rw [← hW2]
    exact h.of_block (Below.heap_alloc _ _ _ (by omega))
  have hR2 : RowAt W2 (w.heap.size + 1) 4 48 := by
    have h := RowAt.new W1 #[.int .i64 0, .int .i64 0, .string ⟨#[]⟩, .slice none 0 0] 48
    rw [hW2, s1] at h
    exact h
  have hC : Cells4 W2 w.heap.size 0 t := by
    have h := Cells4.new w t
    rw [hW1] at h
    rw [← hW2]
    exact h.below (n := W1.heap.size) ((Below.refl _ _).alloc (Nat.le_refl _) _) (by omega)
  have hL2 := hL.under hB2 hok
  have hok2 : ∀ b, ok b → b < W2.heap.size := fun b hb => Nat.lt_of_lt_of_le (hok b hb) hB2.size
  have hcall := eachE t.kids t.base t.cap ok W2 hok2 hL2.cells (by omega) (fun i k hk w' hBw => ih k (by have h5 := XT.size_get hk; have h6 := t.size_eq; omega) (by omega) ok w' (fun b hb => Nat.lt_of_lt_of_le (hok2 b hb) hBw.size) ((hL2.kid i k hk).under hBw hok2))
  have hcH : Hid (Calls Try.prog 81 #[.slice t.base t.kids.length t.cap, .func (.func 70) #[] #[]] W2 fun e w' => ∃ (v : Value) (us : List XT) (l h : Nat → Nat), e = .returned v ∧ us.length = t.kids.length ∧ (∀ (i : Nat) (x y : XT), t.kids[i]? = some x → us[i]? = some y → Same x y) ∧ AccE w' W2.heap.size v us l h ∧ Below W2.heap.size W2 w') := hcall
  clear hcall
  have c3 := hC.c3
  rw [Nat.zero_add] at c3
  go_enter Try.func70, Try.ntmps70
  go_wp2_with fail
  go_at_call 81
  refine hcH.out.mono ?_
  rintro e w3 ⟨v, us, l, h, rfl, hul, hus, hA, hB3⟩
  obtain ⟨a', c', rfl, hO⟩ := hA.done
  clear c3 hcH hW1 hW2
  have hz3 := hB3.size
  have hC3 := hC.below hB3 (by omega)
  have hR13 := hR1.of_block (hB3.block _ (by omega))
  have hR23 := hR2.of_block (hB3.block _ (by omega))
  have m0 : w3.cell? ⟨w.heap.size, 0, none⟩ = some (.int .i64 t.kind) := hC3.c0
  have m1 : w3.cell? ⟨w.heap.size, 1, none⟩ = some (.int .i64 t.num) := hC3.c1
  have m2 : w3.cell? ⟨w.heap.size, 2, none⟩ = some (.string t.name) := hC3.c2
  obtain ⟨v3, m3⟩ := hR13.cell (o := 3) (by omega)
  have f3 := hR13.frozen 3
  obtain ⟨u0, q0⟩ := hR23.cell (o := 0) (by omega)
  obtain ⟨u1, q1⟩ := hR23.cell (o := 1) (by omega)
  obtain ⟨u2, q2⟩ := hR23.cell (o := 2) (by omega)
  obtain ⟨u3, q3⟩ := hR23.cell (o := 3) (by omega)
  have g0 := hR23.frozen 0
  have g1 := hR23.frozen 1
  have g2 := hR23.frozen 2
  have g3 := hR23.frozen 3
  rw [hul]
  go_wp2
  have hK5 : Kept (fun k => k = w.heap.size ∨ k = w.heap.size + 1) w3 (((((w3.setCell ⟨w.heap.size, 3, none⟩ (.slice a' t.kids.length c')).setCell ⟨w.heap.size + 1, 0, none⟩ (.int .i64 t.kind)).setCell ⟨w.heap.size + 1, 1, none⟩ (.int .i64 t.num)).setCell ⟨w.heap.size + 1, 2, none⟩ (.string t.name)).setCell ⟨w.heap.size + 1, 3, none⟩ (.slice a' t.kids.length c')) :=
    (((((Kept.refl (fun k => k = w.heap.size ∨ k = w.heap.size + 1) w3).setCell (p := ⟨w.heap.size, 3, none⟩) (.inl rfl) _).setCell (p := ⟨w.heap.size + 1, 0, none⟩) (.inr rfl) _).setCell (p := ⟨w.heap.size + 1, 1, none⟩) (.inr rfl) _).setCell (p := ⟨w.heap.size + 1, 2, none⟩) (.inr rfl) _).setCell (p := ⟨w.heap.size + 1, 3, none⟩) (.inr rfl) _
  first | go_returns | (refine bodyPost_ret (by simp [results, Try.results70, go_sem, *]; try rfl) rfl ?_)
  refine ⟨.mk t.kind t.num t.name a' c' us, ?_, ?_, ?_, ?_⟩
  · simp only [XT.val, XT.kind, XT.num, XT.name, XT.kids, XT.base, XT.cap, hul]
  · exact .mk _ _ rfl rfl rfl hul (fun i a b ha hb => hus i a b ha hb)
  · have hz5 := hK5.size
    exact (hO.mono (fun b h1 h2 => hK5.block b h2 (fun e => by omega))).wide (by omega) hz5
  · exact (hB2.trans (hB3.mono (by omega))).trans (hK5.below (by omega) (fun k h => by omega))
end Go.Proofs.Ytimfdfeleoaehaa
namespace Go.Proofs.Ytimfdfeleoaehaa
open Go.RowKit Go.Shelf
set_option linter.unusedSimpArgs false
set_option linter.unusedVariables false
attribute [local go_sem] Oper.semAt_some

def fl12 : List SX → List Value
  | [] => []
  | t :: ts => t.vals ++ fl12 ts
theorem fl12_length (us : List SX) : (fl12 us).length = us.length * 12 := by
  induction us with
  | nil => rfl
  | cons x xs ih => simp [fl12, ih]; omega
theorem fl12_snoc (us : List SX) (t : SX) : fl12 (us ++ [t]) = fl12 us ++ t.vals := by
  induction us with
  | nil => simp [fl12]
  | cons x xs ih => rw [List.cons_append, fl12, fl12, ih, List.append_assoc]
theorem fl12_get {us : List SX} {i j : Nat} {t : SX} {v : Value} (h : us[i]? = some t) (hv : t.vals[j]? = some v) : (fl12 us)[i * 12 + j]? = some v := by
  induction us generalizing i with
  | nil => simp at h
  | cons x xs ih =>
    have hj : j < 12 := by have := (List.getElem?_eq_some_iff.1 hv).1; simpa using this
    have hlx : x.vals.length = 12 := rfl
    cases i with
    | zero =>
      simp only [List.getElem?_cons_zero, Option.some.injEq] at h
      subst h
      rw [fl12, List.getElem?_append_left (by rw [hlx]; omega), Nat.zero_mul, Nat.zero_add]
      exact hv
    | succ i =>
      rw [fl12, List.getElem?_append_right (by rw [hlx]; omega)]
      have h1 := ih (i := i) (by simpa using h)
      have h2 : (i + 1) * 12 + j - x.vals.length = i * 12 + j := by rw [hlx]; omega
      rw [h2]
      exact h1
/-- A statement whose four lists lie in intervals of their own within one. -/
def OwnS1 (W : World) (lo hi : Nat) (x : SX) : Prop := ∃ (l h : Nat → Nat), (∀ m, m < 4 → lo ≤ l m ∧ h m ≤ hi) ∧ (∀ m n, m < 4 → n < 4 → m ≠ n → h m ≤ l n ∨ h n ≤ l m) ∧
  OwnR W (l 0) (h 0) x.e.base x.e.kids ∧ OwnR W (l 1) (h 1) x.f.base x.f.kids ∧ OwnSR W (l 2) (h 2) x.abase x.la ∧ OwnSR W (l 3) (h 3) x.bbase x.lb
theorem OwnS1.mono {A B : World} {lo hi : Nat} {x : SX} (h : OwnS1 A lo hi x) (hb : ∀ b, lo ≤ b → b < hi → B.heap[b]? = A.heap[b]?) : OwnS1 B lo hi x := by
  obtain ⟨l, h, h1, h2, h3, h4, h5, h6⟩ := h
  have hin : ∀ m, m < 4 → ∀ b, l m ≤ b → b < h m → B.heap[b]? = A.heap[b]? := fun m hm b q1 q2 => by
    obtain ⟨p1, p2⟩ := h1 m hm
    exact hb b (by omega) (by omega)
  exact ⟨l, h, h1, h2, h3.mono (hin 0 (by omega)), h4.mono (hin 1 (by omega)), h5.mono (hin 2 (by omega)), h6.mono (hin 3 (by omega))⟩
theorem OwnS1.wide {W : World} {lo hi lo' hi' : Nat} {x : SX} (h : OwnS1 W lo hi x) (h1 : lo' ≤ lo) (h2 : hi ≤ hi') : OwnS1 W lo' hi' x := by
  obtain ⟨l, h, q1, q⟩ := h
  exact ⟨l, h, fun m hm => by obtain ⟨p1, p2⟩ := q1 m hm; exact ⟨by omega, by omega⟩, q⟩
structure AccS (W : World) (base : Nat) (v : Value) (us : List SX) (l h : Nat → Nat) : Prop where
  own : W.ownsRow base 50 12 v us.length (fl12 us)
  int : ∀ (i : Nat), i < us.length → base ≤ l i ∧ h i ≤ W.heap.size ∧ (∀ g, v.ownBlock = some g → g < l i ∨ h i ≤ g)
  ord : ∀ (i j : Nat), i < j → j < us.length → h i ≤ l j
  kid : ∀ (i : Nat) (t : SX), us[i]? = some t → OwnS1 W (l i) (h i) t
theorem AccS.nil (W : World) (base : Nat) : AccS W base (.slice none 0 0) [] (fun _ => 0) (fun _ => 0) :=
  ⟨World.ownsRow_nil _ _ _ _, fun i h => by simp at h, fun i j _ h => by simp at h, fun i t h => by simp at h⟩
theorem AccS.below {A B : World} {base : Nat} {v : Value} {us : List SX} {l h : Nat → Nat} (hA : AccS A base v us l h) (hb : Below A.heap.size A B) : AccS B base v us l h := by
  refine ⟨own_on hA.own (fun g hg => hb.block g (hA.own.lt g hg).2), fun i hi => ?_, hA.ord, fun i t ht => (hA.kid i t ht).mono (fun b q1 q2 => hb.block b ?_)⟩
  · obtain ⟨h1, h2, h3⟩ := hA.int i hi
    exact ⟨h1, Nat.le_trans h2 hb.size, h3⟩
  · have := (hA.int i (List.getElem?_eq_some_iff.1 ht).1).2.1; omega
theorem AccS.push {A B : World} {base n : Nat} {v v' : Value} {us : List SX} {l h : Nat → Nat} {t : SX} {lo hi : Nat} (hA : AccS A base v us l h) (hn : us.length = n) (hO : OwnS1 A lo hi t) (hlo : ∀ i, i < us.length → h i ≤ lo) (hb : base ≤ lo) (hhi : hi ≤ A.heap.size) (hv : ∀ g, v.ownBlock = some g → g < lo ∨ hi ≤ g) (hbase : base ≤ A.heap.size)
    (hown : B.ownsRow base 50 12 v' (n + 1) (fl12 us ++ t.vals)) (hback : Back A B base 50 12 n 1 v v' (fl12 us) t.vals) :
    AccS B base v' (us ++ [t]) (fun i => if i = n then lo else l i) (fun i => if i = n then hi else h i) := by
  have hblk : ∀ b, b < A.heap.size → (∀ g, v.ownBlock = some g → b ≠ g) → B.heap[b]? = A.heap[b]? := by
    intro b hb hg
    rcases hback with ⟨h1, h2, h3, h4⟩ | ⟨h1, h3⟩
    · exact h3.block b hb (fun e => hg b e.symm rfl)
    · exact h3.block b hb
  have hz : A.heap.size ≤ B.heap.size := by
    rcases hback with ⟨h1, h2, h3, h4⟩ | ⟨h1, h3⟩
    · exact h3.size
    · exact h3.size
  have hv' : ∀ g, v'.ownBlock = some g → v.ownBlock = some g ∨ g = A.heap.size := by
    intro g hg
    rcases hback with ⟨h1, h2, h3, h4⟩ | ⟨h1, h3⟩
    · rw [h1] at hg; exact .inl hg
    · rw [h1] at hg; cases hg; exact .inr rfl
  refine ⟨?_, fun i hi' => ?_, fun i j hij hj => ?_, fun i y hy => ?_⟩
  · rw [fl12_snoc, List.length_append, hn]
    exact hown
  · simp only [List.length_append, List.length_singleton] at hi'
    by_cases e : i = n
    · simp only [e, if_true]
      refine ⟨hb, by omega, fun g hg => ?_⟩
      rcases hv' g hg with h1 | h1
      · exact hv g h1
      · right; omega
    · simp only [e, if_false]
      obtain ⟨h1, h2, h3⟩ := hA.int i (by omega)
      refine ⟨h1, by omega, fun g hg => ?_⟩
      rcases hv' g hg with h4 | h4
      · exact h3 g h4
      · right; omega
  · simp only [List.length_append, List.length_singleton] at hj
    have hi' : i ≠ n := by omega
    simp only [hi', if_false]
    by_cases e : j = n
    · simp only [e, if_true]
      exact hlo i (by omega)
    · simp only [e, if_false]
      exact hA.ord i j hij (by omega)
  · by_cases e : i < us.length
    · rw [List.getElem?_append_left e] at hy
      have hi' : i ≠ n := by omega
      simp only [hi', if_false]
      obtain ⟨h1, h2, h3⟩ := hA.int i e
      exact (hA.kid i y hy).mono (fun b q1 q2 => hblk b (by omega) (fun g hg e => by rcases h3 g hg with h | h <;> omega))
    · have hi' : i = n := by
        have := (List.getElem?_eq_some_iff.1 hy).1
        simp at this
        omega
      rw [List.getElem?_append_right (by omega)] at hy
      simp [hi', hn] at hy
      subst hy
      simp only [hi', if_true]
      exact hO.mono (fun b q1 q2 => hblk b (by omega) (fun g hg e => by rcases hv g hg with h | h <;> omega))
theorem AccS.done {W : World} {base : Nat} {v : Value} {us : List SX} {l h : Nat → Nat} (hA : AccS W base v us l h) : ∃ a c, v = .slice a us.length c ∧ OwnSR W base W.heap.size a us := by
  rcases hA.own.2 with ⟨rfl, h0⟩ | ⟨g, cap, cur, rfl, hb, hg, hnc, hcm, hcs, htk⟩
  · have : us = [] := List.length_eq_zero_iff.1 h0
    subst this
    exact ⟨none, 0, rfl, .mk _ _ _ _ 0 0 (fun _ => 0) (fun _ => 0) (fun i k hk => by simp at hk) (fun i k hk => by simp at hk) (fun i hi => by simp at hi) (fun i j hi => by simp at hi) (fun i k hk => by simp at hk) (fun i k hk => by simp at hk) (fun i k hk => by simp at hk) (fun i k hk => by simp at hk)⟩
  · -- the intervals of each statement, in one list
    obtain ⟨f, hf⟩ : ∃ f : Nat → (Nat → Nat) × (Nat → Nat), ∀ i, ∀ t, us[i]? = some t → (∀ m, m < 4 → l i ≤ (f i).1 m ∧ (f i).2 m ≤ h i) ∧ (∀ m n, m < 4 → n < 4 → m ≠ n → (f i).2 m ≤ (f i).1 n ∨ (f i).2 n ≤ (f i).1 m) ∧
        OwnR W ((f i).1 0) ((f i).2 0) t.e.base t.e.kids ∧ OwnR W ((f i).1 1) ((f i).2 1) t.f.base t.f.kids ∧ OwnSR W ((f i).1 2) ((f i).2 2) t.abase t.la ∧ OwnSR W ((f i).1 3) ((f i).2 3) t.bbase t.lb := by
      refine (Classical.skolem (b := fun _ => (Nat → Nat) × (Nat → Nat)) (p := fun (i : Nat) (q : (Nat → Nat) × (Nat → Nat)) => ∀ t, us[i]? = some t → (∀ m, m < 4 → l i ≤ q.1 m ∧ q.2 m ≤ h i) ∧ (∀ m n, m < 4 → n < 4 → m ≠ n → q.2 m ≤ q.1 n ∨ q.2 n ≤ q.1 m) ∧
        OwnR W (q.1 0) (q.2 0) t.e.base t.e.kids ∧ OwnR W (q.1 1) (q.2 1) t.f.base t.f.kids ∧ OwnSR W (q.1 2) (q.2 2) t.abase t.la ∧ OwnSR W (q.1 3) (q.2 3) t.bbase t.lb)).1 (fun i => ?_)
      cases hu : us[i]? with
      | none => exact ⟨⟨fun _ => 0, fun _ => 0⟩, fun t ht => by cases ht⟩
      | some t =>
        obtain ⟨l', h', q⟩ := hA.kid i t hu
        exact ⟨⟨l', h'⟩, fun y hy => by cases hy; exact q⟩
    have hget : ∀ i, i < us.length → ∃ t, us[i]? = some t := fun i hi => ⟨_, List.getElem?_eq_getElem hi⟩
    refine ⟨_, cap, rfl, .mk base W.heap.size _ us g (cap * 12) (fun m => (f (m / 4)).1 (m % 4)) (fun m => (f (m / 4)).2 (m % 4)) (fun i k hk => ⟨rfl, hb, (Array.getElem?_eq_some_iff.1 hg).1, ⟨cur, hg, hcs⟩, by omega⟩) (fun i k hk => ?_) (fun m hm => ?_) (fun m n hm hn hmn => ?_) (fun i k hk => ?_) (fun i k hk => ?_) (fun i k hk => ?_) (fun i k hk => ?_)⟩
    · have hcell : ∀ (j : Nat) (u : Value), k.vals[j]? = some u → W.cell? ⟨g, 0 + i * 12 + j, none⟩ = some u := by
        intro j u hj
        have h1 := hA.own.cells (g := g) rfl _ u (fl12_get hk hj)
        have hadd : (⟨g, 0, none⟩ : Addr).add (i * 12 + j) = ⟨g, 0 + i * 12 + j, none⟩ := by unfold Addr.add; split <;> simp_all
        rw [hadd] at h1
        exact h1
      exact ⟨hcell 0 _ rfl, hcell 1 _ rfl, hcell 2 _ rfl, hcell 3 _ rfl, hcell 4 _ rfl, hcell 5 _ rfl, hcell 6 _ rfl, hcell 7 _ rfl, hcell 8 _ rfl, hcell 9 _ rfl, hcell 10 _ rfl, hcell 11 _ rfl⟩
    · obtain ⟨t, ht⟩ := hget (m / 4) (by omega)
      obtain ⟨h1, h2, h3⟩ := hA.int (m / 4) (by omega)
      obtain ⟨p1, p2⟩ := (hf _ t ht).1 (m % 4) (by omega)
      have h4 := h3 g rfl
      exact ⟨by omega, by omega, by omega⟩
    · obtain ⟨t, ht⟩ := hget (m / 4) (by omega)
      obtain ⟨u, hu⟩ := hget (n / 4) (by omega)
      by_cases e : m / 4 = n / 4
      · rw [e] at ht ⊢
        exact (hf _ t ht).2.1 (m % 4) (n % 4) (by omega) (by omega) (by omega)
      · have p1 := (hf _ t ht).1 (m % 4) (by omega)
        have p2 := (hf _ u hu).1 (n % 4) (by omega)
        rcases Nat.lt_or_gt_of_ne e with h1 | h1
        · have := hA.ord _ _ h1 (by omega); left; omega
        · have := hA.ord _ _ h1 (by omega); right; omega
    · have h1 : (4 * i) / 4 = i := by omega
      have h2 : (4 * i) % 4 = 0 := by omega
      rw [h1, h2]
      exact (hf i k hk).2.2.1
    · have h1 : (4 * i + 1) / 4 = i := by omega
      have h2 : (4 * i + 1) % 4 = 1 := by omega
      rw [h1, h2]
      exact (hf i k hk).2.2.2.1
    · have h1 : (4 * i + 2) / 4 = i := by omega
      have h2 : (4 * i + 2) % 4 = 2 := by omega
      rw [h1, h2]
      exact (hf i k hk).2.2.2.2.1
    · have h1 : (4 * i + 3) / 4 = i := by omega
      have h2 : (4 * i + 3) % 4 = 3 := by omega
      rw [h1, h2]
      exact (hf i k hk).2.2.2.2.2
theorem news12 (w : World) (t : SX) (T : TypeId) : ∀ j u, t.vals[j]? = some u → (w.alloc (.cells #[.int .i64 t.kind, .string t.name, .int .i64 t.e.kind, .int .i64 t.e.num, .string t.e.name, .slice t.e.base t.e.kids.length t.e.cap, .int .i64 t.f.kind, .int .i64 t.f.num, .string t.f.name, .slice t.f.base t.f.kids.length t.f.cap, .slice t.abase t.la.length t.acap, .slice t.bbase t.lb.length t.bcap] T)).cell? ((⟨w.heap.size, 0, none⟩ : Addr).add j) = some u := by
  intro j u hj
  have hadd : (⟨w.heap.size, 0, none⟩ : Addr).add j = ⟨w.heap.size, 0 + j, none⟩ := by unfold Addr.add; split <;> simp_all
  rw [hadd]
  exact (Cells12.new w t T).vals j u hj
set_option maxRecDepth 10000 in
set_option maxHeartbeats 4000000 in
theorem eachS (ks : List SX) (a : Option Addr) (c : Nat) (ok : Nat → Prop) (w : World) (hok : ∀ b, ok b → b < w.heap.size) (hcl : SRow ok w a ks) (hlen : ks.length ≤ 1048577)
    (H : ∀ (i : Nat) (k : SX), ks[i]? = some k → ∀ (w' : World), Below w.heap.size w w' →
      Calls Try.prog 52 #[k.val] w' fun e w'' => ∃ t : SX, e = .returned t.val ∧ SameS k t ∧ OwnS1 w'' w'.heap.size w''.heap.size t ∧ Below w'.heap.size w' w'') :
    Calls Try.prog 71 #[.slice a ks.length c, .func (.func 52) #[] #[]] w fun e w' => ∃ (v : Value) (us : List SX) (l h : Nat → Nat), e = .returned v ∧ us.length = ks.length ∧ (∀ (i : Nat) (x y : SX), ks[i]? = some x → us[i]? = some y → SameS x y) ∧ AccS w' w.heap.size v us l h ∧ Below w.heap.size w w' := by
  obtain ⟨len, hl⟩ : ∃ len, ks.length = len := ⟨_, rfl⟩
  rw [hl] at hlen ⊢
  obtain ⟨i0, hi0, hz0, hz1, hz2⟩ := info_parts infoS
  go_enter Try.func71, Try.ntmps71
  go_wp2_with fail
  go_loopw [5, 10] (fun v5 v10 wr => ∃ (i : Nat) (us : List SX) (l h : Nat → Nat), v10 = .int .i64 i ∧ i ≤ len ∧ us.length = i ∧ Hid (∀ (j : Nat) (x y : SX), ks[j]? = some x → us[j]? = some y → SameS x y) ∧ Hid (AccS wr w.heap.size v5 us l h) ∧ Below w.heap.size w wr) (fun _ v10 _ => len - (intOf v10).toNat)
  case atStart => exact ⟨0, [], _, _, rfl, by omega, rfl, fun j x y _ hy => by simp at hy, AccS.nil _ _, Below.refl _ _⟩
  case round =>
    obtain ⟨i, us, l, h, rfl, hi, hul, hsm, hA, hB⟩ := hrel
    obtain ⟨v, rfl⟩ : ∃ v, v = u5 := ⟨_, rfl⟩
    by_cases hlt : i < len
    · obtain ⟨x, hx⟩ : ∃ x, ks[i]? = some x := ⟨_, List.getElem?_eq_getElem (by omega)⟩
      obtain ⟨b1, o1, hbase1, hok1, hc1⟩ := hcl i x hx
      obtain ⟨c0, c1, c2, c3, c4', c5, c6, c7, c8, c9, c10, c11⟩ := hc1.below hB (hok b1 hok1)
      obtain ⟨W1, hW1⟩ : ∃ W1, wr.alloc (.cells #[.int .i64 x.kind, .string x.name, .int .i64 x.e.kind, .int .i64 x.e.num, .string x.e.name, .slice x.e.base x.e.kids.length x.e.cap, .int .i64 x.f.kind, .int .i64 x.f.num, .string x.f.name, .slice x.f.base x.f.kids.length x.f.cap, .slice x.abase x.la.length x.acap, .slice x.bbase x.lb.length x.bcap] 50) = W1 := ⟨_, rfl⟩
      have hB1 : Below wr.heap.size wr W1 := by rw [← hW1]; exact (Below.refl _ _).alloc (Nat.le_refl _) _
      have hs1 : wr.heap.size + 1 = W1.heap.size := by rw [← hW1]; simp
      have hC1 : Cells12 W1 wr.heap.size 0 x := by rw [← hW1]; exact Cells12.new wr x _
      have hcall : Hid (Calls Try.prog 52 #[x.val] W1 fun e w'' => ∃ t : SX, e = .returned t.val ∧ SameS x t ∧ OwnS1 w'' W1.heap.size w''.heap.size t ∧ Below W1.heap.size W1 w'') := H i x hx W1 (bstep hB hB1)
      obtain ⟨d0, d1, d2, d3, d4, d5, d6, d7, d8, d9, d10, d11⟩ := hC1
      have hA1 := hA.out.below hB1
      subst hbase1
      go_wp2_with fail
      go_at_call 52
      refine hcall.out.mono ?_
      rintro e w2 ⟨t, rfl, hxt, hO, hB2⟩
      clear c0 c1 c2 c3 c4' c5 c6 c7 c8 c9 c10 c11 d0 d1 d2 d3 d4 d5 d6 d7 d8 d9 d10 d11 hcall hW1
      have hA2 := hA1.below hB2
      have hz2' := hB2.size
      obtain ⟨W3, hW3⟩ : ∃ W3, w2.alloc (.cells #[.int .i64 t.kind, .string t.name, .int .i64 t.e.kind, .int .i64 t.e.num, .string t.e.name, .slice t.e.base t.e.kids.length t.e.cap, .int .i64 t.f.kind, .int .i64 t.f.num, .string t.f.name, .slice t.f.base t.f.kids.length t.f.cap, .slice t.abase t.la.length t.acap, .slice t.bbase t.lb.length t.bcap] 50) = W3 := ⟨_, rfl⟩
      have hB3 : Below w2.heap.size w2 W3 := by rw [← hW3]; exact (Below.refl _ _).alloc (Nat.le_refl _) _
      have hs3 : w2.heap.size + 1 = W3.heap.size := by rw [← hW3]; simp
      have hnewH : Hid (∀ j u, t.vals[j]? = some u → W3.cell? ((⟨w2.heap.size, 0, none⟩ : Addr).add j) = some u) := by
        have h := news12 w2 t 50
        rw [hW3] at h
        exact h
      have hA3 := hA2.below hB3
      have hO3 : OwnS1 W3 W1.heap.size w2.heap.size t := hO.mono (fun b q1 q2 => hB3.block b q2)
      have hzw := hB.size
      have hown3 : Hid (W3.ownsRow w.heap.size 50 12 v us.length (fl12 us)) := hA3.own
      go_wp2_with (at_builtin; refine wpList_append_back _ rfl _ _ 26 rfl w.heap.size 50 i0 _ 12 184 Try.underlying26 hi0 hz0 hz1 hz2 rfl (by decide) v us.length (fl12 us) rfl hown3.out ⟨w2.heap.size, 0, none⟩ 1 1 t.vals rfl rfl hnewH.out (by simp [Value.oneCell']) (by unfold maxLen; omega) (by omega) (by omega) (by omega) ?_; intro v' w4 hown' hback)
      have hP := hA3.push rfl hO3 (fun j hj => by have := (hA1.int j hj).2.1; omega) (by omega) (by omega) (fun g hg => by have := (hA1.own.lt g hg).2; omega) (by omega) hown' hback
      have hB4 : Below w.heap.size w w4 := by
        have h0 : Below w.heap.size w W3 := bstep (bstep (bstep hB hB1) hB2) hB3
        refine h0.trans (hback.kept.below (by omega) (fun k hk => ?_))
        rcases hk with hk | hk
        · exact (hA3.own.lt k hk).1
        · exact (hown'.lt k hk).1
      refine ⟨⟨i + 1, us ++ [t], _, _, by go_num, by omega, by simp [hul], ?_, hP, hB4⟩, by simp [intOf]; omega⟩
      intro j y z hy hz
      by_cases hj : j < us.length
      · rw [List.getElem?_append_left hj] at hz
        exact hsm.out j y z hy hz
      · have hji : j = i := by
          have := (List.getElem?_eq_some_iff.1 hz).1
          simp at this
          omega
        subst hji
        rw [List.getElem?_append_right (by omega)] at hz
        simp [hul] at hz
        subst hz
        rw [hx] at hy
        cases hy
        exact hxt
    · have he : i = len := by omega
      go_wp2_with fail
      go_returns
      exact ⟨v, us, l, h, rfl, by omega, hsm.out, hA.out, hB⟩
end Go.Proofs.Ytimfdfeleoaehaa
namespace Go.Proofs.Ytimfdfeleoaehaa
open Go.RowKit Go.Shelf
set_option linter.unusedSimpArgs false
set_option linter.unusedVariables false
attribute [local go_sem] Oper.semAt_some

theorem put4o {W : World} {g N : Nat} {t : TypeId} (hR : RowAt W g N t) (o : Nat) (ho : o + 3 < N) (y : XT) :
    RowAt ((((W.setCell ⟨g, o, none⟩ (.int .i64 y.kind)).setCell ⟨g, o + 1, none⟩ (.int .i64 y.num)).setCell ⟨g, o + 2, none⟩ (.string y.name)).setCell ⟨g, o + 3, none⟩ (.slice y.base y.kids.length y.cap)) g N t ∧
    Kept (fun k => k = g) W ((((W.setCell ⟨g, o, none⟩ (.int .i64 y.kind)).setCell ⟨g, o + 1, none⟩ (.int .i64 y.num)).setCell ⟨g, o + 2, none⟩ (.string y.name)).setCell ⟨g, o + 3, none⟩ (.slice y.base y.kids.length y.cap)) ∧
    Cells4 ((((W.setCell ⟨g, o, none⟩ (.int .i64 y.kind)).setCell ⟨g, o + 1, none⟩ (.int .i64 y.num)).setCell ⟨g, o + 2, none⟩ (.string y.name)).setCell ⟨g, o + 3, none⟩ (.slice y.base y.kids.length y.cap)) g o y ∧
    ∀ p, (p < o ∨ o + 4 ≤ p) → ((((W.setCell ⟨g, o, none⟩ (.int .i64 y.kind)).setCell ⟨g, o + 1, none⟩ (.int .i64 y.num)).setCell ⟨g, o + 2, none⟩ (.string y.name)).setCell ⟨g, o + 3, none⟩ (.slice y.base y.kids.length y.cap)).cell? ⟨g, p, none⟩ = W.cell? ⟨g, p, none⟩ := by
  have r1 := hR.set o (.int .i64 y.kind)
  have r2 := r1.set (o + 1) (.int .i64 y.num)
  have r3 := r2.set (o + 2) (.string y.name)
  have r4 := r3.set (o + 3) (.slice y.base y.kids.length y.cap)
  refine ⟨r4, ((((Kept.refl (fun k => k = g) W).setCell (p := ⟨g, o, none⟩) rfl _).setCell (p := ⟨g, o + 1, none⟩) rfl _).setCell (p := ⟨g, o + 2, none⟩) rfl _).setCell (p := ⟨g, o + 3, none⟩) rfl _, ⟨?_, ?_, ?_, ?_⟩, fun p hp => ?_⟩
  · rw [set_far (by omega), set_far (by omega), set_far (by omega)]
    exact hR.put (by omega) _
  · rw [set_far (by omega), set_far (by omega)]
    exact r1.put (by omega) _
  · rw [set_far (by omega)]
    exact r2.put (by omega) _
  · exact r3.put (by omega) _
  · rw [set_far (by omega), set_far (by omega), set_far (by omega), set_far (by omega)]
def isPart (s : SX) (t : XT) : Prop := t = s.e ∨ t = s.f
structure Half (w : World) (s : SX) (e' f' : XT) (lE hE lF hF : Nat) (X : World) : Prop where
  cells : Cells12 X w.heap.size 0 (.mk s.kind s.name e' f' s.abase s.acap s.la s.bbase s.bcap s.lb)
  r1 : RowAt X w.heap.size 12 50
  r2 : RowAt X (w.heap.size + 1) 12 50
  se : Same s.e e'
  sf : Same s.f f'
  oe : OwnR X lE hE e'.base e'.kids
  of : OwnR X lF hF f'.base f'.kids
  b : w.heap.size + 2 ≤ lE ∧ hE ≤ lF ∧ hF ≤ X.heap.size ∧ w.heap.size + 2 ≤ lF ∧ hE ≤ X.heap.size
  below : Below w.heap.size w X
theorem Half.make {w W2 x1 x2 : World} {s : SX} {e' f' : XT} (s2 : W2.heap.size = w.heap.size + 2) (hB2 : Below w.heap.size w W2) (hC : Cells12 W2 w.heap.size 0 s) (hR1 : RowAt W2 w.heap.size 12 50) (hR2 : RowAt W2 (w.heap.size + 1) 12 50) (hse : Same s.e e') (hsf : Same s.f f')
    (hx1 : Below W2.heap.size W2 x1) {y : World} (hy : Below W2.heap.size W2 y) (hO : OwnR x1 y.heap.size x1.heap.size e'.base e'.kids) (hO' : OwnR x2 x1.heap.size x2.heap.size f'.base f'.kids) (hb2 : Below x1.heap.size x1 x2) :
    Half w s e' f' y.heap.size x1.heap.size x1.heap.size x2.heap.size ((((((((x2.setCell ⟨w.heap.size, 2, none⟩ (.int .i64 e'.kind)).setCell ⟨w.heap.size, 3, none⟩ (.int .i64 e'.num)).setCell ⟨w.heap.size, 4, none⟩ (.string e'.name)).setCell ⟨w.heap.size, 5, none⟩ (.slice e'.base e'.kids.length e'.cap)).setCell ⟨w.heap.size, 6, none⟩ (.int .i64 f'.kind)).setCell ⟨w.heap.size, 7, none⟩ (.int .i64 f'.num)).setCell ⟨w.heap.size, 8, none⟩ (.string f'.name)).setCell ⟨w.heap.size, 9, none⟩ (.slice f'.base f'.kids.length f'.cap)) ∧
    Half w s e' f' y.heap.size x1.heap.size x1.heap.size x2.heap.size ((((((((x2.setCell ⟨w.heap.size, 6, none⟩ (.int .i64 f'.kind)).setCell ⟨w.heap.size, 7, none⟩ (.int .i64 f'.num)).setCell ⟨w.heap.size, 8, none⟩ (.string f'.name)).setCell ⟨w.heap.size, 9, none⟩ (.slice f'.base f'.kids.length f'.cap)).setCell ⟨w.heap.size, 2, none⟩ (.int .i64 e'.kind)).setCell ⟨w.heap.size, 3, none⟩ (.int .i64 e'.num)).setCell ⟨w.heap.size, 4, none⟩ (.string e'.name)).setCell ⟨w.heap.size, 5, none⟩ (.slice e'.base e'.kids.length e'.cap)) := by
  have hx2 := bstep hx1 hb2
  have hz1 := hx1.size
  have hz2 := hb2.size
  have hzy := hy.size
  have k1 := hR1.of_block (hx2.block _ (by omega))
  have k2 := hR2.of_block (hx2.block _ (by omega))
  have kC := hC.below hx2 (by omega)
  have hBx : Below w.heap.size w x2 := hB2.trans (hx2.mono (by omega))
  have fin : ∀ X : World, RowAt X w.heap.size 12 50 → Kept (fun k => k = w.heap.size) x2 X → Cells4 X w.heap.size 2 e' → Cells4 X w.heap.size 6 f' → (∀ p, (p < 2 ∨ 10 ≤ p) → X.cell? ⟨w.heap.size, p, none⟩ = x2.cell? ⟨w.heap.size, p, none⟩) → Half w s e' f' y.heap.size x1.heap.size x1.heap.size x2.heap.size X := by
    intro X hr hk he hf ho
    have hzX := hk.size
    refine ⟨⟨(ho 0 (by omega)).trans kC.c0, (ho 1 (by omega)).trans kC.c1, he.c0, he.c1, he.c2, he.c3, hf.c0, hf.c1, hf.c2, hf.c3, (ho 10 (by omega)).trans kC.c10, (ho 11 (by omega)).trans kC.c11⟩, hr, k2.of_block (hk.block _ (by omega) (by omega)), hse, hsf, ?_, ?_, ⟨by omega, by omega, by omega, by omega, by omega⟩, hBx.trans (hk.below (by omega) (fun k e => by omega))⟩
    · exact hO.mono (fun b q1 q2 => (hk.block b (by omega) (by omega)).trans (hb2.block b q2))
    · exact hO'.mono (fun b q1 q2 => hk.block b (by omega) (by omega))
  constructor
  · obtain ⟨p1, p2, p3, p4⟩ := put4o k1 2 (by omega) e'
    obtain ⟨q1, q2, q3, q4⟩ := put4o p1 6 (by omega) f'
    exact fin _ q1 (p2.trans q2) ⟨(q4 2 (by omega)).trans p3.c0, (q4 3 (by omega)).trans p3.c1, (q4 4 (by omega)).trans p3.c2, (q4 5 (by omega)).trans p3.c3⟩ q3 (fun p hp => (q4 p (by omega)).trans (p4 p (by omega)))
  · obtain ⟨p1, p2, p3, p4⟩ := put4o k1 6 (by omega) f'
    obtain ⟨q1, q2, q3, q4⟩ := put4o p1 2 (by omega) e'
    exact fin _ q1 (p2.trans q2) q3 ⟨(q4 6 (by omega)).trans p3.c0, (q4 7 (by omega)).trans p3.c1, (q4 8 (by omega)).trans p3.c2, (q4 9 (by omega)).trans p3.c3⟩ (fun p hp => (q4 p (by omega)).trans (p4 p (by omega)))
def isList (s : SX) (a : Option Addr) (ks : List SX) (c : Nat) : Prop := (a = s.abase ∧ ks = s.la ∧ c = s.acap) ∨ (a = s.bbase ∧ ks = s.lb ∧ c = s.bcap)
structure Full (w : World) (s s' : SX) (X : World) : Prop where
  cells : Cells12 X w.heap.size 0 s'
  r2 : RowAt X (w.heap.size + 1) 12 50
  same : SameS s s'
  own : OwnS1 X (w.heap.size + 2) X.heap.size s'
  below : Below w.heap.size w X
theorem Full.make {w Y x1 x2 y : World} {s : SX} {e' f' : XT} {lE hE lF hF : Nat} (hH : Half w s e' f' lE hE lF hF Y) (hy : Below Y.heap.size Y y) {a' b' : Option Addr} {ca cb : Nat} {la' lb' : List SX} (hla : la'.length = s.la.length) (hlb : lb'.length = s.lb.length)
    (ha : ∀ (i : Nat) (p q : SX), s.la[i]? = some p → la'[i]? = some q → SameS p q) (hb : ∀ (i : Nat) (p q : SX), s.lb[i]? = some p → lb'[i]? = some q → SameS p q)
    (hx1 : Below Y.heap.size Y x1) (hO : OwnSR x1 y.heap.size x1.heap.size a' la') (hO' : OwnSR x2 x1.heap.size x2.heap.size b' lb') (hb2 : Below x1.heap.size x1 x2) :
    Full w s (.mk s.kind s.name e' f' a' ca la' b' cb lb') ((x2.setCell ⟨w.heap.size, 10, none⟩ (.slice a' s.la.length ca)).setCell ⟨w.heap.size, 11, none⟩ (.slice b' s.lb.length cb)) ∧
    Full w s (.mk s.kind s.name e' f' a' ca la' b' cb lb') ((x2.setCell ⟨w.heap.size, 11, none⟩ (.slice b' s.lb.length cb)).setCell ⟨w.heap.size, 10, none⟩ (.slice a' s.la.length ca)) := by
  have hx2 := bstep hx1 hb2
  have hz1 := hx1.size
  have hz2 := hb2.size
  have hzy := hy.size
  obtain ⟨q1, q2, q3, q4, q5⟩ := hH.b
  have hzY : w.heap.size + 1 < Y.heap.size := hH.r2.lt
  have k1 := hH.r1.of_block (hx2.block _ (by omega))
  have k2 := hH.r2.of_block (hx2.block _ (by omega))
  have kC := hH.cells.below hx2 (by omega)
  have hBx : Below w.heap.size w x2 := hH.below.trans (hx2.mono (by have := hH.below.size; omega))
  have fin : ∀ X : World, Kept (fun k => k = w.heap.size) x2 X → X.cell? ⟨w.heap.size, 10, none⟩ = some (.slice a' la'.length ca) → X.cell? ⟨w.heap.size, 11, none⟩ = some (.slice b' lb'.length cb) → (∀ p, p < 10 → X.cell? ⟨w.heap.size, p, none⟩ = x2.cell? ⟨w.heap.size, p, none⟩) → Full w s (.mk s.kind s.name e' f' a' ca la' b' cb lb') X := by
    intro X hk h10 h11 ho
    have hzX := hk.size
    refine ⟨⟨(ho 0 (by omega)).trans kC.c0, (ho 1 (by omega)).trans kC.c1, (ho 2 (by omega)).trans kC.c2, (ho 3 (by omega)).trans kC.c3, (ho 4 (by omega)).trans kC.c4, (ho 5 (by omega)).trans kC.c5, (ho 6 (by omega)).trans kC.c6, (ho 7 (by omega)).trans kC.c7, (ho 8 (by omega)).trans kC.c8, (ho 9 (by omega)).trans kC.c9, h10, h11⟩, k2.of_block (hk.block _ (by omega) (by omega)), .mk _ _ rfl rfl hH.se hH.sf hla hlb ha hb, ?_, hBx.trans (hk.below (by have := hH.below.size; omega) (fun k e => by omega))⟩
    refine ⟨fun m => if m = 0 then lE else if m = 1 then lF else if m = 2 then y.heap.size else x1.heap.size, fun m => if m = 0 then hE else if m = 1 then hF else if m = 2 then x1.heap.size else x2.heap.size, fun m hm => ?_, fun m n hm hn hmn => ?_, ?_, ?_, ?_, ?_⟩
    · rcases (show m = 0 ∨ m = 1 ∨ m = 2 ∨ m = 3 by omega) with rfl | rfl | rfl | rfl <;> simp <;> omega
    · rcases (show m = 0 ∨ m = 1 ∨ m = 2 ∨ m = 3 by omega) with rfl | rfl | rfl | rfl <;> rcases (show n = 0 ∨ n = 1 ∨ n = 2 ∨ n = 3 by omega) with rfl | rfl | rfl | rfl <;> first | exact absurd rfl hmn | (simp; done) | (simp; omega)
    · exact hH.oe.mono (fun b p1 p2 => (hk.block b (by first | omega | (simp at p2; omega)) (by first | omega | (simp at p1; omega))).trans (hx2.block b (by first | omega | (simp at p2; omega))))
    · exact hH.of.mono (fun b p1 p2 => (hk.block b (by first | omega | (simp at p2; omega)) (by first | omega | (simp at p1; omega))).trans (hx2.block b (by first | omega | (simp at p2; omega))))
    · exact hO.mono (fun b p1 p2 => (hk.block b (by first | omega | (simp at p2; omega)) (by first | omega | (simp at p1; omega))).trans (hb2.block b (by first | omega | (simp at p2; omega))))
    · exact hO'.mono (fun b p1 p2 => hk.block b (by first | omega | (simp at p2; omega)) (by first | omega | (simp at p1; omega)))
  rw [← hla, ← hlb]
  constructor
  · refine fin _ (((Kept.refl (fun k => k = w.heap.size) x2).setCell (p := ⟨w.heap.size, 10, none⟩) rfl _).setCell (p := ⟨w.heap.size, 11, none⟩) rfl _) ?_ ?_ (fun p hp => ?_)
    · rw [set_far (by omega)]; exact k1.put (by omega) _
    · exact (k1.set 10 _).put (by omega) _
    · rw [set_far (by omega), set_far (by omega)]
  · refine fin _ (((Kept.refl (fun k => k = w.heap.size) x2).setCell (p := ⟨w.heap.size, 11, none⟩) rfl _).setCell (p := ⟨w.heap.size, 10, none⟩) rfl _) ?_ ?_ (fun p hp => ?_)
    · exact (k1.set 11 _).put (by omega) _
    · rw [set_far (by omega)]; exact k1.put (by omega) _
    · rw [set_far (by omega), set_far (by omega)]
set_option maxRecDepth 10000 in
set_option maxHeartbeats 8000000 in
theorem copyS (sz : Nat) : ∀ s : SX, s.size ≤ sz → SmallS s → ∀ (ok : Nat → Prop) (w : World), (∀ b, ok b → b < w.heap.size) → LiesS ok w s →
    Calls Try.prog 52 #[s.val] w fun e w' => ∃ s' : SX, e = .returned s'.val ∧ SameS s s' ∧ OwnS1 w' w.heap.size w'.heap.size s' ∧ Below w.heap.size w w' := by
  induction sz with
  | zero => intro t h; rw [SX.size_eq] at h; omega
  | succ sz ih =>
  intro s hsz hm ok w hok hL
  obtain ⟨m1, m2, m3, m4, m5, m6⟩ := hm.parts
  have hse := s.size_eq
  obtain ⟨W1, hW1⟩ : ∃ W1, w.alloc (.cells #[.int .i64 s.kind, .string s.name, .int .i64 s.e.kind, .int .i64 s.e.num, .string s.e.name, .slice s.e.base s.e.kids.length s.e.cap, .int .i64 s.f.kind, .int .i64 s.f.num, .string s.f.name, .slice s.f.base s.f.kids.length s.f.cap, .slice s.abase s.la.length s.acap, .slice s.bbase s.lb.length s.bcap] 50) = W1 := ⟨_, rfl⟩
  obtain ⟨W2, hW2⟩ : ∃ W2, W1.alloc (.cells #[.int .i64 0, .string ⟨#[]⟩, .int .i64 0, .int .i64 0, .string ⟨#[]⟩, .slice none 0 0, .int .i64 0, .int .i64 0, .string ⟨#[]⟩, .slice none 0 0, .slice none 0 0, .slice none 0 0] 50) = W2 := ⟨_, rfl⟩
  have s1 : W1.heap.size = w.heap.size + 1 := by rw [← hW1]; simp
  have s2 : W2.heap.size = w.heap.size + 2 := by rw [← hW2]; simp [s1]
  have hB2 : Below w.heap.size w W2 := by rw [← hW2, ← hW1]; exact ((Below.refl _ w).alloc (Nat.le_refl _) _).alloc (by simp) _
  have hR1 : RowAt W2 w.heap.size 12 50 := by
    have h := RowAt.new w #[.int .i64 s.kind, .string s.name, .int .i64 s.e.kind, .int .i64 s.e.num, .string s.e.name, .slice s.e.base s.e.kids.length s.e.cap, .int .i64 s.f.kind, .int .i64 s.f.num, .string s.f.name, .slice s.f.base s.f.kids.length s.f.cap, .slice s.abase s.la.length s.acap, .slice s.bbase s.lb.length s.bcap] 50
    rw [hW1] at h
    rw [← hW2]
    exact h.of_block (Below.heap_alloc _ _ _ (by omega))
  have hR2 : RowAt W2 (w.heap.size + 1) 12 50 := by
    have h := RowAt.new W1 #[.int .i64 0, .string ⟨#[]⟩, .int .i64 0, .int .i64 0, .string ⟨#[]⟩, .slice none 0 0, .int .i64 0, .int .i64 0, .string ⟨#[]⟩, .slice none 0 0, .slice none 0 0, .slice none 0 0] 50
    rw [hW2, s1] at h
    exact h
  have hC : Cells12 W2 w.heap.size 0 s := by
    have h := Cells12.new w s 50
    rw [hW1] at h
    rw [← hW2]
    exact h.below (n := W1.heap.size) ((Below.refl _ _).alloc (Nat.le_refl _) _) (by omega)
  have hL2 := hL.under hB2 hok
  have hok2 : ∀ b, ok b → b < W2.heap.size := fun b hb => Nat.lt_of_lt_of_le (hok b hb) hB2.size
  have g1 := m2.1
  have g2 := m3.1
  have HC : Hid (∀ (t : XT) (x : World), isPart s t → Below W2.heap.size W2 x → Calls Try.prog 70 #[t.val] x fun e w' => ∃ t' : XT, e = .returned t'.val ∧ Same t t' ∧ OwnR w' x.heap.size w'.heap.size t'.base t'.kids ∧ Below x.heap.size x w') := by
    rintro t x (rfl | rfl) hx
    · exact copyE _ _ (Nat.le_refl _) (by omega) ok x (fun b hb => Nat.lt_of_lt_of_le (hok2 b hb) hx.size) (hL2.parts.1.under hx hok2)
    · exact copyE _ _ (Nat.le_refl _) (by omega) ok x (fun b hb => Nat.lt_of_lt_of_le (hok2 b hb) hx.size) (hL2.parts.2.1.under hx hok2)
  have hEE : isPart s s.e := .inl rfl
  have hFF : isPart s s.f := .inr rfl
  have hXd : Below W2.heap.size W2 W2.drew := (Below.refl _ W2).drew
  have hzd : W2.drew.heap.size = W2.heap.size := rfl
  obtain ⟨c0, c1, c2, c3, c4', c5, c6, c7, c8, c9, c10, c11⟩ := hC.below hXd (by omega)
  go_enter Try.func52, Try.ntmps52
  go_wp2_with fail
  go_cut [] (fun wx => ∃ (e' f' : XT) (lE hE lF hF : Nat), Hid (Half w s e' f' lE hE lF hF wx))
  case first =>
    go_region_law (first | (go_simp; go_at_call 70; refine (HC.out _ _ (by exact hEE) (by exact hXd)).mono ?_; rintro e x1 ⟨e', rfl, hs1, hO1, hb1⟩; (have hx1 := bstep hXd hb1); (obtain ⟨k0, k1, k2, k3, k4, k5, k6, k7, k8, k9, k10, k11⟩ := hC.below hx1 (by omega))) | (go_simp; go_at_call 70; refine (HC.out _ _ (by exact hFF) (by exact hx1)).mono ?_; rintro e x2 ⟨f', rfl, hs2', hO2, hb2⟩; (have hx2 := bstep hx1 hb2); (have hRx := hR1.of_block (hx2.block _ (by omega))); (obtain ⟨n0, n1, n2, n3, n4, n5, n6, n7, n8, n9, n10, n11⟩ := hC.below hx2 (by omega)); (have z2 := hRx.frozen 2); (have z3 := hRx.frozen 3); (have z4 := hRx.frozen 4); (have z5 := hRx.frozen 5); (have z6 := hRx.frozen 6); (have z7 := hRx.frozen 7); (have z8 := hRx.frozen 8); (have z9 := hRx.frozen 9)))
    all_goals
      obtain ⟨hEF, hFE⟩ := Half.make s2 hB2 hC hR1 hR2 hs1 hs2' hx1 hXd hO1 hO2 hb2
      go_wp2_with fail
      go_meet
      case rel => first | exact ⟨e', f', _, _, _, _, hEF⟩ | exact ⟨e', f', _, _, _, _, hFE⟩
  case rest =>
    obtain ⟨e', f', lE, hE, lF, hF, hH0⟩ := hcut
    rename World => Y
    have hH := hH0.out
    clear c0 c1 c2 c3 c4' c5 c6 c7 c8 c9 c10 c11 hXd hzd HC hEE hFF hW1 hW2
    have hLY := hL.under hH.below hok
    have hzY : w.heap.size + 1 < Y.heap.size := hH.r2.lt
    have hokY : ∀ b, ok b → b < Y.heap.size := fun b hb => by have := hok b hb; omega
    have HL : Hid (∀ (ks : List SX) (a : Option Addr) (c : Nat) (x : World), isList s a ks c → Below Y.heap.size Y x → Calls Try.prog 71 #[.slice a ks.length c, .func (.func 52) #[] #[]] x fun e w' => ∃ (a' : Option Addr) (c' : Nat) (us : List SX), e = .returned (.slice a' ks.length c') ∧ Hid (us.length = ks.length ∧ (∀ (i : Nat) (p q : SX), ks[i]? = some p → us[i]? = some q → SameS p q) ∧ OwnSR w' x.heap.size w'.heap.size a' us) ∧ Below x.heap.size x w') := by
      rintro ks a c x hp hx
      have hokx : ∀ b, ok b → b < x.heap.size := fun b hb => Nat.lt_of_lt_of_le (hokY b hb) hx.size
      have lx := (hLY.under hx hokY).parts
      have fin : ∀ (r : SRow ok x a ks) (hsz' : SX.sizeAll ks ≤ sz) (hl : ks.length ≤ 1048577) (hm' : ∀ (i : Nat) (k : SX), ks[i]? = some k → SmallS k) (hk' : ∀ (i : Nat) (k : SX), ks[i]? = some k → LiesS ok x k), Calls Try.prog 71 #[.slice a ks.length c, .func (.func 52) #[] #[]] x fun e w' => ∃ (a' : Option Addr) (c' : Nat) (us : List SX), e = .returned (.slice a' ks.length c') ∧ Hid (us.length = ks.length ∧ (∀ (i : Nat) (p q : SX), ks[i]? = some p → us[i]? = some q → SameS p q) ∧ OwnSR w' x.heap.size w'.heap.size a' us) ∧ Below x.heap.size x w' := by
        intro r hsz' hl hm' hk'
        refine (eachS ks a c ok x hokx r hl (fun i k hk w' hBw => ih k (by have := SX.size_get hk; omega) (hm' i k hk) ok w' (fun b hb => Nat.lt_of_lt_of_le (hokx b hb) hBw.size) ((hk' i k hk).under hBw hokx))).mono ?_
        rintro e w' ⟨v, us, l, h, rfl, h1, h2, h3, h4⟩
        obtain ⟨a', c', rfl, hO⟩ := h3.done
        exact ⟨a', c', us, by rw [h1], ⟨h1, h2, hO⟩, h4⟩
      rcases hp with ⟨rfl, rfl, rfl⟩ | ⟨rfl, rfl, rfl⟩
      · exact fin lx.2.2.1 (by omega) (by omega) m5 lx.2.2.2.2.1
      · exact fin lx.2.2.2.1 (by omega) (by omega) m6 lx.2.2.2.2.2
    have hLA : isList s s.abase s.la s.acap := .inl ⟨rfl, rfl, rfl⟩
    have hLB : isList s s.bbase s.lb s.bcap := .inr ⟨rfl, rfl, rfl⟩
    have hXd : Below Y.heap.size Y Y.drew := (Below.refl _ Y).drew
    have cA : Y.drew.cell? ⟨w.heap.size, 10, none⟩ = some (.slice s.abase s.la.length s.acap) := hH.cells.c10
    have cB : Y.drew.cell? ⟨w.heap.size, 11, none⟩ = some (.slice s.bbase s.lb.length s.bcap) := hH.cells.c11
    clear hLY hL hL2 ih m5 m6 hC hR1 hR2
    go_wp2_with fail
    go_cut [] (fun wx => ∃ (s' : SX), Hid (Full w s s' wx))
    case first =>
      go_region_law (first | (go_simp; go_at_call 71; refine (HL.out _ _ _ _ (by exact hLA) (by exact hXd)).mono ?_; rintro e x1 ⟨a1, ca, la1, rfl, hh1, hb1⟩; (have hx1 := bstep hXd hb1); (have k11 := (hH.cells.below hx1 (by omega)).c11); (have k10 := (hH.cells.below hx1 (by omega)).c10)) | (go_simp; go_at_call 71; refine (HL.out _ _ _ _ (by exact hLB) (by exact hx1)).mono ?_; rintro e x2 ⟨b1, cb, lb1, rfl, hh2, hb2⟩; (have hx2 := bstep hx1 hb2); (have hRx := hH.r1.of_block (hx2.block _ (by omega))); (have n10 : x2.cell? ⟨w.heap.size, 10, none⟩ = some (.slice s.abase s.la.length s.acap) := (hH.cells.below hx2 (by omega)).c10); (have n11 : x2.cell? ⟨w.heap.size, 11, none⟩ = some (.slice s.bbase s.lb.length s.bcap) := (hH.cells.below hx2 (by omega)).c11); (have z10 := hRx.frozen 10); (have z11 := hRx.frozen 11)))
      all_goals
        obtain ⟨hl1, hs1, hO1⟩ := hh1.out
        obtain ⟨hl2, hs2', hO2⟩ := hh2.out
        obtain ⟨hAB, hBA⟩ := Full.make (ca := ca) (cb := cb) hH hXd hl1 hl2 hs1 hs2' hx1 hO1 hO2 hb2
        clear hl1 hl2 hs1 hs2' hO1 hO2
        go_wp2_with fail
        go_meet
        case rel => first | exact ⟨_, hAB⟩ | exact ⟨_, hBA⟩
    case rest =>
      obtain ⟨s', hF0⟩ := hcut
      rename World => Z
      have hF' := hF0.out
      clear cA cB hXd HL hLA hLB hH hH0 hF0
      obtain ⟨c0, c1, c2, c3, c4', c5, c6, c7, c8, c9, c10, c11⟩ := hF'.cells
      have hr2 := hF'.r2
      have hzZ := hr2.lt
      obtain ⟨p0, t0⟩ := hr2.cell (o := 0) (by omega)
      have ft0 := hr2.frozen 0
      obtain ⟨p1, t1⟩ := hr2.cell (o := 1) (by omega)
      have ft1 := hr2.frozen 1
      obtain ⟨p2, t2⟩ := hr2.cell (o := 2) (by omega)
      have ft2 := hr2.frozen 2
      obtain ⟨p3, t3⟩ := hr2.cell (o := 3) (by omega)
      have ft3 := hr2.frozen 3
      obtain ⟨p4, t4⟩ := hr2.cell (o := 4) (by omega)
      have ft4 := hr2.frozen 4
      obtain ⟨p5, t5⟩ := hr2.cell (o := 5) (by omega)
      have ft5 := hr2.frozen 5
      obtain ⟨p6, t6⟩ := hr2.cell (o := 6) (by omega)
      have ft6 := hr2.frozen 6
      obtain ⟨p7, t7⟩ := hr2.cell (o := 7) (by omega)
      have ft7 := hr2.frozen 7
      obtain ⟨p8, t8⟩ := hr2.cell (o := 8) (by omega)
      have ft8 := hr2.frozen 8
      obtain ⟨p9, t9⟩ := hr2.cell (o := 9) (by omega)
      have ft9 := hr2.frozen 9
      obtain ⟨p10, t10⟩ := hr2.cell (o := 10) (by omega)
      have ft10 := hr2.frozen 10
      obtain ⟨p11, t11⟩ := hr2.cell (o := 11) (by omega)
      have ft11 := hr2.frozen 11
      go_wp2
      have hK : Kept (fun k => k = w.heap.size + 1) Z ((((((((((((Z.setCell ⟨w.heap.size + 1, 0, none⟩ (.int .i64 s'.kind)).setCell ⟨w.heap.size + 1, 1, none⟩ (.string s'.name)).setCell ⟨w.heap.size + 1, 2, none⟩ (.int .i64 s'.e.kind)).setCell ⟨w.heap.size + 1, 3, none⟩ (.int .i64 s'.e.num)).setCell ⟨w.heap.size + 1, 4, none⟩ (.string s'.e.name)).setCell ⟨w.heap.size + 1, 5, none⟩ (.slice s'.e.base s'.e.kids.length s'.e.cap)).setCell ⟨w.heap.size + 1, 6, none⟩ (.int .i64 s'.f.kind)).setCell ⟨w.heap.size + 1, 7, none⟩ (.int .i64 s'.f.num)).setCell ⟨w.heap.size + 1, 8, none⟩ (.string s'.f.name)).setCell ⟨w.heap.size + 1, 9, none⟩ (.slice s'.f.base s'.f.kids.length s'.f.cap)).setCell ⟨w.heap.size + 1, 10, none⟩ (.slice s'.abase s'.la.length s'.acap)).setCell ⟨w.heap.size + 1, 11, none⟩ (.slice s'.bbase s'.lb.length s'.bcap)) := (((((((((((((Kept.refl (fun k => k = w.heap.size + 1) Z).setCell (p := ⟨w.heap.size + 1, 0, none⟩) rfl (.int .i64 s'.kind)).setCell (p := ⟨w.heap.size + 1, 1, none⟩) rfl (.string s'.name)).setCell (p := ⟨w.heap.size + 1, 2, none⟩) rfl (.int .i64 s'.e.kind)).setCell (p := ⟨w.heap.size + 1, 3, none⟩) rfl (.int .i64 s'.e.num)).setCell (p := ⟨w.heap.size + 1, 4, none⟩) rfl (.string s'.e.name)).setCell (p := ⟨w.heap.size + 1, 5, none⟩) rfl (.slice s'.e.base s'.e.kids.length s'.e.cap)).setCell (p := ⟨w.heap.size + 1, 6, none⟩) rfl (.int .i64 s'.f.kind)).setCell (p := ⟨w.heap.size + 1, 7, none⟩) rfl (.int .i64 s'.f.num)).setCell (p := ⟨w.heap.size + 1, 8, none⟩) rfl (.string s'.f.name)).setCell (p := ⟨w.heap.size + 1, 9, none⟩) rfl (.slice s'.f.base s'.f.kids.length s'.f.cap)).setCell (p := ⟨w.heap.size + 1, 10, none⟩) rfl (.slice s'.abase s'.la.length s'.acap)).setCell (p := ⟨w.heap.size + 1, 11, none⟩) rfl (.slice s'.bbase s'.lb.length s'.bcap))
      first | go_returns | (refine bodyPost_ret (by simp [results, Try.results52, go_sem, *]; try rfl) rfl ?_)
      refine ⟨s', rfl, hF'.same, ?_, ?_⟩
      · exact (hF'.own.mono (fun b q1 q2 => hK.block b (by omega) (by omega))).wide (by omega) hK.size
      · exact hF'.below.trans (hK.below (by omega) (fun k e => by omega))
end Go.Proofs.Ytimfdfeleoaehaa
namespace Go.Proofs.Ytimfdfeleoaehaa
open Go.RowKit Go.Shelf
set_option linter.unusedSimpArgs false
set_option linter.unusedVariables false
attribute [local go_sem] Oper.semAt_some

theorem AccS.on {A B : World} {base : Nat} {v : Value} {us : List SX} {l h : Nat → Nat} (hA : AccS A base v us l h) (hz : A.heap.size ≤ B.heap.size) (hb : ∀ k, k < A.heap.size → (v.ownBlock = some k ∨ ∃ i, i < us.length ∧ l i ≤ k ∧ k < h i) → B.heap[k]? = A.heap[k]?) : AccS B base v us l h := by
  refine ⟨own_on hA.own (fun g hg => hb g (hA.own.lt g hg).2 (.inl hg)), fun i hi => ?_, hA.ord, fun i t ht => (hA.kid i t ht).mono (fun b q1 q2 => ?_)⟩
  · obtain ⟨h1, h2, h3⟩ := hA.int i hi
    exact ⟨h1, Nat.le_trans h2 hz, h3⟩
  · have hi := (List.getElem?_eq_some_iff.1 ht).1
    exact hb b (by have := (hA.int i hi).2.1; omega) (.inr ⟨i, hi, q1, q2⟩)
def zE : XT := .mk 0 0 ⟨#[]⟩ none 0 []
def zS : SX := .mk 0 ⟨#[]⟩ zE zE none 0 [] none 0 []
theorem OwnS1.zero (W : World) {lo hi : Nat} (h : lo ≤ hi) : OwnS1 W lo hi zS := by
  refine ⟨fun _ => lo, fun _ => lo, fun m _ => ⟨Nat.le_refl _, h⟩, fun m n _ _ _ => .inl (Nat.le_refl _), ?_, ?_, ?_, ?_⟩
  · exact .mk _ _ _ _ 0 0 (fun _ => 0) (fun _ => 0) (fun i k hk => by simp [zS, SX.e, zE, XT.kids] at hk) (fun i k hk => by simp [zS, SX.e, zE, XT.kids] at hk) (fun i hi => by simp [zS, SX.e, zE, XT.kids] at hi) (fun i j hi => by simp [zS, SX.e, zE, XT.kids] at hi) (fun i k hk => by simp [zS, SX.e, zE, XT.kids] at hk)
  · exact .mk _ _ _ _ 0 0 (fun _ => 0) (fun _ => 0) (fun i k hk => by simp [zS, SX.f, zE, XT.kids] at hk) (fun i k hk => by simp [zS, SX.f, zE, XT.kids] at hk) (fun i hi => by simp [zS, SX.f, zE, XT.kids] at hi) (fun i j hi => by simp [zS, SX.f, zE, XT.kids] at hi) (fun i k hk => by simp [zS, SX.f, zE, XT.kids] at hk)
  · exact .mk _ _ _ _ 0 0 (fun _ => 0) (fun _ => 0) (fun i k hk => by simp [zS, SX.la] at hk) (fun i k hk => by simp [zS, SX.la] at hk) (fun i hi => by simp [zS, SX.la] at hi) (fun i j hi => by simp [zS, SX.la] at hi) (fun i k hk => by simp [zS, SX.la] at hk) (fun i k hk => by simp [zS, SX.la] at hk) (fun i k hk => by simp [zS, SX.la] at hk) (fun i k hk => by simp [zS, SX.la] at hk)
  · exact .mk _ _ _ _ 0 0 (fun _ => 0) (fun _ => 0) (fun i k hk => by simp [zS, SX.lb] at hk) (fun i k hk => by simp [zS, SX.lb] at hk) (fun i hi => by simp [zS, SX.lb] at hi) (fun i j hi => by simp [zS, SX.lb] at hi) (fun i k hk => by simp [zS, SX.lb] at hk) (fun i k hk => by simp [zS, SX.lb] at hk) (fun i k hk => by simp [zS, SX.lb] at hk) (fun i k hk => by simp [zS, SX.lb] at hk)
/-- The last of a list is written. -/
theorem AccS.put {Z B : World} {base n g : Nat} {v : Value} {us : List SX} {l h : Nat → Nat} {z t : SX} {lo hi : Nat} (hA : AccS Z base v (us ++ [z]) l h) (hn : us.length = n) (hv : v.ownBlock = some g) (hO : OwnS1 Z lo hi t) (hlo : ∀ i, i < n → h i ≤ lo) (hb : base ≤ lo) (hhi : hi ≤ Z.heap.size) (hg : g < lo ∨ hi ≤ g)
    (hK : Kept (fun k => k = g) Z B) (hrow : B.ownsRow base 50 12 v (n + 1) (fl12 us ++ t.vals)) :
    AccS B base v (us ++ [t]) (fun i => if i = n then lo else l i) (fun i => if i = n then hi else h i) := by
  have hz := hK.size
  refine ⟨?_, fun i hi' => ?_, fun i j hij hj => ?_, fun i y hy => ?_⟩
  · rw [fl12_snoc, List.length_append, hn]
    exact hrow
  · simp only [List.length_append, List.length_singleton] at hi'
    by_cases e : i = n
    · simp only [e, if_true]
      exact ⟨hb, by omega, fun g' hg' => by rw [hv] at hg'; cases hg'; exact hg⟩
    · simp only [e, if_false]
      obtain ⟨h1, h2, h3⟩ := hA.int i (by simp; omega)
      exact ⟨h1, by omega, h3⟩
  · simp only [List.length_append, List.length_singleton] at hj
    have hi' : i ≠ n := by omega
    simp only [hi', if_false]
    by_cases e : j = n
    · simp only [e, if_true]
      exact hlo i (by omega)
    · simp only [e, if_false]
      exact hA.ord i j hij (by simp; omega)
  · by_cases e : i < us.length
    · rw [List.getElem?_append_left e] at hy
      have hi' : i ≠ n := by omega
      simp only [hi', if_false]
      obtain ⟨h1, h2, h3⟩ := hA.int i (by simp; omega)
      have h4 := h3 g hv
      exact (hA.kid i y (by rw [List.getElem?_append_left e]; exact hy)).mono (fun b q1 q2 => hK.block b (by omega) (by omega))
    · have hi' : i = n := by
        have := (List.getElem?_eq_some_iff.1 hy).1
        simp at this
        omega
      rw [List.getElem?_append_right (by omega)] at hy
      simp [hi', hn] at hy
      subst hy
      simp only [hi', if_true]
      exact hO.mono (fun b q1 q2 => hK.block b (by omega) (by omega))
theorem set_right (xs ys : List Value) (j : Nat) (u : Value) : (xs ++ ys).set (xs.length + j) u = xs ++ ys.set j u := by
  rw [List.set_append_right _ _ (by omega)]
  congr 2
  omega
/-- Twelve cells of the last one. -/
theorem put12L {Z : World} {base n g cap : Nat} {us : List SX} {z : SX} (t : SX) (hn : us.length = n) (h : Z.ownsRow base 50 12 (.slice (some ⟨g, 0, none⟩) (n + 1) cap) (n + 1) (fl12 us ++ z.vals)) (o : Nat) (ho : o = n * 12) :
    let B := (((((((((((Z.setCell ⟨g, o, none⟩ (.int .i64 t.kind)).setCell ⟨g, o + 1, none⟩ (.string t.name)).setCell ⟨g, o + 2, none⟩ (.int .i64 t.e.kind)).setCell ⟨g, o + 3, none⟩ (.int .i64 t.e.num)).setCell ⟨g, o + 4, none⟩ (.string t.e.name)).setCell ⟨g, o + 5, none⟩ (.slice t.e.base t.e.kids.length t.e.cap)).setCell ⟨g, o + 6, none⟩ (.int .i64 t.f.kind)).setCell ⟨g, o + 7, none⟩ (.int .i64 t.f.num)).setCell ⟨g, o + 8, none⟩ (.string t.f.name)).setCell ⟨g, o + 9, none⟩ (.slice t.f.base t.f.kids.length t.f.cap)).setCell ⟨g, o + 10, none⟩ (.slice t.abase t.la.length t.acap)).setCell ⟨g, o + 11, none⟩ (.slice t.bbase t.lb.length t.bcap)
    B.ownsRow base 50 12 (.slice (some ⟨g, 0, none⟩) (n + 1) cap) (n + 1) (fl12 us ++ t.vals) ∧ Kept (fun k => k = g) Z B := by
  intro B
  have hl : (fl12 us).length = o := by rw [fl12_length, hn, ho]
  refine ⟨?_, ?_⟩
  · have r0 := (h.stored o (.int .i64 t.kind)).1
    have r1 := (r0.stored (o + 1) (.string t.name)).1
    have r2 := (r1.stored (o + 2) (.int .i64 t.e.kind)).1
    have r3 := (r2.stored (o + 3) (.int .i64 t.e.num)).1
    have r4 := (r3.stored (o + 4) (.string t.e.name)).1
    have r5 := (r4.stored (o + 5) (.slice t.e.base t.e.kids.length t.e.cap)).1
    have r6 := (r5.stored (o + 6) (.int .i64 t.f.kind)).1
    have r7 := (r6.stored (o + 7) (.int .i64 t.f.num)).1
    have r8 := (r7.stored (o + 8) (.string t.f.name)).1
    have r9 := (r8.stored (o + 9) (.slice t.f.base t.f.kids.length t.f.cap)).1
    have r10 := (r9.stored (o + 10) (.slice t.abase t.la.length t.acap)).1
    have r11 := (r10.stored (o + 11) (.slice t.bbase t.lb.length t.bcap)).1
    have e : ∀ ys : List Value, ys.length = 12 → ((((((((((((fl12 us ++ ys).set o (.int .i64 t.kind)).set (o + 1) (.string t.name)).set (o + 2) (.int .i64 t.e.kind)).set (o + 3) (.int .i64 t.e.num)).set (o + 4) (.string t.e.name)).set (o + 5) (.slice t.e.base t.e.kids.length t.e.cap)).set (o + 6) (.int .i64 t.f.kind)).set (o + 7) (.int .i64 t.f.num)).set (o + 8) (.string t.f.name)).set (o + 9) (.slice t.f.base t.f.kids.length t.f.cap)).set (o + 10) (.slice t.abase t.la.length t.acap)).set (o + 11) (.slice t.bbase t.lb.length t.bcap) = fl12 us ++ t.vals := by
      intro ys hy
      have s0 := set_right (fl12 us) ys 0 (.int .i64 t.kind)
      rw [hl, Nat.add_zero] at s0
      rw [s0, ← hl]
      simp only [set_right]
      match ys, hy with
      | [a, b, c, d, e, f, g, h, i, j, k, l], _ => rfl
    rw [e _ rfl] at r11
    exact r11
  · exact (((((((((((((Kept.refl (fun k => k = g) Z).setCell (p := ⟨g, o, none⟩) rfl _).setCell (p := ⟨g, o + 1, none⟩) rfl _).setCell (p := ⟨g, o + 2, none⟩) rfl _).setCell (p := ⟨g, o + 3, none⟩) rfl _).setCell (p := ⟨g, o + 4, none⟩) rfl _).setCell (p := ⟨g, o + 5, none⟩) rfl _).setCell (p := ⟨g, o + 6, none⟩) rfl _).setCell (p := ⟨g, o + 7, none⟩) rfl _).setCell (p := ⟨g, o + 8, none⟩) rfl _).setCell (p := ⟨g, o + 9, none⟩) rfl _).setCell (p := ⟨g, o + 10, none⟩) rfl _).setCell (p := ⟨g, o + 11, none⟩) rfl _)
end Go.Proofs.Ytimfdfeleoaehaa
