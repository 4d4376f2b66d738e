/-
  A list of copies of statements, each with all within it in an interval of blocks of its own.
-/
import Derived.Test.YtomdbaokidphjaaMarkC
import Derived.Test.YtomdbaokidphjaaCopyA
namespace Go.Proofs.Ytomdbaokidphjaa
open Go.RowKit Go.Shelf
set_option linter.unusedSimpArgs false
set_option linter.unusedVariables false
attribute [local go_sem] Oper.semAt_some

def fl12 : List SX → List Value
  | [] => []
  | t :: ts => t.vals ++ fl12 ts
theorem fl12_length (us : List SX) : (fl12 us).length = us.length * 12 := by
  induction us with
  | nil => rfl
  | cons x xs ih => simp [fl12, ih]; omega
theorem fl12_snoc (us : List SX) (t : SX) : fl12 (us ++ [t]) = fl12 us ++ t.vals := by
  induction us with
  | nil => simp [fl12]
  | cons x xs ih => rw [List.cons_append, fl12, fl12, ih, List.append_assoc]
theorem fl12_get {us : List SX} {i j : Nat} {t : SX} {v : Value} (h : us[i]? = some t) (hv : t.vals[j]? = some v) : (fl12 us)[i * 12 + j]? = some v := by
  induction us generalizing i with
  | nil => simp at h
  | cons x xs ih =>
    have hj : j < 12 := by have := (List.getElem?_eq_some_iff.1 hv).1; simpa using this
    have hlx : x.vals.length = 12 := rfl
    cases i with
    | zero =>
      simp only [List.getElem?_cons_zero, Option.some.injEq] at h
      subst h
      rw [fl12, List.getElem?_append_left (by rw [hlx]; omega), Nat.zero_mul, Nat.zero_add]
      exact hv
    | succ i =>
      rw [fl12, List.getElem?_append_right (by rw [hlx]; omega)]
      have h1 := ih (i := i) (by simpa using h)
      have h2 : (i + 1) * 12 + j - x.vals.length = i * 12 + j := by rw [hlx]; omega
      rw [h2]
      exact h1
/-- A statement whose four lists lie in intervals of their own within one. -/
def OwnS1 (W : World) (lo hi : Nat) (x : SX) : Prop := ∃ (l h : Nat → Nat), (∀ m, m < 4 → lo ≤ l m ∧ h m ≤ hi) ∧ (∀ m n, m < 4 → n < 4 → m ≠ n → h m ≤ l n ∨ h n ≤ l m) ∧
  OwnR W (l 0) (h 0) x.e.base x.e.kids ∧ OwnR W (l 1) (h 1) x.f.base x.f.kids ∧ OwnSR W (l 2) (h 2) x.abase x.la ∧ OwnSR W (l 3) (h 3) x.bbase x.lb
theorem OwnS1.mono {A B : World} {lo hi : Nat} {x : SX} (h : OwnS1 A lo hi x) (hb : ∀ b, lo ≤ b → b < hi → B.heap[b]? = A.heap[b]?) : OwnS1 B lo hi x := by
  obtain ⟨l, h, h1, h2, h3, h4, h5, h6⟩ := h
  have hin : ∀ m, m < 4 → ∀ b, l m ≤ b → b < h m → B.heap[b]? = A.heap[b]? := fun m hm b q1 q2 => by
    obtain ⟨p1, p2⟩ := h1 m hm
    exact hb b (by omega) (by omega)
  exact ⟨l, h, h1, h2, h3.mono (hin 0 (by omega)), h4.mono (hin 1 (by omega)), h5.mono (hin 2 (by omega)), h6.mono (hin 3 (by omega))⟩
theorem OwnS1.wide {W : World} {lo hi lo' hi' : Nat} {x : SX} (h : OwnS1 W lo hi x) (h1 : lo' ≤ lo) (h2 : hi ≤ hi') : OwnS1 W lo' hi' x := by
  obtain ⟨l, h, q1, q⟩ := h
  exact ⟨l, h, fun m hm => by obtain ⟨p1, p2⟩ := q1 m hm; exact ⟨by omega, by omega⟩, q⟩
structure AccS (W : World) (base : Nat) (v : Value) (us : List SX) (l h : Nat → Nat) : Prop where
  own : W.ownsRow base 40 12 v us.length (fl12 us)
  int : ∀ (i : Nat), i < us.length → base ≤ l i ∧ h i ≤ W.heap.size ∧ (∀ g, v.ownBlock = some g → g < l i ∨ h i ≤ g)
  ord : ∀ (i j : Nat), i < j → j < us.length → h i ≤ l j
  kid : ∀ (i : Nat) (t : SX), us[i]? = some t → OwnS1 W (l i) (h i) t
theorem AccS.nil (W : World) (base : Nat) : AccS W base (.slice none 0 0) [] (fun _ => 0) (fun _ => 0) :=
  ⟨World.ownsRow_nil _ _ _ _, fun i h => by simp at h, fun i j _ h => by simp at h, fun i t h => by simp at h⟩
theorem AccS.below {A B : World} {base : Nat} {v : Value} {us : List SX} {l h : Nat → Nat} (hA : AccS A base v us l h) (hb : Below A.heap.size A B) : AccS B base v us l h := by
  refine ⟨own_on hA.own (fun g hg => hb.block g (hA.own.lt g hg).2), fun i hi => ?_, hA.ord, fun i t ht => (hA.kid i t ht).mono (fun b q1 q2 => hb.block b ?_)⟩
  · obtain ⟨h1, h2, h3⟩ := hA.int i hi
    exact ⟨h1, Nat.le_trans h2 hb.size, h3⟩
  · have := (hA.int i (List.getElem?_eq_some_iff.1 ht).1).2.1; omega
theorem AccS.push {A B : World} {base n : Nat} {v v' : Value} {us : List SX} {l h : Nat → Nat} {t : SX} {lo hi : Nat} (hA : AccS A base v us l h) (hn : us.length = n) (hO : OwnS1 A lo hi t) (hlo : ∀ i, i < us.length → h i ≤ lo) (hb : base ≤ lo) (hhi : hi ≤ A.heap.size) (hv : ∀ g, v.ownBlock = some g → g < lo ∨ hi ≤ g) (hbase : base ≤ A.heap.size)
    (hown : B.ownsRow base 40 12 v' (n + 1) (fl12 us ++ t.vals)) (hback : Back A B base 40 12 n 1 v v' (fl12 us) t.vals) :
    AccS B base v' (us ++ [t]) (fun i => if i = n then lo else l i) (fun i => if i = n then hi else h i) := by
  have hblk : ∀ b, b < A.heap.size → (∀ g, v.ownBlock = some g → b ≠ g) → B.heap[b]? = A.heap[b]? := by
    intro b hb hg
    rcases hback with ⟨h1, h2, h3, h4⟩ | ⟨h1, h3⟩
    · exact h3.block b hb (fun e => hg b e.symm rfl)
    · exact h3.block b hb
  have hz : A.heap.size ≤ B.heap.size := by
    rcases hback with ⟨h1, h2, h3, h4⟩ | ⟨h1, h3⟩
    · exact h3.size
    · exact h3.size
  have hv' : ∀ g, v'.ownBlock = some g → v.ownBlock = some g ∨ g = A.heap.size := by
    intro g hg
    rcases hback with ⟨h1, h2, h3, h4⟩ | ⟨h1, h3⟩
    · rw [h1] at hg; exact .inl hg
    · rw [h1] at hg; cases hg; exact .inr rfl
  refine ⟨?_, fun i hi' => ?_, fun i j hij hj => ?_, fun i y hy => ?_⟩
  · rw [fl12_snoc, List.length_append, hn]
    exact hown
  · simp only [List.length_append, List.length_singleton] at hi'
    by_cases e : i = n
    · simp only [e, if_true]
      refine ⟨hb, by omega, fun g hg => ?_⟩
      rcases hv' g hg with h1 | h1
      · exact hv g h1
      · right; omega
    · simp only [e, if_false]
      obtain ⟨h1, h2, h3⟩ := hA.int i (by omega)
      refine ⟨h1, by omega, fun g hg => ?_⟩
      rcases hv' g hg with h4 | h4
      · exact h3 g h4
      · right; omega
  · simp only [List.length_append, List.length_singleton] at hj
    have hi' : i ≠ n := by omega
    simp only [hi', if_false]
    by_cases e : j = n
    · simp only [e, if_true]
      exact hlo i (by omega)
    · simp only [e, if_false]
      exact hA.ord i j hij (by omega)
  · by_cases e : i < us.length
    · rw [List.getElem?_append_left e] at hy
      have hi' : i ≠ n := by omega
      simp only [hi', if_false]
      obtain ⟨h1, h2, h3⟩ := hA.int i e
      exact (hA.kid i y hy).mono (fun b q1 q2 => hblk b (by omega) (fun g hg e => by rcases h3 g hg with h | h <;> omega))
    · have hi' : i = n := by
        have := (List.getElem?_eq_some_iff.1 hy).1
        simp at this
        omega
      rw [List.getElem?_append_right (by omega)] at hy
      simp [hi', hn] at hy
      subst hy
      simp only [hi', if_true]
      exact hO.mono (fun b q1 q2 => hblk b (by omega) (fun g hg e => by rcases hv g hg with h | h <;> omega))
theorem AccS.done {W : World} {base : Nat} {v : Value} {us : List SX} {l h : Nat → Nat} (hA : AccS W base v us l h) : ∃ a c, v = .slice a us.length c ∧ OwnSR W base W.heap.size a us := by
  rcases hA.own.2 with ⟨rfl, h0⟩ | ⟨g, cap, cur, rfl, hb, hg, hnc, hcm, hcs, htk⟩
  · have : us = [] := List.length_eq_zero_iff.1 h0
    subst this
    exact ⟨none, 0, rfl, .mk _ _ _ _ 0 0 (fun _ => 0) (fun _ => 0) (fun i k hk => by simp at hk) (fun i k hk => by simp at hk) (fun i hi => by simp at hi) (fun i j hi => by simp at hi) (fun i k hk => by simp at hk) (fun i k hk => by simp at hk) (fun i k hk => by simp at hk) (fun i k hk => by simp at hk)⟩
  · -- the intervals of each statement, in one list
    obtain ⟨f, hf⟩ : ∃ f : Nat → (Nat → Nat) × (Nat → Nat), ∀ i, ∀ t, us[i]? = some t → (∀ m, m < 4 → l i ≤ (f i).1 m ∧ (f i).2 m ≤ h i) ∧ (∀ m n, m < 4 → n < 4 → m ≠ n → (f i).2 m ≤ (f i).1 n ∨ (f i).2 n ≤ (f i).1 m) ∧
        OwnR W ((f i).1 0) ((f i).2 0) t.e.base t.e.kids ∧ OwnR W ((f i).1 1) ((f i).2 1) t.f.base t.f.kids ∧ OwnSR W ((f i).1 2) ((f i).2 2) t.abase t.la ∧ OwnSR W ((f i).1 3) ((f i).2 3) t.bbase t.lb := by
      refine (Classical.skolem (b := fun _ => (Nat → Nat) × (Nat → Nat)) (p := fun (i : Nat) (q : (Nat → Nat) × (Nat → Nat)) => ∀ t, us[i]? = some t → (∀ m, m < 4 → l i ≤ q.1 m ∧ q.2 m ≤ h i) ∧ (∀ m n, m < 4 → n < 4 → m ≠ n → q.2 m ≤ q.1 n ∨ q.2 n ≤ q.1 m) ∧
        OwnR W (q.1 0) (q.2 0) t.e.base t.e.kids ∧ OwnR W (q.1 1) (q.2 1) t.f.base t.f.kids ∧ OwnSR W (q.1 2) (q.2 2) t.abase t.la ∧ OwnSR W (q.1 3) (q.2 3) t.bbase t.lb)).1 (fun i => ?_)
      cases hu : us[i]? with
      | none => exact ⟨⟨fun _ => 0, fun _ => 0⟩, fun t ht => by cases ht⟩
      | some t =>
        obtain ⟨l', h', q⟩ := hA.kid i t hu
        exact ⟨⟨l', h'⟩, fun y hy => by cases hy; exact q⟩
    have hget : ∀ i, i < us.length → ∃ t, us[i]? = some t := fun i hi => ⟨_, List.getElem?_eq_getElem hi⟩
    refine ⟨_, cap, rfl, .mk base W.heap.size _ us g (cap * 12) (fun m => (f (m / 4)).1 (m % 4)) (fun m => (f (m / 4)).2 (m % 4)) (fun i k hk => ⟨rfl, hb, (Array.getElem?_eq_some_iff.1 hg).1, ⟨cur, hg, hcs⟩, by omega⟩) (fun i k hk => ?_) (fun m hm => ?_) (fun m n hm hn hmn => ?_) (fun i k hk => ?_) (fun i k hk => ?_) (fun i k hk => ?_) (fun i k hk => ?_)⟩
    · have hcell : ∀ (j : Nat) (u : Value), k.vals[j]? = some u → W.cell? ⟨g, 0 + i * 12 + j, none⟩ = some u := by
        intro j u hj
        have h1 := hA.own.cells (g := g) rfl _ u (fl12_get hk hj)
        have hadd : (⟨g, 0, none⟩ : Addr).add (i * 12 + j) = ⟨g, 0 + i * 12 + j, none⟩ := by unfold Addr.add; split <;> simp_all
        rw [hadd] at h1
        exact h1
      exact ⟨hcell 0 _ rfl, hcell 1 _ rfl, hcell 2 _ rfl, hcell 3 _ rfl, hcell 4 _ rfl, hcell 5 _ rfl, hcell 6 _ rfl, hcell 7 _ rfl, hcell 8 _ rfl, hcell 9 _ rfl, hcell 10 _ rfl, hcell 11 _ rfl⟩
    · obtain ⟨t, ht⟩ := hget (m / 4) (by omega)
      obtain ⟨h1, h2, h3⟩ := hA.int (m / 4) (by omega)
      obtain ⟨p1, p2⟩ := (hf _ t ht).1 (m % 4) (by omega)
      have h4 := h3 g rfl
      exact ⟨by omega, by omega, by omega⟩
    · obtain ⟨t, ht⟩ := hget (m / 4) (by omega)
      obtain ⟨u, hu⟩ := hget (n / 4) (by omega)
      by_cases e : m / 4 = n / 4
      · rw [e] at ht ⊢
        exact (hf _ t ht).2.1 (m % 4) (n % 4) (by omega) (by omega) (by omega)
      · have p1 := (hf _ t ht).1 (m % 4) (by omega)
        have p2 := (hf _ u hu).1 (n % 4) (by omega)
        rcases Nat.lt_or_gt_of_ne e with h1 | h1
        · have := hA.ord _ _ h1 (by omega); left; omega
        · have := hA.ord _ _ h1 (by omega); right; omega
    · have h1 : (4 * i) / 4 = i := by omega
      have h2 : (4 * i) % 4 = 0 := by omega
      rw [h1, h2]
      exact (hf i k hk).2.2.1
    · have h1 : (4 * i + 1) / 4 = i := by omega
      have h2 : (4 * i + 1) % 4 = 1 := by omega
      rw [h1, h2]
      exact (hf i k hk).2.2.2.1
    · have h1 : (4 * i + 2) / 4 = i := by omega
      have h2 : (4 * i + 2) % 4 = 2 := by omega
      rw [h1, h2]
      exact (hf i k hk).2.2.2.2.1
    · have h1 : (4 * i + 3) / 4 = i := by omega
      have h2 : (4 * i + 3) % 4 = 3 := by omega
      rw [h1, h2]
      exact (hf i k hk).2.2.2.2.2
theorem news12 (w : World) (t : SX) (T : TypeId) : ∀ j u, t.vals[j]? = some u → (w.alloc (.cells #[.int .i64 t.kind, .string t.name, .int .i64 t.e.kind, .int .i64 t.e.num, .string t.e.name, .slice t.e.base t.e.kids.length t.e.cap, .int .i64 t.f.kind, .int .i64 t.f.num, .string t.f.name, .slice t.f.base t.f.kids.length t.f.cap, .slice t.abase t.la.length t.acap, .slice t.bbase t.lb.length t.bcap] T)).cell? ((⟨w.heap.size, 0, none⟩ : Addr).add j) = some u := by
  intro j u hj
  have hadd : (⟨w.heap.size, 0, none⟩ : Addr).add j = ⟨w.heap.size, 0 + j, none⟩ := by unfold Addr.add; split <;> simp_all
  rw [hadd]
  exact (Cells12.new w t T).vals j u hj
set_option maxRecDepth 10000 in
set_option maxHeartbeats 4000000 in
theorem eachS (ks : List SX) (a : Option Addr) (c : Nat) (ok : Nat → Prop) (w : World) (hok : ∀ b, ok b → b < w.heap.size) (hcl : SRow ok w a ks) (hlen : ks.length ≤ 1048577)
    (H : ∀ (i : Nat) (k : SX), ks[i]? = some k → ∀ (w' : World), Below w.heap.size w w' →
      Calls Try.prog 16 #[k.val] w' fun e w'' => ∃ t : SX, e = .returned t.val ∧ SameS k t ∧ OwnS1 w'' w'.heap.size w''.heap.size t ∧ Below w'.heap.size w' w'') :
    Calls Try.prog 31 #[.slice a ks.length c, .func (.func 16) #[] #[]] w fun e w' => ∃ (v : Value) (us : List SX) (l h : Nat → Nat), e = .returned v ∧ us.length = ks.length ∧ (∀ (i : Nat) (x y : SX), ks[i]? = some x → us[i]? = some y → SameS x y) ∧ AccS w' w.heap.size v us l h ∧ Below w.heap.size w w' := by
  obtain ⟨len, hl⟩ : ∃ len, ks.length = len := ⟨_, rfl⟩
  rw [hl] at hlen ⊢
  obtain ⟨i0, hi0, hz0, hz1, hz2⟩ := info_parts infoS
  go_enter Try.func31, Try.ntmps31
  go_wp2_with fail
  go_loopw [5, 10] (fun v5 v10 wr => ∃ (i : Nat) (us : List SX) (l h : Nat → Nat), v10 = .int .i64 i ∧ i ≤ len ∧ us.length = i ∧ Hid (∀ (j : Nat) (x y : SX), ks[j]? = some x → us[j]? = some y → SameS x y) ∧ Hid (AccS wr w.heap.size v5 us l h) ∧ Below w.heap.size w wr) (fun _ v10 _ => len - (intOf v10).toNat)
  case atStart => exact ⟨0, [], _, _, rfl, by omega, rfl, fun j x y _ hy => by simp at hy, AccS.nil _ _, Below.refl _ _⟩
  case round =>
    obtain ⟨i, us, l, h, rfl, hi, hul, hsm, hA, hB⟩ := hrel
    obtain ⟨v, rfl⟩ : ∃ v, v = u5 := ⟨_, rfl⟩
    by_cases hlt : i < len
    · obtain ⟨x, hx⟩ : ∃ x, ks[i]? = some x := ⟨_, List.getElem?_eq_getElem (by omega)⟩
      obtain ⟨b1, o1, hbase1, hok1, hc1⟩ := hcl i x hx
      obtain ⟨c0, c1, c2, c3, c4', c5, c6, c7, c8, c9, c10, c11⟩ := hc1.below hB (hok b1 hok1)
      obtain ⟨W1, hW1⟩ : ∃ W1, wr.alloc (.cells #[.int .i64 x.kind, .string x.name, .int .i64 x.e.kind, .int .i64 x.e.num, .string x.e.name, .slice x.e.base x.e.kids.length x.e.cap, .int .i64 x.f.kind, .int .i64 x.f.num, .string x.f.name, .slice x.f.base x.f.kids.length x.f.cap, .slice x.abase x.la.length x.acap, .slice x.bbase x.lb.length x.bcap] 40) = W1 := ⟨_, rfl⟩
      have hB1 : Below wr.heap.size wr W1 := by rw [← hW1]; exact (Below.refl _ _).alloc (Nat.le_refl _) _
      have hs1 : wr.heap.size + 1 = W1.heap.size := by rw [← hW1]; simp
      have hC1 : Cells12 W1 wr.heap.size 0 x := by rw [← hW1]; exact Cells12.new wr x _
      have hcall : Hid (Calls Try.prog 16 #[x.val] W1 fun e w'' => ∃ t : SX, e = .returned t.val ∧ SameS x t ∧ OwnS1 w'' W1.heap.size w''.heap.size t ∧ Below W1.heap.size W1 w'') := H i x hx W1 (bstep hB hB1)
      obtain ⟨d0, d1, d2, d3, d4, d5, d6, d7, d8, d9, d10, d11⟩ := hC1
      have hA1 := hA.out.below hB1
      subst hbase1
      go_wp2_with fail
      go_at_call 16
      refine hcall.out.mono ?_
      rintro e w2 ⟨t, rfl, hxt, hO, hB2⟩
      clear c0 c1 c2 c3 c4' c5 c6 c7 c8 c9 c10 c11 d0 d1 d2 d3 d4 d5 d6 d7 d8 d9 d10 d11 hcall hW1
      have hA2 := hA1.below hB2
      have hz2' := hB2.size
      obtain ⟨W3, hW3⟩ : ∃ W3, w2.alloc (.cells #[.int .i64 t.kind, .string t.name, .int .i64 t.e.kind, .int .i64 t.e.num, .string t.e.name, .slice t.e.base t.e.kids.length t.e.cap, .int .i64 t.f.kind, .int .i64 t.f.num, .string t.f.name, .slice t.f.base t.f.kids.length t.f.cap, .slice t.abase t.la.length t.acap, .slice t.bbase t.lb.length t.bcap] 40) = W3 := ⟨_, rfl⟩
      have hB3 : Below w2.heap.size w2 W3 := by rw [← hW3]; exact (Below.refl _ _).alloc (Nat.le_refl _) _
      have hs3 : w2.heap.size + 1 = W3.heap.size := by rw [← hW3]; simp
      have hnewH : Hid (∀ j u, t.vals[j]? = some u → W3.cell? ((⟨w2.heap.size, 0, none⟩ : Addr).add j) = some u) := by
        have h := news12 w2 t 40
        rw [hW3] at h
        exact h
      have hA3 := hA2.below hB3
      have hO3 : OwnS1 W3 W1.heap.size w2.heap.size t := hO.mono (fun b q1 q2 => hB3.block b q2)
      have hzw := hB.size
      have hown3 : Hid (W3.ownsRow w.heap.size 40 12 v us.length (fl12 us)) := hA3.own
      go_wp2_with (at_builtin; refine wpList_append_back _ rfl _ _ 24 rfl w.heap.size 40 i0 _ 12 184 Try.underlying24 hi0 hz0 hz1 hz2 rfl (by decide) v us.length (fl12 us) rfl hown3.out ⟨w2.heap.size, 0, none⟩ 1 1 t.vals rfl rfl hnewH.out (by simp [Value.oneCell']) (by unfold maxLen; omega) (by omega) (by omega) (by omega) ?_; intro v' w4 hown' hback)
      have hP := hA3.push rfl hO3 (fun j hj => by have := (hA1.int j hj).2.1; omega) (by omega) (by omega) (fun g hg => by have := (hA1.own.lt g hg).2; omega) (by omega) hown' hback
      have hB4 : Below w.heap.size w w4 := by
        have h0 : Below w.heap.size w W3 := bstep (bstep (bstep hB hB1) hB2) hB3
        refine h0.trans (hback.kept.below (by omega) (fun k hk => ?_))
        rcases hk with hk | hk
        · exact (hA3.own.lt k hk).1
        · exact (hown'.lt k hk).1
      refine ⟨⟨i + 1, us ++ [t], _, _, by go_num, by omega, by simp [hul], ?_, hP, hB4⟩, by simp [intOf]; omega⟩
      intro j y z hy hz
      by_cases hj : j < us.length
      · rw [List.getElem?_append_left hj] at hz
        exact hsm.out j y z hy hz
      · have hji : j = i := by
          have := (List.getElem?_eq_some_iff.1 hz).1
          simp at this
          omega
        subst hji
        rw [List.getElem?_append_right (by omega)] at hz
        simp [hul] at hz
        subst hz
        rw [hx] at hy
        cases hy
        exact hxt
    · have he : i = len := by omega
      go_wp2_with fail
      go_returns
      exact ⟨v, us, l, h, rfl, by omega, hsm.out, hA.out, hB⟩
end Go.Proofs.Ytomdbaokidphjaa
