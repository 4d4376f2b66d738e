/-
  A list of instructions that is appended to: each with all within it in an interval of blocks of its own.
-/
import Derived.Test.YtimfdfeleoaehaaInstB
import Derived.Test.YtimfdfeleoaehaaStmtsA
import Derived.Test.YtimfdfeleoaehaaStmtsD
namespace Go.Proofs.Ytimfdfeleoaehaa
open Go.RowKit Go.Shelf
set_option linter.unusedSimpArgs false
set_option linter.unusedVariables false
attribute [local go_sem] Oper.semAt_some

abbrev IX.vals (x : IX) : List Value := [.int .i64 x.op, .int .i64 x.s.kind, .string x.s.name, .int .i64 x.s.e.kind, .int .i64 x.s.e.num, .string x.s.e.name, .slice x.s.e.base x.s.e.kids.length x.s.e.cap, .int .i64 x.s.f.kind, .int .i64 x.s.f.num, .string x.s.f.name, .slice x.s.f.base x.s.f.kids.length x.s.f.cap, .slice x.s.abase x.s.la.length x.s.acap, .slice x.s.bbase x.s.lb.length x.s.bcap, .int .i64 x.dst]
def fl14 : List IX → List Value
  | [] => []
  | t :: ts => t.vals ++ fl14 ts
theorem fl14_length (us : List IX) : (fl14 us).length = us.length * 14 := by
  induction us with
  | nil => rfl
  | cons x xs ih => simp [fl14, ih]; omega
theorem fl14_snoc (us : List IX) (t : IX) : fl14 (us ++ [t]) = fl14 us ++ t.vals := by
  induction us with
  | nil => simp [fl14]
  | cons x xs ih => rw [List.cons_append, fl14, fl14, ih, List.append_assoc]
theorem fl14_get {us : List IX} {i j : Nat} {t : IX} {v : Value} (h : us[i]? = some t) (hv : t.vals[j]? = some v) : (fl14 us)[i * 14 + j]? = some v := by
  induction us generalizing i with
  | nil => simp at h
  | cons x xs ih =>
    have hj : j < 14 := by have := (List.getElem?_eq_some_iff.1 hv).1; simpa using this
    have hlx : x.vals.length = 14 := rfl
    cases i with
    | zero =>
      simp only [List.getElem?_cons_zero, Option.some.injEq] at h
      subst h
      rw [fl14, List.getElem?_append_left (by rw [hlx]; omega), Nat.zero_mul, Nat.zero_add]
      exact hv
    | succ i =>
      rw [fl14, List.getElem?_append_right (by rw [hlx]; omega)]
      have h1 := ih (i := i) (by simpa using h)
      have h2 : (i + 1) * 14 + j - x.vals.length = i * 14 + j := by rw [hlx]; omega
      rw [h2]
      exact h1
structure AccI (W : World) (base : Nat) (v : Value) (us : List IX) (l h : Nat → Nat) : Prop where
  own : W.ownsRow base 52 14 v us.length (fl14 us)
  int : ∀ (i : Nat), i < us.length → base ≤ l i ∧ h i ≤ W.heap.size ∧ (∀ g, v.ownBlock = some g → g < l i ∨ h i ≤ g)
  apart : ∀ (i j : Nat), i < us.length → j < us.length → i ≠ j → h i ≤ l j ∨ h j ≤ l i
  kid : ∀ (i : Nat) (t : IX), us[i]? = some t → OwnS1 W (l i) (h i) t.s
theorem AccI.nil (W : World) (base : Nat) : AccI W base (.slice none 0 0) [] (fun _ => 0) (fun _ => 0) :=
  ⟨World.ownsRow_nil _ _ _ _, fun i h => by simp at h, fun i j h => by simp at h, fun i t h => by simp at h⟩
theorem AccI.below {A B : World} {base : Nat} {v : Value} {us : List IX} {l h : Nat → Nat} (hA : AccI A base v us l h) (hb : Below A.heap.size A B) : AccI B base v us l h := by
  refine ⟨own_on hA.own (fun g hg => hb.block g (hA.own.lt g hg).2), fun i hi => ?_, hA.apart, fun i t ht => (hA.kid i t ht).mono (fun b q1 q2 => hb.block b ?_)⟩
  · obtain ⟨h1, h2, h3⟩ := hA.int i hi
    exact ⟨h1, Nat.le_trans h2 hb.size, h3⟩
  · have := (hA.int i (List.getElem?_eq_some_iff.1 ht).1).2.1; omega
theorem AccI.push {A B : World} {base n : Nat} {v v' : Value} {us : List IX} {l h : Nat → Nat} {t : IX} {lo hi : Nat} (hA : AccI A base v us l h) (hn : us.length = n) (hO : OwnS1 A lo hi t.s) (hlo : ∀ i, i < us.length → h i ≤ lo) (hb : base ≤ lo) (hhi : hi ≤ A.heap.size) (hv : ∀ g, v.ownBlock = some g → g < lo ∨ hi ≤ g) (hbase : base ≤ A.heap.size)
    (hown : B.ownsRow base 52 14 v' (n + 1) (fl14 us ++ t.vals)) (hback : Back A B base 52 14 n 1 v v' (fl14 us) t.vals) :
    AccI B base v' (us ++ [t]) (fun i => if i = n then lo else l i) (fun i => if i = n then hi else h i) := by
  have hblk : ∀ b, b < A.heap.size → (∀ g, v.ownBlock = some g → b ≠ g) → B.heap[b]? = A.heap[b]? := by
    intro b hb hg
    rcases hback with ⟨h1, h2, h3, h4⟩ | ⟨h1, h3⟩
    · exact h3.block b hb (fun e => hg b e.symm rfl)
    · exact h3.block b hb
  have hz : A.heap.size ≤ B.heap.size := by
    rcases hback with ⟨h1, h2, h3, h4⟩ | ⟨h1, h3⟩
    · exact h3.size
    · exact h3.size
  have hv' : ∀ g, v'.ownBlock = some g → v.ownBlock = some g ∨ g = A.heap.size := by
    intro g hg
    rcases hback with ⟨h1, h2, h3, h4⟩ | ⟨h1, h3⟩
    · rw [h1] at hg; exact .inl hg
    · rw [h1] at hg; cases hg; exact .inr rfl
  refine ⟨?_, fun i hi' => ?_, fun i j hi1 hj hij => ?_, fun i y hy => ?_⟩
  · rw [fl14_snoc, List.length_append, hn]
    exact hown
  · simp only [List.length_append, List.length_singleton] at hi'
    by_cases e : i = n
    · simp only [e, if_true]
      refine ⟨hb, by omega, fun g hg => ?_⟩
      rcases hv' g hg with h1 | h1
      · exact hv g h1
      · right; omega
    · simp only [e, if_false]
      obtain ⟨h1, h2, h3⟩ := hA.int i (by omega)
      refine ⟨h1, by omega, fun g hg => ?_⟩
      rcases hv' g hg with h4 | h4
      · exact h3 g h4
      · right; omega
  · simp only [List.length_append, List.length_singleton] at hj hi1
    by_cases e : j = n
    · have hi' : i ≠ n := by omega
      simp only [hi', e, if_true, if_false]
      exact .inl (hlo i (by omega))
    · by_cases e' : i = n
      · simp only [e', e, if_true, if_false]
        exact .inr (hlo j (by omega))
      · simp only [e', e, if_false]
        exact hA.apart i j (by omega) (by omega) hij
  · by_cases e : i < us.length
    · rw [List.getElem?_append_left e] at hy
      have hi' : i ≠ n := by omega
      simp only [hi', if_false]
      obtain ⟨h1, h2, h3⟩ := hA.int i e
      exact (hA.kid i y hy).mono (fun b q1 q2 => hblk b (by omega) (fun g hg e => by rcases h3 g hg with h | h <;> omega))
    · have hi' : i = n := by
        have := (List.getElem?_eq_some_iff.1 hy).1
        simp at this
        omega
      rw [List.getElem?_append_right (by omega)] at hy
      simp [hi', hn] at hy
      subst hy
      simp only [hi', if_true]
      exact hO.mono (fun b q1 q2 => hblk b (by omega) (fun g hg e => by rcases hv g hg with h | h <;> omega))
structure OwnIs (W : World) (lo hi : Nat) (a : Option Addr) (ks : List IX) (g N : Nat) (l h : Nat → Nat) : Prop where
  row : ∀ (i : Nat) (k : IX), ks[i]? = some k → a = some ⟨g, 0, none⟩ ∧ lo ≤ g ∧ g < hi ∧ RowAt W g N 52 ∧ ks.length * 14 ≤ N
  cell : ∀ (i : Nat) (k : IX), ks[i]? = some k → Cells14 W g (0 + i * 14) k
  box : ∀ (m : Nat), m < 4 * ks.length → lo ≤ l m ∧ h m ≤ hi ∧ (g < l m ∨ h m ≤ g)
  apart : ∀ (m n : Nat), m < 4 * ks.length → n < 4 * ks.length → m ≠ n → h m ≤ l n ∨ h n ≤ l m
  ke : ∀ (i : Nat) (k : IX), ks[i]? = some k → OwnR W (l (4 * i)) (h (4 * i)) k.s.e.base k.s.e.kids
  kf : ∀ (i : Nat) (k : IX), ks[i]? = some k → OwnR W (l (4 * i + 1)) (h (4 * i + 1)) k.s.f.base k.s.f.kids
  ka : ∀ (i : Nat) (k : IX), ks[i]? = some k → OwnSR W (l (4 * i + 2)) (h (4 * i + 2)) k.s.abase k.s.la
  kb : ∀ (i : Nat) (k : IX), ks[i]? = some k → OwnSR W (l (4 * i + 3)) (h (4 * i + 3)) k.s.bbase k.s.lb
def OwnI (W : World) (lo hi : Nat) (a : Option Addr) (ks : List IX) : Prop := ∃ (g N : Nat) (l h : Nat → Nat), OwnIs W lo hi a ks g N l h
theorem OwnI.mono {A B : World} {lo hi : Nat} {a : Option Addr} {ks : List IX} (h : OwnI A lo hi a ks) (hb : ∀ b, lo ≤ b → b < hi → B.heap[b]? = A.heap[b]?) : OwnI B lo hi a ks := by
  obtain ⟨g, N, l, h, row, cell, box, apart, ke, kf, ka, kb⟩ := h
  have hin : ∀ (m : Nat), m < 4 * ks.length → ∀ b, l m ≤ b → b < h m → B.heap[b]? = A.heap[b]? := fun m hm b h1 h2 => by
    obtain ⟨q1, q2, q3⟩ := box m hm
    exact hb b (by omega) (by omega)
  have hlt : ∀ (i : Nat) (k : IX), ks[i]? = some k → i < ks.length := fun i k hk => (List.getElem?_eq_some_iff.1 hk).1
  refine ⟨g, N, l, h, fun i k hk => ?_, fun i k hk => ?_, box, apart, fun i k hk => (ke i k hk).mono (hin _ (by have := hlt i k hk; omega)), fun i k hk => (kf i k hk).mono (hin _ (by have := hlt i k hk; omega)), fun i k hk => (ka i k hk).mono (hin _ (by have := hlt i k hk; omega)), fun i k hk => (kb i k hk).mono (hin _ (by have := hlt i k hk; omega))⟩
  · obtain ⟨r1, r2, r3, r4, r5⟩ := row i k hk
    exact ⟨r1, r2, r3, r4.of_block (hb g r2 r3), r5⟩
  · obtain ⟨r1, r2, r3, r4, r5⟩ := row i k hk
    exact (cell i k hk).of_block (hb g r2 r3)
theorem OwnI.lies {W : World} {lo hi : Nat} {a : Option Addr} {ks : List IX} (h : OwnI W lo hi a ks) : IX.Row (fun b => lo ≤ b ∧ b < hi) W a ks ∧ ∀ (i : Nat) (k : IX), ks[i]? = some k → LiesS (fun b => lo ≤ b ∧ b < hi) W k.s := by
  obtain ⟨g, N, l, h, row, cell, box, apart, ke, kf, ka, kb⟩ := h
  have hlt : ∀ (i : Nat) (k : IX), ks[i]? = some k → i < ks.length := fun i k hk => (List.getElem?_eq_some_iff.1 hk).1
  refine ⟨fun i k hk => ?_, fun i k hk => ?_⟩
  · obtain ⟨r1, r2, r3, r4, r5⟩ := row i k hk
    exact ⟨g, 0, r1, ⟨r2, r3⟩, cell i k hk⟩
  · have hi := hlt i k hk
    have b0 := box (4 * i) (by omega)
    have b1 := box (4 * i + 1) (by omega)
    have b2 := box (4 * i + 2) (by omega)
    have b3 := box (4 * i + 3) (by omega)
    obtain ⟨qa1, qa2⟩ := (ka i k hk).lies
    obtain ⟨qb1, qb2⟩ := (kb i k hk).lies
    exact .mk k.s ((ke i k hk).all.mono (fun b hb _ => ⟨⟨by omega, by omega⟩, rfl⟩)) ((kf i k hk).all.mono (fun b hb _ => ⟨⟨by omega, by omega⟩, rfl⟩)) (qa1.mono (fun b hb _ => ⟨⟨by omega, by omega⟩, rfl⟩)) (qb1.mono (fun b hb _ => ⟨⟨by omega, by omega⟩, rfl⟩)) (fun j y hy => (qa2 j y hy).mono (fun b hb _ => ⟨⟨by omega, by omega⟩, rfl⟩)) (fun j y hy => (qb2 j y hy).mono (fun b hb _ => ⟨⟨by omega, by omega⟩, rfl⟩))
theorem AccI.done {W : World} {base : Nat} {v : Value} {us : List IX} {l h : Nat → Nat} (hA : AccI W base v us l h) : ∃ a c, v = .slice a us.length c ∧ OwnI W base W.heap.size a us := by
  rcases hA.own.2 with ⟨rfl, h0⟩ | ⟨g, cap, cur, rfl, hb, hg, hnc, hcm, hcs, htk⟩
  · have : us = [] := List.length_eq_zero_iff.1 h0
    subst this
    exact ⟨none, 0, rfl, 0, 0, fun _ => 0, fun _ => 0, fun i k hk => by simp at hk, fun i k hk => by simp at hk, fun i hi => by simp at hi, fun i j hi => by simp at hi, fun i k hk => by simp at hk, fun i k hk => by simp at hk, fun i k hk => by simp at hk, fun i k hk => by simp at hk⟩
  · -- the intervals of each statement, in one list
    obtain ⟨f, hf⟩ : ∃ f : Nat → (Nat → Nat) × (Nat → Nat), ∀ i, ∀ t, us[i]? = some t → (∀ m, m < 4 → l i ≤ (f i).1 m ∧ (f i).2 m ≤ h i) ∧ (∀ m n, m < 4 → n < 4 → m ≠ n → (f i).2 m ≤ (f i).1 n ∨ (f i).2 n ≤ (f i).1 m) ∧
        OwnR W ((f i).1 0) ((f i).2 0) t.s.e.base t.s.e.kids ∧ OwnR W ((f i).1 1) ((f i).2 1) t.s.f.base t.s.f.kids ∧ OwnSR W ((f i).1 2) ((f i).2 2) t.s.abase t.s.la ∧ OwnSR W ((f i).1 3) ((f i).2 3) t.s.bbase t.s.lb := by
      refine (Classical.skolem (b := fun _ => (Nat → Nat) × (Nat → Nat)) (p := fun (i : Nat) (q : (Nat → Nat) × (Nat → Nat)) => ∀ t, us[i]? = some t → (∀ m, m < 4 → l i ≤ q.1 m ∧ q.2 m ≤ h i) ∧ (∀ m n, m < 4 → n < 4 → m ≠ n → q.2 m ≤ q.1 n ∨ q.2 n ≤ q.1 m) ∧
        OwnR W (q.1 0) (q.2 0) t.s.e.base t.s.e.kids ∧ OwnR W (q.1 1) (q.2 1) t.s.f.base t.s.f.kids ∧ OwnSR W (q.1 2) (q.2 2) t.s.abase t.s.la ∧ OwnSR W (q.1 3) (q.2 3) t.s.bbase t.s.lb)).1 (fun i => ?_)
      cases hu : us[i]? with
      | none => exact ⟨⟨fun _ => 0, fun _ => 0⟩, fun t ht => by cases ht⟩
      | some t =>
        obtain ⟨l', h', q⟩ := hA.kid i t hu
        exact ⟨⟨l', h'⟩, fun y hy => by cases hy; exact q⟩
    have hget : ∀ i, i < us.length → ∃ t, us[i]? = some t := fun i hi => ⟨_, List.getElem?_eq_getElem hi⟩
    refine ⟨_, cap, rfl, g, cap * 14, fun m => (f (m / 4)).1 (m % 4), fun m => (f (m / 4)).2 (m % 4), fun i k hk => ⟨rfl, hb, (Array.getElem?_eq_some_iff.1 hg).1, ⟨cur, hg, hcs⟩, by omega⟩, fun i k hk => ?_, fun m hm => ?_, fun m n hm hn hmn => ?_, fun i k hk => ?_, fun i k hk => ?_, fun i k hk => ?_, fun i k hk => ?_⟩
    · have hcell : ∀ (j : Nat) (u : Value), k.vals[j]? = some u → W.cell? ⟨g, 0 + i * 14 + j, none⟩ = some u := by
        intro j u hj
        have h1 := hA.own.cells (g := g) rfl _ u (fl14_get hk hj)
        have hadd : (⟨g, 0, none⟩ : Addr).add (i * 14 + j) = ⟨g, 0 + i * 14 + j, none⟩ := by unfold Addr.add; split <;> simp_all
        rw [hadd] at h1
        exact h1
      exact ⟨hcell 0 _ rfl, hcell 1 _ rfl, hcell 2 _ rfl, hcell 3 _ rfl, hcell 4 _ rfl, hcell 5 _ rfl, hcell 6 _ rfl, hcell 7 _ rfl, hcell 8 _ rfl, hcell 9 _ rfl, hcell 10 _ rfl, hcell 11 _ rfl, hcell 12 _ rfl, hcell 13 _ rfl⟩
    · obtain ⟨t, ht⟩ := hget (m / 4) (by omega)
      obtain ⟨h1, h2, h3⟩ := hA.int (m / 4) (by omega)
      obtain ⟨p1, p2⟩ := (hf _ t ht).1 (m % 4) (by omega)
      have h4 := h3 g rfl
      exact ⟨by omega, by omega, by omega⟩
    · obtain ⟨t, ht⟩ := hget (m / 4) (by omega)
      obtain ⟨u, hu⟩ := hget (n / 4) (by omega)
      by_cases e : m / 4 = n / 4
      · rw [e] at ht ⊢
        exact (hf _ t ht).2.1 (m % 4) (n % 4) (by omega) (by omega) (by omega)
      · have p1 := (hf _ t ht).1 (m % 4) (by omega)
        have p2 := (hf _ u hu).1 (n % 4) (by omega)
        rcases hA.apart _ _ (by omega) (by omega) e with h1 | h1
        · left; omega
        · right; omega
    · have h1 : (4 * i) / 4 = i := by omega
      have h2 : (4 * i) % 4 = 0 := by omega
      rw [h1, h2]
      exact (hf i k hk).2.2.1
    · have h1 : (4 * i + 1) / 4 = i := by omega
      have h2 : (4 * i + 1) % 4 = 1 := by omega
      rw [h1, h2]
      exact (hf i k hk).2.2.2.1
    · have h1 : (4 * i + 2) / 4 = i := by omega
      have h2 : (4 * i + 2) % 4 = 2 := by omega
      rw [h1, h2]
      exact (hf i k hk).2.2.2.2.1
    · have h1 : (4 * i + 3) / 4 = i := by omega
      have h2 : (4 * i + 3) % 4 = 3 := by omega
      rw [h1, h2]
      exact (hf i k hk).2.2.2.2.2
theorem fl14_append (us vs : List IX) : fl14 (us ++ vs) = fl14 us ++ fl14 vs := by
  induction us with
  | nil => rfl
  | cons x xs ih => rw [List.cons_append, fl14, fl14, ih, List.append_assoc]
theorem AccI.pushAll {A B : World} {base base2 : Nat} {v v' v2 : Value} {us vs : List IX} {l h l2 h2 : Nat → Nat} (hA : AccI A base v us l h) (h2A : AccI A base2 v2 vs l2 h2) (hd : ∀ i j, i < us.length → j < vs.length → h i ≤ l2 j ∨ h2 j ≤ l i) (hb : base ≤ base2) (hv : ∀ g, v.ownBlock = some g → ∀ j, j < vs.length → g < l2 j ∨ h2 j ≤ g)
    (hown : B.ownsRow base 52 14 v' (us.length + vs.length) (fl14 us ++ fl14 vs)) (hback : Back0 A B v v') :
    AccI B base v' (us ++ vs) (fun i => if i < us.length then l i else l2 (i - us.length)) (fun i => if i < us.length then h i else h2 (i - us.length)) := by
  obtain ⟨hk, hv', -⟩ := hback
  have hz := hk.size
  refine ⟨?_, fun i hi' => ?_, fun i j hi1 hj hij => ?_, fun i y hy => ?_⟩
  · rw [fl14_append, List.length_append]
    exact hown
  · rw [List.length_append] at hi'
    by_cases e : i < us.length
    · simp only [e, if_true]
      obtain ⟨h1, h2, h3⟩ := hA.int i e
      refine ⟨h1, by omega, fun g hg => ?_⟩
      rcases hv' g hg with h4 | h4
      · exact h3 g h4
      · right; omega
    · simp only [e, if_false]
      obtain ⟨h1, h2, h3⟩ := h2A.int (i - us.length) (by omega)
      refine ⟨by omega, by omega, fun g hg => ?_⟩
      rcases hv' g hg with h4 | h4
      · exact hv g h4 _ (by omega)
      · right; omega
  · rw [List.length_append] at hj hi1
    by_cases e : j < us.length
    · by_cases e' : i < us.length
      · simp only [e, e', if_true]
        exact hA.apart i j e' e hij
      · simp only [e, e', if_true, if_false]
        exact (hd j (i - us.length) e (by omega)).symm
    · by_cases e' : i < us.length
      · simp only [e, e', if_true, if_false]
        exact hd i (j - us.length) e' (by omega)
      · simp only [e, e', if_false]
        exact h2A.apart _ _ (by omega) (by omega) (by omega)
  · by_cases e : i < us.length
    · rw [List.getElem?_append_left e] at hy
      simp only [e, if_true]
      obtain ⟨h1, h2, h3⟩ := hA.int i e
      exact (hA.kid i y hy).mono (fun b q1 q2 => hk.block b (by omega) (fun h => by rcases h3 b h with h9 | h9 <;> omega))
    · rw [List.getElem?_append_right (by omega)] at hy
      simp only [e, if_false]
      have hi2 := (List.getElem?_eq_some_iff.1 hy).1
      obtain ⟨h1, h2, h3⟩ := h2A.int _ hi2
      exact (h2A.kid _ y hy).mono (fun b q1 q2 => hk.block b (by omega) (fun h => by rcases hv b h _ hi2 with h9 | h9 <;> omega))
theorem AccI.single {W : World} {base lo hi : Nat} (x : IX) (hO : OwnS1 W lo hi x.s) (hb : base ≤ lo) (hbW : base ≤ W.heap.size) (hhi : hi ≤ W.heap.size) :
    AccI (W.alloc (.cells #[.int .i64 x.op, .int .i64 x.s.kind, .string x.s.name, .int .i64 x.s.e.kind, .int .i64 x.s.e.num, .string x.s.e.name, .slice x.s.e.base x.s.e.kids.length x.s.e.cap, .int .i64 x.s.f.kind, .int .i64 x.s.f.num, .string x.s.f.name, .slice x.s.f.base x.s.f.kids.length x.s.f.cap, .slice x.s.abase x.s.la.length x.s.acap, .slice x.s.bbase x.s.lb.length x.s.bcap, .int .i64 x.dst] 52)) base (.slice (some ⟨W.heap.size, 0, none⟩) 1 1) [x] (fun _ => lo) (fun _ => hi) := by
  refine ⟨⟨rfl, .inr ⟨W.heap.size, 1, _, rfl, hbW, World.alloc_heap_new W _, Nat.le_refl _, (by unfold maxLen; omega), rfl, rfl⟩⟩, fun i h => ⟨hb, by simp; omega, fun g hg => ?_⟩, fun i j h1 h2 h3 => ?_, fun i t ht => ?_⟩
  · simp [Value.ownBlock] at hg
    omega
  · simp at h1 h2
    omega
  · have : i = 0 := by have := (List.getElem?_eq_some_iff.1 ht).1; simpa using this
    subst this
    simp at ht
    subst ht
    exact hO.mono (fun b q1 q2 => Below.heap_alloc _ _ _ (by omega))
theorem AccI.made (w : World) {base : Nat} (hb : base ≤ w.heap.size) : AccI (w.alloc (.cells #[] 52)) base (.slice (some ⟨w.heap.size, 0, none⟩) 0 0) [] (fun _ => 0) (fun _ => 0) :=
  ⟨World.ownsRow_made w #[] 0 hb (Nat.zero_le _) rfl, fun i h => by simp at h, fun i j h => by simp at h, fun i t h => by simp at h⟩
theorem AccI.cellsOf {W : World} {base n : Nat} {v : Value} {us : List IX} {l h : Nat → Nat} (hA : AccI W base v us l h) (hn : v ≠ .slice none 0 0) : ∃ g cap, v = .slice (some ⟨g, 0, none⟩) us.length cap ∧ ∀ j u, (fl14 us)[j]? = some u → W.cell? ((⟨g, 0, none⟩ : Addr).add j) = some u := by
  rcases hA.own.2 with ⟨e, -⟩ | ⟨g, cap, cur, rfl, -⟩
  · exact absurd e hn
  · exact ⟨g, cap, rfl, hA.own.cells (g := g) rfl⟩
theorem fl14_one (us : List IX) : ∀ u ∈ fl14 us, u.oneCell' = true := by
  induction us with
  | nil => simp [fl14]
  | cons x xs ih =>
    intro u hu
    rw [fl14, List.mem_append] at hu
    rcases hu with hu | hu
    · simp [SX.vals] at hu
      rcases hu with rfl | rfl | rfl | rfl | rfl | rfl | rfl | rfl | rfl | rfl | rfl | rfl | rfl | rfl <;> rfl
    · exact ih u hu

end Go.Proofs.Ytimfdfeleoaehaa
