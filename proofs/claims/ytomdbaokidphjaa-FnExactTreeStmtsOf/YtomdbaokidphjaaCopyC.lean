/-
  The program's copies of statements: the same, in memory of their own.
-/
import Derived.Test.YtomdbaokidphjaaCopyB
import Derived.Deep.RegionLaw
import Derived.Deep.DeepCutAuto
namespace Go.Proofs.Ytomdbaokidphjaa
open Go.RowKit Go.Shelf
set_option linter.unusedSimpArgs false
set_option linter.unusedVariables false
attribute [local go_sem] Oper.semAt_some

theorem put4o {W : World} {g N : Nat} {t : TypeId} (hR : RowAt W g N t) (o : Nat) (ho : o + 3 < N) (y : XT) :
    RowAt ((((W.setCell ⟨g, o, none⟩ (.int .i64 y.kind)).setCell ⟨g, o + 1, none⟩ (.int .i64 y.num)).setCell ⟨g, o + 2, none⟩ (.string y.name)).setCell ⟨g, o + 3, none⟩ (.slice y.base y.kids.length y.cap)) g N t ∧
    Kept (fun k => k = g) W ((((W.setCell ⟨g, o, none⟩ (.int .i64 y.kind)).setCell ⟨g, o + 1, none⟩ (.int .i64 y.num)).setCell ⟨g, o + 2, none⟩ (.string y.name)).setCell ⟨g, o + 3, none⟩ (.slice y.base y.kids.length y.cap)) ∧
    Cells4 ((((W.setCell ⟨g, o, none⟩ (.int .i64 y.kind)).setCell ⟨g, o + 1, none⟩ (.int .i64 y.num)).setCell ⟨g, o + 2, none⟩ (.string y.name)).setCell ⟨g, o + 3, none⟩ (.slice y.base y.kids.length y.cap)) g o y ∧
    ∀ p, (p < o ∨ o + 4 ≤ p) → ((((W.setCell ⟨g, o, none⟩ (.int .i64 y.kind)).setCell ⟨g, o + 1, none⟩ (.int .i64 y.num)).setCell ⟨g, o + 2, none⟩ (.string y.name)).setCell ⟨g, o + 3, none⟩ (.slice y.base y.kids.length y.cap)).cell? ⟨g, p, none⟩ = W.cell? ⟨g, p, none⟩ := by
  have r1 := hR.set o (.int .i64 y.kind)
  have r2 := r1.set (o + 1) (.int .i64 y.num)
  have r3 := r2.set (o + 2) (.string y.name)
  have r4 := r3.set (o + 3) (.slice y.base y.kids.length y.cap)
  refine ⟨r4, ((((Kept.refl (fun k => k = g) W).setCell (p := ⟨g, o, none⟩) rfl _).setCell (p := ⟨g, o + 1, none⟩) rfl _).setCell (p := ⟨g, o + 2, none⟩) rfl _).setCell (p := ⟨g, o + 3, none⟩) rfl _, ⟨?_, ?_, ?_, ?_⟩, fun p hp => ?_⟩
  · rw [set_far (by omega), set_far (by omega), set_far (by omega)]
    exact hR.put (by omega) _
  · rw [set_far (by omega), set_far (by omega)]
    exact r1.put (by omega) _
  · rw [set_far (by omega)]
    exact r2.put (by omega) _
  · exact r3.put (by omega) _
  · rw [set_far (by omega), set_far (by omega), set_far (by omega), set_far (by omega)]
def isPart (s : SX) (t : XT) : Prop := t = s.e ∨ t = s.f
structure Half (w : World) (s : SX) (e' f' : XT) (lE hE lF hF : Nat) (X : World) : Prop where
  cells : Cells12 X w.heap.size 0 (.mk s.kind s.name e' f' s.abase s.acap s.la s.bbase s.bcap s.lb)
  r1 : RowAt X w.heap.size 12 40
  r2 : RowAt X (w.heap.size + 1) 12 40
  se : Same s.e e'
  sf : Same s.f f'
  oe : OwnR X lE hE e'.base e'.kids
  of : OwnR X lF hF f'.base f'.kids
  b : w.heap.size + 2 ≤ lE ∧ hE ≤ lF ∧ hF ≤ X.heap.size ∧ w.heap.size + 2 ≤ lF ∧ hE ≤ X.heap.size
  below : Below w.heap.size w X
theorem Half.make {w W2 x1 x2 : World} {s : SX} {e' f' : XT} (s2 : W2.heap.size = w.heap.size + 2) (hB2 : Below w.heap.size w W2) (hC : Cells12 W2 w.heap.size 0 s) (hR1 : RowAt W2 w.heap.size 12 40) (hR2 : RowAt W2 (w.heap.size + 1) 12 40) (hse : Same s.e e') (hsf : Same s.f f')
    (hx1 : Below W2.heap.size W2 x1) {y : World} (hy : Below W2.heap.size W2 y) (hO : OwnR x1 y.heap.size x1.heap.size e'.base e'.kids) (hO' : OwnR x2 x1.heap.size x2.heap.size f'.base f'.kids) (hb2 : Below x1.heap.size x1 x2) :
    Half w s e' f' y.heap.size x1.heap.size x1.heap.size x2.heap.size ((((((((x2.setCell ⟨w.heap.size, 2, none⟩ (.int .i64 e'.kind)).setCell ⟨w.heap.size, 3, none⟩ (.int .i64 e'.num)).setCell ⟨w.heap.size, 4, none⟩ (.string e'.name)).setCell ⟨w.heap.size, 5, none⟩ (.slice e'.base e'.kids.length e'.cap)).setCell ⟨w.heap.size, 6, none⟩ (.int .i64 f'.kind)).setCell ⟨w.heap.size, 7, none⟩ (.int .i64 f'.num)).setCell ⟨w.heap.size, 8, none⟩ (.string f'.name)).setCell ⟨w.heap.size, 9, none⟩ (.slice f'.base f'.kids.length f'.cap)) ∧
    Half w s e' f' y.heap.size x1.heap.size x1.heap.size x2.heap.size ((((((((x2.setCell ⟨w.heap.size, 6, none⟩ (.int .i64 f'.kind)).setCell ⟨w.heap.size, 7, none⟩ (.int .i64 f'.num)).setCell ⟨w.heap.size, 8, none⟩ (.string f'.name)).setCell ⟨w.heap.size, 9, none⟩ (.slice f'.base f'.kids.length f'.cap)).setCell ⟨w.heap.size, 2, none⟩ (.int .i64 e'.kind)).setCell ⟨w.heap.size, 3, none⟩ (.int .i64 e'.num)).setCell ⟨w.heap.size, 4, none⟩ (.string e'.name)).setCell ⟨w.heap.size, 5, none⟩ (.slice e'.base e'.kids.length e'.cap)) := by
  have hx2 := bstep hx1 hb2
  have hz1 := hx1.size
  have hz2 := hb2.size
  have hzy := hy.size
  have k1 := hR1.of_block (hx2.block _ (by omega))
  have k2 := hR2.of_block (hx2.block _ (by omega))
  have kC := hC.below hx2 (by omega)
  have hBx : Below w.heap.size w x2 := hB2.trans (hx2.mono (by omega))
  have fin : ∀ X : World, RowAt X w.heap.size 12 40 → Kept (fun k => k = w.heap.size) x2 X → Cells4 X w.heap.size 2 e' → Cells4 X w.heap.size 6 f' → (∀ p, (p < 2 ∨ 10 ≤ p) → X.cell? ⟨w.heap.size, p, none⟩ = x2.cell? ⟨w.heap.size, p, none⟩) → Half w s e' f' y.heap.size x1.heap.size x1.heap.size x2.heap.size X := by
    intro X hr hk he hf ho
    have hzX := hk.size
    refine ⟨⟨(ho 0 (by omega)).trans kC.c0, (ho 1 (by omega)).trans kC.c1, he.c0, he.c1, he.c2, he.c3, hf.c0, hf.c1, hf.c2, hf.c3, (ho 10 (by omega)).trans kC.c10, (ho 11 (by omega)).trans kC.c11⟩, hr, k2.of_block (hk.block _ (by omega) (by omega)), hse, hsf, ?_, ?_, ⟨by omega, by omega, by omega, by omega, by omega⟩, hBx.trans (hk.below (by omega) (fun k e => by omega))⟩
    · exact hO.mono (fun b q1 q2 => (hk.block b (by omega) (by omega)).trans (hb2.block b q2))
    · exact hO'.mono (fun b q1 q2 => hk.block b (by omega) (by omega))
  constructor
  · obtain ⟨p1, p2, p3, p4⟩ := put4o k1 2 (by omega) e'
    obtain ⟨q1, q2, q3, q4⟩ := put4o p1 6 (by omega) f'
    exact fin _ q1 (p2.trans q2) ⟨(q4 2 (by omega)).trans p3.c0, (q4 3 (by omega)).trans p3.c1, (q4 4 (by omega)).trans p3.c2, (q4 5 (by omega)).trans p3.c3⟩ q3 (fun p hp => (q4 p (by omega)).trans (p4 p (by omega)))
  · obtain ⟨p1, p2, p3, p4⟩ := put4o k1 6 (by omega) f'
    obtain ⟨q1, q2, q3, q4⟩ := put4o p1 2 (by omega) e'
    exact fin _ q1 (p2.trans q2) q3 ⟨(q4 6 (by omega)).trans p3.c0, (q4 7 (by omega)).trans p3.c1, (q4 8 (by omega)).trans p3.c2, (q4 9 (by omega)).trans p3.c3⟩ (fun p hp => (q4 p (by omega)).trans (p4 p (by omega)))
def isList (s : SX) (a : Option Addr) (ks : List SX) (c : Nat) : Prop := (a = s.abase ∧ ks = s.la ∧ c = s.acap) ∨ (a = s.bbase ∧ ks = s.lb ∧ c = s.bcap)
structure Full (w : World) (s s' : SX) (X : World) : Prop where
  cells : Cells12 X w.heap.size 0 s'
  r2 : RowAt X (w.heap.size + 1) 12 40
  same : SameS s s'
  own : OwnS1 X (w.heap.size + 2) X.heap.size s'
  below : Below w.heap.size w X
theorem Full.make {w Y x1 x2 y : World} {s : SX} {e' f' : XT} {lE hE lF hF : Nat} (hH : Half w s e' f' lE hE lF hF Y) (hy : Below Y.heap.size Y y) {a' b' : Option Addr} {ca cb : Nat} {la' lb' : List SX} (hla : la'.length = s.la.length) (hlb : lb'.length = s.lb.length)
    (ha : ∀ (i : Nat) (p q : SX), s.la[i]? = some p → la'[i]? = some q → SameS p q) (hb : ∀ (i : Nat) (p q : SX), s.lb[i]? = some p → lb'[i]? = some q → SameS p q)
    (hx1 : Below Y.heap.size Y x1) (hO : OwnSR x1 y.heap.size x1.heap.size a' la') (hO' : OwnSR x2 x1.heap.size x2.heap.size b' lb') (hb2 : Below x1.heap.size x1 x2) :
    Full w s (.mk s.kind s.name e' f' a' ca la' b' cb lb') ((x2.setCell ⟨w.heap.size, 10, none⟩ (.slice a' s.la.length ca)).setCell ⟨w.heap.size, 11, none⟩ (.slice b' s.lb.length cb)) ∧
    Full w s (.mk s.kind s.name e' f' a' ca la' b' cb lb') ((x2.setCell ⟨w.heap.size, 11, none⟩ (.slice b' s.lb.length cb)).setCell ⟨w.heap.size, 10, none⟩ (.slice a' s.la.length ca)) := by
  have hx2 := bstep hx1 hb2
  have hz1 := hx1.size
  have hz2 := hb2.size
  have hzy := hy.size
  obtain ⟨q1, q2, q3, q4, q5⟩ := hH.b
  have hzY : w.heap.size + 1 < Y.heap.size := hH.r2.lt
  have k1 := hH.r1.of_block (hx2.block _ (by omega))
  have k2 := hH.r2.of_block (hx2.block _ (by omega))
  have kC := hH.cells.below hx2 (by omega)
  have hBx : Below w.heap.size w x2 := hH.below.trans (hx2.mono (by have := hH.below.size; omega))
  have fin : ∀ X : World, Kept (fun k => k = w.heap.size) x2 X → X.cell? ⟨w.heap.size, 10, none⟩ = some (.slice a' la'.length ca) → X.cell? ⟨w.heap.size, 11, none⟩ = some (.slice b' lb'.length cb) → (∀ p, p < 10 → X.cell? ⟨w.heap.size, p, none⟩ = x2.cell? ⟨w.heap.size, p, none⟩) → Full w s (.mk s.kind s.name e' f' a' ca la' b' cb lb') X := by
    intro X hk h10 h11 ho
    have hzX := hk.size
    refine ⟨⟨(ho 0 (by omega)).trans kC.c0, (ho 1 (by omega)).trans kC.c1, (ho 2 (by omega)).trans kC.c2, (ho 3 (by omega)).trans kC.c3, (ho 4 (by omega)).trans kC.c4, (ho 5 (by omega)).trans kC.c5, (ho 6 (by omega)).trans kC.c6, (ho 7 (by omega)).trans kC.c7, (ho 8 (by omega)).trans kC.c8, (ho 9 (by omega)).trans kC.c9, h10, h11⟩, k2.of_block (hk.block _ (by omega) (by omega)), .mk _ _ rfl rfl hH.se hH.sf hla hlb ha hb, ?_, hBx.trans (hk.below (by have := hH.below.size; omega) (fun k e => by omega))⟩
    refine ⟨fun m => if m = 0 then lE else if m = 1 then lF else if m = 2 then y.heap.size else x1.heap.size, fun m => if m = 0 then hE else if m = 1 then hF else if m = 2 then x1.heap.size else x2.heap.size, fun m hm => ?_, fun m n hm hn hmn => ?_, ?_, ?_, ?_, ?_⟩
    · rcases (show m = 0 ∨ m = 1 ∨ m = 2 ∨ m = 3 by omega) with rfl | rfl | rfl | rfl <;> simp <;> omega
    · rcases (show m = 0 ∨ m = 1 ∨ m = 2 ∨ m = 3 by omega) with rfl | rfl | rfl | rfl <;> rcases (show n = 0 ∨ n = 1 ∨ n = 2 ∨ n = 3 by omega) with rfl | rfl | rfl | rfl <;> first | exact absurd rfl hmn | (simp; done) | (simp; omega)
    · exact hH.oe.mono (fun b p1 p2 => (hk.block b (by first | omega | (simp at p2; omega)) (by first | omega | (simp at p1; omega))).trans (hx2.block b (by first | omega | (simp at p2; omega))))
    · exact hH.of.mono (fun b p1 p2 => (hk.block b (by first | omega | (simp at p2; omega)) (by first | omega | (simp at p1; omega))).trans (hx2.block b (by first | omega | (simp at p2; omega))))
    · exact hO.mono (fun b p1 p2 => (hk.block b (by first | omega | (simp at p2; omega)) (by first | omega | (simp at p1; omega))).trans (hb2.block b (by first | omega | (simp at p2; omega))))
    · exact hO'.mono (fun b p1 p2 => hk.block b (by first | omega | (simp at p2; omega)) (by first | omega | (simp at p1; omega)))
  rw [← hla, ← hlb]
  constructor
  · refine fin _ (((Kept.refl (fun k => k = w.heap.size) x2).setCell (p := ⟨w.heap.size, 10, none⟩) rfl _).setCell (p := ⟨w.heap.size, 11, none⟩) rfl _) ?_ ?_ (fun p hp => ?_)
    · rw [set_far (by omega)]; exact k1.put (by omega) _
    · exact (k1.set 10 _).put (by omega) _
    · rw [set_far (by omega), set_far (by omega)]
  · refine fin _ (((Kept.refl (fun k => k = w.heap.size) x2).setCell (p := ⟨w.heap.size, 11, none⟩) rfl _).setCell (p := ⟨w.heap.size, 10, none⟩) rfl _) ?_ ?_ (fun p hp => ?_)
    · exact (k1.set 11 _).put (by omega) _
    · rw [set_far (by omega)]; exact k1.put (by omega) _
    · rw [set_far (by omega), set_far (by omega)]
set_option maxRecDepth 10000 in
set_option maxHeartbeats 8000000 in
theorem copyS (sz : Nat) : ∀ s : SX, s.size ≤ sz → SmallS s → ∀ (ok : Nat → Prop) (w : World), (∀ b, ok b → b < w.heap.size) → LiesS ok w s →
    Calls Try.prog 16 #[s.val] w fun e w' => ∃ s' : SX, e = .returned s'.val ∧ SameS s s' ∧ OwnS1 w' w.heap.size w'.heap.size s' ∧ Below w.heap.size w w' := by
  induction sz with
  | zero => intro t h; rw [SX.size_eq] at h; omega
  | succ sz ih =>
  intro s hsz hm ok w hok hL
  obtain ⟨m1, m2, m3, m4, m5, m6⟩ := hm.parts
  have hse := s.size_eq
  obtain ⟨W1, hW1⟩ : ∃ W1, w.alloc (.cells #[.int .i64 s.kind, .string s.name, .int .i64 s.e.kind, .int .i64 s.e.num, .string s.e.name, .slice s.e.base s.e.kids.length s.e.cap, .int .i64 s.f.kind, .int .i64 s.f.num, .string s.f.name, .slice s.f.base s.f.kids.length s.f.cap, .slice s.abase s.la.length s.acap, .slice s.bbase s.lb.length s.bcap] 40) = W1 := ⟨_, rfl⟩
  obtain ⟨W2, hW2⟩ : ∃ W2, W1.alloc (.cells #[.int .i64 0, .string ⟨#[]⟩, .int .i64 0, .int .i64 0, .string ⟨#[]⟩, .slice none 0 0, .int .i64 0, .int .i64 0, .string ⟨#[]⟩, .slice none 0 0, .slice none 0 0, .slice none 0 0] 40) = W2 := ⟨_, rfl⟩
  have s1 : W1.heap.size = w.heap.size + 1 := by rw [← hW1]; simp
  have s2 : W2.heap.size = w.heap.size + 2 := by rw [← hW2]; simp [s1]
  have hB2 : Below w.heap.size w W2 := by rw [← hW2, ← hW1]; exact ((Below.refl _ w).alloc (Nat.le_refl _) _).alloc (by simp) _
  have hR1 : RowAt W2 w.heap.size 12 40 := by
    have h := RowAt.new w #[.int .i64 s.kind, .string s.name, .int .i64 s.e.kind, .int .i64 s.e.num, .string s.e.name, .slice s.e.base s.e.kids.length s.e.cap, .int .i64 s.f.kind, .int .i64 s.f.num, .string s.f.name, .slice s.f.base s.f.kids.length s.f.cap, .slice s.abase s.la.length s.acap, .slice s.bbase s.lb.length s.bcap] 40
    rw [hW1] at h
    rw [← hW2]
    exact h.of_block (Below.heap_alloc _ _ _ (by omega))
  have hR2 : RowAt W2 (w.heap.size + 1) 12 40 := by
    have h := RowAt.new W1 #[.int .i64 0, .string ⟨#[]⟩, .int .i64 0, .int .i64 0, .string ⟨#[]⟩, .slice none 0 0, .int .i64 0, .int .i64 0, .string ⟨#[]⟩, .slice none 0 0, .slice none 0 0, .slice none 0 0] 40
    rw [hW2, s1] at h
    exact h
  have hC : Cells12 W2 w.heap.size 0 s := by
    have h := Cells12.new w s 40
    rw [hW1] at h
    rw [← hW2]
    exact h.below (n := W1.heap.size) ((Below.refl _ _).alloc (Nat.le_refl _) _) (by omega)
  have hL2 := hL.under hB2 hok
  have hok2 : ∀ b, ok b → b < W2.heap.size := fun b hb => Nat.lt_of_lt_of_le (hok b hb) hB2.size
  have g1 := m2.1
  have g2 := m3.1
  have HC : Hid (∀ (t : XT) (x : World), isPart s t → Below W2.heap.size W2 x → Calls Try.prog 30 #[t.val] x fun e w' => ∃ t' : XT, e = .returned t'.val ∧ Same t t' ∧ OwnR w' x.heap.size w'.heap.size t'.base t'.kids ∧ Below x.heap.size x w') := by
    rintro t x (rfl | rfl) hx
    · exact copyE _ _ (Nat.le_refl _) (by omega) ok x (fun b hb => Nat.lt_of_lt_of_le (hok2 b hb) hx.size) (hL2.parts.1.under hx hok2)
    · exact copyE _ _ (Nat.le_refl _) (by omega) ok x (fun b hb => Nat.lt_of_lt_of_le (hok2 b hb) hx.size) (hL2.parts.2.1.under hx hok2)
  have hEE : isPart s s.e := .inl rfl
  have hFF : isPart s s.f := .inr rfl
  have hXd : Below W2.heap.size W2 W2.drew := (Below.refl _ W2).drew
  have hzd : W2.drew.heap.size = W2.heap.size := rfl
  obtain ⟨c0, c1, c2, c3, c4', c5, c6, c7, c8, c9, c10, c11⟩ := hC.below hXd (by omega)
  go_enter Try.func16, Try.ntmps16
  go_wp2_with fail
  go_cut [] (fun wx => ∃ (e' f' : XT) (lE hE lF hF : Nat), Hid (Half w s e' f' lE hE lF hF wx))
  case first =>
    go_region_law (first | (go_simp; go_at_call 30; refine (HC.out _ _ (by exact hEE) (by exact hXd)).mono ?_; rintro e x1 ⟨e', rfl, hs1, hO1, hb1⟩; (have hx1 := bstep hXd hb1); (obtain ⟨k0, k1, k2, k3, k4, k5, k6, k7, k8, k9, k10, k11⟩ := hC.below hx1 (by omega))) | (go_simp; go_at_call 30; refine (HC.out _ _ (by exact hFF) (by exact hx1)).mono ?_; rintro e x2 ⟨f', rfl, hs2', hO2, hb2⟩; (have hx2 := bstep hx1 hb2); (have hRx := hR1.of_block (hx2.block _ (by omega))); (obtain ⟨n0, n1, n2, n3, n4, n5, n6, n7, n8, n9, n10, n11⟩ := hC.below hx2 (by omega)); (have z2 := hRx.frozen 2); (have z3 := hRx.frozen 3); (have z4 := hRx.frozen 4); (have z5 := hRx.frozen 5); (have z6 := hRx.frozen 6); (have z7 := hRx.frozen 7); (have z8 := hRx.frozen 8); (have z9 := hRx.frozen 9)))
    all_goals
      obtain ⟨hEF, hFE⟩ := Half.make s2 hB2 hC hR1 hR2 hs1 hs2' hx1 hXd hO1 hO2 hb2
      go_wp2_with fail
      go_meet
      case rel => first | exact ⟨e', f', _, _, _, _, hEF⟩ | exact ⟨e', f', _, _, _, _, hFE⟩
  case rest =>
    obtain ⟨e', f', lE, hE, lF, hF, hH0⟩ := hcut
    rename World => Y
    have hH := hH0.out
    clear c0 c1 c2 c3 c4' c5 c6 c7 c8 c9 c10 c11 hXd hzd HC hEE hFF hW1 hW2
    have hLY := hL.under hH.below hok
    have hzY : w.heap.size + 1 < Y.heap.size := hH.r2.lt
    have hokY : ∀ b, ok b → b < Y.heap.size := fun b hb => by have := hok b hb; omega
    have HL : Hid (∀ (ks : List SX) (a : Option Addr) (c : Nat) (x : World), isList s a ks c → Below Y.heap.size Y x → Calls Try.prog 31 #[.slice a ks.length c, .func (.func 16) #[] #[]] x fun e w' => ∃ (a' : Option Addr) (c' : Nat) (us : List SX), e = .returned (.slice a' ks.length c') ∧ Hid (us.length = ks.length ∧ (∀ (i : Nat) (p q : SX), ks[i]? = some p → us[i]? = some q → SameS p q) ∧ OwnSR w' x.heap.size w'.heap.size a' us) ∧ Below x.heap.size x w') := by
      rintro ks a c x hp hx
      have hokx : ∀ b, ok b → b < x.heap.size := fun b hb => Nat.lt_of_lt_of_le (hokY b hb) hx.size
      have lx := (hLY.under hx hokY).parts
      have fin : ∀ (r : SRow ok x a ks) (hsz' : SX.sizeAll ks ≤ sz) (hl : ks.length ≤ 1048577) (hm' : ∀ (i : Nat) (k : SX), ks[i]? = some k → SmallS k) (hk' : ∀ (i : Nat) (k : SX), ks[i]? = some k → LiesS ok x k), Calls Try.prog 31 #[.slice a ks.length c, .func (.func 16) #[] #[]] x fun e w' => ∃ (a' : Option Addr) (c' : Nat) (us : List SX), e = .returned (.slice a' ks.length c') ∧ Hid (us.length = ks.length ∧ (∀ (i : Nat) (p q : SX), ks[i]? = some p → us[i]? = some q → SameS p q) ∧ OwnSR w' x.heap.size w'.heap.size a' us) ∧ Below x.heap.size x w' := by
        intro r hsz' hl hm' hk'
        refine (eachS ks a c ok x hokx r hl (fun i k hk w' hBw => ih k (by have := SX.size_get hk; omega) (hm' i k hk) ok w' (fun b hb => Nat.lt_of_lt_of_le (hokx b hb) hBw.size) ((hk' i k hk).under hBw hokx))).mono ?_
        rintro e w' ⟨v, us, l, h, rfl, h1, h2, h3, h4⟩
        obtain ⟨a', c', rfl, hO⟩ := h3.done
        exact ⟨a', c', us, by rw [h1], ⟨h1, h2, hO⟩, h4⟩
      rcases hp with ⟨rfl, rfl, rfl⟩ | ⟨rfl, rfl, rfl⟩
      · exact fin lx.2.2.1 (by omega) (by omega) m5 lx.2.2.2.2.1
      · exact fin lx.2.2.2.1 (by omega) (by omega) m6 lx.2.2.2.2.2
    have hLA : isList s s.abase s.la s.acap := .inl ⟨rfl, rfl, rfl⟩
    have hLB : isList s s.bbase s.lb s.bcap := .inr ⟨rfl, rfl, rfl⟩
    have hXd : Below Y.heap.size Y Y.drew := (Below.refl _ Y).drew
    have cA : Y.drew.cell? ⟨w.heap.size, 10, none⟩ = some (.slice s.abase s.la.length s.acap) := hH.cells.c10
    have cB : Y.drew.cell? ⟨w.heap.size, 11, none⟩ = some (.slice s.bbase s.lb.length s.bcap) := hH.cells.c11
    clear hLY hL hL2 ih m5 m6 hC hR1 hR2
    go_wp2_with fail
    go_cut [] (fun wx => ∃ (s' : SX), Hid (Full w s s' wx))
    case first =>
      go_region_law (first | (go_simp; go_at_call 31; refine (HL.out _ _ _ _ (by exact hLA) (by exact hXd)).mono ?_; rintro e x1 ⟨a1, ca, la1, rfl, hh1, hb1⟩; (have hx1 := bstep hXd hb1); (have k11 := (hH.cells.below hx1 (by omega)).c11); (have k10 := (hH.cells.below hx1 (by omega)).c10)) | (go_simp; go_at_call 31; refine (HL.out _ _ _ _ (by exact hLB) (by exact hx1)).mono ?_; rintro e x2 ⟨b1, cb, lb1, rfl, hh2, hb2⟩; (have hx2 := bstep hx1 hb2); (have hRx := hH.r1.of_block (hx2.block _ (by omega))); (have n10 : x2.cell? ⟨w.heap.size, 10, none⟩ = some (.slice s.abase s.la.length s.acap) := (hH.cells.below hx2 (by omega)).c10); (have n11 : x2.cell? ⟨w.heap.size, 11, none⟩ = some (.slice s.bbase s.lb.length s.bcap) := (hH.cells.below hx2 (by omega)).c11); (have z10 := hRx.frozen 10); (have z11 := hRx.frozen 11)))
      all_goals
        obtain ⟨hl1, hs1, hO1⟩ := hh1.out
        obtain ⟨hl2, hs2', hO2⟩ := hh2.out
        obtain ⟨hAB, hBA⟩ := Full.make (ca := ca) (cb := cb) hH hXd hl1 hl2 hs1 hs2' hx1 hO1 hO2 hb2
        clear hl1 hl2 hs1 hs2' hO1 hO2
        go_wp2_with fail
        go_meet
        case rel => first | exact ⟨_, hAB⟩ | exact ⟨_, hBA⟩
    case rest =>
      obtain ⟨s', hF0⟩ := hcut
      rename World => Z
      have hF' := hF0.out
      clear cA cB hXd HL hLA hLB hH hH0 hF0
      obtain ⟨c0, c1, c2, c3, c4', c5, c6, c7, c8, c9, c10, c11⟩ := hF'.cells
      have hr2 := hF'.r2
      have hzZ := hr2.lt
      obtain ⟨p0, t0⟩ := hr2.cell (o := 0) (by omega)
      have ft0 := hr2.frozen 0
      obtain ⟨p1, t1⟩ := hr2.cell (o := 1) (by omega)
      have ft1 := hr2.frozen 1
      obtain ⟨p2, t2⟩ := hr2.cell (o := 2) (by omega)
      have ft2 := hr2.frozen 2
      obtain ⟨p3, t3⟩ := hr2.cell (o := 3) (by omega)
      have ft3 := hr2.frozen 3
      obtain ⟨p4, t4⟩ := hr2.cell (o := 4) (by omega)
      have ft4 := hr2.frozen 4
      obtain ⟨p5, t5⟩ := hr2.cell (o := 5) (by omega)
      have ft5 := hr2.frozen 5
      obtain ⟨p6, t6⟩ := hr2.cell (o := 6) (by omega)
      have ft6 := hr2.frozen 6
      obtain ⟨p7, t7⟩ := hr2.cell (o := 7) (by omega)
      have ft7 := hr2.frozen 7
      obtain ⟨p8, t8⟩ := hr2.cell (o := 8) (by omega)
      have ft8 := hr2.frozen 8
      obtain ⟨p9, t9⟩ := hr2.cell (o := 9) (by omega)
      have ft9 := hr2.frozen 9
      obtain ⟨p10, t10⟩ := hr2.cell (o := 10) (by omega)
      have ft10 := hr2.frozen 10
      obtain ⟨p11, t11⟩ := hr2.cell (o := 11) (by omega)
      have ft11 := hr2.frozen 11
      go_wp2
      have hK : Kept (fun k => k = w.heap.size + 1) Z ((((((((((((Z.setCell ⟨w.heap.size + 1, 0, none⟩ (.int .i64 s'.kind)).setCell ⟨w.heap.size + 1, 1, none⟩ (.string s'.name)).setCell ⟨w.heap.size + 1, 2, none⟩ (.int .i64 s'.e.kind)).setCell ⟨w.heap.size + 1, 3, none⟩ (.int .i64 s'.e.num)).setCell ⟨w.heap.size + 1, 4, none⟩ (.string s'.e.name)).setCell ⟨w.heap.size + 1, 5, none⟩ (.slice s'.e.base s'.e.kids.length s'.e.cap)).setCell ⟨w.heap.size + 1, 6, none⟩ (.int .i64 s'.f.kind)).setCell ⟨w.heap.size + 1, 7, none⟩ (.int .i64 s'.f.num)).setCell ⟨w.heap.size + 1, 8, none⟩ (.string s'.f.name)).setCell ⟨w.heap.size + 1, 9, none⟩ (.slice s'.f.base s'.f.kids.length s'.f.cap)).setCell ⟨w.heap.size + 1, 10, none⟩ (.slice s'.abase s'.la.length s'.acap)).setCell ⟨w.heap.size + 1, 11, none⟩ (.slice s'.bbase s'.lb.length s'.bcap)) := (((((((((((((Kept.refl (fun k => k = w.heap.size + 1) Z).setCell (p := ⟨w.heap.size + 1, 0, none⟩) rfl (.int .i64 s'.kind)).setCell (p := ⟨w.heap.size + 1, 1, none⟩) rfl (.string s'.name)).setCell (p := ⟨w.heap.size + 1, 2, none⟩) rfl (.int .i64 s'.e.kind)).setCell (p := ⟨w.heap.size + 1, 3, none⟩) rfl (.int .i64 s'.e.num)).setCell (p := ⟨w.heap.size + 1, 4, none⟩) rfl (.string s'.e.name)).setCell (p := ⟨w.heap.size + 1, 5, none⟩) rfl (.slice s'.e.base s'.e.kids.length s'.e.cap)).setCell (p := ⟨w.heap.size + 1, 6, none⟩) rfl (.int .i64 s'.f.kind)).setCell (p := ⟨w.heap.size + 1, 7, none⟩) rfl (.int .i64 s'.f.num)).setCell (p := ⟨w.heap.size + 1, 8, none⟩) rfl (.string s'.f.name)).setCell (p := ⟨w.heap.size + 1, 9, none⟩) rfl (.slice s'.f.base s'.f.kids.length s'.f.cap)).setCell (p := ⟨w.heap.size + 1, 10, none⟩) rfl (.slice s'.abase s'.la.length s'.acap)).setCell (p := ⟨w.heap.size + 1, 11, none⟩) rfl (.slice s'.bbase s'.lb.length s'.bcap))
      first | go_returns | (refine bodyPost_ret (by simp [results, Try.results16, go_sem, *]; try rfl) rfl ?_)
      refine ⟨s', rfl, hF'.same, ?_, ?_⟩
      · exact (hF'.own.mono (fun b q1 q2 => hK.block b (by omega) (by omega))).wide (by omega) hK.size
      · exact hF'.below.trans (hK.below (by omega) (fun k e => by omega))
end Go.Proofs.Ytomdbaokidphjaa
