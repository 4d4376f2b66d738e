/-
  The specification's copies of statements.
-/
import Derived.Test.YtomdbaokidphjaaCopyC
import Derived.Test.YtomdbaokidphjaaCopyE
import Derived.Deep.RegionHeld3
namespace Go.Proofs.Ytomdbaokidphjaa
open Go.RowKit Go.Shelf
set_option linter.unusedSimpArgs false
set_option linter.unusedVariables false
attribute [local go_sem] Oper.semAt_some

set_option maxRecDepth 20000 in
set_option maxHeartbeats 16000000 in
theorem specCopyS (sz : Nat) : ∀ s : SX, s.size ≤ sz → SmallS s → ∀ (ok : Nat → Prop) (w : World), (∀ b, ok b → b < w.heap.size) → LiesS ok w s →
    Calls Try.prog 12 #[s.val] w fun e w' => ∃ s' : SX, e = .returned s'.val ∧ SameS s s' ∧ OwnS1 w' w.heap.size w'.heap.size s' ∧ Below w.heap.size w w' := by
  induction sz with
  | zero => intro t h; rw [SX.size_eq] at h; omega
  | succ sz ih =>
  intro s hsz hm ok w hok hL
  obtain ⟨m1, m2, m3, m4, m5, m6⟩ := hm.parts
  have hse := s.size_eq
  obtain ⟨W1, hW1⟩ : ∃ W1, w.alloc (.cells #[.int .i64 s.kind, .string s.name, .int .i64 s.e.kind, .int .i64 s.e.num, .string s.e.name, .slice s.e.base s.e.kids.length s.e.cap, .int .i64 s.f.kind, .int .i64 s.f.num, .string s.f.name, .slice s.f.base s.f.kids.length s.f.cap, .slice s.abase s.la.length s.acap, .slice s.bbase s.lb.length s.bcap] 40) = W1 := ⟨_, rfl⟩
  obtain ⟨W2, hW2⟩ : ∃ W2, W1.alloc (.cells #[.int .i64 0, .string ⟨#[]⟩, .int .i64 0, .int .i64 0, .string ⟨#[]⟩, .slice none 0 0, .int .i64 0, .int .i64 0, .string ⟨#[]⟩, .slice none 0 0, .slice none 0 0, .slice none 0 0] 40) = W2 := ⟨_, rfl⟩
  have s1 : W1.heap.size = w.heap.size + 1 := by rw [← hW1]; simp
  have s2 : W2.heap.size = w.heap.size + 2 := by rw [← hW2]; simp [s1]
  have hB2 : Below w.heap.size w W2 := by rw [← hW2, ← hW1]; exact ((Below.refl _ w).alloc (Nat.le_refl _) _).alloc (by simp) _
  have hR1 : RowAt W2 w.heap.size 12 40 := by
    have h := RowAt.new w #[.int .i64 s.kind, .string s.name, .int .i64 s.e.kind, .int .i64 s.e.num, .string s.e.name, .slice s.e.base s.e.kids.length s.e.cap, .int .i64 s.f.kind, .int .i64 s.f.num, .string s.f.name, .slice s.f.base s.f.kids.length s.f.cap, .slice s.abase s.la.length s.acap, .slice s.bbase s.lb.length s.bcap] 40
    rw [hW1] at h
    rw [← hW2]
    exact h.of_block (Below.heap_alloc _ _ _ (by omega))
  have hR2 : RowAt W2 (w.heap.size + 1) 12 40 := by
    have h := RowAt.new W1 #[.int .i64 0, .string ⟨#[]⟩, .int .i64 0, .int .i64 0, .string ⟨#[]⟩, .slice none 0 0, .int .i64 0, .int .i64 0, .string ⟨#[]⟩, .slice none 0 0, .slice none 0 0, .slice none 0 0] 40
    rw [hW2, s1] at h
    exact h
  have hC : Cells12 W2 w.heap.size 0 s := by
    have h := Cells12.new w s 40
    rw [hW1] at h
    rw [← hW2]
    exact h.below (n := W1.heap.size) ((Below.refl _ _).alloc (Nat.le_refl _) _) (by omega)
  have hL2 := hL.under hB2 hok
  have hok2 : ∀ b, ok b → b < W2.heap.size := fun b hb => Nat.lt_of_lt_of_le (hok b hb) hB2.size
  have g1 := m2.1
  have g2 := m3.1
  have HC : Hid (∀ (t : XT) (x : World), isPart s t → Below W2.heap.size W2 x → Calls Try.prog 22 #[t.val] x fun e w' => ∃ t' : XT, e = .returned t'.val ∧ Same t t' ∧ OwnR w' x.heap.size w'.heap.size t'.base t'.kids ∧ Below x.heap.size x w') := by
    rintro t x (rfl | rfl) hx
    · exact specCopyE _ _ (Nat.le_refl _) (by omega) ok x (fun b hb => Nat.lt_of_lt_of_le (hok2 b hb) hx.size) (hL2.parts.1.under hx hok2)
    · exact specCopyE _ _ (Nat.le_refl _) (by omega) ok x (fun b hb => Nat.lt_of_lt_of_le (hok2 b hb) hx.size) (hL2.parts.2.1.under hx hok2)
  have hEE : isPart s s.e := .inl rfl
  have hFF : isPart s s.f := .inr rfl
  have HL : Hid (∀ (ks : List SX) (a : Option Addr) (c : Nat) (x : World), isList s a ks c → Below W2.heap.size W2 x → Calls Try.prog 23 #[.slice a ks.length c] x fun e w' => ∃ (a' : Option Addr) (c' : Nat) (us : List SX), e = .returned (.slice a' ks.length c') ∧ Hid (us.length = ks.length ∧ (∀ (i : Nat) (p q : SX), ks[i]? = some p → us[i]? = some q → SameS p q) ∧ OwnSR w' x.heap.size w'.heap.size a' us) ∧ Below x.heap.size x w') := by
    rintro ks a c x hp hx
    have hokx : ∀ b, ok b → b < x.heap.size := fun b hb => Nat.lt_of_lt_of_le (hok2 b hb) hx.size
    have lx := (hL2.under hx hok2).parts
    have fin : ∀ (r : SRow ok x a ks) (hsz' : SX.sizeAll ks ≤ sz) (hl : ks.length ≤ 1048577) (hm' : ∀ (i : Nat) (k : SX), ks[i]? = some k → SmallS k) (hk' : ∀ (i : Nat) (k : SX), ks[i]? = some k → LiesS ok x k), Calls Try.prog 23 #[.slice a ks.length c] x fun e w' => ∃ (a' : Option Addr) (c' : Nat) (us : List SX), e = .returned (.slice a' ks.length c') ∧ Hid (us.length = ks.length ∧ (∀ (i : Nat) (p q : SX), ks[i]? = some p → us[i]? = some q → SameS p q) ∧ OwnSR w' x.heap.size w'.heap.size a' us) ∧ Below x.heap.size x w' := by
      intro r hsz' hl hm' hk'
      refine (specEachS ks a c ok x hokx r hl (fun i k hk w' hBw => ih k (by have := SX.size_get hk; omega) (hm' i k hk) ok w' (fun b hb => Nat.lt_of_lt_of_le (hokx b hb) hBw.size) ((hk' i k hk).under hBw hokx))).mono ?_
      rintro e w' ⟨v, us, l, h, rfl, h1, h2, h3, h4⟩
      obtain ⟨a', c', rfl, hO⟩ := h3.done
      exact ⟨a', c', us, by rw [h1], ⟨h1, h2, hO⟩, h4⟩
    rcases hp with ⟨rfl, rfl, rfl⟩ | ⟨rfl, rfl, rfl⟩
    · exact fin lx.2.2.1 (by omega) (by omega) m5 lx.2.2.2.2.1
    · exact fin lx.2.2.2.1 (by omega) (by omega) m6 lx.2.2.2.2.2
  have hLA : isList s s.abase s.la s.acap := .inl ⟨rfl, rfl, rfl⟩
  have hLB : isList s s.bbase s.lb s.bcap := .inr ⟨rfl, rfl, rfl⟩
  have hXd : Below W2.heap.size W2 W2.drew := (Below.refl _ W2).drew
  have hzd : W2.drew.heap.size = W2.heap.size := rfl
  have c0 : W2.cell? ⟨w.heap.size, 0, none⟩ = some (.int .i64 s.kind) := (hC.below (Below.refl W2.heap.size W2) (by omega)).c0
  have c1 : W2.cell? ⟨w.heap.size, 1, none⟩ = some (.string s.name) := (hC.below (Below.refl W2.heap.size W2) (by omega)).c1
  have c2 : W2.cell? ⟨w.heap.size, 2, none⟩ = some (.int .i64 s.e.kind) := (hC.below (Below.refl W2.heap.size W2) (by omega)).c2
  have c3 : W2.cell? ⟨w.heap.size, 3, none⟩ = some (.int .i64 s.e.num) := (hC.below (Below.refl W2.heap.size W2) (by omega)).c3
  have c4 : W2.cell? ⟨w.heap.size, 4, none⟩ = some (.string s.e.name) := (hC.below (Below.refl W2.heap.size W2) (by omega)).c4
  have c5 : W2.cell? ⟨w.heap.size, 5, none⟩ = some (.slice s.e.base s.e.kids.length s.e.cap) := (hC.below (Below.refl W2.heap.size W2) (by omega)).c5
  have c6 : W2.cell? ⟨w.heap.size, 6, none⟩ = some (.int .i64 s.f.kind) := (hC.below (Below.refl W2.heap.size W2) (by omega)).c6
  have c7 : W2.cell? ⟨w.heap.size, 7, none⟩ = some (.int .i64 s.f.num) := (hC.below (Below.refl W2.heap.size W2) (by omega)).c7
  have c8 : W2.cell? ⟨w.heap.size, 8, none⟩ = some (.string s.f.name) := (hC.below (Below.refl W2.heap.size W2) (by omega)).c8
  have c9 : W2.cell? ⟨w.heap.size, 9, none⟩ = some (.slice s.f.base s.f.kids.length s.f.cap) := (hC.below (Below.refl W2.heap.size W2) (by omega)).c9
  have c10 : W2.cell? ⟨w.heap.size, 10, none⟩ = some (.slice s.abase s.la.length s.acap) := (hC.below (Below.refl W2.heap.size W2) (by omega)).c10
  have c11 : W2.cell? ⟨w.heap.size, 11, none⟩ = some (.slice s.bbase s.lb.length s.bcap) := (hC.below (Below.refl W2.heap.size W2) (by omega)).c11
  clear ih hL hL2 m5 m6
  go_enter Try.func12, Try.ntmps12
  go_wp2_with fail
  go_region_held3 (fun w' => w'.cell? ⟨w.heap.size, 0, none⟩ = some (.int .i64 s.kind) ∧ w'.cell? ⟨w.heap.size, 1, none⟩ = some (.string s.name) ∧ w'.cell? ⟨w.heap.size, 2, none⟩ = some (.int .i64 s.e.kind) ∧ w'.cell? ⟨w.heap.size, 3, none⟩ = some (.int .i64 s.e.num) ∧ w'.cell? ⟨w.heap.size, 4, none⟩ = some (.string s.e.name) ∧ w'.cell? ⟨w.heap.size, 5, none⟩ = some (.slice s.e.base s.e.kids.length s.e.cap) ∧ w'.cell? ⟨w.heap.size, 6, none⟩ = some (.int .i64 s.f.kind) ∧ w'.cell? ⟨w.heap.size, 7, none⟩ = some (.int .i64 s.f.num) ∧ w'.cell? ⟨w.heap.size, 8, none⟩ = some (.string s.f.name) ∧ w'.cell? ⟨w.heap.size, 9, none⟩ = some (.slice s.f.base s.f.kids.length s.f.cap) ∧ w'.cell? ⟨w.heap.size, 10, none⟩ = some (.slice s.abase s.la.length s.acap) ∧ w'.cell? ⟨w.heap.size, 11, none⟩ = some (.slice s.bbase s.lb.length s.bcap)) (simp [*, go_sem, World.cell?_alloc_some, World.cell?_setCell_far, apart1, apart2, apart3, apart4, apart5, apart6]) (first | (go_at_call 22; refine (HC.out _ _ (by exact hEE) (by exact hXd)).mono ?_; rintro e x1 ⟨e', rfl, hs1, hO1, hb1⟩; (have hx1 := bstep hXd hb1); (have k0 : x1.cell? ⟨w.heap.size, 0, none⟩ = some (.int .i64 s.kind) := (hC.below hx1 (by omega)).c0); (have k1 : x1.cell? ⟨w.heap.size, 1, none⟩ = some (.string s.name) := (hC.below hx1 (by omega)).c1); (have k2 : x1.cell? ⟨w.heap.size, 2, none⟩ = some (.int .i64 s.e.kind) := (hC.below hx1 (by omega)).c2); (have k3 : x1.cell? ⟨w.heap.size, 3, none⟩ = some (.int .i64 s.e.num) := (hC.below hx1 (by omega)).c3); (have k4 : x1.cell? ⟨w.heap.size, 4, none⟩ = some (.string s.e.name) := (hC.below hx1 (by omega)).c4); (have k5 : x1.cell? ⟨w.heap.size, 5, none⟩ = some (.slice s.e.base s.e.kids.length s.e.cap) := (hC.below hx1 (by omega)).c5); (have k6 : x1.cell? ⟨w.heap.size, 6, none⟩ = some (.int .i64 s.f.kind) := (hC.below hx1 (by omega)).c6); (have k7 : x1.cell? ⟨w.heap.size, 7, none⟩ = some (.int .i64 s.f.num) := (hC.below hx1 (by omega)).c7); (have k8 : x1.cell? ⟨w.heap.size, 8, none⟩ = some (.string s.f.name) := (hC.below hx1 (by omega)).c8); (have k9 : x1.cell? ⟨w.heap.size, 9, none⟩ = some (.slice s.f.base s.f.kids.length s.f.cap) := (hC.below hx1 (by omega)).c9); (have k10 : x1.cell? ⟨w.heap.size, 10, none⟩ = some (.slice s.abase s.la.length s.acap) := (hC.below hx1 (by omega)).c10); (have k11 : x1.cell? ⟨w.heap.size, 11, none⟩ = some (.slice s.bbase s.lb.length s.bcap) := (hC.below hx1 (by omega)).c11)) | (go_at_call 22; refine (HC.out _ _ (by exact hFF) (by exact hx1)).mono ?_; rintro e x2 ⟨f', rfl, hs2, hO2, hb2⟩; (have hx2 := bstep hx1 hb2); (have l0 : x2.cell? ⟨w.heap.size, 0, none⟩ = some (.int .i64 s.kind) := (hC.below hx2 (by omega)).c0); (have l1 : x2.cell? ⟨w.heap.size, 1, none⟩ = some (.string s.name) := (hC.below hx2 (by omega)).c1); (have l2 : x2.cell? ⟨w.heap.size, 2, none⟩ = some (.int .i64 s.e.kind) := (hC.below hx2 (by omega)).c2); (have l3 : x2.cell? ⟨w.heap.size, 3, none⟩ = some (.int .i64 s.e.num) := (hC.below hx2 (by omega)).c3); (have l4 : x2.cell? ⟨w.heap.size, 4, none⟩ = some (.string s.e.name) := (hC.below hx2 (by omega)).c4); (have l5 : x2.cell? ⟨w.heap.size, 5, none⟩ = some (.slice s.e.base s.e.kids.length s.e.cap) := (hC.below hx2 (by omega)).c5); (have l6 : x2.cell? ⟨w.heap.size, 6, none⟩ = some (.int .i64 s.f.kind) := (hC.below hx2 (by omega)).c6); (have l7 : x2.cell? ⟨w.heap.size, 7, none⟩ = some (.int .i64 s.f.num) := (hC.below hx2 (by omega)).c7); (have l8 : x2.cell? ⟨w.heap.size, 8, none⟩ = some (.string s.f.name) := (hC.below hx2 (by omega)).c8); (have l9 : x2.cell? ⟨w.heap.size, 9, none⟩ = some (.slice s.f.base s.f.kids.length s.f.cap) := (hC.below hx2 (by omega)).c9); (have l10 : x2.cell? ⟨w.heap.size, 10, none⟩ = some (.slice s.abase s.la.length s.acap) := (hC.below hx2 (by omega)).c10); (have l11 : x2.cell? ⟨w.heap.size, 11, none⟩ = some (.slice s.bbase s.lb.length s.bcap) := (hC.below hx2 (by omega)).c11)) | (go_at_call 23; refine (HL.out _ _ _ _ (by exact hLA) (by exact hx2)).mono ?_; rintro e x3 ⟨a1, ca, la1, rfl, hh1, hb3⟩; (have hx3 := bstep hx2 hb3); (have n0 : x3.cell? ⟨w.heap.size, 0, none⟩ = some (.int .i64 s.kind) := (hC.below hx3 (by omega)).c0); (have n1 : x3.cell? ⟨w.heap.size, 1, none⟩ = some (.string s.name) := (hC.below hx3 (by omega)).c1); (have n2 : x3.cell? ⟨w.heap.size, 2, none⟩ = some (.int .i64 s.e.kind) := (hC.below hx3 (by omega)).c2); (have n3 : x3.cell? ⟨w.heap.size, 3, none⟩ = some (.int .i64 s.e.num) := (hC.below hx3 (by omega)).c3); (have n4 : x3.cell? ⟨w.heap.size, 4, none⟩ = some (.string s.e.name) := (hC.below hx3 (by omega)).c4); (have n5 : x3.cell? ⟨w.heap.size, 5, none⟩ = some (.slice s.e.base s.e.kids.length s.e.cap) := (hC.below hx3 (by omega)).c5); (have n6 : x3.cell? ⟨w.heap.size, 6, none⟩ = some (.int .i64 s.f.kind) := (hC.below hx3 (by omega)).c6); (have n7 : x3.cell? ⟨w.heap.size, 7, none⟩ = some (.int .i64 s.f.num) := (hC.below hx3 (by omega)).c7); (have n8 : x3.cell? ⟨w.heap.size, 8, none⟩ = some (.string s.f.name) := (hC.below hx3 (by omega)).c8); (have n9 : x3.cell? ⟨w.heap.size, 9, none⟩ = some (.slice s.f.base s.f.kids.length s.f.cap) := (hC.below hx3 (by omega)).c9); (have n10 : x3.cell? ⟨w.heap.size, 10, none⟩ = some (.slice s.abase s.la.length s.acap) := (hC.below hx3 (by omega)).c10); (have n11 : x3.cell? ⟨w.heap.size, 11, none⟩ = some (.slice s.bbase s.lb.length s.bcap) := (hC.below hx3 (by omega)).c11)) | (go_at_call 23; refine (HL.out _ _ _ _ (by exact hLB) (by exact hx3)).mono ?_; rintro e x4 ⟨b1, cb, lb1, rfl, hh2, hb4⟩; (have hx4 := bstep hx3 hb4); (have o0 : x4.cell? ⟨w.heap.size, 0, none⟩ = some (.int .i64 s.kind) := (hC.below hx4 (by omega)).c0); (have o1 : x4.cell? ⟨w.heap.size, 1, none⟩ = some (.string s.name) := (hC.below hx4 (by omega)).c1); (have o2 : x4.cell? ⟨w.heap.size, 2, none⟩ = some (.int .i64 s.e.kind) := (hC.below hx4 (by omega)).c2); (have o3 : x4.cell? ⟨w.heap.size, 3, none⟩ = some (.int .i64 s.e.num) := (hC.below hx4 (by omega)).c3); (have o4 : x4.cell? ⟨w.heap.size, 4, none⟩ = some (.string s.e.name) := (hC.below hx4 (by omega)).c4); (have o5 : x4.cell? ⟨w.heap.size, 5, none⟩ = some (.slice s.e.base s.e.kids.length s.e.cap) := (hC.below hx4 (by omega)).c5); (have o6 : x4.cell? ⟨w.heap.size, 6, none⟩ = some (.int .i64 s.f.kind) := (hC.below hx4 (by omega)).c6); (have o7 : x4.cell? ⟨w.heap.size, 7, none⟩ = some (.int .i64 s.f.num) := (hC.below hx4 (by omega)).c7); (have o8 : x4.cell? ⟨w.heap.size, 8, none⟩ = some (.string s.f.name) := (hC.below hx4 (by omega)).c8); (have o9 : x4.cell? ⟨w.heap.size, 9, none⟩ = some (.slice s.f.base s.f.kids.length s.f.cap) := (hC.below hx4 (by omega)).c9); (have o10 : x4.cell? ⟨w.heap.size, 10, none⟩ = some (.slice s.abase s.la.length s.acap) := (hC.below hx4 (by omega)).c10); (have o11 : x4.cell? ⟨w.heap.size, 11, none⟩ = some (.slice s.bbase s.lb.length s.bcap) := (hC.below hx4 (by omega)).c11); (have hRx := hR2.of_block (hx4.block _ (by omega))); (obtain ⟨p0, t0⟩ := hRx.cell (o := 0) (by omega)); (have z0 := hRx.frozen 0); (obtain ⟨p1, t1⟩ := hRx.cell (o := 1) (by omega)); (have z1 := hRx.frozen 1); (obtain ⟨p2, t2⟩ := hRx.cell (o := 2) (by omega)); (have z2 := hRx.frozen 2); (obtain ⟨p3, t3⟩ := hRx.cell (o := 3) (by omega)); (have z3 := hRx.frozen 3); (obtain ⟨p4, t4⟩ := hRx.cell (o := 4) (by omega)); (have z4 := hRx.frozen 4); (obtain ⟨p5, t5⟩ := hRx.cell (o := 5) (by omega)); (have z5 := hRx.frozen 5); (obtain ⟨p6, t6⟩ := hRx.cell (o := 6) (by omega)); (have z6 := hRx.frozen 6); (obtain ⟨p7, t7⟩ := hRx.cell (o := 7) (by omega)); (have z7 := hRx.frozen 7); (obtain ⟨p8, t8⟩ := hRx.cell (o := 8) (by omega)); (have z8 := hRx.frozen 8); (obtain ⟨p9, t9⟩ := hRx.cell (o := 9) (by omega)); (have z9 := hRx.frozen 9); (obtain ⟨p10, t10⟩ := hRx.cell (o := 10) (by omega)); (have z10 := hRx.frozen 10); (obtain ⟨p11, t11⟩ := hRx.cell (o := 11) (by omega)); (have z11 := hRx.frozen 11)))
  all_goals
    obtain ⟨hl1, hq1, hO3⟩ := hh1.out
    obtain ⟨hl2, hq2, hO4⟩ := hh2.out
    have zz1 := hx1.size
    have zz2 := hb2.size
    have zz3 := hb3.size
    have zz4 := hb4.size
    have hK : Kept (fun k => k = w.heap.size + 1) x4 ((((((((((((x4.setCell ⟨w.heap.size + 1, 0, none⟩ (.int .i64 s.kind)).setCell ⟨w.heap.size + 1, 1, none⟩ (.string s.name)).setCell ⟨w.heap.size + 1, 2, none⟩ (.int .i64 e'.kind)).setCell ⟨w.heap.size + 1, 3, none⟩ (.int .i64 e'.num)).setCell ⟨w.heap.size + 1, 4, none⟩ (.string e'.name)).setCell ⟨w.heap.size + 1, 5, none⟩ (.slice e'.base e'.kids.length e'.cap)).setCell ⟨w.heap.size + 1, 6, none⟩ (.int .i64 f'.kind)).setCell ⟨w.heap.size + 1, 7, none⟩ (.int .i64 f'.num)).setCell ⟨w.heap.size + 1, 8, none⟩ (.string f'.name)).setCell ⟨w.heap.size + 1, 9, none⟩ (.slice f'.base f'.kids.length f'.cap)).setCell ⟨w.heap.size + 1, 10, none⟩ (.slice a1 s.la.length ca)).setCell ⟨w.heap.size + 1, 11, none⟩ (.slice b1 s.lb.length cb)) := (((((((((((((Kept.refl (fun k => k = w.heap.size + 1) x4).setCell (p := ⟨w.heap.size + 1, 0, none⟩) rfl (.int .i64 s.kind)).setCell (p := ⟨w.heap.size + 1, 1, none⟩) rfl (.string s.name)).setCell (p := ⟨w.heap.size + 1, 2, none⟩) rfl (.int .i64 e'.kind)).setCell (p := ⟨w.heap.size + 1, 3, none⟩) rfl (.int .i64 e'.num)).setCell (p := ⟨w.heap.size + 1, 4, none⟩) rfl (.string e'.name)).setCell (p := ⟨w.heap.size + 1, 5, none⟩) rfl (.slice e'.base e'.kids.length e'.cap)).setCell (p := ⟨w.heap.size + 1, 6, none⟩) rfl (.int .i64 f'.kind)).setCell (p := ⟨w.heap.size + 1, 7, none⟩) rfl (.int .i64 f'.num)).setCell (p := ⟨w.heap.size + 1, 8, none⟩) rfl (.string f'.name)).setCell (p := ⟨w.heap.size + 1, 9, none⟩) rfl (.slice f'.base f'.kids.length f'.cap)).setCell (p := ⟨w.heap.size + 1, 10, none⟩) rfl (.slice a1 s.la.length ca)).setCell (p := ⟨w.heap.size + 1, 11, none⟩) rfl (.slice b1 s.lb.length cb))
    have hown : OwnS1 ((((((((((((x4.setCell ⟨w.heap.size + 1, 0, none⟩ (.int .i64 s.kind)).setCell ⟨w.heap.size + 1, 1, none⟩ (.string s.name)).setCell ⟨w.heap.size + 1, 2, none⟩ (.int .i64 e'.kind)).setCell ⟨w.heap.size + 1, 3, none⟩ (.int .i64 e'.num)).setCell ⟨w.heap.size + 1, 4, none⟩ (.string e'.name)).setCell ⟨w.heap.size + 1, 5, none⟩ (.slice e'.base e'.kids.length e'.cap)).setCell ⟨w.heap.size + 1, 6, none⟩ (.int .i64 f'.kind)).setCell ⟨w.heap.size + 1, 7, none⟩ (.int .i64 f'.num)).setCell ⟨w.heap.size + 1, 8, none⟩ (.string f'.name)).setCell ⟨w.heap.size + 1, 9, none⟩ (.slice f'.base f'.kids.length f'.cap)).setCell ⟨w.heap.size + 1, 10, none⟩ (.slice a1 s.la.length ca)).setCell ⟨w.heap.size + 1, 11, none⟩ (.slice b1 s.lb.length cb)) w.heap.size ((((((((((((x4.setCell ⟨w.heap.size + 1, 0, none⟩ (.int .i64 s.kind)).setCell ⟨w.heap.size + 1, 1, none⟩ (.string s.name)).setCell ⟨w.heap.size + 1, 2, none⟩ (.int .i64 e'.kind)).setCell ⟨w.heap.size + 1, 3, none⟩ (.int .i64 e'.num)).setCell ⟨w.heap.size + 1, 4, none⟩ (.string e'.name)).setCell ⟨w.heap.size + 1, 5, none⟩ (.slice e'.base e'.kids.length e'.cap)).setCell ⟨w.heap.size + 1, 6, none⟩ (.int .i64 f'.kind)).setCell ⟨w.heap.size + 1, 7, none⟩ (.int .i64 f'.num)).setCell ⟨w.heap.size + 1, 8, none⟩ (.string f'.name)).setCell ⟨w.heap.size + 1, 9, none⟩ (.slice f'.base f'.kids.length f'.cap)).setCell ⟨w.heap.size + 1, 10, none⟩ (.slice a1 s.la.length ca)).setCell ⟨w.heap.size + 1, 11, none⟩ (.slice b1 s.lb.length cb)).heap.size (.mk s.kind s.name e' f' a1 ca la1 b1 cb lb1) := by
      have hzK := hK.size
      refine ⟨fun m => if m = 0 then W2.heap.size else if m = 1 then x1.heap.size else if m = 2 then x2.heap.size else x3.heap.size, fun m => if m = 0 then x1.heap.size else if m = 1 then x2.heap.size else if m = 2 then x3.heap.size else x4.heap.size, fun m hm => ?_, fun m n hm hn hmn => ?_, ?_, ?_, ?_, ?_⟩
      · rcases (show m = 0 ∨ m = 1 ∨ m = 2 ∨ m = 3 by omega) with rfl | rfl | rfl | rfl <;> simp <;> omega
      · rcases (show m = 0 ∨ m = 1 ∨ m = 2 ∨ m = 3 by omega) with rfl | rfl | rfl | rfl <;> rcases (show n = 0 ∨ n = 1 ∨ n = 2 ∨ n = 3 by omega) with rfl | rfl | rfl | rfl <;> first | exact absurd rfl hmn | (simp; done) | (simp; omega)
      · exact hO1.mono (fun b p1 p2 => (hK.block b (by first | omega | (simp at p2; omega)) (by first | omega | (simp at p1; omega))).trans ((hb4.block b (by first | omega | (simp at p2; omega))).trans ((hb3.block b (by first | omega | (simp at p2; omega))).trans (hb2.block b (by first | omega | (simp at p2; omega))))))
      · exact hO2.mono (fun b p1 p2 => (hK.block b (by first | omega | (simp at p2; omega)) (by first | omega | (simp at p1; omega))).trans ((hb4.block b (by first | omega | (simp at p2; omega))).trans (hb3.block b (by first | omega | (simp at p2; omega)))))
      · exact hO3.mono (fun b p1 p2 => (hK.block b (by first | omega | (simp at p2; omega)) (by first | omega | (simp at p1; omega))).trans (hb4.block b (by first | omega | (simp at p2; omega))))
      · exact hO4.mono (fun b p1 p2 => hK.block b (by first | omega | (simp at p2; omega)) (by first | omega | (simp at p1; omega)))
    have hbel : Below w.heap.size w ((((((((((((x4.setCell ⟨w.heap.size + 1, 0, none⟩ (.int .i64 s.kind)).setCell ⟨w.heap.size + 1, 1, none⟩ (.string s.name)).setCell ⟨w.heap.size + 1, 2, none⟩ (.int .i64 e'.kind)).setCell ⟨w.heap.size + 1, 3, none⟩ (.int .i64 e'.num)).setCell ⟨w.heap.size + 1, 4, none⟩ (.string e'.name)).setCell ⟨w.heap.size + 1, 5, none⟩ (.slice e'.base e'.kids.length e'.cap)).setCell ⟨w.heap.size + 1, 6, none⟩ (.int .i64 f'.kind)).setCell ⟨w.heap.size + 1, 7, none⟩ (.int .i64 f'.num)).setCell ⟨w.heap.size + 1, 8, none⟩ (.string f'.name)).setCell ⟨w.heap.size + 1, 9, none⟩ (.slice f'.base f'.kids.length f'.cap)).setCell ⟨w.heap.size + 1, 10, none⟩ (.slice a1 s.la.length ca)).setCell ⟨w.heap.size + 1, 11, none⟩ (.slice b1 s.lb.length cb)) := (hB2.trans (hx4.mono (by omega))).trans (hK.below (by omega) (fun k e => by omega))
    have hsame : SameS s (.mk s.kind s.name e' f' a1 ca la1 b1 cb lb1) := .mk _ _ rfl rfl hs1 hs2 hl1 hl2 hq1 hq2
    have hval : (SX.mk s.kind s.name e' f' a1 ca la1 b1 cb lb1).val = .agg #[.int .i64 s.kind, .string s.name, .int .i64 e'.kind, .int .i64 e'.num, .string e'.name, .slice e'.base e'.kids.length e'.cap, .int .i64 f'.kind, .int .i64 f'.num, .string f'.name, .slice f'.base f'.kids.length f'.cap, .slice a1 s.la.length ca, .slice b1 s.lb.length cb] := by
      show Value.agg #[.int .i64 s.kind, .string s.name, .int .i64 e'.kind, .int .i64 e'.num, .string e'.name, .slice e'.base e'.kids.length e'.cap, .int .i64 f'.kind, .int .i64 f'.num, .string f'.name, .slice f'.base f'.kids.length f'.cap, .slice a1 la1.length ca, .slice b1 lb1.length cb] = _
      rw [hl1, hl2]
    clear hl1 hl2 hq1 hq2 hO1 hO2 hO3 hO4
    go_wp2
    first | go_returns | (refine bodyPost_ret (by simp [results, Try.results12, go_sem, *]; try rfl) rfl ?_)
    exact ⟨_, congrArg Ending.returned hval.symm, hsame, hown, hbel⟩
end Go.Proofs.Ytomdbaokidphjaa
