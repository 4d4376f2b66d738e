/-
  Two statements that are the same in all parts are told to be so; what a bound on all of a statement says of its parts.
-/
import Derived.Test.YtimfdfeleoaehaaStmtA
namespace Go.Proofs.Ytimfdfeleoaehaa
open Go.RowKit
set_option linter.unusedSimpArgs false
set_option linter.unusedVariables false

inductive SmallS : SX → Prop
  | mk (s : SX) (hn : s.name.size ≤ 1048576) (he : s.e.size ≤ 1048577 ∧ Good s.e) (hf : s.f.size ≤ 1048577 ∧ Good s.f) (hl : s.la.length ≤ 1048576 ∧ s.lb.length ≤ 1048576) (hka : ∀ (i : Nat) (k : SX), s.la[i]? = some k → SmallS k) (hkb : ∀ (i : Nat) (k : SX), s.lb[i]? = some k → SmallS k) : SmallS s
theorem SmallS.parts {s : SX} (h : SmallS s) : s.name.size ≤ 1048576 ∧ (s.e.size ≤ 1048577 ∧ Good s.e) ∧ (s.f.size ≤ 1048577 ∧ Good s.f) ∧ (s.la.length ≤ 1048576 ∧ s.lb.length ≤ 1048576) ∧ (∀ (i : Nat) (k : SX), s.la[i]? = some k → SmallS k) ∧ (∀ (i : Nat) (k : SX), s.lb[i]? = some k → SmallS k) := by
  cases h; exact ⟨‹_›, ‹_›, ‹_›, ‹_›, ‹_›, ‹_›⟩
theorem SX.tot_get {ks : List SX} {i : Nat} {t : SX} (h : ks[i]? = some t) : t.tot ≤ SX.totAll ks := by
  have h1 := SX.totAll_take h
  have h2 := SX.totAll_le ks (i + 1)
  omega
theorem SX.small (sz : Nat) : ∀ s : SX, s.size ≤ sz → s.tot ≤ 1048576 → SmallS s := by
  induction sz with
  | zero => intro s h; rw [SX.size_eq] at h; omega
  | succ sz ih =>
    intro s h ht
    have h1 := s.tot_eq
    have h2 := s.size_eq
    have he := XT.tot_bounds _ s.e (Nat.le_refl _) (by omega)
    have hf := XT.tot_bounds _ s.f (Nat.le_refl _) (by omega)
    exact .mk s (by omega) ⟨by omega, he.2⟩ ⟨by omega, hf.2⟩ ⟨by omega, by omega⟩ (fun i k hk => ih k (by have := SX.size_get hk; omega) (by have := SX.tot_get hk; omega)) (fun i k hk => ih k (by have := SX.size_get hk; omega) (by have := SX.tot_get hk; omega))

inductive SameS : SX → SX → Prop
  | mk (s u : SX) (h1 : u.kind = s.kind) (h2 : u.name = s.name) (h3 : Same s.e u.e) (h4 : Same s.f u.f) (h5 : u.la.length = s.la.length) (h6 : u.lb.length = s.lb.length)
      (ha : ∀ (i : Nat) (x y : SX), s.la[i]? = some x → u.la[i]? = some y → SameS x y) (hb : ∀ (i : Nat) (x y : SX), s.lb[i]? = some x → u.lb[i]? = some y → SameS x y) : SameS s u
theorem SameS.parts {s u : SX} (h : SameS s u) : u.kind = s.kind ∧ u.name = s.name ∧ Same s.e u.e ∧ Same s.f u.f ∧ u.la.length = s.la.length ∧ u.lb.length = s.lb.length ∧
    (∀ (i : Nat) (x y : SX), s.la[i]? = some x → u.la[i]? = some y → SameS x y) ∧ (∀ (i : Nat) (x y : SX), s.lb[i]? = some x → u.lb[i]? = some y → SameS x y) := by
  cases h; exact ⟨‹_›, ‹_›, ‹_›, ‹_›, ‹_›, ‹_›, ‹_›, ‹_›⟩
theorem SameS.join (sz : Nat) : ∀ t : SX, t.size ≤ sz → ∀ u v : SX, SameS t u → SameS t v → SameS u v := by
  induction sz with
  | zero => intro t h; rw [SX.size_eq] at h; omega
  | succ sz ih =>
    intro t h u v hu hv
    have hse := t.size_eq
    obtain ⟨a1, a2, a3, a4, a5, a6, a7, a8⟩ := hu.parts
    obtain ⟨b1, b2, b3, b4, b5, b6, b7, b8⟩ := hv.parts
    refine .mk u v (by rw [a1, b1]) (by rw [a2, b2]) (Same.join _ t.e (Nat.le_refl _) u.e v.e a3 b3) (Same.join _ t.f (Nat.le_refl _) u.f v.f a4 b4) (by omega) (by omega) ?_ ?_
    · intro i x y hx hy
      have hi : i < t.la.length := by have := (List.getElem?_eq_some_iff.1 hx).1; omega
      have hc := List.getElem?_eq_getElem hi
      exact ih _ (by have := SX.size_get hc; omega) x y (a7 i _ x hc hx) (b7 i _ y hc hy)
    · intro i x y hx hy
      have hi : i < t.lb.length := by have := (List.getElem?_eq_some_iff.1 hx).1; omega
      have hc := List.getElem?_eq_getElem hi
      exact ih _ (by have := SX.size_get hc; omega) x y (a8 i _ x hc hx) (b8 i _ y hc hy)

set_option maxRecDepth 10000 in
set_option maxHeartbeats 4000000 in
theorem eqSS (ks us : List SX) (a a' : Option Addr) (c c' : Nat) (ok : Nat → Prop) (w : World) (hok : ∀ b, ok b → b < w.heap.size)
    (hcl : SRow ok w a ks) (hcl' : SRow ok w a' us) (hlen : ks.length ≤ 1099511627776) (hlen' : us.length = ks.length)
    (H : ∀ (i : Nat) (x y : SX), ks[i]? = some x → us[i]? = some y → ∀ (w' : World), Below w.heap.size w w' →
      Calls Try.prog 33 #[x.val, y.val] w' fun e w'' => e = .returned (.bool true) ∧ Below w'.heap.size w' w'') :
    Calls Try.prog 11 #[.slice a ks.length c, .slice a' us.length c'] w fun e w' => e = .returned (.bool true) ∧ Below w.heap.size w w' := by
  obtain ⟨len, hl⟩ : ∃ len, ks.length = len := ⟨_, rfl⟩
  rw [hlen', hl]
  rw [hl] at hlen
  go_enter Try.func11, Try.ntmps11
  go_wp2
  go_loopw [5] (fun v5 wr => ∃ (i : Nat), v5 = .int .i64 i ∧ i ≤ len ∧ Below w.heap.size w wr) (fun v5 _ => len - (intOf v5).toNat)
  case atStart => exact ⟨0, rfl, by omega, Below.refl _ _⟩
  case round =>
    obtain ⟨i, rfl, hi, hB⟩ := hrel
    by_cases hlt : i < len
    · obtain ⟨x, hx⟩ : ∃ x, ks[i]? = some x := ⟨_, List.getElem?_eq_getElem (by omega)⟩
      obtain ⟨y, hy⟩ : ∃ y, us[i]? = some y := ⟨_, List.getElem?_eq_getElem (by omega)⟩
      obtain ⟨b1, o1, hbase1, hok1, hc1⟩ := hcl i x hx
      obtain ⟨b2, o2, hbase2, hok2, hc2⟩ := hcl' i y hy
      have hd1 := hc1.below hB (hok b1 hok1)
      have hd2 := hc2.below hB (hok b2 hok2)
      have H' := H i x y hx hy
      subst hbase1
      subst hbase2
      haveI : Nonempty (Later wr) := ⟨⟨wr, Below.refl _ _⟩⟩
      have e0 := Later.cell hd1.c0
      have e1 := Later.cell hd1.c1
      have e2 := Later.cell hd1.c2
      have e3 := Later.cell hd1.c3
      have e4 := Later.cell hd1.c4
      have e5 := Later.cell hd1.c5
      have e6 := Later.cell hd1.c6
      have e7 := Later.cell hd1.c7
      have e8 := Later.cell hd1.c8
      have e9 := Later.cell hd1.c9
      have e10 := Later.cell hd1.c10
      have e11 := Later.cell hd1.c11
      have g0 := Later.cell hd2.c0
      have g1 := Later.cell hd2.c1
      have g2 := Later.cell hd2.c2
      have g3 := Later.cell hd2.c3
      have g4 := Later.cell hd2.c4
      have g5 := Later.cell hd2.c5
      have g6 := Later.cell hd2.c6
      have g7 := Later.cell hd2.c7
      have g8 := Later.cell hd2.c8
      have g9 := Later.cell hd2.c9
      have g10 := Later.cell hd2.c10
      have g11 := Later.cell hd2.c11
      go_wp2_with fail
      refine region_class (fun w' => ∃ z : Later wr, w' = z.at) (by kernel_rfl) (by kernel_rfl) ⟨⟨_, (Below.refl _ _).drew⟩, rfl⟩ ?_
      repeat (go_big_quiet_step ((go_at_call 33; refine (H' _ (hB.trans ((Later.below _).mono hB.size))).mono ?_; rintro e w2 ⟨rfl, hb⟩; exact ⟨rfl, ⟨_, bstep (Later.below _) hb⟩, rfl⟩)))
      refine wpQuiet_nil ?_
      rintro w' ⟨z, rfl⟩
      go_wp2
      go_roundw
      case rel => exact ⟨i + 1, by go_num, by omega, hB.trans ((Later.below z).mono hB.size)⟩
      case measure => simp [intOf]; omega
    · go_wp2
      go_returns
      exact ⟨rfl, hB⟩
set_option maxRecDepth 10000 in
set_option maxHeartbeats 4000000 in
theorem eqS1 (sz : Nat) : ∀ (s u : SX), s.size ≤ sz → SmallS s → SameS s u → ∀ (ok : Nat → Prop) (w : World), (∀ b, ok b → b < w.heap.size) → LiesS ok w s → LiesS ok w u →
    Calls Try.prog 33 #[s.val, u.val] w fun e w' => e = .returned (.bool true) ∧ Below w.heap.size w w' := by
  induction sz with
  | zero => intro s u h; rw [SX.size_eq] at h; omega
  | succ sz ih =>
  intro s u hsz hm hS ok w hok hL hU
  obtain ⟨h1, h2, h3, h4, h5, h6, h7, h8⟩ := hS.parts
  obtain ⟨m1, m2, m3, m4, m5, m6⟩ := hm.parts
  have hse := s.size_eq
  obtain ⟨W1, hW1⟩ : ∃ W1, w.alloc (.cells #[.int .i64 s.kind, .string s.name, .int .i64 s.e.kind, .int .i64 s.e.num, .string s.e.name, .slice s.e.base s.e.kids.length s.e.cap, .int .i64 s.f.kind, .int .i64 s.f.num, .string s.f.name, .slice s.f.base s.f.kids.length s.f.cap, .slice s.abase s.la.length s.acap, .slice s.bbase s.lb.length s.bcap] 50) = W1 := ⟨_, rfl⟩
  obtain ⟨W2, hW2⟩ : ∃ W2, W1.alloc (.cells #[.int .i64 u.kind, .string u.name, .int .i64 u.e.kind, .int .i64 u.e.num, .string u.e.name, .slice u.e.base u.e.kids.length u.e.cap, .int .i64 u.f.kind, .int .i64 u.f.num, .string u.f.name, .slice u.f.base u.f.kids.length u.f.cap, .slice u.abase u.la.length u.acap, .slice u.bbase u.lb.length u.bcap] 50) = W2 := ⟨_, rfl⟩
  have hs1 : w.heap.size + 1 = W1.heap.size := by rw [← hW1]; simp
  have hs2 : W1.heap.size + 1 = W2.heap.size := by rw [← hW2]; simp
  have hB1 : Below w.heap.size w W1 := by rw [← hW1]; exact (Below.refl _ w).alloc (Nat.le_refl _) _
  have hB2 : Below w.heap.size w W2 := by rw [← hW2]; exact hB1.alloc (by omega) _
  have hC : Cells12 W2 w.heap.size 0 s := by
    have h := Cells12.new w s 50
    rw [hW1] at h
    rw [← hW2]
    exact h.below (n := W1.heap.size) ((Below.refl _ _).alloc (Nat.le_refl _) _) (by omega)
  have hD : Cells12 W2 W1.heap.size 0 u := by rw [← hW2]; exact Cells12.new W1 u _
  have hok2 : ∀ b, ok b → b < W2.heap.size := fun b hb => Nat.lt_of_lt_of_le (hok b hb) hB2.size
  have hL2 := hL.under hB2 hok
  have hU2 := hU.under hB2 hok
  have run : ∀ (W : World), Below W2.heap.size W2 W →
      (Calls Try.prog 53 #[s.e.val, u.e.val] W fun e w' => e = .returned (.bool true) ∧ Below W.heap.size W w') ∧
      (Calls Try.prog 53 #[s.f.val, u.f.val] W fun e w' => e = .returned (.bool true) ∧ Below W.heap.size W w') ∧
      (Calls Try.prog 11 #[.slice s.abase s.la.length s.acap, .slice u.abase u.la.length u.acap] W fun e w' => e = .returned (.bool true) ∧ Below W.heap.size W w') ∧
      (Calls Try.prog 11 #[.slice s.bbase s.lb.length s.bcap, .slice u.bbase u.lb.length u.bcap] W fun e w' => e = .returned (.bool true) ∧ Below W.heap.size W w') := by
    intro W hB
    have hokW : ∀ b, ok b → b < W.heap.size := fun b hb => Nat.lt_of_lt_of_le (hok2 b hb) hB.size
    obtain ⟨p1, p2, p3, p4, p5, p6⟩ := (hL2.under hB hok2).parts
    obtain ⟨q1, q2, q3, q4, q5, q6⟩ := (hU2.under hB hok2).parts
    refine ⟨eq1 _ s.e u.e (by omega) (Nat.le_refl _) h3 ok W hokW p1 q1, eq1 _ s.f u.f (by omega) (Nat.le_refl _) h4 ok W hokW p2 q2, ?_, ?_⟩
    · exact eqSS s.la u.la s.abase u.abase s.acap u.acap ok W hokW p3 q3 (by omega) h5 (fun i x y hx hy w' hBw => ih x y (by have := SX.size_get hx; omega) (m5 i x hx) (h7 i x y hx hy) ok w' (fun b hb => Nat.lt_of_lt_of_le (hokW b hb) hBw.size) ((p5 i x hx).under hBw hokW) ((q5 i y hy).under hBw hokW))
    · exact eqSS s.lb u.lb s.bbase u.bbase s.bcap u.bcap ok W hokW p4 q4 (by omega) h6 (fun i x y hx hy w' hBw => ih x y (by have := SX.size_get hx; omega) (m6 i x hx) (h8 i x y hx hy) ok w' (fun b hb => Nat.lt_of_lt_of_le (hokW b hb) hBw.size) ((p6 i x hx).under hBw hokW) ((q6 i y hy).under hBw hokW))
  clear ih hL hU hL2 hU2 hS hm h3 h4 h7 h8 m5 m6 h5 h6
  have hX0 := Below.refl W2.heap.size W2
  go_enter Try.func33, Try.ntmps33
  obtain ⟨c0, c1, c2, c3, c4, c5, c6, c7, c8, c9, c10, c11⟩ := hC.below hX0 (by omega)
  obtain ⟨d0, d1, d2, d3, d4, d5, d6, d7, d8, d9, d10, d11⟩ := hD.below hX0 (by omega)
  rw [h1] at d0
  rw [h2] at d1
  have hcall := (run W2 hX0).1
  clear h1 h2
  go_wp2_with fail
  go_at_call 53
  refine hcall.mono ?_
  clear hcall c0 d0 c1 d1 c2 d2 c3 d3 c4 d4 c5 d5 c6 d6 c7 d7 c8 d8 c9 d9 c10 d10 c11 d11
  rintro e x1 ⟨rfl, hb1⟩
  have hX1 := hX0.trans (hb1.mono hX0.size)
  obtain ⟨c0, c1, c2, c3, c4, c5, c6, c7, c8, c9, c10, c11⟩ := hC.below hX1 (by omega)
  obtain ⟨d0, d1, d2, d3, d4, d5, d6, d7, d8, d9, d10, d11⟩ := hD.below hX1 (by omega)
  have hcall := (run x1 hX1).2.1
  go_wp2_with fail
  go_at_call 53
  refine hcall.mono ?_
  clear hcall c0 d0 c1 d1 c2 d2 c3 d3 c4 d4 c5 d5 c6 d6 c7 d7 c8 d8 c9 d9 c10 d10 c11 d11
  rintro e x2 ⟨rfl, hb2⟩
  have hX2 := hX1.trans (hb2.mono hX1.size)
  obtain ⟨c0, c1, c2, c3, c4, c5, c6, c7, c8, c9, c10, c11⟩ := hC.below hX2 (by omega)
  obtain ⟨d0, d1, d2, d3, d4, d5, d6, d7, d8, d9, d10, d11⟩ := hD.below hX2 (by omega)
  have hcall := (run x2 hX2).2.2.1
  go_wp2_with fail
  go_at_call 11
  refine hcall.mono ?_
  clear hcall c0 d0 c1 d1 c2 d2 c3 d3 c4 d4 c5 d5 c6 d6 c7 d7 c8 d8 c9 d9 c10 d10 c11 d11
  rintro e x3 ⟨rfl, hb3⟩
  have hX3 := hX2.trans (hb3.mono hX2.size)
  obtain ⟨c0, c1, c2, c3, c4, c5, c6, c7, c8, c9, c10, c11⟩ := hC.below hX3 (by omega)
  obtain ⟨d0, d1, d2, d3, d4, d5, d6, d7, d8, d9, d10, d11⟩ := hD.below hX3 (by omega)
  have hcall := (run x3 hX3).2.2.2
  go_wp2_with fail
  go_at_call 11
  refine hcall.mono ?_
  clear hcall c0 d0 c1 d1 c2 d2 c3 d3 c4 d4 c5 d5 c6 d6 c7 d7 c8 d8 c9 d9 c10 d10 c11 d11
  rintro e x4 ⟨rfl, hb4⟩
  have hX4 := hX3.trans (hb4.mono hX3.size)
  go_wp2
  go_returns
  exact ⟨rfl, hB2.trans (hX4.mono (by omega))⟩
end Go.Proofs.Ytimfdfeleoaehaa
