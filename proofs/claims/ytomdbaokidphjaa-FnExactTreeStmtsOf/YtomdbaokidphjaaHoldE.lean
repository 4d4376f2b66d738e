/-
  A walk through a list of statements that lies in memory as a tree, and through its expressions, comes to an end: the program says so.
-/
import Derived.Test.YtomdbaokidphjaaHoldD
import Derived.Test.YtomdbaokidphjaaOkJ
namespace Go.Proofs.Ytomdbaokidphjaa
open Go.RowKit Go.Shelf
set_option linter.unusedSimpArgs false
set_option linter.unusedVariables false
attribute [local go_sem] Oper.semAt_some

theorem kept_none {A B : World} (h : Kept (fun k => (Value.slice none 0 0).ownBlock = some k) A B) : Below A.heap.size A B := h.below (Nat.le_refl _) (fun k e => by simp [Value.ownBlock] at e)
theorem holdsS0 (ks : List SX) (hsz : SX.sizeAll ks ≤ 2097152) (a : Option Addr) (c : Nat) (ok : Nat → Prop) (w : World) (hok : ∀ b, ok b → b < w.heap.size ∧ Pl w b) (hR : SRow ok w a ks) (hL : ∀ (i : Nat) (k : SX), ks[i]? = some k → LiesS ok w k) (x : World) (hx : Below w.heap.size w x) :
    Calls Try.prog 25 #[.slice a ks.length c, .func (.func 26) #[] #[], .slice none 0 0] x fun e w' => e = .returned (.bool false) ∧ Below x.heap.size x w' := by
  have hlen := SX.length_le ks
  have h := holdsS _ ks (Nat.le_refl _) (by omega) a c ok w.heap.size (.slice none 0 0) [] x (fun b hb => ⟨(hok b hb).1, (hok b hb).2.below hx (hok b hb).1⟩) hx.size (hR.under hx (fun b hb => (hok b hb).1)) (fun i k hk => (hL i k hk).under hx (fun b hb => (hok b hb).1)) ⟨World.ownsRow_nil _ _ _ _, fun y hy => by simp at hy⟩ (by simp; omega)
  exact h.mono fun e w' ⟨h1, h2, _⟩ => ⟨h1, kept_none h2⟩
theorem holdsE0 (ks : List XT) (hsz : XT.sizeAll ks ≤ 2097152) (hlen : ks.length ≤ 2097152) (a : Option Addr) (c : Nat) (ok : Nat → Prop) (w : World) (hok : ∀ b, ok b → b < w.heap.size ∧ Pl w b) (hR : ERow ok w a ks) (hL : ∀ (i : Nat) (k : XT), ks[i]? = some k → Lies ok w k) (x : World) (hx : Below w.heap.size w x) :
    Calls Try.prog 27 #[.slice a ks.length c, .func (.func 28) #[] #[], .slice none 0 0] x fun e w' => e = .returned (.bool false) ∧ Below x.heap.size x w' := by
  have h := holdsE _ ks (Nat.le_refl _) (by omega) a c ok w.heap.size (.slice none 0 0) [] x (fun b hb => ⟨(hok b hb).1, (hok b hb).2.below hx (hok b hb).1⟩) hx.size (hR.under hx (fun b hb => (hok b hb).1)) (fun i k hk => (hL i k hk).under hx (fun b hb => (hok b hb).1)) ⟨World.ownsRow_nil _ _ _ _, fun y hy => by simp at hy⟩ (by simp; omega)
  exact h.mono fun e w' ⟨h1, h2, _⟩ => ⟨h1, kept_none h2⟩
set_option maxRecDepth 100000 in
set_option maxHeartbeats 2000000 in
theorem ends (ks : List SX) (hsz : SX.sizeAll ks ≤ 2097152) (hsm : ∀ (i : Nat) (k : SX), ks[i]? = some k → SmallS k) (a : Option Addr) (c : Nat) (ok : Nat → Prop) (w : World) (hok : ∀ b, ok b → b < w.heap.size ∧ Pl w b) (hR : SRow ok w a ks) (hL : ∀ (i : Nat) (k : SX), ks[i]? = some k → LiesS ok w k) :
    Calls Try.prog 14 #[.slice a ks.length c] w fun e w' => e = .returned (.bool true) ∧ Below w.heap.size w w' := by
  have hok' : ∀ b, ok b → b < w.heap.size := fun b hb => (hok b hb).1
  have hLW : ∀ x ∈ SX.withinAll ks 0, LiesS ok w x.2 := SX.within_all (fun s => LiesS ok w s) (fun s hs => ⟨hs.parts.2.2.2.2.1, hs.parts.2.2.2.2.2⟩) _ ks (Nat.le_refl _) hL 0
  have hSW : ∀ x ∈ SX.withinAll ks 0, SmallS x.2 := SX.within_all SmallS (fun s hs => ⟨hs.parts.2.2.2.2.1, hs.parts.2.2.2.2.2⟩) _ ks (Nat.le_refl _) hsm 0
  have HS := holdsS0 ks hsz a c ok w hok hR hL
  have HE : ∀ y ∈ SX.withinAll ks 0, ∀ x, Below w.heap.size w x → Calls Try.prog 27 #[.slice y.2.e.base y.2.e.kids.length y.2.e.cap, .func (.func 28) #[] #[], .slice none 0 0] x fun e w' => e = .returned (.bool false) ∧ Below x.heap.size x w' := by
    intro y hy x hx
    have hm := (hSW y hy).parts.2.1.1
    have h1 := y.2.e.size_eq
    have h2 := y.2.e.length_le
    have hl := (hLW y hy).parts.1
    exact holdsE0 y.2.e.kids (by omega) (by omega) _ _ ok w hok hl.cells hl.kid x hx
  have HF : ∀ y ∈ SX.withinAll ks 0, ∀ x, Below w.heap.size w x → Calls Try.prog 27 #[.slice y.2.f.base y.2.f.kids.length y.2.f.cap, .func (.func 28) #[] #[], .slice none 0 0] x fun e w' => e = .returned (.bool false) ∧ Below x.heap.size x w' := by
    intro y hy x hx
    have hm := (hSW y hy).parts.2.2.1.1
    have h1 := y.2.f.size_eq
    have h2 := y.2.f.length_le
    have hl := (hLW y hy).parts.2.1
    exact holdsE0 y.2.f.kids (by omega) (by omega) _ _ ok w hok hl.cells hl.kid x hx
  obtain ⟨n, -⟩ : ∃ n : Nat, True := ⟨0, trivial⟩
  refine (callsIn_wide (n := n)).1 ?_
  refine callsIn_of_wp_marks Try.func14 rfl trivial ?_ rfl
  simp only [Try.ntmps14, List.size_toArray, List.length_cons, List.length_nil, Nat.reduceAdd, Nat.reduceSub, Array.replicate_succ, Array.replicate_zero, List.push_toArray, List.append_toArray, List.nil_append, List.cons_append]
  gi_wp2
  refine ⟨trivial, (fun h => by cases h), (callsIn_wide.2 (HS _ ((Below.refl _ w).alloc (Nat.le_refl _) _))).mono ?_⟩
  rintro e w2 ⟨rfl, hB2⟩
  have hbr0 : Boxed w2 w.heap.size 4 (.bool false) := (hB2.block _ (by simp)).trans (Boxed.new w 4 (.bool false))
  have hB02 : Below w.heap.size w w2 := bstep ((Below.refl _ w).alloc (Nat.le_refl _) _) hB2
  have hz2 : w.heap.size + 1 ≤ w2.heap.size := by have := hB2.size; simp at this; omega
  clear hB2
  gi_wp2
  refine ⟨trivial, (fun h => by cases h), (callsIn_wide.2 (stmtsOf a ks.length c 0 _)).mono ?_⟩
  rintro e w3 ⟨rfl, hw3⟩
  subst w3
  gi_wp2
  obtain ⟨W4, hW4⟩ : ∃ W4, w2.alloc (.cells #[.slice a ks.length c] 24) = W4 := ⟨_, rfl⟩
  obtain ⟨W5, hW5⟩ : ∃ W5, W4.alloc (.cells #[.int .i64 0] 3) = W5 := ⟨_, rfl⟩
  rw [hW4, hW5]
  have s4 : W4.heap.size = w2.heap.size + 1 := by rw [← hW4]; simp
  have s5 : W5.heap.size = w2.heap.size + 2 := by rw [← hW5]; simp [s4]
  have hbr : Boxed W5 w.heap.size 4 (.bool false) := by
    have h := (hbr0.alloc (.cells #[.slice a ks.length c] 24)).alloc (.cells #[.int .i64 0] 3)
    rw [hW4, hW5] at h
    exact h
  have hbl : W5.cell? ⟨w2.heap.size, 0, none⟩ = some (.slice a ks.length c) := by
    have h := (Boxed.new w2 24 (.slice a ks.length c)).alloc (.cells #[.int .i64 0] 3)
    rw [hW4, hW5] at h
    exact h.cell
  have hbd : W5.cell? ⟨w2.heap.size + 1, 0, none⟩ = some (.int .i64 0) := by
    have h := Boxed.new W4 3 (.int .i64 0)
    rw [hW5, s4] at h
    exact h.cell
  have hB5 : Below w.heap.size w W5 := by
    rw [← hW5, ← hW4]
    exact (hB02.alloc hB02.size _).alloc (by simp; omega) _
  clear hW4 hW5
  refine range_law (gf := 29) (lb := #[.pointer (some ⟨w2.heap.size, 0, none⟩), .pointer (some ⟨w2.heap.size + 1, 0, none⟩)]) rfl (enters_of Try.func29 (by kernel_rfl) rfl) stmtE (fun _ => rfl) (SX.withinAll ks 0) (fun k => k = w.heap.size)
    (fun pre X => Boxed X w.heap.size 4 (.bool false) ∧ Below w.heap.size w X)
    (fun pre X => False)
    (fun k h => by omega)
    (fun pre A B h ⟨h1, h2⟩ => ⟨(h.block _ (by omega)).trans h1, h2.trans (h.mono (by omega))⟩)
    (fun pre A B h h1 => h1.elim)
    ⟨hbr, hB5⟩
    ?hit ?hround ?hdone ?hstop
  case hit =>
    intro W6 hB6 hs6
    have hB56 := hB5.trans (hB6.mono (by omega))
    refine stmts1 _ ks (by omega) (Nat.le_refl _) a c 0 _ _ _ ok W6 ?_ ?_ (below_cell hB6 hbd (by dsimp only; omega)) ?_ (below_cell hB6 hbl (by dsimp only; omega)) (hR.under hB56 hok') (fun i k hk => (hL i k hk).under hB56 hok')
    · intro k h; omega
    · intro b hb
      have := hok' b hb
      omega
    · omega
  case hround =>
    rintro l m pre x X hl hlX ⟨h1, h2⟩ hpre
    gi_wp2
    refine ⟨(Below.refl _ X).alloc (Nat.le_refl _) _, ?_⟩
    rintro w₂ hk2 ⟨j1, j2⟩
    have hXb := h1.lt
    have hX7 : Cells12 w₂ X.heap.size 0 x.2 := (Cells12.new X x.2 _).kept hk2 (by omega)
    have hxm : x ∈ SX.withinAll ks 0 := hpre.subset (by simp)
    have hX8 := hX7
    obtain ⟨q0, q1, q2, q3, q4, q5, q6, q7, q8, q9, q10, q11⟩ := hX7
    gi_wp2
    refine ⟨trivial, (fun h => by cases h), (CallsIn.inRound l (callsIn_wide.2 (HE x hxm _ j2))).mono ?_⟩
    rintro e w5 ⟨rfl, hB7⟩
    have hj5 := bstep j2 hB7
    clear q0 q1 q2 q3 q4 q5 q6 q7 q8 q9 q10 q11
    obtain ⟨q0, q1, q2, q3, q4, q5, q6, q7, q8, q9, q10, q11⟩ := hX8.below hB7 hX8.lt
    gi_wp2
    refine ⟨trivial, (fun h => by cases h), (CallsIn.inRound l (callsIn_wide.2 (HF x hxm _ hj5))).mono ?_⟩
    rintro e w6 ⟨rfl, hB8⟩
    clear q0 q1 q2 q3 q4 q5 q6 q7 q8 q9 q10 q11
    gi_wp2
    have hB9 := bstep hB7 hB8
    exact ⟨Kept.of_new _ hB9, (hB9.block _ j1.lt).trans j1, bstep j2 hB9⟩
  case hdone =>
    rintro D X hD ⟨h1, h2⟩ hkX hdX
    have hc2 := h1.cell
    have hf2 := h1.frozen
    have hb2 := h1.set (.bool true)
    have hKX : Kept (fun k => k = w.heap.size) W5 (X.setCell ⟨w.heap.size, 0, none⟩ (.bool true)) := hkX.setCell (by dsimp only) _
    gi_wp2
    refine leave_marks [D] _ (by simp) (fun E hE => ?_) (fun W' hk' => ⟨.bool true, ?_, rfl, ?_⟩)
    · rw [List.mem_singleton.1 hE]
      exact (Below.heap_setCell _ _ _ _ (by dsimp only; omega)).trans hdX
    · have hb3 : Boxed W' w.heap.size 4 (.bool true) := (hk'.block _ hb2.lt (by simp; omega)).trans hb2
      have hc3 := hb3.cell
      simp [results, Try.results14, go_sem, hc3]
    · exact hB5.trans (((hKX.mono (T := fun k => w.heap.size ≤ k) (fun k _ h => by omega)).join hk' (T := fun k => k ∈ [D]) (fun k h1 h2 => by simp at h2; omega)).below (by omega) (fun k h => h))
  case hstop =>
    rintro D pre X hD hpre h1 hkX hdX
    exact h1.elim
end Go.Proofs.Ytomdbaokidphjaa
