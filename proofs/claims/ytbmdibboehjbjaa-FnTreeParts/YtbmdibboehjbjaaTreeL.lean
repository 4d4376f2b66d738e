/-
  What the specification draws for its law on parts of expressions, and that a part of an expression that is ok is ok.
-/
import Derived.Test.YtbmdibboehjbjaaTreeK
namespace Go.Proofs.Ytbmdibboehjbjaa
open Go.RowKit
set_option linter.unusedSimpArgs false
set_option linter.unusedVariables false

theorem Row.more {w w' : World} {sa : Option Addr} {len : Nat} (h : Row w.heap.size w sa len) (hb : Below w.heap.size w w') : Row w'.heap.size w' sa len := by
  rcases h with h | ⟨sb, so, rfl, hs, hr⟩
  · exact .inl h
  · refine .inr ⟨sb, so, rfl, Nat.lt_of_lt_of_le hs hb.size, fun i hi => ?_⟩
    obtain ⟨v, hv, h0, h1⟩ := hr i hi
    exact ⟨v, (hb.cell (p := ⟨sb, so + i, none⟩) hs).trans hv, h0, h1⟩
theorem Adv.toBelow {g n : Nat} {a b : World} (h : Adv g a b) (hn : n ≤ a.heap.size) (hg : n ≤ g) : Below n a b := ⟨h.os, h.tape, h.output, h.size, fun k hk => h.block k (by omega) (by omega)⟩

theorem nums3 (W : World) (t : TypeId) : ∀ i, i < 3 → ∃ x : Int, (W.alloc (.cells #[.int .i64 0, .int .i64 13, .int .i64 1] t)).cell? ⟨W.heap.size, i, none⟩ = some (.int .i64 x) ∧ 0 ≤ x ∧ x ≤ 13 := by
  intro i hi
  have h : i = 0 ∨ i = 1 ∨ i = 2 := by omega
  rcases h with rfl | rfl | rfl <;> exact ⟨_, (World.cell?_alloc_new W _ t _).trans rfl, by omega, by omega⟩

set_option maxRecDepth 10000 in
set_option maxHeartbeats 2000000 in
theorem drawExpr (sa : Option Addr) (len cap : Nat) (w : World) (hrow : Row w.heap.size w sa len) (hc : len ≤ cap) (hm : cap ≤ maxLen) :
    Calls Try.prog 9 #[.slice sa len cap] w fun e w' => ∃ t : XT, e = .returned t.val ∧ Good t ∧ t.size ≤ 128 ∧ Lies (fun b => w.heap.size ≤ b) w' t ∧ Below w.heap.size w w' := by
  go_enter Try.func9, Try.ntmps9
  go_wp2_with fail
  go_at_call 31
  obtain ⟨W1, hW1⟩ : ∃ W1, w.alloc (.cells #[.int .i64 0, .int .i64 0, .string ⟨#[]⟩, .slice none 0 0] 25) = W1 := ⟨_, rfl⟩
  have hB1 : Below w.heap.size w W1 := by rw [← hW1]; exact (Below.refl _ w).alloc (Nat.le_refl _) _
  have hT1 : RowAt W1 w.heap.size 4 25 := by rw [← hW1]; exact RowAt.new w _ _
  have hs1 : w.heap.size + 1 = W1.heap.size := by rw [← hW1]; simp
  rw [hW1]
  clear hW1
  refine (l19Open sa len cap W1 (hrow.more hB1) hc hm).mono ?_
  rintro e w2 ⟨len', rfl, hB2, hR2⟩
  have hl2 := hR2.lt
  have hT2 := hT1.of_block (hB2.block _ (by omega))
  have hbg : w.heap.size ≠ W1.heap.size := by omega
  have hB2' : Below w.heap.size w w2 := hB1.trans (hB2.mono (by omega))
  go_wp2_with fail
  go_at_call 33
  refine (pick _ _ sa len' cap 0 7 _ hR2 (by omega) (by omega) (by omega)).mono ?_
  rintro e w3 ⟨d, rfl, hd0, hd1, hA3, hR3⟩
  obtain ⟨dn, hdn⟩ := Int.eq_ofNat_of_zero_le hd0
  subst hdn
  have hT3 := hT2.of_block (hA3.block _ hT2.lt hbg)
  have hp : 2 ^ (dn + 1) ≤ 128 := Nat.le_trans (Nat.pow_le_pow_right (by omega) (by omega : dn + 1 ≤ 7)) (by decide)
  have hpi : (2 ^ (dn + 1) : Int) = ((2 ^ (dn + 1) : Nat) : Int) := by simp
  have hz3 := hA3.size
  go_wp2_with fail
  go_at_call 32
  refine (loose dn (by omega) _ _ sa len' cap (0 + 1) w3 hR3 (by rw [hpi]; omega)).mono ?_
  rintro e w4 ⟨t, k4, rfl, hGt, hst, hLt, hA4, hR4, hk4⟩
  rw [hpi] at hk4
  have hT4 := hT3.of_block (hA4.block _ hT3.lt hbg)
  have hz4 := hA4.size
  go_wp2_with fail
  go_at_call 33
  obtain ⟨W5, hW5⟩ : ∃ W5, w4.alloc (.cells #[.int .i64 t.kind, .int .i64 t.num, .string t.name, .slice t.base t.kids.length t.cap] 25) = W5 := ⟨_, rfl⟩
  have hs5 : w4.heap.size + 1 = W5.heap.size := by rw [← hW5]; simp
  have hB5 : Below w4.heap.size w4 W5 := by rw [← hW5]; exact (Below.refl _ _).alloc (Nat.le_refl _) _
  have hE5 : RowAt W5 w4.heap.size 4 25 := by rw [← hW5]; exact RowAt.new w4 _ _
  have hC5 : Cells4 W5 w4.heap.size 0 t := by rw [← hW5]; exact Cells4.new w4 t
  have hR5 := hR4.below hB5
  rw [hW5]
  clear hW5
  have hT5 := hT4.of_block (hB5.block _ hT4.lt)
  have hL5 : Lies (fun b => w3.heap.size ≤ b ∧ b < w4.heap.size) W5 t := (hLt.mono (ok' := fun b => w3.heap.size ≤ b ∧ b < w4.heap.size) (fun b hb hlt => ⟨⟨hb, hlt⟩, hB5.block b hlt⟩))
  have hz5 := hB5.size
  have hbe : w4.heap.size ≠ W1.heap.size := by omega
  refine (pick _ _ sa len' cap k4 8 W5 hR5 (by omega) (by omega) (by omega)).mono ?_
  rintro e w6 ⟨v8, rfl, hv0, hv1, hA6, hR6⟩
  have hz6 := hA6.size
  have hT6 := hT5.of_block (hA6.block _ hT5.lt hbg)
  have hE6 := hE5.of_block (hA6.block _ hE5.lt hbe)
  have hC6 : Cells4 w6 w4.heap.size 0 t := ⟨hA6.cell (p := ⟨w4.heap.size, _, none⟩) hbe hC5.c0, hA6.cell (p := ⟨w4.heap.size, _, none⟩) hbe hC5.c1, hA6.cell (p := ⟨w4.heap.size, _, none⟩) hbe hC5.c2, hA6.cell (p := ⟨w4.heap.size, _, none⟩) hbe hC5.c3⟩
  have hL6 := hL5.mono (ok' := fun b => w3.heap.size ≤ b ∧ b < w4.heap.size) (B := w6) (fun b hb hlt => ⟨hb, hA6.block b hlt (by omega)⟩)
  have hB6 : Below w.heap.size w w6 := (((hB2'.trans (hA3.toBelow (by omega) (by omega))).trans (hA4.toBelow (by omega) (by omega))).trans (hB5.mono (by omega))).trans (hA6.toBelow (by omega) (by omega))
  clear hA3 hA4 hA6 hB5 hB1 hB2 hB2' hR2 hR3 hR4 hR5 hT1 hT2 hT3 hT4 hT5 hE5 hC5 hL5 hLt hrow
  by_cases hv : v8 = 0
  · subst hv
    have hl6 := hR6.lt
    go_wp2_with fail
    go_at_call 34
    refine (num _ _ sa len' cap (k4 + 1) w6.heap.size 3 0 13 _ (hR6.alloc _) (by omega) (by omega) (by omega) (by omega) (nums3 w6 _)).mono ?_
    rintro e w7 ⟨x, rfl, hx0, hx1, hA7, hR7⟩
    have hz7 : w6.heap.size + 1 ≤ w7.heap.size := by have := hA7.size; rw [World.size_alloc] at this; exact this
    have hblk : ∀ b, b < w6.heap.size → b ≠ W1.heap.size → w7.heap[b]? = w6.heap[b]? := fun b hb hne => (hA7.block b (by rw [World.size_alloc]; omega) hne).trans (Below.heap_alloc _ _ _ hb)
    have hT7 := hT6.of_block (hblk _ hT6.lt hbg)
    have hE7 := hE6.of_block (hblk _ hE6.lt hbe)
    have hce : ∀ o v, w6.cell? ⟨w4.heap.size, o, none⟩ = some v → w7.cell? ⟨w4.heap.size, o, none⟩ = some v := fun o v h => (cell_of_block (a := ⟨w4.heap.size, o, none⟩) (hblk w4.heap.size hE6.lt hbe)).trans h
    have n0 := hce _ _ hC6.c0
    have n1 := hce _ _ hC6.c1
    have n2 := hce _ _ hC6.c2
    have n3 := hce _ _ hC6.c3
    have g0 := hE7.frozen 0
    obtain ⟨u0, q0⟩ := hT7.cell (o := 0) (by omega)
    obtain ⟨u1, q1⟩ := hT7.cell (o := 1) (by omega)
    obtain ⟨u2, q2⟩ := hT7.cell (o := 2) (by omega)
    obtain ⟨u3, q3⟩ := hT7.cell (o := 3) (by omega)
    have f0 := hT7.frozen 0
    have f1 := hT7.frozen 1
    have f2 := hT7.frozen 2
    have f3 := hT7.frozen 3
    have hL7 := hL6.mono (ok' := fun b => w3.heap.size ≤ b ∧ b < w4.heap.size) (B := w7) (fun b hb hlt => ⟨hb, hblk b hlt (by omega)⟩)
    have hB7 : Below w.heap.size w w7 := hB6.trans ⟨hA7.os, hA7.tape, hA7.output, by omega, fun b hb => hblk b (by omega) (by omega)⟩
    go_wp2
    first | go_returns | (refine bodyPost_ret (by simp [results, Try.results9, go_sem, *]; try rfl) rfl ?_)
    refine ⟨.mk x t.num t.name t.base t.cap t.kids, rfl, .mk _ hGt.name hGt.kid, by have := t.size_eq; simp only [XT.size]; omega, ?_, ?_⟩
    · refine .mk _ (fun j q hq => ?_) (fun j q hq => ?_)
      · obtain ⟨b, o, z1, z2, z3⟩ := hL7.cells j q hq
        refine ⟨b, o, z1, by omega, ?_⟩
        have z4 := z3.kept (S := fun b => b = w4.heap.size ∨ b = w.heap.size) (((((Kept.refl _ w7).setCell (p := ⟨w4.heap.size, 0, none⟩) (.inl rfl) (.int .i64 x)).setCell (p := ⟨w.heap.size, 0, none⟩) (.inr rfl) (.int .i64 x)).setCell (p := ⟨w.heap.size, 1, none⟩) (.inr rfl) (.int .i64 t.num)).setCell (p := ⟨w.heap.size, 2, none⟩) (.inr rfl) (.string t.name)) (by omega)
        exact z4.kept (S := fun b => b = w.heap.size) ((Kept.refl (fun b => b = w.heap.size) _).setCell (p := ⟨w.heap.size, 3, none⟩) rfl _) (by omega)
      · refine (hL7.kid j q hq).mono (fun b hb hlt => ⟨by omega, ?_⟩)
        exact (Below.heap_setCell _ _ _ _ (by dsimp only; omega)).trans ((Below.heap_setCell _ _ _ _ (by dsimp only; omega)).trans ((Below.heap_setCell _ _ _ _ (by dsimp only; omega)).trans ((Below.heap_setCell _ _ _ _ (by dsimp only; omega)).trans (Below.heap_setCell _ _ _ _ (by dsimp only; omega)))))
    · exact ((((hB7.setCell (p := ⟨w4.heap.size, 0, none⟩) (by dsimp only; omega) _).setCell (p := ⟨w.heap.size, 0, none⟩) (Nat.le_refl _) _).setCell (p := ⟨w.heap.size, 1, none⟩) (Nat.le_refl _) _).setCell (p := ⟨w.heap.size, 2, none⟩) (Nat.le_refl _) _).setCell (p := ⟨w.heap.size, 3, none⟩) (Nat.le_refl _) _
  · have hv' : (v8 == 0) = false := by simp [hv]
    have n0 := hC6.c0
    have n1 := hC6.c1
    have n2 := hC6.c2
    have n3 := hC6.c3
    obtain ⟨u0, q0⟩ := hT6.cell (o := 0) (by omega)
    obtain ⟨u1, q1⟩ := hT6.cell (o := 1) (by omega)
    obtain ⟨u2, q2⟩ := hT6.cell (o := 2) (by omega)
    obtain ⟨u3, q3⟩ := hT6.cell (o := 3) (by omega)
    have f0 := hT6.frozen 0
    have f1 := hT6.frozen 1
    have f2 := hT6.frozen 2
    have f3 := hT6.frozen 3
    go_wp2
    first | go_returns | (refine bodyPost_ret (by simp [results, Try.results9, go_sem, *]; try rfl) rfl ?_)
    refine ⟨t, rfl, hGt, by omega, hL6.mono (fun b hb hlt => ⟨by omega, ?_⟩), ?_⟩
    · exact (Below.heap_setCell _ _ _ _ (by dsimp only; omega)).trans ((Below.heap_setCell _ _ _ _ (by dsimp only; omega)).trans ((Below.heap_setCell _ _ _ _ (by dsimp only; omega)).trans (Below.heap_setCell _ _ _ _ (by dsimp only; omega))))
    · exact (((hB6.setCell (p := ⟨w.heap.size, 0, none⟩) (Nat.le_refl _) _).setCell (p := ⟨w.heap.size, 1, none⟩) (Nat.le_refl _) _).setCell (p := ⟨w.heap.size, 2, none⟩) (Nat.le_refl _) _).setCell (p := ⟨w.heap.size, 3, none⟩) (Nat.le_refl _) _

theorem fits_any (sz : Nat) : ∀ t : XT, t.size ≤ sz → ∀ d d' : Int, fitsA (t.parts d) = fitsA (t.parts d') := by
  induction sz with
  | zero => intro t h; rw [XT.size_eq] at h; omega
  | succ sz ih =>
    have hl : ∀ ks : List XT, XT.sizeAll ks ≤ sz → ∀ d d' : Int, fitsA (XT.partsAll ks d) = fitsA (XT.partsAll ks d') := by
      intro ks
      induction ks with
      | nil => intro _ d d'; rfl
      | cons x xs ihx =>
        intro h d d'
        simp only [XT.sizeAll] at h
        have h1 := ih x (by omega) d d'
        have h2 := ihx (by omega) d d'
        simp only [XT.partsAll, fitsA, List.all_append] at h1 h2 ⊢
        rw [h1, h2]
    intro t h d d'
    rw [XT.size_eq] at h
    have h1 := hl t.kids (by omega) (wrap64 (d + 1)) (wrap64 (d' + 1))
    rw [XT.parts_eq, XT.parts_eq]
    simp only [fitsA, List.all_cons] at h1 ⊢
    rw [h1]
theorem okI_iff (t : XT) (h : t.size ≤ 1099511627776) : t.okI = true ↔ t.depth ≤ 6 ∧ fitsA (t.parts 1) = true ∧ t.size ≤ 160 := by
  have hd := XT.depth_le _ t (Nat.le_refl _)
  have hp := XT.depth_parts _ t (Nat.le_refl _) 1 6 (by omega) (by omega)
  rw [XT.okI, all_good]
  simp only [Bool.and_eq_true, decide_eq_true_eq, hp]
  constructor
  · rintro ⟨⟨a, b⟩, c⟩; exact ⟨by omega, b, c⟩
  · rintro ⟨a, b, c⟩; exact ⟨⟨by omega, b⟩, c⟩
theorem depthAll_get {ks : List XT} {i : Nat} {t : XT} (h : ks[i]? = some t) : t.depth ≤ XT.depthAll ks := by
  induction ks generalizing i with
  | nil => simp at h
  | cons x xs ih =>
    cases i with
    | zero => simp at h; subst h; simp only [XT.depthAll]; omega
    | succ i => simp at h; have := ih h; simp only [XT.depthAll]; omega
theorem parts_mem {ks : List XT} {i : Nat} {t : XT} (h : ks[i]? = some t) (d : Int) : ∀ x ∈ t.parts d, x ∈ XT.partsAll ks d := by
  induction ks generalizing i with
  | nil => simp at h
  | cons y ys ih =>
    intro x hx
    simp only [XT.partsAll, List.mem_append]
    cases i with
    | zero => simp at h; subst h; exact .inl hx
    | succ i => simp at h; exact .inr (ih h x hx)
theorem okI_part {t k : XT} {i : Nat} (hsz : t.size ≤ 1099511627776) (h : t.okI = true) (hk : t.kids[i]? = some k) : k.okI = true := by
  have h1 := XT.size_get hk
  have h2 := t.size_eq
  obtain ⟨a, b, c⟩ := (okI_iff t hsz).1 h
  refine (okI_iff k (by omega)).2 ⟨?_, ?_, by omega⟩
  · have h3 := depthAll_get hk
    have h4 := t.depth_eq
    omega
  · rw [fits_any _ k (Nat.le_refl _) 1 (wrap64 (1 + 1))]
    rw [XT.parts_eq] at b
    simp only [fitsA, List.all_cons, Bool.and_eq_true] at b
    simp only [fitsA, List.all_eq_true]
    intro x hx
    exact List.all_eq_true.1 b.2 x (parts_mem hk _ x hx)
end Go.Proofs.Ytbmdibboehjbjaa
