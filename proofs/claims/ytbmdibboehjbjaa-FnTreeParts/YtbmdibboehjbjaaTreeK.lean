/-
  What the specification draws as an expression: one of at most 255 parts, in new memory, whatever the bytes are from which it draws.
-/
import Derived.Test.YtbmdibboehjbjaaTreeI
import Derived.Test.YtbmdibboehjbjaaKitB
import Derived.Deep.AppendLies
import Derived.Deep.RegionLaw
namespace Go.Proofs.Ytbmdibboehjbjaa
open Go.RowKit
set_option linter.unusedSimpArgs false
set_option linter.unusedVariables false

set_option maxHeartbeats 1000000 in
theorem ofS (B g : Nat) (sa : Option Addr) (len cap : Nat) (k : Int) (L m : Nat) (w : World) (R : Rd B g sa len cap k w) (hk : k ≤ 1000000) (hm : 1 ≤ m) (hm2 : m ≤ 1000) (hL : ¬ L = g)
    (hcells : ∀ i, i < m → ∃ s : ByteArray, w.cell? ⟨L, i, none⟩ = some (.string s) ∧ s.size ≤ 1048576) :
    Calls Try.prog 82 #[.pointer (some ⟨g, 0, none⟩), .slice (some ⟨L, 0, none⟩) m m] w fun e w' => ∃ s : ByteArray, e = .returned (.string s) ∧ s.size ≤ 1048576 ∧ Adv g w w' ∧ Rd B g sa len cap (k + 1) w' := by
  have HC : Hid (∀ i, i < m → ∃ s : ByteArray, w.cell? ⟨L, i, none⟩ = some (.string s) ∧ s.size ≤ 1048576) := hcells
  clear hcells
  go_enter Try.func82, Try.ntmps82
  go_wp2_with fail
  go_at_call 33
  refine (pick B g sa len cap k m w R hk (by omega) (by omega)).mono ?_
  rintro e w1 ⟨v, rfl, hv0, hv1, hA, hR⟩
  obtain ⟨s, hx, hs⟩ := HC.out v.toNat (by omega)
  have hx' := hA.cell (p := ⟨L, v.toNat, none⟩) hL hx
  go_wp2
  go_returns
  exact ⟨s, rfl, hs, hA, hR⟩
theorem strs6 (W : World) (t : TypeId) : ∀ i, i < 6 → ∃ s : ByteArray, (W.alloc (.cells #[.string ⟨#[120]⟩, .string ⟨#[121]⟩, .string ⟨#[97]⟩, .string ⟨#[110]⟩, .string ⟨#[115, 101, 116]⟩, .string ⟨#[]⟩] t)).cell? ⟨W.heap.size, i, none⟩ = some (.string s) ∧ s.size ≤ 1048576 := by
  intro i hi
  have h : i = 0 ∨ i = 1 ∨ i = 2 ∨ i = 3 ∨ i = 4 ∨ i = 5 := by omega
  rcases h with rfl | rfl | rfl | rfl | rfl | rfl <;> exact ⟨_, (World.cell?_alloc_new W _ t _).trans rfl, by decide⟩
theorem strs3 (W : World) (t : TypeId) : ∀ i, i < 3 → ∃ s : ByteArray, (W.alloc (.cells #[.string ⟨#[97]⟩, .string ⟨#[98]⟩, .string ⟨#[120]⟩] t)).cell? ⟨W.heap.size, i, none⟩ = some (.string s) ∧ s.size ≤ 1048576 := by
  intro i hi
  have h : i = 0 ∨ i = 1 ∨ i = 2 := by omega
  rcases h with rfl | rfl | rfl <;> exact ⟨_, (World.cell?_alloc_new W _ t _).trans rfl, by decide⟩

def four (t : XT) : List Value := [.int .i64 t.kind, .int .i64 t.num, .string t.name, .slice t.base t.kids.length t.cap]
def flat (ts : List XT) : List Value := ts.flatMap four
theorem flat_length (ts : List XT) : (flat ts).length = ts.length * 4 := by
  induction ts with
  | nil => rfl
  | cons x xs ih => simp [flat, four] at ih ⊢; omega
theorem flat_get : ∀ (ts : List XT) (i : Nat) (t : XT), ts[i]? = some t → ∀ r, r < 4 → (flat ts)[i * 4 + r]? = (four t)[r]?
  | [], i, t, h, _, _ => by simp at h
  | x :: xs, 0, t, h, r, hr => by
    simp at h
    subst h
    have : flat (x :: xs) = four x ++ flat xs := by simp [flat]
    rw [this, List.getElem?_append_left (by simp [four]; omega)]
    simp
  | x :: xs, i + 1, t, h, r, hr => by
    have h1 : flat (x :: xs) = four x ++ flat xs := by simp [flat]
    have h2 : (four x).length = 4 := rfl
    rw [h1, List.getElem?_append_right (by omega), h2]
    have h3 := flat_get xs i t (by simpa using h) r hr
    rw [← h3]
    congr 1
    omega
theorem row_cells {W : World} {base : Nat} {g cap : Nat} {ts : List XT} {n : Nat} (h : W.ownsRow base 25 4 (.slice (some ⟨g, 0, none⟩) n cap) n (flat ts)) : ∀ (i : Nat) (t : XT), ts[i]? = some t → Cells4 W g (0 + i * 4) t := by
  intro i t ht
  obtain ⟨hl, h2⟩ := h
  rcases h2 with ⟨hv, hn⟩ | ⟨g', cap', cur, hv, hb, hg, hc, hm, hsz, htake⟩
  · cases hv
  · cases hv
    have hi : i < ts.length := (List.getElem?_eq_some_iff.1 ht).1
    have hfl := flat_length ts
    have hcell : ∀ r, r < 4 → W.cell? ⟨g, 0 + i * 4 + r, none⟩ = (four t)[r]? := by
      intro r hr
      rw [← flat_get ts i t ht r hr, ← htake, List.getElem?_take_of_lt (by omega), Nat.zero_add]
      simp [World.cell?, hg]
    exact ⟨hcell 0 (by omega), hcell 1 (by omega), hcell 2 (by omega), hcell 3 (by omega)⟩
theorem calloc {W : World} {a : Addr} {v : Value} (h : W.cell? a = some v) (o : Obj) : (W.alloc o).cell? a = some v := (World.cell?_alloc_lt _ _ _ (World.block_lt_of_cell? W a h)).trans h
theorem flat_snoc (ts : List XT) (t : XT) : flat (ts ++ [t]) = flat ts ++ four t := by simp [flat]
theorem own_of_block {A C : World} {base : Nat} {e : TypeId} {size n : Nat} {v : Value} {xs : List Value} (h : A.ownsRow base e size v n xs) (hb : ∀ g, v.ownBlock = some g → C.heap[g]? = A.heap[g]?) : C.ownsRow base e size v n xs := by
  obtain ⟨hl, h2⟩ := h
  refine ⟨hl, ?_⟩
  rcases h2 with h2 | ⟨g, cap, cur, rfl, h3, h4, h5⟩
  · exact .inl h2
  · exact .inr ⟨g, cap, cur, rfl, h3, (hb g rfl).trans h4, h5⟩
theorem own_block_ge {A : World} {base : Nat} {e : TypeId} {size n : Nat} {v : Value} {xs : List Value} (h : A.ownsRow base e size v n xs) {g : Nat} (hg : v.ownBlock = some g) : base ≤ g ∧ g < A.heap.size := by
  obtain ⟨hl, h2⟩ := h
  rcases h2 with ⟨rfl, -⟩ | ⟨g', cap, cur, rfl, h3, h4, h5⟩
  · simp [Value.ownBlock] at hg
  · simp [Value.ownBlock] at hg
    subst hg
    exact ⟨h3, (Array.getElem?_eq_some_iff.1 h4).1⟩
theorem Rd.grown {B g : Nat} {sa : Option Addr} {len cap : Nat} {k : Int} {A C : World} {row : Option Nat} (R : Rd B g sa len cap k A) (h : A.grownBy C row) (hr : ∀ r, row = some r → B ≤ r ∧ r ≠ g) : Rd B g sa len cap k C := by
  have hgl := R.lt
  have hb : C.heap[g]? = A.heap[g]? := h.block g hgl (fun e => (hr g e.symm).2 rfl)
  refine ⟨(cell_of_block (a := ⟨g, 0, none⟩) hb).trans R.code, (cell_of_block (a := ⟨g, 1, none⟩) hb).trans R.pos, (frozen_of_block (a := ⟨g, 1, none⟩) hb).trans R.free, R.k0, R.lim, ?_, R.hB⟩
  have hBg := R.hB
  rcases R.row with h0 | ⟨sb, so, rfl, hs, hr'⟩
  · exact .inl h0
  · refine .inr ⟨sb, so, rfl, hs, fun i hi => ?_⟩
    obtain ⟨v, hv, h0, h1⟩ := hr' i hi
    exact ⟨v, (cell_of_block (a := ⟨sb, so + i, none⟩) (h.block sb (by omega) (fun e => by have := (hr sb e.symm).1; omega))).trans hv, h0, h1⟩
theorem Adv.grown {g : Nat} {w A C : World} {row : Option Nat} (h : Adv g w A) (k : A.grownBy C row) (hr : ∀ r, row = some r → w.heap.size ≤ r) : Adv g w C :=
  ⟨k.os.trans h.os, k.tape.trans h.tape, k.output.trans h.output, Nat.le_trans h.size k.size, fun i hi hg => (k.block i (Nat.lt_of_lt_of_le hi h.size) (fun e => by have := hr i e.symm; omega)).trans (h.block i hi hg)⟩
theorem news_four (W : World) (t : XT) (T : TypeId) : ∀ (j : Nat) (u : Value), (four t)[j]? = some u → (W.alloc (.cells #[.int .i64 t.kind, .int .i64 t.num, .string t.name, .slice t.base t.kids.length t.cap] T)).cell? (Addr.add ⟨W.heap.size, 0, none⟩ j) = some u := by
  intro j u hu
  have h1 : Addr.add ⟨W.heap.size, 0, none⟩ j = ⟨W.heap.size, j, none⟩ := by
    unfold Addr.add
    split
    · simp_all
    · simp
  rw [h1, World.cell?_alloc_new]
  have h2 : (#[.int .i64 t.kind, .int .i64 t.num, .string t.name, .slice t.base t.kids.length t.cap] : Array Value)[j]? = (four t)[j]? := by simp [four]
  rw [h2, hu]
theorem sizeAll_bound (ts : List XT) (m : Nat) (h : ∀ (j : Nat) (t : XT), ts[j]? = some t → t.size + 1 ≤ m) : XT.sizeAll ts ≤ ts.length * (m - 1) := by
  induction ts with
  | nil => simp [XT.sizeAll]
  | cons x xs ih =>
    have h1 := h 0 x rfl
    have h2 := ih (fun j t ht => h (j + 1) t (by simpa using ht))
    simp only [XT.sizeAll, List.length_cons, Nat.add_mul]
    omega
theorem good0 (k n : Int) (s : ByteArray) (a : Option Addr) (c : Nat) (hs : s.size ≤ 1048576) : Good (.mk k n s a c []) := .mk _ hs (fun i q hq => by simp [XT.kids] at hq)
theorem lies0 {ok : Nat → Prop} {W : World} (k n : Int) (s : ByteArray) (a : Option Addr) (c : Nat) : Lies ok W (.mk k n s a c []) := .mk _ (fun i q hq => by simp [XT.kids] at hq) (fun i q hq => by simp [XT.kids] at hq)
set_option maxRecDepth 10000 in
set_option maxHeartbeats 1000000 in
theorem loose (deep : Nat) : deep ≤ 6 → ∀ (B g : Nat) (sa : Option Addr) (len cap : Nat) (k : Int) (w : World), Rd B g sa len cap k w → k + 4 * 2 ^ (deep + 1) ≤ 60000 →
    Calls Try.prog 32 #[.pointer (some ⟨g, 0, none⟩), .int .i64 deep] w fun e w' => ∃ (t : XT) (k' : Int), e = .returned t.val ∧ Good t ∧ t.size + 1 ≤ 2 ^ (deep + 1) ∧ Lies (fun b => w.heap.size ≤ b) w' t ∧ Adv g w w' ∧ Rd B g sa len cap k' w' ∧ k' + 4 ≤ k + 4 * 2 ^ (deep + 1) := by
  induction deep with
  | zero =>
    intro _ B g sa len cap k w hR hk
    have hg := hR.lt
    have hBg := hR.hB
    have hbg : w.heap.size ≠ g := by omega
    have hRc := hR.alloc (.cells #[.int .i64 0, .int .i64 0, .string ⟨#[]⟩, .slice none 0 0] 25)
    have hAc : Adv g w (w.alloc (.cells #[.int .i64 0, .int .i64 0, .string ⟨#[]⟩, .slice none 0 0] 25)) := (Adv.refl g w).alloc _
    have hTc : RowAt (w.alloc (.cells #[.int .i64 0, .int .i64 0, .string ⟨#[]⟩, .slice none 0 0] 25)) w.heap.size 4 25 := RowAt.new w _ _
    go_enter Try.func32, Try.ntmps32
    go_wp2_with fail
    go_at_call 33
    refine (pick B g sa len cap (k) 2 _ hRc (by omega) (by omega) (by omega)).mono ?_
    rintro e w1 ⟨v, rfl, hv0, hv1, hA1, hR1⟩
    have hAw1 := hAc.trans hA1
    have hT1 := hTc.of_block (hA1.block _ hTc.lt hbg)
    by_cases hv : v = 0
    · subst hv
      go_wp2_with fail
      go_at_call 81
      refine (l1Num B g sa len cap (k + 1) w1 hR1 (by omega)).mono ?_
      rintro e w2 ⟨x, rfl, hx0, hx1, hA2, hR2⟩
      have hAw2 := hAw1.trans hA2
      have hT2 := hT1.of_block (hA2.block _ hT1.lt hbg)
      have hz2 := hT2.lt
      obtain ⟨u0, q0⟩ := hT2.cell (o := 0) (by omega)
      obtain ⟨u1, q1⟩ := hT2.cell (o := 1) (by omega)
      obtain ⟨u2, q2⟩ := hT2.cell (o := 2) (by omega)
      obtain ⟨u3, q3⟩ := hT2.cell (o := 3) (by omega)
      have f0 := hT2.frozen 0
      have f1 := hT2.frozen 1
      have f2 := hT2.frozen 2
      have f3 := hT2.frozen 3
      go_wp2
      first | go_returns | (refine bodyPost_ret (by simp [results, Try.results32, go_sem, *]; try rfl) rfl ?_)
      refine ⟨.mk 1 x ⟨#[]⟩ none 0 [], k + 1 + 1 + 1, rfl, good0 _ _ _ _ _ (by decide), by simp [XT.size, XT.sizeAll]; try omega, lies0 _ _ _ _ _, ?_, ?_, by omega⟩
      · repeat' (first | (with_reducible assumption) | (with_reducible refine Adv.alloc ?_ _) | (with_reducible refine Adv.drew ?_) | (with_reducible refine Adv.setNew ?_ ?_ _) | (dsimp only; omega))
      · repeat' (first | (with_reducible assumption) | (with_reducible refine Rd.alloc ?_ _) | (with_reducible refine Rd.drew ?_) | (with_reducible refine Rd.set ?_ ?_ ?_ _) | (dsimp only; omega))
    · have hv' : (v == 0) = false := by simp [hv]
      go_wp2_with fail
      go_at_call 82
      have hl1 := hR1.lt
      refine (ofS B g sa len cap (k + 1) w1.heap.size 6 _ (hR1.alloc _) (by omega) (by omega) (by omega) (by omega) (strs6 w1 _)).mono ?_
      rintro e w2 ⟨s, rfl, hs, hA2, hR2⟩
      have hAw2 := (hAw1.alloc _).trans hA2
      have hT2 := (hT1.of_block (Below.heap_alloc _ _ _ hT1.lt)).of_block (hA2.block _ (by rw [World.size_alloc]; have := hT1.lt; omega) hbg)
      have hz2 := hT2.lt
      obtain ⟨u0, q0⟩ := hT2.cell (o := 0) (by omega)
      obtain ⟨u1, q1⟩ := hT2.cell (o := 1) (by omega)
      obtain ⟨u2, q2⟩ := hT2.cell (o := 2) (by omega)
      obtain ⟨u3, q3⟩ := hT2.cell (o := 3) (by omega)
      have f0 := hT2.frozen 0
      have f1 := hT2.frozen 1
      have f2 := hT2.frozen 2
      have f3 := hT2.frozen 3
      go_wp2
      first | go_returns | (refine bodyPost_ret (by simp [results, Try.results32, go_sem, *]; try rfl) rfl ?_)
      refine ⟨.mk 2 0 s none 0 [], k + 1 + 1, rfl, good0 _ _ _ _ _ hs, by simp [XT.size, XT.sizeAll]; try omega, lies0 _ _ _ _ _, ?_, ?_, by omega⟩
      · repeat' (first | (with_reducible assumption) | (with_reducible refine Adv.alloc ?_ _) | (with_reducible refine Adv.drew ?_) | (with_reducible refine Adv.setNew ?_ ?_ _) | (dsimp only; omega))
      · repeat' (first | (with_reducible assumption) | (with_reducible refine Rd.alloc ?_ _) | (with_reducible refine Rd.drew ?_) | (with_reducible refine Rd.set ?_ ?_ ?_ _) | (dsimp only; omega))
  | succ deep ih =>
    intro hdeep B g sa len cap k w hR hk
    have ih' := ih (by omega)
    clear ih
    have hpow : 2 ^ (deep + 1 + 1) = 2 * 2 ^ (deep + 1) := by rw [Nat.pow_succ]; omega
    have hp1 : 2 ≤ 2 ^ (deep + 1) := by rw [Nat.pow_succ]; have := Nat.one_le_two_pow (n := deep); omega
    have hp2 : 2 ^ (deep + 1) ≤ 64 := Nat.le_trans (Nat.pow_le_pow_right (by omega) (by omega : deep + 1 ≤ 6)) (by decide)
    have hpz : (2 ^ (deep + 1 + 1) : Int) = ((2 ^ (deep + 1 + 1) : Nat) : Int) := by simp
    rw [hpz, hpow] at hk ⊢
    clear hpow hpz
    have hpi : (2 ^ (deep + 1) : Int) = ((2 ^ (deep + 1) : Nat) : Int) := by simp
    rw [hpi] at ih'
    clear hpi
    obtain ⟨m, hm⟩ : ∃ m, 2 ^ (deep + 1) = m := ⟨_, rfl⟩
    rw [hm] at hp1 hp2 ih' hk ⊢
    clear hm
    have hg := hR.lt
    have hBg := hR.hB
    have hbg : w.heap.size ≠ g := by omega
    have hR0 := hR.alloc (.cells #[.int .i64 0, .int .i64 0, .string ⟨#[]⟩, .slice none 0 0] 25)
    have hA0 : Adv g w (w.alloc (.cells #[.int .i64 0, .int .i64 0, .string ⟨#[]⟩, .slice none 0 0] 25)) := (Adv.refl g w).alloc _
    have hT0 : RowAt (w.alloc (.cells #[.int .i64 0, .int .i64 0, .string ⟨#[]⟩, .slice none 0 0] 25)) w.heap.size 4 25 := RowAt.new w _ _
    go_enter Try.func32, Try.ntmps32
    go_wp2_with fail
    go_at_call 33
    refine (pick B g sa len cap k 3 _ hR0 (by omega) (by omega) (by omega)).mono ?_
    rintro e w0 ⟨v0, rfl, hv00, hv01, hA00, hRc⟩
    have hAc := hA0.trans hA00
    have hTc := hT0.of_block (hA00.block _ hT0.lt hbg)
    clear hR0 hA0 hT0
    by_cases hv3 : v0 = 0
    · subst hv3
      go_wp2_with fail
      go_at_call 33
      refine (pick B g sa len cap (k + 1) 2 _ hRc (by omega) (by omega) (by omega)).mono ?_
      rintro e w1 ⟨v, rfl, hv0, hv1, hA1, hR1⟩
      have hAw1 := hAc.trans hA1
      have hT1 := hTc.of_block (hA1.block _ hTc.lt hbg)
      by_cases hv : v = 0
      · subst hv
        go_wp2_with fail
        go_at_call 81
        refine (l1Num B g sa len cap (k + 1 + 1) w1 hR1 (by omega)).mono ?_
        rintro e w2 ⟨x, rfl, hx0, hx1, hA2, hR2⟩
        have hAw2 := hAw1.trans hA2
        have hT2 := hT1.of_block (hA2.block _ hT1.lt hbg)
        have hz2 := hT2.lt
        obtain ⟨u0, q0⟩ := hT2.cell (o := 0) (by omega)
        obtain ⟨u1, q1⟩ := hT2.cell (o := 1) (by omega)
        obtain ⟨u2, q2⟩ := hT2.cell (o := 2) (by omega)
        obtain ⟨u3, q3⟩ := hT2.cell (o := 3) (by omega)
        have f0 := hT2.frozen 0
        have f1 := hT2.frozen 1
        have f2 := hT2.frozen 2
        have f3 := hT2.frozen 3
        go_wp2
        first | go_returns | (refine bodyPost_ret (by simp [results, Try.results32, go_sem, *]; try rfl) rfl ?_)
        refine ⟨.mk 1 x ⟨#[]⟩ none 0 [], k + 1 + 1 + 1 + 1, rfl, good0 _ _ _ _ _ (by decide), by simp [XT.size, XT.sizeAll]; try omega, lies0 _ _ _ _ _, ?_, ?_, by omega⟩
        · repeat' (first | (with_reducible assumption) | (with_reducible refine Adv.alloc ?_ _) | (with_reducible refine Adv.drew ?_) | (with_reducible refine Adv.setNew ?_ ?_ _) | (dsimp only; omega))
        · repeat' (first | (with_reducible assumption) | (with_reducible refine Rd.alloc ?_ _) | (with_reducible refine Rd.drew ?_) | (with_reducible refine Rd.set ?_ ?_ ?_ _) | (dsimp only; omega))
      · have hv' : (v == 0) = false := by simp [hv]
        go_wp2_with fail
        go_at_call 82
        have hl1 := hR1.lt
        refine (ofS B g sa len cap (k + 1 + 1) w1.heap.size 6 _ (hR1.alloc _) (by omega) (by omega) (by omega) (by omega) (strs6 w1 _)).mono ?_
        rintro e w2 ⟨s, rfl, hs, hA2, hR2⟩
        have hAw2 := (hAw1.alloc _).trans hA2
        have hT2 := (hT1.of_block (Below.heap_alloc _ _ _ hT1.lt)).of_block (hA2.block _ (by rw [World.size_alloc]; have := hT1.lt; omega) hbg)
        have hz2 := hT2.lt
        obtain ⟨u0, q0⟩ := hT2.cell (o := 0) (by omega)
        obtain ⟨u1, q1⟩ := hT2.cell (o := 1) (by omega)
        obtain ⟨u2, q2⟩ := hT2.cell (o := 2) (by omega)
        obtain ⟨u3, q3⟩ := hT2.cell (o := 3) (by omega)
        have f0 := hT2.frozen 0
        have f1 := hT2.frozen 1
        have f2 := hT2.frozen 2
        have f3 := hT2.frozen 3
        go_wp2
        first | go_returns | (refine bodyPost_ret (by simp [results, Try.results32, go_sem, *]; try rfl) rfl ?_)
        refine ⟨.mk 2 0 s none 0 [], k + 1 + 1 + 1, rfl, good0 _ _ _ _ _ hs, by simp [XT.size, XT.sizeAll]; try omega, lies0 _ _ _ _ _, ?_, ?_, by omega⟩
        · repeat' (first | (with_reducible assumption) | (with_reducible refine Adv.alloc ?_ _) | (with_reducible refine Adv.drew ?_) | (with_reducible refine Adv.setNew ?_ ?_ _) | (dsimp only; omega))
        · repeat' (first | (with_reducible assumption) | (with_reducible refine Rd.alloc ?_ _) | (with_reducible refine Rd.drew ?_) | (with_reducible refine Rd.set ?_ ?_ ?_ _) | (dsimp only; omega))
    · have hv3' : (v0 == 0) = false := by simp [hv3]
      go_wp2_with fail
      go_at_call 33
      refine (pick B g sa len cap (k + 1) 11 _ hRc (by omega) (by omega) (by omega)).mono ?_
      rintro e w1 ⟨v, rfl, hv0, hv1, hA1, hR1⟩
      have hAw1 := hAc.trans hA1
      have hT1 := hTc.of_block (hA1.block _ hTc.lt hbg)
      clear hAc hTc hRc hA00 hA1
      go_upto_if 31 with fail
      have hl1 := hR1.lt
      have hs1 := hAw1.size
      have hbe : w1.heap.size ≠ g := by omega
      have hbr1 := hT1.lt
      have hT2 : RowAt (w1.alloc (.cells #[.int .i64 (3 + v), .int .i64 0, .string ⟨#[]⟩, .slice none 0 0] 25)) w.heap.size 4 25 := hT1.of_block (Below.heap_alloc _ _ _ hT1.lt)
      have hE2 : RowAt (w1.alloc (.cells #[.int .i64 (3 + v), .int .i64 0, .string ⟨#[]⟩, .slice none 0 0] 25)) w1.heap.size 4 25 := RowAt.new w1 _ _
      have hR2 := hR1.alloc (.cells #[.int .i64 (3 + v), .int .i64 0, .string ⟨#[]⟩, .slice none 0 0] 25)
      have hA2 : Adv g w (w1.alloc (.cells #[.int .i64 (3 + v), .int .i64 0, .string ⟨#[]⟩, .slice none 0 0] 25)) := hAw1.alloc _
      have c0 : (w1.alloc (.cells #[.int .i64 (3 + v), .int .i64 0, .string ⟨#[]⟩, .slice none 0 0] 25)).cell? ⟨w1.heap.size, 0, none⟩ = some (.int .i64 (3 + v)) := World.cell?_alloc_new w1 _ _ 0
      have c1 : (w1.alloc (.cells #[.int .i64 (3 + v), .int .i64 0, .string ⟨#[]⟩, .slice none 0 0] 25)).cell? ⟨w1.heap.size, 1, none⟩ = some (.int .i64 0) := World.cell?_alloc_new w1 _ _ 1
      have c2 : (w1.alloc (.cells #[.int .i64 (3 + v), .int .i64 0, .string ⟨#[]⟩, .slice none 0 0] 25)).cell? ⟨w1.heap.size, 2, none⟩ = some (.string ⟨#[]⟩) := World.cell?_alloc_new w1 _ _ 2
      have c3 : (w1.alloc (.cells #[.int .i64 (3 + v), .int .i64 0, .string ⟨#[]⟩, .slice none 0 0] 25)).cell? ⟨w1.heap.size, 3, none⟩ = some (.slice none 0 0) := World.cell?_alloc_new w1 _ _ 3
      obtain ⟨W2, hW2⟩ : ∃ W2, w1.alloc (.cells #[.int .i64 (3 + v), .int .i64 0, .string ⟨#[]⟩, .slice none 0 0] 25) = W2 := ⟨_, rfl⟩
      have hs2 : w1.heap.size + 1 = W2.heap.size := by rw [← hW2]; simp
      rw [hW2] at hT2 hE2 hR2 hA2 c0 c1 c2 c3 ⊢
      clear hW2 hT1 hAw1 hR1
      go_cut [] (fun wx => ∃ (s : ByteArray) (k2 : Int), s.size ≤ 1048576 ∧ RowAt wx w1.heap.size 4 25 ∧ wx.cell? ⟨w1.heap.size, 0, none⟩ = some (.int .i64 (3 + v)) ∧ wx.cell? ⟨w1.heap.size, 1, none⟩ = some (.int .i64 0) ∧ wx.cell? ⟨w1.heap.size, 2, none⟩ = some (.string s) ∧ wx.cell? ⟨w1.heap.size, 3, none⟩ = some (.slice none 0 0) ∧ RowAt wx w.heap.size 4 25 ∧ Adv g w wx ∧ Rd B g sa len cap k2 wx ∧ k2 ≤ k + 3)
      case first =>
        by_cases hv9 : v = 0
        · have h33 : (3 + v == 3) = true := by simp [hv9]
          clear hv9
          go_wp2_with fail
          go_at_call 82
          refine (ofS B g sa len cap (k + 1 + 1) W2.heap.size 3 _ (hR2.alloc _) (by omega) (by omega) (by omega) (by omega) (strs3 W2 _)).mono ?_
          rintro e w3 ⟨s, rfl, hs, hA3, hR3⟩
          have hE3 := (hE2.of_block (Below.heap_alloc _ _ _ hE2.lt)).of_block (hA3.block _ (by rw [World.size_alloc]; omega) hbe)
          have hT3 := (hT2.of_block (Below.heap_alloc _ _ _ hT2.lt)).of_block (hA3.block _ (by rw [World.size_alloc]; omega) hbg)
          have d0 := hA3.cell (p := ⟨w1.heap.size, 0, none⟩) hbe (calloc c0 _)
          have d1 := hA3.cell (p := ⟨w1.heap.size, 1, none⟩) hbe (calloc c1 _)
          have d2 := hA3.cell (p := ⟨w1.heap.size, 2, none⟩) hbe (calloc c2 _)
          have d3 := hA3.cell (p := ⟨w1.heap.size, 3, none⟩) hbe (calloc c3 _)
          have f2 := hE3.frozen 2
          have hA3w := (hA2.alloc _).trans hA3
          go_wp2_with fail
          go_meet
          case rel =>
            refine ⟨s, k + 1 + 1 + 1, hs, hE3.set 2 _, (set_far (by omega) _).trans d0, (set_far (by omega) _).trans d1, hE3.put (by omega) _, (set_far (by omega) _).trans d3, hT3.of_block (Below.heap_setCell _ _ _ _ (by dsimp only; omega)), ?_, ?_, by omega⟩
            · repeat' (first | (with_reducible assumption) | (with_reducible refine Adv.alloc ?_ _) | (with_reducible refine Adv.drew ?_) | (with_reducible refine Adv.setNew ?_ ?_ _) | (dsimp only; omega))
            · repeat' (first | (with_reducible assumption) | (with_reducible refine Rd.alloc ?_ _) | (with_reducible refine Rd.drew ?_) | (with_reducible refine Rd.set ?_ ?_ ?_ _) | (dsimp only; omega))
        · have h33 : (3 + v == 3) = false := by simp; omega
          clear hv9
          go_wp2_with fail
          go_meet
          case rel => exact ⟨⟨#[]⟩, k + 1 + 1, by decide, hE2, c0, c1, c2, c3, hT2, hA2, hR2, by omega⟩
      case rest =>
        clear c0 c1 c2 c3 hE2 hT2 hR2 hA2
        obtain ⟨s, k2, hs, hE, c0, c1, c2, c3, hT, hA, hR2, hk2⟩ := hcut
        go_wp2_with (go_at_call 83; refine (l2Kids _ _).mono ?_; rintro e w4 ⟨rfl, hw4⟩; subst w4)
        obtain ⟨i0, hi0, hz0, hz1, hz2⟩ := info_parts infoE
        have hkn : kidsN (3 + v) ≤ 2 := by unfold kidsN; (repeat' split) <;> omega
        obtain ⟨kn, hkn'⟩ : ∃ kn, kidsN (3 + v) = kn := ⟨_, rfl⟩
        rw [hkn'] at hkn ⊢
        go_loopw [7] (fun v7 wr => ∃ (i : Int) (ts : List XT) (vv : Value) (k3 : Int), v7 = .int .i64 i ∧ ts.length + i.toNat ≤ 2 ∧ RowAt wr w1.heap.size 4 25 ∧ wr.cell? ⟨w1.heap.size, 0, none⟩ = some (.int .i64 (3 + v)) ∧ wr.cell? ⟨w1.heap.size, 1, none⟩ = some (.int .i64 0) ∧ wr.cell? ⟨w1.heap.size, 2, none⟩ = some (.string s) ∧ wr.cell? ⟨w1.heap.size, 3, none⟩ = some vv ∧ RowAt wr w.heap.size 4 25 ∧ wr.ownsRow (w1.heap.size + 1) 25 4 vv ts.length (flat ts) ∧
            (∀ (j : Nat) (t : XT), ts[j]? = some t → Good t ∧ t.size + 1 ≤ m ∧ Lies (fun b => w1.heap.size < b ∧ vv.ownBlock ≠ some b) wr t) ∧ Adv g w wr ∧ Rd B g sa len cap k3 wr ∧ k3 ≤ k + 3 + ((ts.length * (4 * m - 4) : Nat) : Int)) (fun v7 _ => (intOf v7).toNat)
        case atStart => exact ⟨kn, [], .slice none 0 0, k2, rfl, by simp; omega, hE, c0, c1, c2, c3, hT, ⟨by simp [flat], .inl ⟨rfl, rfl⟩⟩, fun j t h => by simp at h, hA, hR2, by simp; omega⟩
        case round =>
          clear c0 c1 c2 c3 hE hT hA hR2 hkn' hkn
          obtain ⟨i, ts, vv, k3, rfl, hlen, hE, c0, c1, c2, c3, hT, hown, hts, hA, hR3, hk3⟩ := hrel
          by_cases hi : 0 < i
          · have hRd := hR3.drew
            have c3d : wr.drew.cell? ⟨w1.heap.size, 3, none⟩ = some vv := c3
            have htl : ts.length ≤ 1 := by omega
            have hk3' : k3 + 4 * m ≤ 60000 := by
              have : ts.length * (4 * m - 4) ≤ 1 * (4 * m - 4) := Nat.mul_le_mul_right _ htl
              omega
            have hEl0 := hE.lt
            have hdz : wr.drew.heap.size = wr.heap.size := rfl
            have hwd : IntKind.i64.wrap (deep : Int) = deep := by rw [IntKind.wrap_i64]; omega
            go_wp2_with fail
            go_region_law (first | (refine step_append_lies _ rfl _ _ 23 rfl (w1.heap.size + 1) 25 i0 _ 4 56 Try.underlying23 hi0 hz0 hz1 hz2 rfl (by decide) vv ts.length (flat ts) rfl hown8 ⟨w8.heap.size, 0, none⟩ 1 1 (four t) rfl rfl (news_four w8 t _) (by simp [four, Value.oneCell']) (by omega) (by unfold maxLen; omega) (by omega) (by rw [World.size_alloc]; omega) _ rfl ?_; intro g9 cap9 w9 hown9 hgrow9 hat9 hlt9; (have hE9 := (((hE.of_block (hA8.block _ (show w1.heap.size < wr.heap.size from hE.lt) hbe))).of_block (Below.heap_alloc _ _ (w1.heap.size) (by omega))).of_block (hgrow9.block _ (by rw [World.size_alloc]; omega) (fun e => by have h1 := (own_block_ge hown8 e.symm).1; omega))); (obtain ⟨x3, e3⟩ := hE9.cell (o := 3) (by omega)); (have f3 := hE9.frozen 3)) | (go_simp; go_at_call 32; refine (ih' B g sa len cap k3 _ hRd (by omega)).mono ?_; rintro e w8 ⟨t, k4, rfl, hGt, hst, hLt, hA8, hR8, hk8⟩; (have hown8 := own_of_block (C := w8.alloc (.cells #[.int .i64 t.kind, .int .i64 t.num, .string t.name, .slice t.base t.kids.length t.cap] 25)) hown (fun r hr => (Below.heap_alloc _ _ _ (by have h1 := (own_block_ge hown hr).2; have h2 : wr.heap.size ≤ w8.heap.size := hA8.size; omega)).trans (hA8.block r (by have h1 := (own_block_ge hown hr).2; exact h1) (by have h1 := (own_block_ge hown hr).1; omega)))); (have hz8 : wr.heap.size ≤ w8.heap.size := hA8.size); (have d3 := hA8.cell (p := ⟨w1.heap.size, 3, none⟩) hbe c3d); (have d3a := calloc d3 (.cells #[.int .i64 t.kind, .int .i64 t.num, .string t.name, .slice t.base t.kids.length t.cap] 25)); (have hsz8 : w8.heap.size + 1 = (w8.alloc (.cells #[.int .i64 t.kind, .int .i64 t.num, .string t.name, .slice t.base t.kids.length t.cap] 25)).heap.size := by simp)))
            all_goals
              have hE8 : wr.heap.size ≤ w8.heap.size := hA8.size
              have hEl := hE.lt
              have hTl := hT.lt
              have hob : ∀ r, vv.ownBlock = some r → w1.heap.size + 1 ≤ r ∧ r < wr.heap.size := fun r hr => own_block_ge hown hr
              have hT9 := ((hT.of_block (hA8.block _ (show w.heap.size < wr.heap.size from hTl) hbg)).of_block (Below.heap_alloc _ _ _ (by omega))).of_block (hgrow9.block _ (by rw [World.size_alloc]; omega) (fun e => by have h1 := (hob _ e.symm).1; omega))
              have hcell : ∀ o x, wr.cell? ⟨w1.heap.size, o, none⟩ = some x → w9.cell? ⟨w1.heap.size, o, none⟩ = some x := fun o x hx =>
                (cell_of_block (a := ⟨w1.heap.size, o, none⟩) (hgrow9.block w1.heap.size (by rw [World.size_alloc]; omega) (fun e => by have h1 := (hob _ e.symm).1; omega))).trans (calloc (hA8.cell (p := ⟨w1.heap.size, o, none⟩) hbe (show wr.drew.cell? ⟨w1.heap.size, o, none⟩ = some x from hx)) _)
              have hR9 := (hR8.alloc (.cells #[.int .i64 t.kind, .int .i64 t.num, .string t.name, .slice t.base t.kids.length t.cap] 25)).grown hgrow9 (fun r hr => by have h1 := (hob r hr).1; omega)
              have hA9 := ((hA.drew.trans hA8).alloc (.cells #[.int .i64 t.kind, .int .i64 t.num, .string t.name, .slice t.base t.kids.length t.cap] 25)).grown hgrow9 (fun r hr => by have h1 := (hob r hr).1; omega)
              have hg9 : w1.heap.size + 1 ≤ g9 := (own_block_ge hown9 rfl).1
              go_wp2_with fail
              go_roundw
              case rel =>
                refine ⟨i - 1, ts ++ [t], .slice (some ⟨g9, 0, none⟩) (ts.length + 1) cap9, k4, rfl, by simp; omega, hE9.set 3 _, (set_far (by omega) _).trans (hcell 0 _ c0), (set_far (by omega) _).trans (hcell 1 _ c1), (set_far (by omega) _).trans (hcell 2 _ c2), hE9.put (by omega) _, hT9.of_block (Below.heap_setCell _ _ _ _ (by dsimp only; omega)), ?_, ?_, ?_, ?_, ?_⟩
                · rw [flat_snoc, List.length_append]
                  exact own_of_block hown9 (fun r hr => Below.heap_setCell _ _ _ _ (by simp [Value.ownBlock] at hr; dsimp only; omega))
                · intro j t' ht'
                  by_cases hj : j < ts.length
                  · rw [List.getElem?_append_left hj] at ht'
                    obtain ⟨z1, z2, z3⟩ := hts j t' ht'
                    refine ⟨z1, z2, z3.mono (fun b hb hlt => ⟨⟨hb.1, ?_⟩, ?_⟩)⟩
                    · intro e
                      simp [Value.ownBlock] at e
                      rcases hat9 with h | h
                      · exact hb.2 (by rw [h, e])
                      · rw [World.size_alloc] at h; omega
                    · refine (Below.heap_setCell _ _ _ _ (by have := hb.1; dsimp only; omega)).trans ((hgrow9.block b (by rw [World.size_alloc]; omega) (fun e => hb.2 e.symm)).trans ((Below.heap_alloc _ _ _ (by omega)).trans (hA8.block b hlt (by have := hb.1; omega))))
                  · have hj' : j = ts.length := by
                      have := (List.getElem?_eq_some_iff.1 ht').1
                      simp at this
                      omega
                    subst hj'
                    rw [List.getElem?_append_right (Nat.le_refl _)] at ht'
                    simp at ht'
                    subst ht'
                    refine ⟨hGt, hst, hLt.mono (fun b hb hlt => ⟨⟨?_, ?_⟩, ?_⟩)⟩
                    · have : wr.heap.size ≤ b := hb
                      omega
                    · intro e
                      have hb' : wr.heap.size ≤ b := hb
                      simp [Value.ownBlock] at e
                      rcases hat9 with h | h
                      · have := (hob _ h).2; omega
                      · rw [World.size_alloc] at h; omega
                    · have hb' : wr.heap.size ≤ b := hb
                      exact (Below.heap_setCell _ _ _ _ (by dsimp only; omega)).trans ((hgrow9.block b (by rw [World.size_alloc]; omega) (fun e => by have := (hob _ e.symm).2; omega)).trans (Below.heap_alloc _ _ _ hlt))
                · exact hA9.setNew (by dsimp only; omega) _
                · exact hR9.set (by dsimp only; omega) (by dsimp only; omega) _
                · have h1 : (ts ++ [t]).length * (4 * m - 4) = ts.length * (4 * m - 4) + (4 * m - 4) := by rw [List.length_append, Nat.add_mul]; simp
                  rw [h1]
                  omega
              case measure => simp [intOf]; omega
          · rcases hown.2 with ⟨hvv, hn0⟩ | ⟨g9, cap9, cur9, hvv, hb9, hg9, hn9, hm9, hsz9, htk9⟩
            · subst hvv
              obtain ⟨u0, q0⟩ := hT.cell (o := 0) (by omega)
              obtain ⟨u1, q1⟩ := hT.cell (o := 1) (by omega)
              obtain ⟨u2, q2⟩ := hT.cell (o := 2) (by omega)
              obtain ⟨u3, q3⟩ := hT.cell (o := 3) (by omega)
              have f0 := hT.frozen 0
              have f1 := hT.frozen 1
              have f2 := hT.frozen 2
              have f3 := hT.frozen 3
              have hbr := hT.lt
              go_wp2
              first | go_returns | (refine bodyPost_ret (by simp [results, Try.results32, go_sem, *]; try rfl) rfl ?_)
              have hts0 : ts = [] := List.length_eq_zero_iff.1 hn0
              refine ⟨.mk (3 + v) 0 s none 0 [], rfl, good0 _ _ _ _ _ hs, by simp [XT.size, XT.sizeAll]; omega, lies0 _ _ _ _ _, ?_, k3, ?_, ?_⟩
              · repeat' (first | (with_reducible assumption) | (with_reducible refine Adv.alloc ?_ _) | (with_reducible refine Adv.drew ?_) | (with_reducible refine Adv.setNew ?_ ?_ _) | (dsimp only; omega))
              · repeat' (first | (with_reducible assumption) | (with_reducible refine Rd.alloc ?_ _) | (with_reducible refine Rd.drew ?_) | (with_reducible refine Rd.set ?_ ?_ ?_ _) | (dsimp only; omega))
              · subst hts0
                simp at hk3
                omega
            · subst hvv
              obtain ⟨u0, q0⟩ := hT.cell (o := 0) (by omega)
              obtain ⟨u1, q1⟩ := hT.cell (o := 1) (by omega)
              obtain ⟨u2, q2⟩ := hT.cell (o := 2) (by omega)
              obtain ⟨u3, q3⟩ := hT.cell (o := 3) (by omega)
              have f0 := hT.frozen 0
              have f1 := hT.frozen 1
              have f2 := hT.frozen 2
              have f3 := hT.frozen 3
              have hbr := hT.lt
              go_wp2
              first | go_returns | (refine bodyPost_ret (by simp [results, Try.results32, go_sem, *]; try rfl) rfl ?_)
              have hKw : Kept (fun b => b = w.heap.size) wr ((((wr.setCell ⟨w.heap.size, 0, none⟩ (.int .i64 (3 + v))).setCell ⟨w.heap.size, 1, none⟩ (.int .i64 0)).setCell ⟨w.heap.size, 2, none⟩ (.string s)).setCell ⟨w.heap.size, 3, none⟩ (.slice (some ⟨g9, 0, none⟩) ts.length cap9)) :=
                ((((Kept.refl (fun b => b = w.heap.size) wr).setCell (p := ⟨w.heap.size, 0, none⟩) rfl _).setCell (p := ⟨w.heap.size, 1, none⟩) rfl _).setCell (p := ⟨w.heap.size, 2, none⟩) rfl _).setCell (p := ⟨w.heap.size, 3, none⟩) rfl _
              refine ⟨.mk (3 + v) 0 s (some ⟨g9, 0, none⟩) cap9 ts, rfl, .mk _ hs (fun j t' ht' => (hts j t' ht').1), ?_, .mk _ (fun j t' ht' => ⟨g9, 0, rfl, by omega, ((row_cells hown) j t' ht').kept hKw (by omega)⟩) (fun j t' ht' => (hts j t' ht').2.2.mono (fun b hb hlt => ⟨by have := hb.1; omega, hKw.block b hlt (by have := hb.1; omega)⟩)), ?_, k3, ?_, ?_⟩
              · have hsz := sizeAll_bound ts m (fun j t' ht' => (hts j t' ht').2.1)
                simp only [XT.size]
                have h2 : ts.length * (m - 1) ≤ 2 * (m - 1) := Nat.mul_le_mul_right _ (by omega)
                omega
              · repeat' (first | (with_reducible assumption) | (with_reducible refine Adv.alloc ?_ _) | (with_reducible refine Adv.drew ?_) | (with_reducible refine Adv.setNew ?_ ?_ _) | (dsimp only; omega))
              · repeat' (first | (with_reducible assumption) | (with_reducible refine Rd.alloc ?_ _) | (with_reducible refine Rd.drew ?_) | (with_reducible refine Rd.set ?_ ?_ ?_ _) | (dsimp only; omega))
              · have h2 : ts.length * (4 * m - 4) ≤ 2 * (4 * m - 4) := Nat.mul_le_mul_right _ (by omega)
                omega
end Go.Proofs.Ytbmdibboehjbjaa
