/-
  What the program's TreeExprOk answers: an expression is ok just if it has at most 160 parts, none deeper than 6, each of which has what its kind has.
-/
import Derived.Test.YtimfdfeleoaehaaTreeE
namespace Go.Proofs.Ytimfdfeleoaehaa
open Go.RowKit Go.Shelf
set_option linter.unusedSimpArgs false
set_option linter.unusedVariables false
attribute [local go_sem] Oper.semAt_some

def fitI (k n : Int) (s : ByteArray) (len : Nat) : Bool :=
  if k = 1 then decide (-1000000 ≤ n ∧ n ≤ 1000000) && (s.toList.isEmpty && decide (len = 0))
  else if k = 2 then (n == 0) && (nameB s && decide (len = 0))
  else if k = 3 then (n == 0) && (nameB s && decide (len = 1))
  else if 4 ≤ k ∧ k ≤ 11 then (n == 0) && (s.toList.isEmpty && decide (len = 2))
  else if k = 12 then (n == 0) && (s.toList.isEmpty && decide (len = 1))
  else false
theorem meth127 (k n : Int) (s : ByteArray) (a : Option Addr) (len c : Nat) (w : World) :
    (method 273 166 (.agg #[.int .i64 k, .int .i64 n, .string s, .slice a len c]) "loop.example/hedge/impl.fits").run Try.prog w = .ok (122, .agg #[.int .i64 k, .int .i64 n, .string s, .slice a len c]) w := by kernel_rfl
theorem fit127 (k n : Int) (s : ByteArray) (a : Option Addr) (len c : Nat) (w : World) (hs : s.size ≤ 1048576) (hT : typeI k = 166) :
    Calls Try.prog 122 #[.agg #[.int .i64 k, .int .i64 n, .string s, .slice a len c]] w fun e w' => e = .returned (.bool (fitI k n s len)) ∧ Below w.heap.size w w' := by
  refine (fitNum k n s a len c w).mono fun e w' h => ⟨h.1.trans (ret_bool ?_), h.2⟩
  unfold typeI at hT
  unfold fitI
  split at hT
  all_goals (try split at hT)
  all_goals (try split at hT)
  all_goals (try split at hT)
  all_goals (try split at hT)
  all_goals first | (exfalso; revert hT; decide) | (simp_all; done) | (simp_all; omega)
theorem meth128 (k n : Int) (s : ByteArray) (a : Option Addr) (len c : Nat) (w : World) :
    (method 273 167 (.agg #[.int .i64 k, .int .i64 n, .string s, .slice a len c]) "loop.example/hedge/impl.fits").run Try.prog w = .ok (124, .agg #[.int .i64 k, .int .i64 n, .string s, .slice a len c]) w := by kernel_rfl
theorem fit128 (k n : Int) (s : ByteArray) (a : Option Addr) (len c : Nat) (w : World) (hs : s.size ≤ 1048576) (hT : typeI k = 167) :
    Calls Try.prog 124 #[.agg #[.int .i64 k, .int .i64 n, .string s, .slice a len c]] w fun e w' => e = .returned (.bool (fitI k n s len)) ∧ Below w.heap.size w w' := by
  refine (fitVar k n s a len c w hs).mono fun e w' h => ⟨h.1.trans (ret_bool ?_), h.2⟩
  unfold typeI at hT
  unfold fitI
  split at hT
  all_goals (try split at hT)
  all_goals (try split at hT)
  all_goals (try split at hT)
  all_goals (try split at hT)
  all_goals first | (exfalso; revert hT; decide) | (simp_all; done) | (simp_all; omega)
theorem meth129 (k n : Int) (s : ByteArray) (a : Option Addr) (len c : Nat) (w : World) :
    (method 273 168 (.agg #[.int .i64 k, .int .i64 n, .string s, .slice a len c]) "loop.example/hedge/impl.fits").run Try.prog w = .ok (125, .agg #[.int .i64 k, .int .i64 n, .string s, .slice a len c]) w := by kernel_rfl
theorem fit129 (k n : Int) (s : ByteArray) (a : Option Addr) (len c : Nat) (w : World) (hs : s.size ≤ 1048576) (hT : typeI k = 168) :
    Calls Try.prog 125 #[.agg #[.int .i64 k, .int .i64 n, .string s, .slice a len c]] w fun e w' => e = .returned (.bool (fitI k n s len)) ∧ Below w.heap.size w w' := by
  refine (fitAt k n s a len c w hs).mono fun e w' h => ⟨h.1.trans (ret_bool ?_), h.2⟩
  unfold typeI at hT
  unfold fitI
  split at hT
  all_goals (try split at hT)
  all_goals (try split at hT)
  all_goals (try split at hT)
  all_goals (try split at hT)
  all_goals first | (exfalso; revert hT; decide) | (simp_all; done) | (simp_all; omega)
theorem meth130 (k n : Int) (s : ByteArray) (a : Option Addr) (len c : Nat) (w : World) :
    (method 273 169 (.agg #[.int .i64 k, .int .i64 n, .string s, .slice a len c]) "loop.example/hedge/impl.fits").run Try.prog w = .ok (126, .agg #[.int .i64 k, .int .i64 n, .string s, .slice a len c]) w := by kernel_rfl
theorem fit130 (k n : Int) (s : ByteArray) (a : Option Addr) (len c : Nat) (w : World) (hs : s.size ≤ 1048576) (hT : typeI k = 169) :
    Calls Try.prog 126 #[.agg #[.int .i64 k, .int .i64 n, .string s, .slice a len c]] w fun e w' => e = .returned (.bool (fitI k n s len)) ∧ Below w.heap.size w w' := by
  refine (fitTwo k n s a len c w).mono fun e w' h => ⟨h.1.trans (ret_bool ?_), h.2⟩
  unfold typeI at hT
  unfold fitI
  split at hT
  all_goals (try split at hT)
  all_goals (try split at hT)
  all_goals (try split at hT)
  all_goals (try split at hT)
  all_goals first | (exfalso; revert hT; decide) | (simp_all; done) | (simp_all; omega)
theorem meth131 (k n : Int) (s : ByteArray) (a : Option Addr) (len c : Nat) (w : World) :
    (method 273 170 (.agg #[.int .i64 k, .int .i64 n, .string s, .slice a len c]) "loop.example/hedge/impl.fits").run Try.prog w = .ok (127, .agg #[.int .i64 k, .int .i64 n, .string s, .slice a len c]) w := by kernel_rfl
theorem fit131 (k n : Int) (s : ByteArray) (a : Option Addr) (len c : Nat) (w : World) (hs : s.size ≤ 1048576) (hT : typeI k = 170) :
    Calls Try.prog 127 #[.agg #[.int .i64 k, .int .i64 n, .string s, .slice a len c]] w fun e w' => e = .returned (.bool (fitI k n s len)) ∧ Below w.heap.size w w' := by
  refine (fitNot k n s a len c w).mono fun e w' h => ⟨h.1.trans (ret_bool ?_), h.2⟩
  unfold typeI at hT
  unfold fitI
  split at hT
  all_goals (try split at hT)
  all_goals (try split at hT)
  all_goals (try split at hT)
  all_goals (try split at hT)
  all_goals first | (exfalso; revert hT; decide) | (simp_all; done) | (simp_all; omega)
theorem meth132 (k n : Int) (s : ByteArray) (a : Option Addr) (len c : Nat) (w : World) :
    (method 273 171 (.agg #[.int .i64 k, .int .i64 n, .string s, .slice a len c]) "loop.example/hedge/impl.fits").run Try.prog w = .ok (128, .agg #[.int .i64 k, .int .i64 n, .string s, .slice a len c]) w := by kernel_rfl
theorem fit132 (k n : Int) (s : ByteArray) (a : Option Addr) (len c : Nat) (w : World) (hs : s.size ≤ 1048576) (hT : typeI k = 171) :
    Calls Try.prog 128 #[.agg #[.int .i64 k, .int .i64 n, .string s, .slice a len c]] w fun e w' => e = .returned (.bool (fitI k n s len)) ∧ Below w.heap.size w w' := by
  refine (fitNone k n s a len c w).mono fun e w' h => ⟨h.1.trans (ret_bool ?_), h.2⟩
  unfold typeI at hT
  unfold fitI
  split at hT
  all_goals (try split at hT)
  all_goals (try split at hT)
  all_goals (try split at hT)
  all_goals (try split at hT)
  all_goals first | (exfalso; revert hT; decide) | (simp_all; done) | (simp_all; omega)
def XT.fit (t : XT) : Bool := fitI t.kind t.num t.name t.kids.length
def goodB (x : Int × XT) : Bool := decide (x.1 ≤ 6) && x.2.fit
def XT.okI (t : XT) : Bool := (t.parts 1).all goodB && decide (t.size ≤ 160)
theorem XT.parts_length (sz : Nat) : ∀ (t : XT), t.size ≤ sz → ∀ d, (t.parts d).length = t.size := by
  induction sz with
  | zero => intro t h; rw [XT.size_eq] at h; omega
  | succ sz ih =>
    have hl : ∀ ks : List XT, XT.sizeAll ks ≤ sz → ∀ d, (XT.partsAll ks d).length = XT.sizeAll ks := by
      intro ks
      induction ks with
      | nil => intro _ d; rfl
      | cons x xs ihx =>
        intro h d
        simp only [XT.sizeAll] at h
        simp only [XT.partsAll, XT.sizeAll, List.length_append]
        rw [ih x (by omega), ihx (by omega)]
    intro t h d
    rw [XT.size_eq] at h ⊢
    rw [XT.parts_eq, List.length_cons, hl _ (by omega)]
    omega
theorem XT.okI_long {t : XT} {pre : List (Int × XT)} (h : pre <+: t.parts 1) (hl : 160 < pre.length) : t.okI = false := by
  have h1 := h.length_le
  rw [XT.parts_length _ t (Nat.le_refl _)] at h1
  simp [XT.okI]
  omega
theorem XT.okI_bad {t : XT} {pre : List (Int × XT)} {x : Int × XT} (h : pre ++ [x] <+: t.parts 1) (hl : goodB x = false) : t.okI = false := by
  obtain ⟨r, hr⟩ := h
  have hx : (t.parts 1).all goodB = false := by
    rw [← hr]
    simp [hl]
  simp [XT.okI, hx]
theorem Good.parts (sz : Nat) : ∀ (t : XT), t.size ≤ sz → Good t → ∀ d, ∀ x ∈ t.parts d, x.2.name.size ≤ 1048576 := by
  induction sz with
  | zero => intro t h; rw [XT.size_eq] at h; omega
  | succ sz ih =>
    have hl : ∀ ks : List XT, XT.sizeAll ks ≤ sz → (∀ (i : Nat) (k : XT), ks[i]? = some k → Good k) → ∀ d, ∀ x ∈ XT.partsAll ks d, x.2.name.size ≤ 1048576 := by
      intro ks
      induction ks with
      | nil => intro _ _ d x hx; simp [XT.partsAll] at hx
      | cons y ys ihx =>
        intro h hg d x hx
        simp only [XT.sizeAll] at h
        simp only [XT.partsAll, List.mem_append] at hx
        rcases hx with hx | hx
        · exact ih y (by omega) (hg 0 y rfl) d x hx
        · exact ihx (by omega) (fun i k hk => hg (i + 1) k (by simpa using hk)) d x hx
    intro t h hg d x hx
    rw [XT.size_eq] at h
    rw [XT.parts_eq] at hx
    rcases List.mem_cons.1 hx with rfl | hx
    · exact hg.name
    · exact hl _ (by omega) hg.kid _ x hx

set_option maxRecDepth 100000 in
set_option maxHeartbeats 8000000 in
theorem implOk1 (t : XT) (hsz : t.size ≤ 1099511627776) (hG : Good t) (ok : Nat → Prop) (w : World) (hok : ∀ b, ok b → b < w.heap.size) (hL : Lies ok w t) :
    Calls Try.prog 106 #[t.val] w fun e w' => e = .returned (.bool t.okI) ∧ Below w.heap.size w w' := by
  obtain ⟨n, -⟩ : ∃ n : Nat, True := ⟨0, trivial⟩
  refine (callsIn_wide (n := n)).1 ?_
  refine callsIn_of_wp_marks Try.func106 rfl trivial ?_ rfl
  simp only [Try.ntmps106, List.size_toArray, List.length_cons, List.length_nil, Nat.reduceAdd, Nat.reduceSub, Array.replicate_succ, Array.replicate_zero, List.push_toArray, List.append_toArray, List.nil_append, List.cons_append]
  gi_wp2
  refine ⟨trivial, (fun h => by cases h), (callsIn_wide.2 (partsOf t 1 _)).mono ?_⟩
  rintro e w3 ⟨rfl, hw3⟩
  subst w3
  gi_wp2
  obtain ⟨W1, hW1⟩ : ∃ W1, w.alloc (.cells #[.int .i64 t.kind, .int .i64 t.num, .string t.name, .slice t.base t.kids.length t.cap] 48) = W1 := ⟨_, rfl⟩
  obtain ⟨W2, hW2⟩ : ∃ W2, W1.alloc (.cells #[.bool false] 4) = W2 := ⟨_, rfl⟩
  obtain ⟨W3, hW3⟩ : ∃ W3, W2.alloc (.cells #[.int .i64 0] 3) = W3 := ⟨_, rfl⟩
  obtain ⟨W4, hW4⟩ : ∃ W4, W3.alloc (.cells #[.int .i64 t.kind, .int .i64 t.num, .string t.name, .slice t.base t.kids.length t.cap] 48) = W4 := ⟨_, rfl⟩
  obtain ⟨W5, hW5⟩ : ∃ W5, W4.alloc (.cells #[.int .i64 1] 3) = W5 := ⟨_, rfl⟩
  rw [hW1, hW2, hW3, hW4, hW5]
  have s1 : W1.heap.size = w.heap.size + 1 := by rw [← hW1]; simp
  have s2 : W2.heap.size = w.heap.size + 2 := by rw [← hW2]; simp [s1]
  have s3 : W3.heap.size = w.heap.size + 3 := by rw [← hW3]; simp [s2]
  have s4 : W4.heap.size = w.heap.size + 4 := by rw [← hW4]; simp [s3]
  have s5 : W5.heap.size = w.heap.size + 5 := by rw [← hW5]; simp [s4]
  have hbr : Boxed W5 (w.heap.size + 1) 4 (.bool false) := by
    have h := (((Boxed.new W1 4 (.bool false)).alloc (.cells #[.int .i64 0] 3)).alloc (.cells #[.int .i64 t.kind, .int .i64 t.num, .string t.name, .slice t.base t.kids.length t.cap] 48)).alloc (.cells #[.int .i64 1] 3)
    rw [hW2, hW3, hW4, hW5, s1] at h
    exact h
  have hbn : Boxed W5 (w.heap.size + 2) 3 (.int .i64 0) := by
    have h := ((Boxed.new W2 3 (.int .i64 0)).alloc (.cells #[.int .i64 t.kind, .int .i64 t.num, .string t.name, .slice t.base t.kids.length t.cap] 48)).alloc (.cells #[.int .i64 1] 3)
    rw [hW3, hW4, hW5, s2] at h
    exact h
  have hbe : Cells4 W5 (w.heap.size + 3) 0 t := by
    have h := Cells4.new W3 t
    rw [hW4, s3] at h
    rw [← hW5]
    exact h.below (n := W4.heap.size) ((Below.refl _ _).alloc (Nat.le_refl _) _) (by omega)
  have hbd : W5.cell? ⟨w.heap.size + 4, 0, none⟩ = some (.int .i64 1) := by
    have h := World.cell?_alloc_new W4 #[.int .i64 1] 3 0
    rw [hW5, s4] at h
    exact h
  have hB5 : Below w.heap.size w W5 := by
    rw [← hW5, ← hW4, ← hW3, ← hW2, ← hW1]
    exact (((((Below.refl _ w).alloc (Nat.le_refl _) _).alloc (by simp) _).alloc (by simp; omega) _).alloc (by simp; omega) _).alloc (by simp; omega) _
  have hL5 := hL.under hB5 hok
  have hGp := Good.parts _ t (Nat.le_refl _) hG 1
  refine range_law (gf := 109) (lb := #[.pointer (some ⟨w.heap.size + 1 + 1 + 1 + 1, 0, none⟩), .pointer (some ⟨w.heap.size + 1 + 1 + 1, 0, none⟩)]) rfl (enters_of Try.func109 (by kernel_rfl) rfl) partE (fun _ => rfl) (t.parts 1) (fun k => k = w.heap.size + 1 ∨ k = w.heap.size + 2)
    (fun pre X => Boxed X (w.heap.size + 2) 3 (.int .i64 pre.length) ∧ Boxed X (w.heap.size + 1) 4 (.bool false) ∧ pre.all goodB = true ∧ pre.length ≤ 160)
    (fun pre X => Boxed X (w.heap.size + 1) 4 (.bool false) ∧ t.okI = false)
    (fun k h => by omega)
    (fun pre A B h ⟨h1, h2, h3, h4⟩ => ⟨(h.block _ (by omega)).trans h1, (h.block _ (by omega)).trans h2, h3, h4⟩)
    (fun pre A B h ⟨h1, h2⟩ => ⟨(h.block _ (by omega)).trans h1, h2⟩)
    ⟨hbn, hbr, rfl, by simp⟩
    ?hit ?hround ?hdone ?hstop
  case hit =>
    intro W6 hB6 hs6
    refine parts1 _ t hsz (Nat.le_refl _) 1 _ _ _ ok W6 ?_ ?_ (below_cell hB6 hbd (by dsimp only; omega)) ?_ (hbe.below hB6 (by omega)) ?_ (hL5.under hB6 (fun b hb => by have := hok b hb; omega))
    · intro k h; omega
    · intro b hb
      have := hok b hb
      omega
    · omega
    · omega
  case hround =>
    rintro l m pre x X hl hlX ⟨h1, h2, h3, h4⟩ hpre
    gi_wp2
    refine ⟨(Below.refl _ X).alloc (Nat.le_refl _) _, ?_⟩
    rintro w₂ hk2 ⟨j1, j2, j3, j4⟩
    have hX7 : Cells4 w₂ X.heap.size 0 x.2 := (Cells4.new X x.2).kept hk2 (by omega)
    have hXb : w.heap.size + 2 < X.heap.size := (Boxed.lt h1)
    have hc1 := j1.cell
    have hf1 := j1.frozen
    have hj1 := j1.set (.int .i64 (pre.length + 1))
    have hK1 : Kept (fun k => k = w.heap.size + 1 ∨ k = w.heap.size + 2) w₂ (w₂.setCell ⟨w.heap.size + 2, 0, none⟩ (.int .i64 (pre.length + 1))) := (Kept.refl _ _).setCell (.inr rfl) _
    have hX8 := hX7.kept hK1 (by omega)
    have q0 := hX8.c0
    have q1 := hX8.c1
    have q2 := hX8.c2
    have q3 := hX8.c3
    have hj2 := j2.other (B' := w.heap.size + 2) (by omega) (.int .i64 (pre.length + 1))
    have hf2 := hj2.frozen
    have hc2 := hj2.cell
    have hc3 := hj1.cell
    by_cases hn : pre.length + 1 ≤ 160
    · by_cases hd : x.1 ≤ 6
      · gi_wp2
        refine ⟨trivial, (fun h => by cases h), (CallsIn.inRound l (callsIn_wide.2 (typed x.2.kind x.2.num x.2.name x.2.base x.2.kids.length x.2.cap _))).mono ?_⟩
        rintro e w5 ⟨rfl, hB7⟩
        have b5n : Boxed w5 (w.heap.size + 2) 3 (.int .i64 (pre.length + 1)) := (hB7.block _ hj1.lt).trans hj1
        have b5r : Boxed w5 (w.heap.size + 1) 4 (.bool false) := (hB7.block _ hj2.lt).trans hj2
        have hK5 := hK1.trans (Kept.of_new _ hB7)
        have hxs : x.2.name.size ≤ 1048576 := hGp x (hpre.subset (by simp))
        have hTs : typeI x.2.kind = 166 ∨ typeI x.2.kind = 167 ∨ typeI x.2.kind = 168 ∨ typeI x.2.kind = 169 ∨ typeI x.2.kind = 170 ∨ typeI x.2.kind = 171 := by
          unfold typeI
          (repeat' split) <;> simp
        rcases hTs with hT | hT | hT | hT | hT | hT
        · rw [hT]
          have hm := meth127 x.2.kind x.2.num x.2.name x.2.base x.2.kids.length x.2.cap w5
          gi_wp2
          refine ⟨trivial, (fun h => by cases h), (CallsIn.inRound l (callsIn_wide.2 (fit127 x.2.kind x.2.num x.2.name x.2.base x.2.kids.length x.2.cap _ hxs hT))).mono ?_⟩
          rintro e w7 ⟨rfl, hB8⟩
          have b7n : Boxed w7 (w.heap.size + 2) 3 (.int .i64 (pre.length + 1)) := (hB8.block _ b5n.lt).trans b5n
          have b7r : Boxed w7 (w.heap.size + 1) 4 (.bool false) := (hB8.block _ b5r.lt).trans b5r
          have hK7 := hK5.trans (Kept.of_new _ hB8)
          have hc7 := b7r.cell
          have hf7 := b7r.frozen
          cases hfit : fitI x.2.kind x.2.num x.2.name x.2.kids.length
          · gi_wp2
            exact ⟨hK7.setCell (.inl rfl) _, b7r.set _, XT.okI_bad hpre (by simp [goodB, XT.fit, hfit])⟩
          · gi_wp2
            exact ⟨hK7, by simpa using b7n, b7r, by simp [j3, goodB, XT.fit, hfit, hd], by simpa using hn⟩
        · rw [hT]
          have hm := meth128 x.2.kind x.2.num x.2.name x.2.base x.2.kids.length x.2.cap w5
          gi_wp2
          refine ⟨trivial, (fun h => by cases h), (CallsIn.inRound l (callsIn_wide.2 (fit128 x.2.kind x.2.num x.2.name x.2.base x.2.kids.length x.2.cap _ hxs hT))).mono ?_⟩
          rintro e w7 ⟨rfl, hB8⟩
          have b7n : Boxed w7 (w.heap.size + 2) 3 (.int .i64 (pre.length + 1)) := (hB8.block _ b5n.lt).trans b5n
          have b7r : Boxed w7 (w.heap.size + 1) 4 (.bool false) := (hB8.block _ b5r.lt).trans b5r
          have hK7 := hK5.trans (Kept.of_new _ hB8)
          have hc7 := b7r.cell
          have hf7 := b7r.frozen
          cases hfit : fitI x.2.kind x.2.num x.2.name x.2.kids.length
          · gi_wp2
            exact ⟨hK7.setCell (.inl rfl) _, b7r.set _, XT.okI_bad hpre (by simp [goodB, XT.fit, hfit])⟩
          · gi_wp2
            exact ⟨hK7, by simpa using b7n, b7r, by simp [j3, goodB, XT.fit, hfit, hd], by simpa using hn⟩
        · rw [hT]
          have hm := meth129 x.2.kind x.2.num x.2.name x.2.base x.2.kids.length x.2.cap w5
          gi_wp2
          refine ⟨trivial, (fun h => by cases h), (CallsIn.inRound l (callsIn_wide.2 (fit129 x.2.kind x.2.num x.2.name x.2.base x.2.kids.length x.2.cap _ hxs hT))).mono ?_⟩
          rintro e w7 ⟨rfl, hB8⟩
          have b7n : Boxed w7 (w.heap.size + 2) 3 (.int .i64 (pre.length + 1)) := (hB8.block _ b5n.lt).trans b5n
          have b7r : Boxed w7 (w.heap.size + 1) 4 (.bool false) := (hB8.block _ b5r.lt).trans b5r
          have hK7 := hK5.trans (Kept.of_new _ hB8)
          have hc7 := b7r.cell
          have hf7 := b7r.frozen
          cases hfit : fitI x.2.kind x.2.num x.2.name x.2.kids.length
          · gi_wp2
            exact ⟨hK7.setCell (.inl rfl) _, b7r.set _, XT.okI_bad hpre (by simp [goodB, XT.fit, hfit])⟩
          · gi_wp2
            exact ⟨hK7, by simpa using b7n, b7r, by simp [j3, goodB, XT.fit, hfit, hd], by simpa using hn⟩
        · rw [hT]
          have hm := meth130 x.2.kind x.2.num x.2.name x.2.base x.2.kids.length x.2.cap w5
          gi_wp2
          refine ⟨trivial, (fun h => by cases h), (CallsIn.inRound l (callsIn_wide.2 (fit130 x.2.kind x.2.num x.2.name x.2.base x.2.kids.length x.2.cap _ hxs hT))).mono ?_⟩
          rintro e w7 ⟨rfl, hB8⟩
          have b7n : Boxed w7 (w.heap.size + 2) 3 (.int .i64 (pre.length + 1)) := (hB8.block _ b5n.lt).trans b5n
          have b7r : Boxed w7 (w.heap.size + 1) 4 (.bool false) := (hB8.block _ b5r.lt).trans b5r
          have hK7 := hK5.trans (Kept.of_new _ hB8)
          have hc7 := b7r.cell
          have hf7 := b7r.frozen
          cases hfit : fitI x.2.kind x.2.num x.2.name x.2.kids.length
          · gi_wp2
            exact ⟨hK7.setCell (.inl rfl) _, b7r.set _, XT.okI_bad hpre (by simp [goodB, XT.fit, hfit])⟩
          · gi_wp2
            exact ⟨hK7, by simpa using b7n, b7r, by simp [j3, goodB, XT.fit, hfit, hd], by simpa using hn⟩
        · rw [hT]
          have hm := meth131 x.2.kind x.2.num x.2.name x.2.base x.2.kids.length x.2.cap w5
          gi_wp2
          refine ⟨trivial, (fun h => by cases h), (CallsIn.inRound l (callsIn_wide.2 (fit131 x.2.kind x.2.num x.2.name x.2.base x.2.kids.length x.2.cap _ hxs hT))).mono ?_⟩
          rintro e w7 ⟨rfl, hB8⟩
          have b7n : Boxed w7 (w.heap.size + 2) 3 (.int .i64 (pre.length + 1)) := (hB8.block _ b5n.lt).trans b5n
          have b7r : Boxed w7 (w.heap.size + 1) 4 (.bool false) := (hB8.block _ b5r.lt).trans b5r
          have hK7 := hK5.trans (Kept.of_new _ hB8)
          have hc7 := b7r.cell
          have hf7 := b7r.frozen
          cases hfit : fitI x.2.kind x.2.num x.2.name x.2.kids.length
          · gi_wp2
            exact ⟨hK7.setCell (.inl rfl) _, b7r.set _, XT.okI_bad hpre (by simp [goodB, XT.fit, hfit])⟩
          · gi_wp2
            exact ⟨hK7, by simpa using b7n, b7r, by simp [j3, goodB, XT.fit, hfit, hd], by simpa using hn⟩
        · rw [hT]
          have hm := meth132 x.2.kind x.2.num x.2.name x.2.base x.2.kids.length x.2.cap w5
          gi_wp2
          refine ⟨trivial, (fun h => by cases h), (CallsIn.inRound l (callsIn_wide.2 (fit132 x.2.kind x.2.num x.2.name x.2.base x.2.kids.length x.2.cap _ hxs hT))).mono ?_⟩
          rintro e w7 ⟨rfl, hB8⟩
          have b7n : Boxed w7 (w.heap.size + 2) 3 (.int .i64 (pre.length + 1)) := (hB8.block _ b5n.lt).trans b5n
          have b7r : Boxed w7 (w.heap.size + 1) 4 (.bool false) := (hB8.block _ b5r.lt).trans b5r
          have hK7 := hK5.trans (Kept.of_new _ hB8)
          have hc7 := b7r.cell
          have hf7 := b7r.frozen
          cases hfit : fitI x.2.kind x.2.num x.2.name x.2.kids.length
          · gi_wp2
            exact ⟨hK7.setCell (.inl rfl) _, b7r.set _, XT.okI_bad hpre (by simp [goodB, XT.fit, hfit])⟩
          · gi_wp2
            exact ⟨hK7, by simpa using b7n, b7r, by simp [j3, goodB, XT.fit, hfit, hd], by simpa using hn⟩
      · gi_wp2
        refine ⟨trivial, ?_⟩
        gi_wp2
        all_goals
          refine ⟨fun _ _ => trivial, ?_⟩
          gi_wp2
          exact ⟨hK1.setCell (.inl rfl) _, hj2.set _, XT.okI_bad hpre (by simp [goodB]; omega)⟩
    · gi_wp2
      refine ⟨trivial, ?_⟩
      gi_wp2
      all_goals
        refine ⟨fun _ _ => trivial, ?_⟩
        gi_wp2
        exact ⟨hK1.setCell (.inl rfl) _, hj2.set _, XT.okI_long hpre (by simp; omega)⟩
  case hdone =>
    rintro D X hD ⟨h1, h2, h3, h4⟩ hkX hdX
    have hc2 := h2.cell
    have hf2 := h2.frozen
    have hokI : t.okI = true := by
      rw [XT.parts_length _ t (Nat.le_refl _)] at h4
      simp [XT.okI, h3, h4]
    have hb2 := h2.set (.bool true)
    have hKX : Kept (fun k => k = w.heap.size + 1 ∨ k = w.heap.size + 2) W5 (X.setCell ⟨w.heap.size + 1, 0, none⟩ (.bool true)) := hkX.setCell (.inl rfl) _
    gi_wp2
    refine leave_marks [D] _ (by simp) (fun E hE => ?_) (fun W' hk' => ⟨.bool t.okI, ?_, rfl, ?_⟩)
    · rw [List.mem_singleton.1 hE]
      exact (Below.heap_setCell _ _ _ _ (by dsimp only; omega)).trans hdX
    · have hb3 : Boxed W' (w.heap.size + 1) 4 (.bool true) := (hk'.block _ hb2.lt (by simp; omega)).trans hb2
      have hc3 := hb3.cell
      rw [hokI]
      simp [results, Try.results106, go_sem, hc3]
    · exact hB5.trans ((hKX.join hk' (T := fun k => k ∈ [D]) (fun k h1 h2 => by simp at h2; omega)).below (by omega) (fun k h => by omega))
  case hstop =>
    rintro D pre X hD hpre ⟨h1, h2⟩ hkX hdX
    refine leave_marks [D] X (by simp) (fun E hE => ?_) (fun W' hk' => ⟨.bool t.okI, ?_, rfl, ?_⟩)
    · rw [List.mem_singleton.1 hE]
      exact hdX
    · have hb3 : Boxed W' (w.heap.size + 1) 4 (.bool false) := (hk'.block _ h1.lt (by simp; omega)).trans h1
      have hc3 := hb3.cell
      rw [h2]
      simp [results, Try.results106, go_sem, hc3]
    · exact hB5.trans ((hkX.join hk' (T := fun k => k ∈ [D]) (fun k h1 h2 => by simp at h2; omega)).below (by omega) (fun k h => by omega))
end Go.Proofs.Ytimfdfeleoaehaa
