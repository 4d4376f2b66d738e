/-
  The code of statements, and that of statements that are the same.
  The bare statement, as the specification makes it.
  The code of statements, as the specification makes it.
  The code of one statement, as the specification makes it.
  The specification's code of statements, with its end.
-/
import Derived.Test.YtimfdfeleoaehaaInstF
import Derived.Test.YtimfdfeleoaehaaFlatD
import Derived.Test.YtimfdfeleoaehaaStmtsE
import Derived.Test.YtimfdfeleoaehaaStmtsA
import Derived.Test.YtimfdfeleoaehaaStmtsD
import Derived.Deep.RegionHeld3
import Derived.Test.YtimfdfeleoaehaaOkL
namespace Go.Proofs.Ytimfdfeleoaehaa
open Go.RowKit Go.Shelf
set_option linter.unusedSimpArgs false
set_option linter.unusedVariables false

def bareX (k : Int) (n : ByteArray) (e f : XT) : SX := .mk k n e f none 0 [] none 0 []
mutual
def codeS : SX → Nat → List IX
  | .mk k n e f _ _ la _ _ lb, p => if k = 3 then ⟨2, bareX k n e f, ((p + 2 + (codeL la (p + 1)).length : Nat) : Int)⟩ :: (codeL la (p + 1) ++ ⟨3, zS, ((p + 2 + (codeL la (p + 1)).length + (codeL lb (p + 2 + (codeL la (p + 1)).length)).length : Nat) : Int)⟩ :: codeL lb (p + 2 + (codeL la (p + 1)).length))
      else if k = 4 then ⟨2, bareX k n e f, ((p + 2 + (codeL la (p + 1)).length : Nat) : Int)⟩ :: (codeL la (p + 1) ++ [⟨3, zS, (p : Int)⟩])
      else [⟨1, bareX k n e f, 0⟩]
def codeL : List SX → Nat → List IX
  | [], _ => []
  | t :: ts, p => codeS t p ++ codeL ts (p + (codeS t p).length)
end
theorem codeS_eq (s : SX) (p : Nat) : codeS s p = if s.kind = 3 then ⟨2, bareX s.kind s.name s.e s.f, ((p + 2 + (codeL s.la (p + 1)).length : Nat) : Int)⟩ :: (codeL s.la (p + 1) ++ ⟨3, zS, ((p + 2 + (codeL s.la (p + 1)).length + (codeL s.lb (p + 2 + (codeL s.la (p + 1)).length)).length : Nat) : Int)⟩ :: codeL s.lb (p + 2 + (codeL s.la (p + 1)).length))
      else if s.kind = 4 then ⟨2, bareX s.kind s.name s.e s.f, ((p + 2 + (codeL s.la (p + 1)).length : Nat) : Int)⟩ :: (codeL s.la (p + 1) ++ [⟨3, zS, (p : Int)⟩])
      else [⟨1, bareX s.kind s.name s.e s.f, 0⟩] := by cases s; rw [codeS]; rfl
theorem codeL_append (us bs : List SX) (p : Nat) : codeL (us ++ bs) p = codeL us p ++ codeL bs (p + (codeL us p).length) := by
  induction us generalizing p with
  | nil => simp [codeL]
  | cons x xs ih => rw [List.cons_append, codeL, codeL, ih, List.append_assoc, List.length_append, Nat.add_assoc]
theorem codeL_take {ks : List SX} {i : Nat} {t : SX} (h : ks[i]? = some t) (p : Nat) : codeL (ks.take (i + 1)) p = codeL (ks.take i) p ++ codeS t (p + (codeL (ks.take i) p).length) := by
  rw [List.take_add_one, h, Option.toList_some, codeL_append]
  simp [codeL]
theorem code_len (sz : Nat) : ∀ s : SX, s.size ≤ sz → ∀ p, (codeS s p).length ≤ 2 * s.size := by
  induction sz with
  | zero => intro s h; rw [SX.size_eq] at h; omega
  | succ sz ih =>
    have hl : ∀ ks : List SX, SX.sizeAll ks ≤ sz → ∀ p, (codeL ks p).length ≤ 2 * SX.sizeAll ks := by
      intro ks
      induction ks with
      | nil => intro _ p; simp [codeL]
      | cons t ts iht =>
        intro h p
        simp only [SX.sizeAll] at h ⊢
        have h1 := ih t (by omega) p
        have h2 := iht (by omega) (p + (codeS t p).length)
        rw [codeL, List.length_append]
        omega
    intro s h p
    have hz := s.size_eq
    have h1 := hl s.la (by omega) (p + 1)
    have h2 := hl s.lb (by omega) (p + 2 + (codeL s.la (p + 1)).length)
    rw [codeS_eq]
    split
    · simp; omega
    · split
      · simp; omega
      · simp; omega
theorem codeL_len (ks : List SX) (p : Nat) : (codeL ks p).length ≤ 2 * SX.sizeAll ks := by
  induction ks generalizing p with
  | nil => simp [codeL]
  | cons t ts ih =>
    have h1 := code_len _ t (Nat.le_refl _) p
    have h2 := ih (p + (codeS t p).length)
    simp only [SX.sizeAll]
    rw [codeL, List.length_append]
    omega
theorem codeL_take_le (ks : List SX) (i p : Nat) : (codeL (ks.take i) p).length ≤ 2 * SX.sizeAll ks := by
  have h := codeL_append (ks.take i) (ks.drop i) p
  rw [List.take_append_drop] at h
  have h2 := codeL_len ks p
  rw [h, List.length_append] at h2
  omega
theorem SameI.nil : SameI [] [] := ⟨rfl, fun i x y h => by simp at h⟩
theorem SameI.cons {x y : IX} {xs us : List IX} (h : IX.Same x y) (k : SameI xs us) : SameI (x :: xs) (y :: us) := by
  refine ⟨by simp [k.1], fun i a b ha hb => ?_⟩
  cases i with
  | zero => simp at ha hb; subst ha hb; exact h
  | succ i => exact k.2 i a b (by simpa using ha) (by simpa using hb)
theorem SameI.append {xs us ys vs : List IX} (h : SameI xs us) (k : SameI ys vs) : SameI (xs ++ ys) (us ++ vs) := by
  refine ⟨by simp [h.1, k.1], fun i a b ha hb => ?_⟩
  by_cases hi : i < xs.length
  · rw [List.getElem?_append_left hi] at ha
    rw [List.getElem?_append_left (by rw [h.1]; exact hi)] at hb
    exact h.2 i a b ha hb
  · rw [List.getElem?_append_right (by omega)] at ha
    rw [List.getElem?_append_right (by rw [h.1]; omega), h.1] at hb
    exact k.2 _ a b ha hb
theorem SameI.trans {xs us vs : List IX} (h : SameI xs us) (k : SameI us vs) : SameI xs vs := by
  refine ⟨by rw [k.1, h.1], fun i a b ha hb => ?_⟩
  rcases h.get i with ⟨h1, -⟩ | ⟨x, y, h1, h2, h3⟩
  · rw [ha] at h1; cases h1
  · rw [ha] at h1
    cases h1
    have q := k.2 i y b h2 hb
    exact ⟨by rw [q.op, h3.op], h3.s.trans q.s, by rw [q.dst, h3.dst]⟩
theorem SameI.symm {xs us : List IX} (h : SameI xs us) : SameI us xs := by
  refine ⟨h.1.symm, fun i a b ha hb => ?_⟩
  have q := h.2 i b a hb ha
  exact ⟨q.op.symm, q.s.symm, q.dst.symm⟩
theorem SameI.refl (xs : List IX) : SameI xs xs := ⟨rfl, fun i a b ha hb => by
  rw [ha] at hb
  cases hb
  exact ⟨rfl, SameS.refl _ _ (Nat.le_refl _), rfl⟩⟩
theorem bare_same {k : Int} {n : ByteArray} {e f e' f' : XT} (h1 : Same e e') (h2 : Same f f') : SameS (bareX k n e f) (bareX k n e' f') :=
  .mk _ _ rfl rfl h1 h2 rfl rfl (fun i x y h => by simp [bareX, SX.la] at h) (fun i x y h => by simp [bareX, SX.lb] at h)
theorem code_same (sz : Nat) : ∀ s : SX, s.size ≤ sz → ∀ u, SameS s u → ∀ p, SameI (codeS s p) (codeS u p) := by
  induction sz with
  | zero => intro s h; rw [SX.size_eq] at h; omega
  | succ sz ih =>
    have hl : ∀ ks us : List SX, SX.sizeAll ks ≤ sz → SameL ks us → ∀ p, SameI (codeL ks p) (codeL us p) := by
      intro ks
      induction ks with
      | nil =>
        intro us _ h p
        have : us = [] := List.length_eq_zero_iff.1 (by simpa using h.1)
        subst this
        exact SameI.nil
      | cons t ts iht =>
        intro us hz h p
        match us, h with
        | [], h => exact absurd h.1 (by simp)
        | v :: vs, h =>
          simp only [SX.sizeAll] at hz
          have h1 := ih t (by omega) v (h.2 0 t v rfl rfl) p
          have h2 := iht vs (by omega) ⟨by have := h.1; simpa using this, fun i a b ha hb => h.2 (i + 1) a b (by simpa using ha) (by simpa using hb)⟩ (p + (codeS t p).length)
          rw [codeL, codeL, h1.1]
          exact h1.append h2
    intro s hs u h p
    obtain ⟨q1, q2, q3, q4, q5, q6, q7, q8⟩ := h.parts
    have hz := s.size_eq
    have ha := hl s.la u.la (by omega) ⟨q5, q7⟩ (p + 1)
    have hb := hl s.lb u.lb (by omega) ⟨q6, q8⟩ (p + 2 + (codeL s.la (p + 1)).length)
    have hbare : SameS (bareX s.kind s.name s.e s.f) (bareX u.kind u.name u.e u.f) := by
      rw [q1, q2]
      exact bare_same q3 q4
    rw [codeS_eq, codeS_eq, q1, ha.1, hb.1]
    rw [q1] at hbare
    split
    · exact SameI.cons ⟨rfl, hbare, rfl⟩ (ha.append (SameI.cons ⟨rfl, SameS.refl _ _ (Nat.le_refl _), rfl⟩ hb))
    · split
      · exact SameI.cons ⟨rfl, hbare, rfl⟩ (ha.append (SameI.cons ⟨rfl, SameS.refl _ _ (Nat.le_refl _), rfl⟩ SameI.nil))
      · exact SameI.cons ⟨rfl, hbare, rfl⟩ SameI.nil
theorem codeL_same {ks us : List SX} (h : SameL ks us) (p : Nat) : SameI (codeL ks p) (codeL us p) := by
  induction ks generalizing us p with
  | nil =>
    have : us = [] := List.length_eq_zero_iff.1 (by simpa using h.1)
    subst this
    exact SameI.nil
  | cons t ts iht =>
    match us, h with
    | [], h => exact absurd h.1 (by simp)
    | v :: vs, h =>
      have h1 := code_same _ t (Nat.le_refl _) v (h.2 0 t v rfl rfl) p
      have h2 := iht (us := vs) ⟨by have := h.1; simpa using this, fun i a b ha hb => h.2 (i + 1) a b (by simpa using ha) (by simpa using hb)⟩ (p + (codeS t p).length)
      rw [codeL, codeL, h1.1]
      exact h1.append h2
/-- the code of statements, with its end -/
def flatL (ks : List SX) : List IX := codeL ks 0 ++ [⟨4, zS, 0⟩]
theorem flatL_same {ks us : List SX} (h : SameL ks us) : SameI (flatL ks) (flatL us) :=
  (codeL_same h 0).append (SameI.cons ⟨rfl, SameS.refl _ _ (Nat.le_refl _), rfl⟩ SameI.nil)
end Go.Proofs.Ytimfdfeleoaehaa
namespace Go.Proofs.Ytimfdfeleoaehaa
open Go.RowKit Go.Shelf
set_option linter.unusedSimpArgs false
set_option linter.unusedVariables false
attribute [local go_sem] Oper.semAt_some

theorem OwnSR.none (W : World) (lo hi : Nat) : OwnSR W lo hi none [] :=
  .mk _ _ _ _ 0 0 (fun _ => 0) (fun _ => 0) (fun i k hk => by simp at hk) (fun i k hk => by simp at hk) (fun i hi => by simp at hi) (fun i j hi => by simp at hi) (fun i k hk => by simp at hk) (fun i k hk => by simp at hk) (fun i k hk => by simp at hk) (fun i k hk => by simp at hk)
set_option maxRecDepth 20000 in
set_option maxHeartbeats 16000000 in
theorem specBare (s : SX) (hm : SmallS s) (ok : Nat → Prop) (w : World) (hok : ∀ b, ok b → b < w.heap.size) (hL : LiesS ok w s) :
    Calls Try.prog 61 #[s.val] w fun e w' => ∃ (e' f' : XT), e = .returned (bareX s.kind s.name e' f').val ∧ Same s.e e' ∧ Same s.f f' ∧ OwnS1 w' w.heap.size w'.heap.size (bareX s.kind s.name e' f') ∧ Below w.heap.size w w' := by
  obtain ⟨m1, m2, m3, m4, m5, m6⟩ := hm.parts
  obtain ⟨W1, hW1⟩ : ∃ W1, w.alloc (.cells #[.int .i64 s.kind, .string s.name, .int .i64 s.e.kind, .int .i64 s.e.num, .string s.e.name, .slice s.e.base s.e.kids.length s.e.cap, .int .i64 s.f.kind, .int .i64 s.f.num, .string s.f.name, .slice s.f.base s.f.kids.length s.f.cap, .slice s.abase s.la.length s.acap, .slice s.bbase s.lb.length s.bcap] 50) = W1 := ⟨_, rfl⟩
  obtain ⟨W2, hW2⟩ : ∃ W2, W1.alloc (.cells #[.int .i64 0, .string ⟨#[]⟩, .int .i64 0, .int .i64 0, .string ⟨#[]⟩, .slice none 0 0, .int .i64 0, .int .i64 0, .string ⟨#[]⟩, .slice none 0 0, .slice none 0 0, .slice none 0 0] 50) = W2 := ⟨_, rfl⟩
  have s1 : W1.heap.size = w.heap.size + 1 := by rw [← hW1]; simp
  have s2 : W2.heap.size = w.heap.size + 2 := by rw [← hW2]; simp [s1]
  have hB2 : Below w.heap.size w W2 := by rw [← hW2, ← hW1]; exact ((Below.refl _ w).alloc (Nat.le_refl _) _).alloc (by simp) _
  have hR2 : RowAt W2 (w.heap.size + 1) 12 50 := by
    have h := RowAt.new W1 #[.int .i64 0, .string ⟨#[]⟩, .int .i64 0, .int .i64 0, .string ⟨#[]⟩, .slice none 0 0, .int .i64 0, .int .i64 0, .string ⟨#[]⟩, .slice none 0 0, .slice none 0 0, .slice none 0 0] 50
    rw [hW2, s1] at h
    exact h
  have hC : Cells12 W2 w.heap.size 0 s := by
    have h := Cells12.new w s 50
    rw [hW1] at h
    rw [← hW2]
    exact h.below (n := W1.heap.size) ((Below.refl _ _).alloc (Nat.le_refl _) _) (by omega)
  have hL2 := hL.under hB2 hok
  have hok2 : ∀ b, ok b → b < W2.heap.size := fun b hb => Nat.lt_of_lt_of_le (hok b hb) hB2.size
  have g1 := m2.1
  have g2 := m3.1
  have HC : Hid (∀ (t : XT) (x : World), isPart s t → Below W2.heap.size W2 x → Calls Try.prog 77 #[t.val] x fun e w' => ∃ t' : XT, e = .returned t'.val ∧ Same t t' ∧ OwnR w' x.heap.size w'.heap.size t'.base t'.kids ∧ Below x.heap.size x w') := by
    rintro t x (rfl | rfl) hx
    · exact specCopyE _ _ (Nat.le_refl _) (by omega) ok x (fun b hb => Nat.lt_of_lt_of_le (hok2 b hb) hx.size) (hL2.parts.1.under hx hok2)
    · exact specCopyE _ _ (Nat.le_refl _) (by omega) ok x (fun b hb => Nat.lt_of_lt_of_le (hok2 b hb) hx.size) (hL2.parts.2.1.under hx hok2)
  have hEE : isPart s s.e := .inl rfl
  have hFF : isPart s s.f := .inr rfl
  have hXd : Below W2.heap.size W2 W2.drew := (Below.refl _ W2).drew
  have hzd : W2.drew.heap.size = W2.heap.size := rfl
  have c0 : W2.cell? ⟨w.heap.size, 0, none⟩ = some (.int .i64 s.kind) := (hC.below (Below.refl W2.heap.size W2) (by omega)).c0
  have c1 : W2.cell? ⟨w.heap.size, 1, none⟩ = some (.string s.name) := (hC.below (Below.refl W2.heap.size W2) (by omega)).c1
  have c2 : W2.cell? ⟨w.heap.size, 2, none⟩ = some (.int .i64 s.e.kind) := (hC.below (Below.refl W2.heap.size W2) (by omega)).c2
  have c3 : W2.cell? ⟨w.heap.size, 3, none⟩ = some (.int .i64 s.e.num) := (hC.below (Below.refl W2.heap.size W2) (by omega)).c3
  have c4 : W2.cell? ⟨w.heap.size, 4, none⟩ = some (.string s.e.name) := (hC.below (Below.refl W2.heap.size W2) (by omega)).c4
  have c5 : W2.cell? ⟨w.heap.size, 5, none⟩ = some (.slice s.e.base s.e.kids.length s.e.cap) := (hC.below (Below.refl W2.heap.size W2) (by omega)).c5
  have c6 : W2.cell? ⟨w.heap.size, 6, none⟩ = some (.int .i64 s.f.kind) := (hC.below (Below.refl W2.heap.size W2) (by omega)).c6
  have c7 : W2.cell? ⟨w.heap.size, 7, none⟩ = some (.int .i64 s.f.num) := (hC.below (Below.refl W2.heap.size W2) (by omega)).c7
  have c8 : W2.cell? ⟨w.heap.size, 8, none⟩ = some (.string s.f.name) := (hC.below (Below.refl W2.heap.size W2) (by omega)).c8
  have c9 : W2.cell? ⟨w.heap.size, 9, none⟩ = some (.slice s.f.base s.f.kids.length s.f.cap) := (hC.below (Below.refl W2.heap.size W2) (by omega)).c9
  clear hL hL2 m5 m6
  go_enter Try.func61, Try.ntmps61
  go_wp2_with fail
  go_region_held3 (fun w' => w'.cell? ⟨w.heap.size, 0, none⟩ = some (.int .i64 s.kind) ∧ w'.cell? ⟨w.heap.size, 1, none⟩ = some (.string s.name) ∧ w'.cell? ⟨w.heap.size, 2, none⟩ = some (.int .i64 s.e.kind) ∧ w'.cell? ⟨w.heap.size, 3, none⟩ = some (.int .i64 s.e.num) ∧ w'.cell? ⟨w.heap.size, 4, none⟩ = some (.string s.e.name) ∧ w'.cell? ⟨w.heap.size, 5, none⟩ = some (.slice s.e.base s.e.kids.length s.e.cap) ∧ w'.cell? ⟨w.heap.size, 6, none⟩ = some (.int .i64 s.f.kind) ∧ w'.cell? ⟨w.heap.size, 7, none⟩ = some (.int .i64 s.f.num) ∧ w'.cell? ⟨w.heap.size, 8, none⟩ = some (.string s.f.name) ∧ w'.cell? ⟨w.heap.size, 9, none⟩ = some (.slice s.f.base s.f.kids.length s.f.cap)) (simp [*, go_sem, World.cell?_alloc_some, World.cell?_setCell_far, apart1, apart2, apart3, apart4, apart5, apart6]) (first | (go_at_call 77; refine (HC.out _ _ (by exact hEE) (by exact hXd)).mono ?_; rintro e x1 ⟨e', rfl, hs1, hO1, hb1⟩; (have hx1 := bstep hXd hb1); (have k0 : x1.cell? ⟨w.heap.size, 0, none⟩ = some (.int .i64 s.kind) := (hC.below hx1 (by omega)).c0); (have k1 : x1.cell? ⟨w.heap.size, 1, none⟩ = some (.string s.name) := (hC.below hx1 (by omega)).c1); (have k2 : x1.cell? ⟨w.heap.size, 2, none⟩ = some (.int .i64 s.e.kind) := (hC.below hx1 (by omega)).c2); (have k3 : x1.cell? ⟨w.heap.size, 3, none⟩ = some (.int .i64 s.e.num) := (hC.below hx1 (by omega)).c3); (have k4 : x1.cell? ⟨w.heap.size, 4, none⟩ = some (.string s.e.name) := (hC.below hx1 (by omega)).c4); (have k5 : x1.cell? ⟨w.heap.size, 5, none⟩ = some (.slice s.e.base s.e.kids.length s.e.cap) := (hC.below hx1 (by omega)).c5); (have k6 : x1.cell? ⟨w.heap.size, 6, none⟩ = some (.int .i64 s.f.kind) := (hC.below hx1 (by omega)).c6); (have k7 : x1.cell? ⟨w.heap.size, 7, none⟩ = some (.int .i64 s.f.num) := (hC.below hx1 (by omega)).c7); (have k8 : x1.cell? ⟨w.heap.size, 8, none⟩ = some (.string s.f.name) := (hC.below hx1 (by omega)).c8); (have k9 : x1.cell? ⟨w.heap.size, 9, none⟩ = some (.slice s.f.base s.f.kids.length s.f.cap) := (hC.below hx1 (by omega)).c9)) | (go_at_call 77; refine (HC.out _ _ (by exact hFF) (by exact hx1)).mono ?_; rintro e x2 ⟨f', rfl, hs2, hO2, hb2⟩; (have hx2 := bstep hx1 hb2); (have l0 : x2.cell? ⟨w.heap.size, 0, none⟩ = some (.int .i64 s.kind) := (hC.below hx2 (by omega)).c0); (have l1 : x2.cell? ⟨w.heap.size, 1, none⟩ = some (.string s.name) := (hC.below hx2 (by omega)).c1); (have l2 : x2.cell? ⟨w.heap.size, 2, none⟩ = some (.int .i64 s.e.kind) := (hC.below hx2 (by omega)).c2); (have l3 : x2.cell? ⟨w.heap.size, 3, none⟩ = some (.int .i64 s.e.num) := (hC.below hx2 (by omega)).c3); (have l4 : x2.cell? ⟨w.heap.size, 4, none⟩ = some (.string s.e.name) := (hC.below hx2 (by omega)).c4); (have l5 : x2.cell? ⟨w.heap.size, 5, none⟩ = some (.slice s.e.base s.e.kids.length s.e.cap) := (hC.below hx2 (by omega)).c5); (have l6 : x2.cell? ⟨w.heap.size, 6, none⟩ = some (.int .i64 s.f.kind) := (hC.below hx2 (by omega)).c6); (have l7 : x2.cell? ⟨w.heap.size, 7, none⟩ = some (.int .i64 s.f.num) := (hC.below hx2 (by omega)).c7); (have l8 : x2.cell? ⟨w.heap.size, 8, none⟩ = some (.string s.f.name) := (hC.below hx2 (by omega)).c8); (have l9 : x2.cell? ⟨w.heap.size, 9, none⟩ = some (.slice s.f.base s.f.kids.length s.f.cap) := (hC.below hx2 (by omega)).c9); (have hRx := hR2.of_block (hx2.block _ (by omega))); (obtain ⟨p0, t0⟩ := hRx.cell (o := 0) (by omega)); (have z0 := hRx.frozen 0); (obtain ⟨p1, t1⟩ := hRx.cell (o := 1) (by omega)); (have z1 := hRx.frozen 1); (obtain ⟨p2, t2⟩ := hRx.cell (o := 2) (by omega)); (have z2 := hRx.frozen 2); (obtain ⟨p3, t3⟩ := hRx.cell (o := 3) (by omega)); (have z3 := hRx.frozen 3); (obtain ⟨p4, t4⟩ := hRx.cell (o := 4) (by omega)); (have z4 := hRx.frozen 4); (obtain ⟨p5, t5⟩ := hRx.cell (o := 5) (by omega)); (have z5 := hRx.frozen 5); (obtain ⟨p6, t6⟩ := hRx.cell (o := 6) (by omega)); (have z6 := hRx.frozen 6); (obtain ⟨p7, t7⟩ := hRx.cell (o := 7) (by omega)); (have z7 := hRx.frozen 7); (obtain ⟨p8, t8⟩ := hRx.cell (o := 8) (by omega)); (have z8 := hRx.frozen 8); (obtain ⟨p9, t9⟩ := hRx.cell (o := 9) (by omega)); (have z9 := hRx.frozen 9); (obtain ⟨p10, t10⟩ := hRx.cell (o := 10) (by omega)); (have z10 := hRx.frozen 10); (obtain ⟨p11, t11⟩ := hRx.cell (o := 11) (by omega)); (have z11 := hRx.frozen 11)))
  all_goals
    have zz1 := hx1.size
    have zz2 := hb2.size
    have hK : Kept (fun k => k = w.heap.size + 1) x2 ((((((((((((x2.setCell ⟨w.heap.size + 1, 0, none⟩ (.int .i64 s.kind)).setCell ⟨w.heap.size + 1, 1, none⟩ (.string s.name)).setCell ⟨w.heap.size + 1, 2, none⟩ (.int .i64 e'.kind)).setCell ⟨w.heap.size + 1, 3, none⟩ (.int .i64 e'.num)).setCell ⟨w.heap.size + 1, 4, none⟩ (.string e'.name)).setCell ⟨w.heap.size + 1, 5, none⟩ (.slice e'.base e'.kids.length e'.cap)).setCell ⟨w.heap.size + 1, 6, none⟩ (.int .i64 f'.kind)).setCell ⟨w.heap.size + 1, 7, none⟩ (.int .i64 f'.num)).setCell ⟨w.heap.size + 1, 8, none⟩ (.string f'.name)).setCell ⟨w.heap.size + 1, 9, none⟩ (.slice f'.base f'.kids.length f'.cap)).setCell ⟨w.heap.size + 1, 10, none⟩ (.slice none 0 0)).setCell ⟨w.heap.size + 1, 11, none⟩ (.slice none 0 0)) := (((((((((((((Kept.refl (fun k => k = w.heap.size + 1) x2).setCell (p := ⟨w.heap.size + 1, 0, none⟩) rfl (.int .i64 s.kind)).setCell (p := ⟨w.heap.size + 1, 1, none⟩) rfl (.string s.name)).setCell (p := ⟨w.heap.size + 1, 2, none⟩) rfl (.int .i64 e'.kind)).setCell (p := ⟨w.heap.size + 1, 3, none⟩) rfl (.int .i64 e'.num)).setCell (p := ⟨w.heap.size + 1, 4, none⟩) rfl (.string e'.name)).setCell (p := ⟨w.heap.size + 1, 5, none⟩) rfl (.slice e'.base e'.kids.length e'.cap)).setCell (p := ⟨w.heap.size + 1, 6, none⟩) rfl (.int .i64 f'.kind)).setCell (p := ⟨w.heap.size + 1, 7, none⟩) rfl (.int .i64 f'.num)).setCell (p := ⟨w.heap.size + 1, 8, none⟩) rfl (.string f'.name)).setCell (p := ⟨w.heap.size + 1, 9, none⟩) rfl (.slice f'.base f'.kids.length f'.cap)).setCell (p := ⟨w.heap.size + 1, 10, none⟩) rfl (.slice none 0 0)).setCell (p := ⟨w.heap.size + 1, 11, none⟩) rfl (.slice none 0 0))
    have hown : OwnS1 ((((((((((((x2.setCell ⟨w.heap.size + 1, 0, none⟩ (.int .i64 s.kind)).setCell ⟨w.heap.size + 1, 1, none⟩ (.string s.name)).setCell ⟨w.heap.size + 1, 2, none⟩ (.int .i64 e'.kind)).setCell ⟨w.heap.size + 1, 3, none⟩ (.int .i64 e'.num)).setCell ⟨w.heap.size + 1, 4, none⟩ (.string e'.name)).setCell ⟨w.heap.size + 1, 5, none⟩ (.slice e'.base e'.kids.length e'.cap)).setCell ⟨w.heap.size + 1, 6, none⟩ (.int .i64 f'.kind)).setCell ⟨w.heap.size + 1, 7, none⟩ (.int .i64 f'.num)).setCell ⟨w.heap.size + 1, 8, none⟩ (.string f'.name)).setCell ⟨w.heap.size + 1, 9, none⟩ (.slice f'.base f'.kids.length f'.cap)).setCell ⟨w.heap.size + 1, 10, none⟩ (.slice none 0 0)).setCell ⟨w.heap.size + 1, 11, none⟩ (.slice none 0 0)) w.heap.size ((((((((((((x2.setCell ⟨w.heap.size + 1, 0, none⟩ (.int .i64 s.kind)).setCell ⟨w.heap.size + 1, 1, none⟩ (.string s.name)).setCell ⟨w.heap.size + 1, 2, none⟩ (.int .i64 e'.kind)).setCell ⟨w.heap.size + 1, 3, none⟩ (.int .i64 e'.num)).setCell ⟨w.heap.size + 1, 4, none⟩ (.string e'.name)).setCell ⟨w.heap.size + 1, 5, none⟩ (.slice e'.base e'.kids.length e'.cap)).setCell ⟨w.heap.size + 1, 6, none⟩ (.int .i64 f'.kind)).setCell ⟨w.heap.size + 1, 7, none⟩ (.int .i64 f'.num)).setCell ⟨w.heap.size + 1, 8, none⟩ (.string f'.name)).setCell ⟨w.heap.size + 1, 9, none⟩ (.slice f'.base f'.kids.length f'.cap)).setCell ⟨w.heap.size + 1, 10, none⟩ (.slice none 0 0)).setCell ⟨w.heap.size + 1, 11, none⟩ (.slice none 0 0)).heap.size (bareX s.kind s.name e' f') := by
      have hzK := hK.size
      refine ⟨fun m => if m = 0 then W2.heap.size else x1.heap.size, fun m => if m = 0 then x1.heap.size else if m = 1 then x2.heap.size else 0, fun m hm => ?_, fun m n hm hn hmn => ?_, ?_, ?_, ?_, ?_⟩
      · rcases (show m = 0 ∨ m = 1 ∨ m = 2 ∨ m = 3 by omega) with rfl | rfl | rfl | rfl <;> simp <;> omega
      · rcases (show m = 0 ∨ m = 1 ∨ m = 2 ∨ m = 3 by omega) with rfl | rfl | rfl | rfl <;> rcases (show n = 0 ∨ n = 1 ∨ n = 2 ∨ n = 3 by omega) with rfl | rfl | rfl | rfl <;> first | exact absurd rfl hmn | (simp; done) | (simp; omega)
      · exact hO1.mono (fun b p1 p2 => (hK.block b (by first | omega | (simp at p2; omega)) (by first | omega | (simp at p1; omega))).trans (hb2.block b (by first | omega | (simp at p2; omega))))
      · exact hO2.mono (fun b p1 p2 => hK.block b (by first | omega | (simp at p2; omega)) (by first | omega | (simp at p1; omega)))
      · exact OwnSR.none _ _ _
      · exact OwnSR.none _ _ _
    have hbel : Below w.heap.size w ((((((((((((x2.setCell ⟨w.heap.size + 1, 0, none⟩ (.int .i64 s.kind)).setCell ⟨w.heap.size + 1, 1, none⟩ (.string s.name)).setCell ⟨w.heap.size + 1, 2, none⟩ (.int .i64 e'.kind)).setCell ⟨w.heap.size + 1, 3, none⟩ (.int .i64 e'.num)).setCell ⟨w.heap.size + 1, 4, none⟩ (.string e'.name)).setCell ⟨w.heap.size + 1, 5, none⟩ (.slice e'.base e'.kids.length e'.cap)).setCell ⟨w.heap.size + 1, 6, none⟩ (.int .i64 f'.kind)).setCell ⟨w.heap.size + 1, 7, none⟩ (.int .i64 f'.num)).setCell ⟨w.heap.size + 1, 8, none⟩ (.string f'.name)).setCell ⟨w.heap.size + 1, 9, none⟩ (.slice f'.base f'.kids.length f'.cap)).setCell ⟨w.heap.size + 1, 10, none⟩ (.slice none 0 0)).setCell ⟨w.heap.size + 1, 11, none⟩ (.slice none 0 0)) := (hB2.trans (hx2.mono (by omega))).trans (hK.below (by omega) (fun k e => by omega))
    clear hO1 hO2
    go_wp2
    first | go_returns | (refine bodyPost_ret (by simp [results, Try.results61, go_sem, *]; try rfl) rfl ?_)
    exact ⟨e', f', rfl, hs1, hs2, hown, hbel⟩
end Go.Proofs.Ytimfdfeleoaehaa
namespace Go.Proofs.Ytimfdfeleoaehaa
open Go.RowKit Go.Shelf
set_option linter.unusedSimpArgs false
set_option linter.unusedVariables false
attribute [local go_sem] Oper.semAt_some

/-- a list of instructions that a call has made -/
def MadeI (xs : List IX) (base : Nat) (v : Value) (w : World) : Prop := ∃ (us : List IX) (l h : Nat → Nat), v ≠ .slice none 0 0 ∧ SameI xs us ∧ AccI w base v us l h
theorem MadeI.below {xs : List IX} {base : Nat} {v : Value} {A B : World} (h : MadeI xs base v A) (hb : Below A.heap.size A B) : MadeI xs base v B := by
  obtain ⟨us, l, h', h1, h2, h3⟩ := h
  exact ⟨us, l, h', h1, h2, h3.below hb⟩
theorem MadeI.cells {xs : List IX} {base : Nat} {v : Value} {w : World} (h : MadeI xs base v w) : ∃ (g cap : Nat) (us : List IX), v = .slice (some ⟨g, 0, none⟩) xs.length cap ∧ us.length = xs.length ∧ (fl14 us).length = xs.length * 14 ∧ (∀ u ∈ fl14 us, u.oneCell' = true) ∧ (∀ j u, (fl14 us)[j]? = some u → w.cell? ((⟨g, 0, none⟩ : Addr).add j) = some u) := by
  obtain ⟨us, l, h', h1, h2, h3⟩ := h
  obtain ⟨g, cap, rfl, h4⟩ := h3.cellsOf (n := 0) h1
  exact ⟨g, cap, us, by rw [h2.1], h2.1, by rw [fl14_length, h2.1], fl14_one us, h4⟩
theorem sizeAll_app (us bs : List SX) : SX.sizeAll (us ++ bs) = SX.sizeAll us + SX.sizeAll bs := by
  induction us with
  | nil => simp [SX.sizeAll]
  | cons x xs ih => simp only [List.cons_append, SX.sizeAll, ih]; omega
theorem codeL_take_len {ks : List SX} {i : Nat} {x : SX} (h : ks[i]? = some x) (p : Nat) : (codeL (ks.take i) p).length + 2 * x.size ≤ 2 * SX.sizeAll ks := by
  have h1 := codeL_len (ks.take i) p
  have h2 := sizeAll_app (ks.take (i + 1)) (ks.drop (i + 1))
  rw [List.take_append_drop, List.take_add_one, h, Option.toList_some, sizeAll_app] at h2
  simp only [SX.sizeAll] at h2
  omega
theorem infoI2 : (Try.prog.info? 52).map (fun i => (i.zero, i.size, i.bytes)) = some (some (.agg #[.int .i64 0, .int .i64 0, .string ByteArray.empty, .int .i64 0, .int .i64 0, .string ByteArray.empty, .slice none 0 0, .int .i64 0, .int .i64 0, .string ByteArray.empty, .slice none 0 0, .slice none 0 0, .slice none 0 0, .int .i64 0]), 14, 200) := by kernel_rfl
set_option maxRecDepth 10000 in
set_option maxHeartbeats 4000000 in
theorem specListOf (ks : List SX) (hsz : SX.sizeAll ks ≤ 2097152) (a : Option Addr) (c p : Nat) (hp : p ≤ 1099511627776) (ok : Nat → Prop) (w : World) (hok : ∀ b, ok b → b < w.heap.size) (hcl : SRow ok w a ks)
    (H : ∀ (i : Nat) (x : SX), ks[i]? = some x → ∀ (q : Nat) (w' : World), q + 2 * x.size ≤ p + 2 * SX.sizeAll ks → Below w.heap.size w w' →
      Calls Try.prog 45 #[x.val, .int .i64 (q : Int)] w' fun e w'' => ∃ v, e = .returned v ∧ MadeI (codeS x q) w'.heap.size v w'' ∧ Below w'.heap.size w' w'') :
    Calls Try.prog 22 #[.slice a ks.length c, .int .i64 (p : Int)] w fun e w' => ∃ v, e = .returned v ∧ MadeI (codeL ks p) w.heap.size v w' ∧ Below w.heap.size w w' := by
  obtain ⟨len, hl⟩ : ∃ len, ks.length = len := ⟨_, rfl⟩
  have hlen : len ≤ 2097152 := by have := SX.length_le ks; omega
  rw [hl]
  obtain ⟨i0, hi0, hz0, hz1, hz2⟩ := info_parts infoI
  go_enter Try.func22, Try.ntmps22
  go_wp2_with fail
  go_loopw [5, 6] (fun v5 v6 wr => ∃ (i : Nat) (us : List IX) (l h : Nat → Nat), v6 = .int .i64 i ∧ i ≤ len ∧ Hid (v5 ≠ .slice none 0 0) ∧ Hid (SameI (codeL (ks.take i) p) us) ∧ Hid (AccI wr w.heap.size v5 us l h) ∧ Below w.heap.size w wr) (fun _ v6 _ => len - (intOf v6).toNat)
  case atStart => exact ⟨0, [], (fun _ => 0), (fun _ => 0), rfl, by omega, (show (Value.slice (some ⟨w.heap.size, 0, none⟩) 0 0) ≠ .slice none 0 0 from fun h => by cases h), (show SameI (codeL (ks.take 0) p) [] by rw [List.take_zero]; exact SameI.nil), AccI.made _ (Nat.le_refl _), (Below.refl _ _).alloc (Nat.le_refl _) _⟩
  case round =>
    obtain ⟨i, us, l, h, rfl, hi, hnn, hsm', hA, hB⟩ := hrel
    obtain ⟨v, hv⟩ : ∃ v, u5 = v := ⟨_, rfl⟩
    rw [hv] at hnn hA ⊢
    clear hv
    by_cases hlt : i < len
    · obtain ⟨x, hx⟩ : ∃ x, ks[i]? = some x := ⟨_, List.getElem?_eq_getElem (by omega)⟩
      obtain ⟨b1, o1, hbase1, hok1, hc1⟩ := hcl i x hx
      obtain ⟨c0, c1, c2, c3, c4, c5, c6, c7, c8, c9, c10, c11⟩ := hc1.below hB (hok b1 hok1)
      have hfx := codeL_take hx p
      have hfl2 := codeL_take_le ks i p
      have hfl3 := codeL_take_len hx p
      have hul : Hid (us.length = (codeL (ks.take i) p).length) := hsm'.out.1
      obtain ⟨n, hn⟩ : ∃ n, us.length = n := ⟨_, rfl⟩
      have hn2 : n ≤ 4194304 := by have := hul.out; omega
      have hq : Hid ((codeL (ks.take i) p).length = n) := by have := hul.out; show _ = _; omega
      have hcall : Hid (Calls Try.prog 45 #[x.val, .int .i64 ((p : Int) + (n : Int))] wr fun e w'' => ∃ v, e = .returned v ∧ MadeI (codeS x (p + n)) wr.heap.size v w'' ∧ Below wr.heap.size wr w'') := H i x hx (p + n) wr (by have := hq.out; omega) hB
      obtain ⟨g0, cap0, rfl, -⟩ := hA.out.cellsOf (n := 0) hnn.out
      rw [hn]
      subst hbase1
      clear hfl2 hfl3
      go_wp2_with fail
      go_at_call 45
      refine hcall.out.mono ?_
      rintro e w2 ⟨v2, rfl, hM, hB2⟩
      clear c0 c1 c2 c3 c4 c5 c6 c7 c8 c9 c10 c11 hcall
      have hA2 := hA.out.below hB2
      have hz2' := hB2.size
      have hzw := hB.size
      obtain ⟨vs, l2, h2, hn3, hs3, hA3⟩ := hM
      obtain ⟨g3, cap3, rfl, hnew⟩ := hA3.cellsOf (n := 0) hn3
      have hvl := code_len _ x (Nat.le_refl _) (p + n)
      have hxz := SX.size_get hx
      have hvs := hs3.1
      have hnewH : Hid (∀ j u, (fl14 vs)[j]? = some u → w2.cell? ((⟨g3, 0, none⟩ : Addr).add j) = some u) := hnew
      have hown3 : Hid (w2.ownsRow w.heap.size 52 14 (.slice (some ⟨g0, 0, none⟩) n cap0) n (fl14 us)) := by have h9 := hA2.own; rw [hn] at h9; exact h9
      obtain ⟨m, hm⟩ : ∃ m, vs.length = m := ⟨_, rfl⟩
      have hm2 : m ≤ 8388608 := by omega
      have hfl : Hid ((fl14 vs).length = m * 14) := by rw [← hm]; exact fl14_length vs
      have hM2 : Hid (AccI w2 wr.heap.size (.slice (some ⟨g3, 0, none⟩) m cap3) vs l2 h2) := by rw [← hm]; exact hA3
      rw [hm]
      clear hnew hA3 hvs hvl
      go_wp2_with (at_builtin; refine wpList_append0 _ rfl _ _ 24 rfl w.heap.size 52 i0 _ 14 200 Try.underlying24 hi0 hz0 hz1 hz2 rfl (by decide) (.slice (some ⟨g0, 0, none⟩) n cap0) n (fl14 us) rfl hown3.out ⟨g3, 0, none⟩ m cap3 (fl14 vs) rfl hfl.out hnewH.out (fl14_one vs) (by unfold maxLen; omega) (by omega) (by omega) ?_; intro v4 w4 hown4 hback4; (have hB4 : Below w.heap.size w w4 := (bstep hB hB2).trans (hback4.1.below (by omega) (fun k hk => (hown3.out.lt k hk).1))))
      obtain ⟨lp, hpp, hP⟩ : ∃ l h, AccI w4 w.heap.size v4 (us ++ vs) l h := by
        refine ⟨_, _, hA2.pushAll (v' := v4) hM2.out (fun j k hj hk => ?_) (by omega) (fun g hg k hk => ?_) (by rw [hn, hm]; exact hown4) ?_⟩
        · have q1 := (hA.out.int j hj).2.1
          have q2 := (hM2.out.int k hk).1
          left; omega
        · have q1 := (hA.out.own.lt g hg).2
          have q2 := (hM2.out.int k hk).1
          left; omega
        · rw [hn]
          exact hback4
      refine ⟨⟨i + 1, _, _, _, by go_num, by omega, hback4.2.2 (fun h => by cases h), ?_, hP, hB4⟩, by simp [intOf]; omega⟩
      show SameI _ _
      rw [hfx, hq.out]
      exact hsm'.out.append hs3
    · have he : i = len := by omega
      go_wp2_with fail
      go_returns
      refine ⟨v, rfl, ⟨us, l, h, hnn.out, ?_, hA.out⟩, hB⟩
      have h9 := hsm'.out
      rw [he, ← hl, List.take_length] at h9
      exact h9

end Go.Proofs.Ytimfdfeleoaehaa
namespace Go.Proofs.Ytimfdfeleoaehaa
open Go.RowKit Go.Shelf
set_option linter.unusedSimpArgs false
set_option linter.unusedVariables false
attribute [local go_sem] Oper.semAt_some

theorem ix_bare {op k d d' : Int} {n : ByteArray} {e f e' f' : XT} (h1 : Same e e') (h2 : Same f f') (hd : d' = d) : IX.Same ⟨op, bareX k n e f, d⟩ ⟨op, bareX k n e' f', d'⟩ := ⟨rfl, bare_same h1 h2, hd⟩
theorem ix_none {op d d' : Int} (hd : d' = d) : IX.Same ⟨op, zS, d⟩ ⟨op, zS, d'⟩ := ⟨rfl, SameS.refl _ _ (Nat.le_refl _), hd⟩
set_option maxRecDepth 10000 in
set_option maxHeartbeats 4000000 in
theorem specDoes (k : Int) (hk3 : ¬ k = 3) (hk4 : ¬ k = 4) (n : ByteArray) (e f : XT) (ab : Option Addr) (ac : Nat) (la : List SX) (bb : Option Addr) (bc : Nat) (lb : List SX) (p : Nat) (w : World) (HC : ∀ W, Below w.heap.size w W → Calls Try.prog 61 #[.agg #[.int .i64 k, .string n, .int .i64 e.kind, .int .i64 e.num, .string e.name, .slice e.base e.kids.length e.cap, .int .i64 f.kind, .int .i64 f.num, .string f.name, .slice f.base f.kids.length f.cap, .slice ab la.length ac, .slice bb lb.length bc]] W fun r w' => ∃ (e' f' : XT), r = .returned (.agg #[.int .i64 k, .string n, .int .i64 e'.kind, .int .i64 e'.num, .string e'.name, .slice e'.base e'.kids.length e'.cap, .int .i64 f'.kind, .int .i64 f'.num, .string f'.name, .slice f'.base f'.kids.length f'.cap, .slice none 0 0, .slice none 0 0]) ∧ Same e e' ∧ Same f f' ∧ OwnS1 w' W.heap.size w'.heap.size (bareX k n e' f') ∧ Below W.heap.size W w') :
    Calls Try.prog 45 #[.agg #[.int .i64 k, .string n, .int .i64 e.kind, .int .i64 e.num, .string e.name, .slice e.base e.kids.length e.cap, .int .i64 f.kind, .int .i64 f.num, .string f.name, .slice f.base f.kids.length f.cap, .slice ab la.length ac, .slice bb lb.length bc], .int .i64 (p : Int)] w fun r w' => ∃ v, r = .returned v ∧ MadeI ([⟨1, bareX k n e f, 0⟩]) w.heap.size v w' ∧ Below w.heap.size w w' := by
  obtain ⟨W1, hW1⟩ : ∃ W1, w.alloc (.cells #[.int .i64 k, .string n, .int .i64 e.kind, .int .i64 e.num, .string e.name, .slice e.base e.kids.length e.cap, .int .i64 f.kind, .int .i64 f.num, .string f.name, .slice f.base f.kids.length f.cap, .slice ab la.length ac, .slice bb lb.length bc] 50) = W1 := ⟨_, rfl⟩
  have hs1 : w.heap.size + 1 = W1.heap.size := by rw [← hW1]; simp
  have hB1 : Below w.heap.size w W1 := by rw [← hW1]; exact (Below.refl _ w).alloc (Nat.le_refl _) _
  have hC : Cells12 W1 w.heap.size 0 (.mk k n e f ab ac la bb bc lb) := by rw [← hW1]; exact Cells12.new w (.mk k n e f ab ac la bb bc lb) _
  obtain ⟨i0, hi0, hz0, hz1, hz2⟩ := info_parts infoI
  have HC' := HC W1 hB1
  obtain ⟨c0, c1, c2, c3, c4, c5, c6, c7, c8, c9, c10, c11⟩ := raw12 hC
  clear HC
  go_enter Try.func45, Try.ntmps45
  go_wp2_with fail
  all_goals first | (exfalso; omega) | skip
  go_at_call 61
  refine HC'.mono ?_
  rintro r w2 ⟨e', f', rfl, hse, hsf, hO, hB2⟩
  clear HC' c0 c1 c2 c3 c4 c5 c6 c7 c8 c9 c10 c11
  have hz2' := hB2.size
  obtain ⟨W3, hW3⟩ : ∃ W3, w2.alloc (.cells #[.int .i64 1, .int .i64 k, .string n, .int .i64 e'.kind, .int .i64 e'.num, .string e'.name, .slice e'.base e'.kids.length e'.cap, .int .i64 f'.kind, .int .i64 f'.num, .string f'.name, .slice f'.base f'.kids.length f'.cap, .slice none 0 0, .slice none 0 0, .int .i64 0] 52) = W3 := ⟨_, rfl⟩
  have hB3 : Below w2.heap.size w2 W3 := by rw [← hW3]; exact (Below.refl _ _).alloc (Nat.le_refl _) _
  have hS : AccI W3 w.heap.size (.slice (some ⟨w2.heap.size, 0, none⟩) 1 1) [⟨1, bareX k n e' f', 0⟩] (fun _ => W1.heap.size) (fun _ => w2.heap.size) := by
    rw [← hW3]
    exact AccI.single (W := w2) (base := w.heap.size) ⟨1, bareX k n e' f', 0⟩ hO (by omega) (by omega) (Nat.le_refl _)
  have hM : Hid (MadeI [⟨1, bareX k n e f, 0⟩] w.heap.size (.slice (some ⟨w2.heap.size, 0, none⟩) 1 1) W3) := ⟨_, _, _, (fun h => by cases h), SameI.cons (ix_bare hse hsf rfl) SameI.nil, hS⟩
  clear hS
  go_wp2
  go_returns
  exact ⟨_, rfl, hM.out, (hB1.trans (hB2.mono (by omega))).trans (hB3.mono (by omega))⟩

set_option maxRecDepth 10000 in
set_option maxHeartbeats 8000000 in
theorem specWhile (n : ByteArray) (e f : XT) (ab : Option Addr) (ac : Nat) (la : List SX) (bb : Option Addr) (bc : Nat) (lb : List SX) (p : Nat) (hp : p ≤ 1099511627776) (hA1 : SX.sizeAll la ≤ 2097152) (hB1' : SX.sizeAll lb ≤ 2097152) (w : World) (HC : ∀ W, Below w.heap.size w W → Calls Try.prog 61 #[.agg #[.int .i64 4, .string n, .int .i64 e.kind, .int .i64 e.num, .string e.name, .slice e.base e.kids.length e.cap, .int .i64 f.kind, .int .i64 f.num, .string f.name, .slice f.base f.kids.length f.cap, .slice ab la.length ac, .slice bb lb.length bc]] W fun r w' => ∃ (e' f' : XT), r = .returned (.agg #[.int .i64 4, .string n, .int .i64 e'.kind, .int .i64 e'.num, .string e'.name, .slice e'.base e'.kids.length e'.cap, .int .i64 f'.kind, .int .i64 f'.num, .string f'.name, .slice f'.base f'.kids.length f'.cap, .slice none 0 0, .slice none 0 0]) ∧ Same e e' ∧ Same f f' ∧ OwnS1 w' W.heap.size w'.heap.size (bareX 4 n e' f') ∧ Below W.heap.size W w') (HA : ∀ W, Below w.heap.size w W → Calls Try.prog 22 #[.slice ab la.length ac, .int .i64 ((p : Int) + 1)] W fun r w' => ∃ v, r = .returned v ∧ MadeI (codeL la (p + 1)) W.heap.size v w' ∧ Below W.heap.size W w')  :
    Calls Try.prog 45 #[.agg #[.int .i64 4, .string n, .int .i64 e.kind, .int .i64 e.num, .string e.name, .slice e.base e.kids.length e.cap, .int .i64 f.kind, .int .i64 f.num, .string f.name, .slice f.base f.kids.length f.cap, .slice ab la.length ac, .slice bb lb.length bc], .int .i64 (p : Int)] w fun r w' => ∃ v, r = .returned v ∧ MadeI (codeS (.mk 4 n e f ab ac la bb bc lb) p) w.heap.size v w' ∧ Below w.heap.size w w' := by
  obtain ⟨W1, hW1⟩ : ∃ W1, w.alloc (.cells #[.int .i64 4, .string n, .int .i64 e.kind, .int .i64 e.num, .string e.name, .slice e.base e.kids.length e.cap, .int .i64 f.kind, .int .i64 f.num, .string f.name, .slice f.base f.kids.length f.cap, .slice ab la.length ac, .slice bb lb.length bc] 50) = W1 := ⟨_, rfl⟩
  have hs1 : w.heap.size + 1 = W1.heap.size := by rw [← hW1]; simp
  have hB1 : Below w.heap.size w W1 := by rw [← hW1]; exact (Below.refl _ w).alloc (Nat.le_refl _) _
  have hC : Cells12 W1 w.heap.size 0 (.mk 4 n e f ab ac la bb bc lb) := by rw [← hW1]; exact Cells12.new w (.mk 4 n e f ab ac la bb bc lb) _
  obtain ⟨i0, hi0, hz0, hz1, hz2⟩ := info_parts infoI
  have hla := codeL_len la (p + 1)
  have hlb := codeL_len lb (p + 2 + (codeL la (p + 1)).length)
  have hcode : Hid (codeS (.mk 4 n e f ab ac la bb bc lb) p = _) := codeS_eq (.mk 4 n e f ab ac la bb bc lb) p
  rw [hcode.out]
  clear hcode
  simp only [SX.kind, SX.name, SX.e, SX.f, SX.la, SX.lb, Int.reduceEq, if_true, if_false]
  obtain ⟨xa, hxa⟩ : ∃ xa, codeL la (p + 1) = xa := ⟨_, rfl⟩
  rw [hxa] at HA hla hlb ⊢
  obtain ⟨na, hna⟩ : ∃ na, xa.length = na := ⟨_, rfl⟩
  rw [hna] at hla hlb ⊢
  obtain ⟨xb, hxb⟩ : ∃ xb, codeL lb (p + 2 + na) = xb := ⟨_, rfl⟩
  rw [hxb] at hlb
  obtain ⟨nb, hnb⟩ : ∃ nb, xb.length = nb := ⟨_, rfl⟩
  rw [hnb] at hlb
  have hna2 : na ≤ 4194304 := by omega
  have hnb2 : nb ≤ 4194304 := by omega
  have hna' : Hid (xa.length = na) := hna
  have hnb' : Hid (xb.length = nb) := hnb
  clear hxa hxb hna hnb hla hlb
  have HA' := HA W1 hB1
  have HCH : Hid (∀ W, Below w.heap.size w W → Calls Try.prog 61 #[.agg #[.int .i64 4, .string n, .int .i64 e.kind, .int .i64 e.num, .string e.name, .slice e.base e.kids.length e.cap, .int .i64 f.kind, .int .i64 f.num, .string f.name, .slice f.base f.kids.length f.cap, .slice ab la.length ac, .slice bb lb.length bc]] W fun r w' => ∃ (e' f' : XT), r = .returned (.agg #[.int .i64 4, .string n, .int .i64 e'.kind, .int .i64 e'.num, .string e'.name, .slice e'.base e'.kids.length e'.cap, .int .i64 f'.kind, .int .i64 f'.num, .string f'.name, .slice f'.base f'.kids.length f'.cap, .slice none 0 0, .slice none 0 0]) ∧ Same e e' ∧ Same f f' ∧ OwnS1 w' W.heap.size w'.heap.size (bareX 4 n e' f') ∧ Below W.heap.size W w') := HC
  clear HA HC
  obtain ⟨c0, c1, c2, c3, c4, c5, c6, c7, c8, c9, c10, c11⟩ := raw12 hC
  go_enter Try.func45, Try.ntmps45
  go_wp2_with fail
  go_at_call 22
  refine HA'.mono ?_
  clear HA' c0 c1 c2 c3 c4 c5 c6 c7 c8 c9 c10 c11
  rintro r w2 ⟨va, rfl, hMa, hB2⟩
  have hz2' := hB2.size
  obtain ⟨ua, l2, h2, hnna, hsa, hAa⟩ := hMa
  have hua : ua.length = na := by rw [hsa.1]; exact hna'.out
  obtain ⟨ga, ca, rfl, hnewA⟩ := hAa.cellsOf (n := 0) hnna
  have hAr : ∀ i, i < ua.length → W1.heap.size ≤ l2 i ∧ h2 i ≤ w2.heap.size := fun i hi => ⟨(hAa.int i hi).1, (hAa.int i hi).2.1⟩
  rw [hua] at hAr
  have hArH : Hid (∀ i, i < na → W1.heap.size ≤ l2 i ∧ h2 i ≤ w2.heap.size) := hAr
  have hX2 := hB1.trans (hB2.mono (by omega))
  have hc2 := hC.below hB2 (by omega)
  rw [hua]
  have hAaH : Hid (AccI w2 W1.heap.size (.slice (some ⟨ga, 0, none⟩) na ca) ua l2 h2) := by rw [← hua]; exact hAa
  have huaH : Hid (ua.length = na) := hua
  have hsaH : Hid (SameI xa ua) := hsa
  clear hAr hnewA hAa hnna hua hsa
  obtain ⟨c0, c1, c2, c3, c4, c5, c6, c7, c8, c9, c10, c11⟩ := raw12 hc2
  obtain ⟨w3, hw3⟩ : ∃ w3, w2 = w3 := ⟨_, rfl⟩
  have hB3 : Below w2.heap.size w2 w3 := by rw [← hw3]; exact Below.refl _ _
  have hX3 : Below w.heap.size w w3 := by rw [← hw3]; exact hX2
  have hc3 : Cells12 w3 w.heap.size 0 (.mk 4 n e f ab ac la bb bc lb) := by rw [← hw3]; exact hc2
  have hAa3 : Hid (AccI w3 W1.heap.size (.slice (some ⟨ga, 0, none⟩) na ca) ua l2 h2) := by rw [← hw3]; exact hAaH
  have hz3' := hB3.size
  rw [hw3]
  clear hw3 hAaH c0 c1 c2 c3 c4 c5 c6 c7 c8 c9 c10 c11
  obtain ⟨c0, c1, c2, c3, c4, c5, c6, c7, c8, c9, c10, c11⟩ := raw12 hc3
  have HC' := HCH.out w3 hX3
  go_wp2_with fail
  go_at_call 61
  refine HC'.mono ?_
  clear HC' c0 c1 c2 c3 c4 c5 c6 c7 c8 c9 c10 c11
  rintro r w4 ⟨e', f', rfl, hse, hsf, hO, hB4⟩
  have hz4' := hB4.size
  have hX4 := hX3.trans (hB4.mono (by have := hX3.size; omega))
  have hzX4 := hX4.size
  obtain ⟨W5, hW5⟩ : ∃ W5, w4.alloc (.cells #[.int .i64 2, .int .i64 4, .string n, .int .i64 e'.kind, .int .i64 e'.num, .string e'.name, .slice e'.base e'.kids.length e'.cap, .int .i64 f'.kind, .int .i64 f'.num, .string f'.name, .slice f'.base f'.kids.length f'.cap, .slice none 0 0, .slice none 0 0, .int .i64 ((p : Int) + 2 + (na : Int))] 52) = W5 := ⟨_, rfl⟩
  have hB5 : Below w4.heap.size w4 W5 := by rw [← hW5]; exact (Below.refl _ _).alloc (Nat.le_refl _) _
  have hs5 : W5.heap.size = w4.heap.size + 1 := by rw [← hW5]; simp
  have hS5 : Hid (AccI W5 w.heap.size (.slice (some ⟨w4.heap.size, 0, none⟩) 1 1) [⟨2, bareX 4 n e' f', (p : Int) + 2 + (na : Int)⟩] (fun _ => w3.heap.size) (fun _ => w4.heap.size)) := by
    rw [← hW5]
    exact AccI.single (W := w4) (base := w.heap.size) ⟨2, bareX 4 n e' f', (p : Int) + 2 + (na : Int)⟩ hO (by have := hX3.size; omega) (by omega) (Nat.le_refl _)
  have hAa5 : Hid (AccI W5 W1.heap.size (.slice (some ⟨ga, 0, none⟩) na ca) ua l2 h2) := (hAa3.out.below hB4).below hB5
  have hown5 : Hid (W5.ownsRow w.heap.size 52 14 (.slice (some ⟨w4.heap.size, 0, none⟩) 1 1) 1 (fl14 [⟨2, bareX 4 n e' f', (p : Int) + 2 + (na : Int)⟩])) := hS5.out.own
  have hnewA : Hid (∀ j u, (fl14 ua)[j]? = some u → W5.cell? ((⟨ga, 0, none⟩ : Addr).add j) = some u) := fun j u hj => hAa5.out.own.cells (g := ga) rfl j u hj
  have hflA : Hid ((fl14 ua).length = na * 14) := by show _ = _; rw [fl14_length, huaH.out]
  have hX5 := hX4.trans (hB5.mono (by omega))
  have hoW1 : w.heap.size ≤ W5.heap.size := by omega
  clear hAa3
  go_upto_region 11 with (at_builtin; go_loud (refine wpList_append0 _ rfl _ _ 24 rfl w.heap.size 52 i0 _ 14 200 Try.underlying24 hi0 hz0 hz1 hz2 rfl (by decide) (.slice (some ⟨w4.heap.size, 0, none⟩) 1 1) (1) (fl14 [⟨2, bareX 4 n e' f', (p : Int) + 2 + (na : Int)⟩]) rfl hown5.out ⟨ga, 0, none⟩ (na) (ca) (fl14 ua) rfl hflA.out hnewA.out (fl14_one _) (by unfold maxLen; omega) (by omega) (by omega) ?_); intro v6 w6 hown6 hback6)
  obtain ⟨l6, h6, hA6, hr6⟩ : ∃ l6 h6, AccI w6 w.heap.size v6 ([⟨2, bareX 4 n e' f', (p : Int) + 2 + (na : Int)⟩] ++ ua) l6 h6 ∧ ∀ i, i < 1 + na → (h6 i ≤ w2.heap.size ∨ w3.heap.size ≤ l6 i) := by
    have huaL := huaH.out
    refine ⟨_, _, hS5.out.pushAll (v' := v6) hAa5.out (fun i j hi hj => ?_) (by omega) (fun g hg j hj => ?_) (by rw [huaL]; exact hown6) hback6, fun i hi => ?_⟩
    · have q := hArH.out j (by omega)
      right; omega
    · have q := hArH.out j (by omega)
      simp only [Value.ownBlock, Option.some.injEq] at hg
      right; omega
    · by_cases e0 : i < 1
      · right
        simp [e0]
      · left
        have q := hArH.out (i - 1) (by omega)
        simp only [List.length_singleton, e0, if_false]
        exact q.2
  have hg6 : ∀ g, v6.ownBlock = some g → w4.heap.size ≤ g := fun g hg => by
    rcases hback6.2.1 g hg with h9 | h9
    · simp only [Value.ownBlock, Option.some.injEq] at h9
      omega
    · omega
  have hnn6 : v6 ≠ .slice none 0 0 := hback6.2.2 (fun h => by cases h)
  have hz6 := hback6.1.size
  have hX6 : Below w.heap.size w w6 := hX5.trans (hback6.1.below (by omega) (fun q hq => by simp only [Value.ownBlock, Option.some.injEq] at hq; omega))
  have hY6 : Below w3.heap.size w3 w6 := (hB4.trans (hB5.mono (by omega))).trans (hback6.1.below (by omega) (fun q hq => by simp only [Value.ownBlock, Option.some.injEq] at hq; omega))
  have huaL := huaH.out
  have hl6 : ([(⟨2, bareX 4 n e' f', (p : Int) + 2 + (na : Int)⟩ : IX)] ++ ua).length = 1 + na := by rw [List.length_append, huaL]; rfl
  clear hown6 hback6 hown5 hnewA hflA
  obtain ⟨W7, hW7⟩ : ∃ W7, w6.alloc (.cells #[.int .i64 3, .int .i64 0, .string ⟨#[]⟩, .int .i64 0, .int .i64 0, .string ⟨#[]⟩, .slice none 0 0, .int .i64 0, .int .i64 0, .string ⟨#[]⟩, .slice none 0 0, .slice none 0 0, .slice none 0 0, .int .i64 ((p : Int))] 52) = W7 := ⟨_, rfl⟩
  have hB7 : Below w6.heap.size w6 W7 := by rw [← hW7]; exact (Below.refl _ _).alloc (Nat.le_refl _) _
  have hs7 : W7.heap.size = w6.heap.size + 1 := by rw [← hW7]; simp
  obtain ⟨x1, hx1⟩ : ∃ x1 : IX, (⟨3, zS, (p : Int)⟩ : IX) = x1 := ⟨_, rfl⟩
  have hS7 : Hid (AccI W7 w.heap.size (.slice (some ⟨w6.heap.size, 0, none⟩) 1 1) [x1] (fun _ => w6.heap.size) (fun _ => w6.heap.size)) := by
    rw [← hW7, ← hx1]
    exact AccI.single (W := w6) (base := w.heap.size) ⟨3, zS, (p : Int)⟩ (OwnS1.zero _ (Nat.le_refl _)) (by omega) (by omega) (Nat.le_refl _)
  have hA7 : Hid (AccI W7 w.heap.size v6 ([⟨2, bareX 4 n e' f', (p : Int) + 2 + (na : Int)⟩] ++ ua) l6 h6) := hA6.below hB7
  have hown7 : Hid (W7.ownsRow w.heap.size 52 14 v6 (1 + na) (fl14 ([⟨2, bareX 4 n e' f', (p : Int) + 2 + (na : Int)⟩] ++ ua))) := by
    have h9 := hA7.out.own
    rw [hl6] at h9
    exact h9
  have hnew7 : Hid (∀ j u, (fl14 [x1])[j]? = some u → W7.cell? ((⟨w6.heap.size, 0, none⟩ : Addr).add j) = some u) := fun j u hj => hS7.out.own.cells (g := w6.heap.size) rfl j u hj
  have hfl7 : Hid ((fl14 [x1]).length = 1 * 14) := fl14_length _
  have hX7 := hX6.trans (hB7.mono (by omega))
  have hA6int : Hid (∀ i, i < 1 + na → h6 i ≤ w6.heap.size) := fun i hi => (hA6.int i (by omega)).2.1
  have hA6lt : Hid (∀ g, v6.ownBlock = some g → g < w6.heap.size) := fun g hg => (hA6.own.lt g hg).2
  have hr6H : Hid (∀ i, i < 1 + na → (h6 i ≤ w2.heap.size ∨ w3.heap.size ≤ l6 i)) := hr6
  have hg6H : Hid (∀ g, v6.ownBlock = some g → w4.heap.size ≤ g) := hg6
  have hnn6H : Hid (v6 ≠ .slice none 0 0) := hnn6
  have hl6H : Hid (([(⟨2, bareX 4 n e' f', (p : Int) + 2 + (na : Int)⟩ : IX)] ++ ua).length = 1 + na) := hl6
  clear hr6 hg6 hnn6 hA6 hl6 huaL
  go_wp2_with (at_builtin; go_loud (refine wpList_append0 _ rfl _ _ 24 rfl w.heap.size 52 i0 _ 14 200 Try.underlying24 hi0 hz0 hz1 hz2 rfl (by decide) (v6) (1 + na) (fl14 ([⟨2, bareX 4 n e' f', (p : Int) + 2 + (na : Int)⟩] ++ ua)) rfl hown7.out ⟨w6.heap.size, 0, none⟩ (1) (1) (fl14 [x1]) rfl hfl7.out hnew7.out (fl14_one _) (by unfold maxLen; omega) (by omega) (by omega) ?_); intro v8 w8 hown8 hback8)
  obtain ⟨l8, h8, hA8, hr8⟩ : ∃ l8 h8, AccI w8 w.heap.size v8 (([⟨2, bareX 4 n e' f', (p : Int) + 2 + (na : Int)⟩] ++ ua) ++ [x1]) l8 h8 ∧ ∀ i, i < 2 + na → (h8 i ≤ w2.heap.size ∨ w3.heap.size ≤ l8 i) := by
    have hl6 := hl6H.out
    refine ⟨_, _, hA7.out.pushAll (v' := v8) hS7.out (fun i j hi hj => ?_) (by omega) (fun g hg j hj => ?_) (by rw [hl6]; exact hown8) hback8, fun i hi => ?_⟩
    · have q := hA6int.out i (by omega)
      left; omega
    · have q := hA6lt.out g hg
      left; omega
    · by_cases e0 : i < 1 + na
      · rw [hl6]
        simp only [e0, if_true]
        exact hr6H.out i e0
      · right
        rw [hl6]
        simp only [e0, if_false]
        omega
  have hz8 := hback8.1.size
  have hX8 : Below w.heap.size w w8 := hX7.trans (hback8.1.below (by omega) (fun q hq => by have := hg6H.out q hq; omega))
  have hY8 : Below w3.heap.size w3 w8 := (hY6.trans (hB7.mono (by omega))).trans (hback8.1.below (by omega) (fun q hq => by have := hg6H.out q hq; omega))
  have hnn8 : v8 ≠ .slice none 0 0 := hback8.2.2 hnn6H.out

  go_returns
  refine ⟨v8, rfl, ⟨_, l8, h8, hnn8, ?_, hA8⟩, hX8⟩
  rw [List.append_assoc, ← hx1]
  exact SameI.cons (ix_bare hse hsf (by omega)) (hsaH.out.append (SameI.cons (ix_none (by omega)) SameI.nil))

set_option maxRecDepth 10000 in
set_option maxHeartbeats 8000000 in
theorem specIf (n : ByteArray) (e f : XT) (ab : Option Addr) (ac : Nat) (la : List SX) (bb : Option Addr) (bc : Nat) (lb : List SX) (p : Nat) (hp : p ≤ 1099511627776) (hA1 : SX.sizeAll la ≤ 2097152) (hB1' : SX.sizeAll lb ≤ 2097152) (w : World) (HC : ∀ W, Below w.heap.size w W → Calls Try.prog 61 #[.agg #[.int .i64 3, .string n, .int .i64 e.kind, .int .i64 e.num, .string e.name, .slice e.base e.kids.length e.cap, .int .i64 f.kind, .int .i64 f.num, .string f.name, .slice f.base f.kids.length f.cap, .slice ab la.length ac, .slice bb lb.length bc]] W fun r w' => ∃ (e' f' : XT), r = .returned (.agg #[.int .i64 3, .string n, .int .i64 e'.kind, .int .i64 e'.num, .string e'.name, .slice e'.base e'.kids.length e'.cap, .int .i64 f'.kind, .int .i64 f'.num, .string f'.name, .slice f'.base f'.kids.length f'.cap, .slice none 0 0, .slice none 0 0]) ∧ Same e e' ∧ Same f f' ∧ OwnS1 w' W.heap.size w'.heap.size (bareX 3 n e' f') ∧ Below W.heap.size W w') (HA : ∀ W, Below w.heap.size w W → Calls Try.prog 22 #[.slice ab la.length ac, .int .i64 ((p : Int) + 1)] W fun r w' => ∃ v, r = .returned v ∧ MadeI (codeL la (p + 1)) W.heap.size v w' ∧ Below W.heap.size W w') (HB : ∀ W, Below w.heap.size w W → Calls Try.prog 22 #[.slice bb lb.length bc, .int .i64 ((p : Int) + 2 + ((codeL la (p + 1)).length : Int))] W fun r w' => ∃ v, r = .returned v ∧ MadeI (codeL lb (p + 2 + (codeL la (p + 1)).length)) W.heap.size v w' ∧ Below W.heap.size W w') :
    Calls Try.prog 45 #[.agg #[.int .i64 3, .string n, .int .i64 e.kind, .int .i64 e.num, .string e.name, .slice e.base e.kids.length e.cap, .int .i64 f.kind, .int .i64 f.num, .string f.name, .slice f.base f.kids.length f.cap, .slice ab la.length ac, .slice bb lb.length bc], .int .i64 (p : Int)] w fun r w' => ∃ v, r = .returned v ∧ MadeI (codeS (.mk 3 n e f ab ac la bb bc lb) p) w.heap.size v w' ∧ Below w.heap.size w w' := by
  obtain ⟨W1, hW1⟩ : ∃ W1, w.alloc (.cells #[.int .i64 3, .string n, .int .i64 e.kind, .int .i64 e.num, .string e.name, .slice e.base e.kids.length e.cap, .int .i64 f.kind, .int .i64 f.num, .string f.name, .slice f.base f.kids.length f.cap, .slice ab la.length ac, .slice bb lb.length bc] 50) = W1 := ⟨_, rfl⟩
  have hs1 : w.heap.size + 1 = W1.heap.size := by rw [← hW1]; simp
  have hB1 : Below w.heap.size w W1 := by rw [← hW1]; exact (Below.refl _ w).alloc (Nat.le_refl _) _
  have hC : Cells12 W1 w.heap.size 0 (.mk 3 n e f ab ac la bb bc lb) := by rw [← hW1]; exact Cells12.new w (.mk 3 n e f ab ac la bb bc lb) _
  obtain ⟨i0, hi0, hz0, hz1, hz2⟩ := info_parts infoI
  have hla := codeL_len la (p + 1)
  have hlb := codeL_len lb (p + 2 + (codeL la (p + 1)).length)
  have hcode : Hid (codeS (.mk 3 n e f ab ac la bb bc lb) p = _) := codeS_eq (.mk 3 n e f ab ac la bb bc lb) p
  rw [hcode.out]
  clear hcode
  simp only [SX.kind, SX.name, SX.e, SX.f, SX.la, SX.lb, Int.reduceEq, if_true, if_false]
  obtain ⟨xa, hxa⟩ : ∃ xa, codeL la (p + 1) = xa := ⟨_, rfl⟩
  rw [hxa] at HA hla hlb ⊢
  rw [hxa] at HB
  obtain ⟨na, hna⟩ : ∃ na, xa.length = na := ⟨_, rfl⟩
  rw [hna] at hla hlb ⊢
  rw [hna] at HB
  obtain ⟨xb, hxb⟩ : ∃ xb, codeL lb (p + 2 + na) = xb := ⟨_, rfl⟩
  rw [hxb] at hlb
  rw [hxb] at HB ⊢
  obtain ⟨nb, hnb⟩ : ∃ nb, xb.length = nb := ⟨_, rfl⟩
  rw [hnb] at hlb
  rw [hnb]
  have hna2 : na ≤ 4194304 := by omega
  have hnb2 : nb ≤ 4194304 := by omega
  have hna' : Hid (xa.length = na) := hna
  have hnb' : Hid (xb.length = nb) := hnb
  clear hxa hxb hna hnb hla hlb
  have HA' := HA W1 hB1
  have HCH : Hid (∀ W, Below w.heap.size w W → Calls Try.prog 61 #[.agg #[.int .i64 3, .string n, .int .i64 e.kind, .int .i64 e.num, .string e.name, .slice e.base e.kids.length e.cap, .int .i64 f.kind, .int .i64 f.num, .string f.name, .slice f.base f.kids.length f.cap, .slice ab la.length ac, .slice bb lb.length bc]] W fun r w' => ∃ (e' f' : XT), r = .returned (.agg #[.int .i64 3, .string n, .int .i64 e'.kind, .int .i64 e'.num, .string e'.name, .slice e'.base e'.kids.length e'.cap, .int .i64 f'.kind, .int .i64 f'.num, .string f'.name, .slice f'.base f'.kids.length f'.cap, .slice none 0 0, .slice none 0 0]) ∧ Same e e' ∧ Same f f' ∧ OwnS1 w' W.heap.size w'.heap.size (bareX 3 n e' f') ∧ Below W.heap.size W w') := HC
  clear HA HC
  obtain ⟨c0, c1, c2, c3, c4, c5, c6, c7, c8, c9, c10, c11⟩ := raw12 hC
  go_enter Try.func45, Try.ntmps45
  go_wp2_with fail
  go_at_call 22
  refine HA'.mono ?_
  clear HA' c0 c1 c2 c3 c4 c5 c6 c7 c8 c9 c10 c11
  rintro r w2 ⟨va, rfl, hMa, hB2⟩
  have hz2' := hB2.size
  obtain ⟨ua, l2, h2, hnna, hsa, hAa⟩ := hMa
  have hua : ua.length = na := by rw [hsa.1]; exact hna'.out
  obtain ⟨ga, ca, rfl, hnewA⟩ := hAa.cellsOf (n := 0) hnna
  have hAr : ∀ i, i < ua.length → W1.heap.size ≤ l2 i ∧ h2 i ≤ w2.heap.size := fun i hi => ⟨(hAa.int i hi).1, (hAa.int i hi).2.1⟩
  rw [hua] at hAr
  have hArH : Hid (∀ i, i < na → W1.heap.size ≤ l2 i ∧ h2 i ≤ w2.heap.size) := hAr
  have hX2 := hB1.trans (hB2.mono (by omega))
  have hc2 := hC.below hB2 (by omega)
  rw [hua]
  have hAaH : Hid (AccI w2 W1.heap.size (.slice (some ⟨ga, 0, none⟩) na ca) ua l2 h2) := by rw [← hua]; exact hAa
  have huaH : Hid (ua.length = na) := hua
  have hsaH : Hid (SameI xa ua) := hsa
  clear hAr hnewA hAa hnna hua hsa
  obtain ⟨c0, c1, c2, c3, c4, c5, c6, c7, c8, c9, c10, c11⟩ := raw12 hc2
  have HB' := HB w2 hX2
  clear HB
  go_wp2_with fail
  go_at_call 22
  refine HB'.mono ?_
  clear HB' c0 c1 c2 c3 c4 c5 c6 c7 c8 c9 c10 c11
  rintro r w3 ⟨vb, rfl, hMb, hB3⟩
  have hz3' := hB3.size
  obtain ⟨ub, l3, h3, hnnb, hsb, hAb⟩ := hMb
  have hub : ub.length = nb := by rw [hsb.1]; exact hnb'.out
  obtain ⟨gb, cb, rfl, hnewB⟩ := hAb.cellsOf (n := 0) hnnb
  have hBrH : Hid (∀ i, i < nb → w2.heap.size ≤ l3 i ∧ h3 i ≤ w3.heap.size) := fun i hi => ⟨(hAb.int i (by omega)).1, (hAb.int i (by omega)).2.1⟩
  have hX3 := hX2.trans (hB3.mono (by have := hX2.size; omega))
  have hc3 := hc2.below hB3 (by omega)
  rw [hub]
  have hAbH : Hid (AccI w3 w2.heap.size (.slice (some ⟨gb, 0, none⟩) nb cb) ub l3 h3) := by rw [← hub]; exact hAb
  have hAa3 : Hid (AccI w3 W1.heap.size (.slice (some ⟨ga, 0, none⟩) na ca) ua l2 h2) := hAaH.out.below hB3
  have hubH : Hid (ub.length = nb) := hub
  have hsbH : Hid (SameI xb ub) := hsb
  clear hnewB hAb hnnb hub hsb hAaH
  obtain ⟨c0, c1, c2, c3, c4, c5, c6, c7, c8, c9, c10, c11⟩ := raw12 hc3
  have HC' := HCH.out w3 hX3
  go_wp2_with fail
  go_at_call 61
  refine HC'.mono ?_
  clear HC' c0 c1 c2 c3 c4 c5 c6 c7 c8 c9 c10 c11
  rintro r w4 ⟨e', f', rfl, hse, hsf, hO, hB4⟩
  have hz4' := hB4.size
  have hX4 := hX3.trans (hB4.mono (by have := hX3.size; omega))
  have hzX4 := hX4.size
  obtain ⟨W5, hW5⟩ : ∃ W5, w4.alloc (.cells #[.int .i64 2, .int .i64 3, .string n, .int .i64 e'.kind, .int .i64 e'.num, .string e'.name, .slice e'.base e'.kids.length e'.cap, .int .i64 f'.kind, .int .i64 f'.num, .string f'.name, .slice f'.base f'.kids.length f'.cap, .slice none 0 0, .slice none 0 0, .int .i64 ((p : Int) + 2 + (na : Int))] 52) = W5 := ⟨_, rfl⟩
  have hB5 : Below w4.heap.size w4 W5 := by rw [← hW5]; exact (Below.refl _ _).alloc (Nat.le_refl _) _
  have hs5 : W5.heap.size = w4.heap.size + 1 := by rw [← hW5]; simp
  have hS5 : Hid (AccI W5 w.heap.size (.slice (some ⟨w4.heap.size, 0, none⟩) 1 1) [⟨2, bareX 3 n e' f', (p : Int) + 2 + (na : Int)⟩] (fun _ => w3.heap.size) (fun _ => w4.heap.size)) := by
    rw [← hW5]
    exact AccI.single (W := w4) (base := w.heap.size) ⟨2, bareX 3 n e' f', (p : Int) + 2 + (na : Int)⟩ hO (by have := hX3.size; omega) (by omega) (Nat.le_refl _)
  have hAa5 : Hid (AccI W5 W1.heap.size (.slice (some ⟨ga, 0, none⟩) na ca) ua l2 h2) := (hAa3.out.below hB4).below hB5
  have hown5 : Hid (W5.ownsRow w.heap.size 52 14 (.slice (some ⟨w4.heap.size, 0, none⟩) 1 1) 1 (fl14 [⟨2, bareX 3 n e' f', (p : Int) + 2 + (na : Int)⟩])) := hS5.out.own
  have hnewA : Hid (∀ j u, (fl14 ua)[j]? = some u → W5.cell? ((⟨ga, 0, none⟩ : Addr).add j) = some u) := fun j u hj => hAa5.out.own.cells (g := ga) rfl j u hj
  have hflA : Hid ((fl14 ua).length = na * 14) := by show _ = _; rw [fl14_length, huaH.out]
  have hX5 := hX4.trans (hB5.mono (by omega))
  have hoW1 : w.heap.size ≤ W5.heap.size := by omega
  clear hAa3
  go_upto_region 6 with (at_builtin; go_loud (refine wpList_append0 _ rfl _ _ 24 rfl w.heap.size 52 i0 _ 14 200 Try.underlying24 hi0 hz0 hz1 hz2 rfl (by decide) (.slice (some ⟨w4.heap.size, 0, none⟩) 1 1) (1) (fl14 [⟨2, bareX 3 n e' f', (p : Int) + 2 + (na : Int)⟩]) rfl hown5.out ⟨ga, 0, none⟩ (na) (ca) (fl14 ua) rfl hflA.out hnewA.out (fl14_one _) (by unfold maxLen; omega) (by omega) (by omega) ?_); intro v6 w6 hown6 hback6)
  obtain ⟨l6, h6, hA6, hr6⟩ : ∃ l6 h6, AccI w6 w.heap.size v6 ([⟨2, bareX 3 n e' f', (p : Int) + 2 + (na : Int)⟩] ++ ua) l6 h6 ∧ ∀ i, i < 1 + na → (h6 i ≤ w2.heap.size ∨ w3.heap.size ≤ l6 i) := by
    have huaL := huaH.out
    refine ⟨_, _, hS5.out.pushAll (v' := v6) hAa5.out (fun i j hi hj => ?_) (by omega) (fun g hg j hj => ?_) (by rw [huaL]; exact hown6) hback6, fun i hi => ?_⟩
    · have q := hArH.out j (by omega)
      right; omega
    · have q := hArH.out j (by omega)
      simp only [Value.ownBlock, Option.some.injEq] at hg
      right; omega
    · by_cases e0 : i < 1
      · right
        simp [e0]
      · left
        have q := hArH.out (i - 1) (by omega)
        simp only [List.length_singleton, e0, if_false]
        exact q.2
  have hg6 : ∀ g, v6.ownBlock = some g → w4.heap.size ≤ g := fun g hg => by
    rcases hback6.2.1 g hg with h9 | h9
    · simp only [Value.ownBlock, Option.some.injEq] at h9
      omega
    · omega
  have hnn6 : v6 ≠ .slice none 0 0 := hback6.2.2 (fun h => by cases h)
  have hz6 := hback6.1.size
  have hX6 : Below w.heap.size w w6 := hX5.trans (hback6.1.below (by omega) (fun q hq => by simp only [Value.ownBlock, Option.some.injEq] at hq; omega))
  have hY6 : Below w3.heap.size w3 w6 := (hB4.trans (hB5.mono (by omega))).trans (hback6.1.below (by omega) (fun q hq => by simp only [Value.ownBlock, Option.some.injEq] at hq; omega))
  have huaL := huaH.out
  have hl6 : ([(⟨2, bareX 3 n e' f', (p : Int) + 2 + (na : Int)⟩ : IX)] ++ ua).length = 1 + na := by rw [List.length_append, huaL]; rfl
  clear hown6 hback6 hown5 hnewA hflA
  obtain ⟨W7, hW7⟩ : ∃ W7, w6.alloc (.cells #[.int .i64 3, .int .i64 0, .string ⟨#[]⟩, .int .i64 0, .int .i64 0, .string ⟨#[]⟩, .slice none 0 0, .int .i64 0, .int .i64 0, .string ⟨#[]⟩, .slice none 0 0, .slice none 0 0, .slice none 0 0, .int .i64 ((p : Int) + 2 + (na : Int) + (nb : Int))] 52) = W7 := ⟨_, rfl⟩
  have hB7 : Below w6.heap.size w6 W7 := by rw [← hW7]; exact (Below.refl _ _).alloc (Nat.le_refl _) _
  have hs7 : W7.heap.size = w6.heap.size + 1 := by rw [← hW7]; simp
  obtain ⟨x1, hx1⟩ : ∃ x1 : IX, (⟨3, zS, (p : Int) + 2 + (na : Int) + (nb : Int)⟩ : IX) = x1 := ⟨_, rfl⟩
  have hS7 : Hid (AccI W7 w.heap.size (.slice (some ⟨w6.heap.size, 0, none⟩) 1 1) [x1] (fun _ => w6.heap.size) (fun _ => w6.heap.size)) := by
    rw [← hW7, ← hx1]
    exact AccI.single (W := w6) (base := w.heap.size) ⟨3, zS, (p : Int) + 2 + (na : Int) + (nb : Int)⟩ (OwnS1.zero _ (Nat.le_refl _)) (by omega) (by omega) (Nat.le_refl _)
  have hA7 : Hid (AccI W7 w.heap.size v6 ([⟨2, bareX 3 n e' f', (p : Int) + 2 + (na : Int)⟩] ++ ua) l6 h6) := hA6.below hB7
  have hown7 : Hid (W7.ownsRow w.heap.size 52 14 v6 (1 + na) (fl14 ([⟨2, bareX 3 n e' f', (p : Int) + 2 + (na : Int)⟩] ++ ua))) := by
    have h9 := hA7.out.own
    rw [hl6] at h9
    exact h9
  have hnew7 : Hid (∀ j u, (fl14 [x1])[j]? = some u → W7.cell? ((⟨w6.heap.size, 0, none⟩ : Addr).add j) = some u) := fun j u hj => hS7.out.own.cells (g := w6.heap.size) rfl j u hj
  have hfl7 : Hid ((fl14 [x1]).length = 1 * 14) := fl14_length _
  have hX7 := hX6.trans (hB7.mono (by omega))
  have hA6int : Hid (∀ i, i < 1 + na → h6 i ≤ w6.heap.size) := fun i hi => (hA6.int i (by omega)).2.1
  have hA6lt : Hid (∀ g, v6.ownBlock = some g → g < w6.heap.size) := fun g hg => (hA6.own.lt g hg).2
  have hr6H : Hid (∀ i, i < 1 + na → (h6 i ≤ w2.heap.size ∨ w3.heap.size ≤ l6 i)) := hr6
  have hg6H : Hid (∀ g, v6.ownBlock = some g → w4.heap.size ≤ g) := hg6
  have hnn6H : Hid (v6 ≠ .slice none 0 0) := hnn6
  have hl6H : Hid (([(⟨2, bareX 3 n e' f', (p : Int) + 2 + (na : Int)⟩ : IX)] ++ ua).length = 1 + na) := hl6
  clear hr6 hg6 hnn6 hA6 hl6 huaL
  go_upto_region 7 with (at_builtin; go_loud (refine wpList_append0 _ rfl _ _ 24 rfl w.heap.size 52 i0 _ 14 200 Try.underlying24 hi0 hz0 hz1 hz2 rfl (by decide) (v6) (1 + na) (fl14 ([⟨2, bareX 3 n e' f', (p : Int) + 2 + (na : Int)⟩] ++ ua)) rfl hown7.out ⟨w6.heap.size, 0, none⟩ (1) (1) (fl14 [x1]) rfl hfl7.out hnew7.out (fl14_one _) (by unfold maxLen; omega) (by omega) (by omega) ?_); intro v8 w8 hown8 hback8)
  obtain ⟨l8, h8, hA8, hr8⟩ : ∃ l8 h8, AccI w8 w.heap.size v8 (([⟨2, bareX 3 n e' f', (p : Int) + 2 + (na : Int)⟩] ++ ua) ++ [x1]) l8 h8 ∧ ∀ i, i < 2 + na → (h8 i ≤ w2.heap.size ∨ w3.heap.size ≤ l8 i) := by
    have hl6 := hl6H.out
    refine ⟨_, _, hA7.out.pushAll (v' := v8) hS7.out (fun i j hi hj => ?_) (by omega) (fun g hg j hj => ?_) (by rw [hl6]; exact hown8) hback8, fun i hi => ?_⟩
    · have q := hA6int.out i (by omega)
      left; omega
    · have q := hA6lt.out g hg
      left; omega
    · by_cases e0 : i < 1 + na
      · rw [hl6]
        simp only [e0, if_true]
        exact hr6H.out i e0
      · right
        rw [hl6]
        simp only [e0, if_false]
        omega
  have hz8 := hback8.1.size
  have hX8 : Below w.heap.size w w8 := hX7.trans (hback8.1.below (by omega) (fun q hq => by have := hg6H.out q hq; omega))
  have hY8 : Below w3.heap.size w3 w8 := (hY6.trans (hB7.mono (by omega))).trans (hback8.1.below (by omega) (fun q hq => by have := hg6H.out q hq; omega))
  have hnn8 : v8 ≠ .slice none 0 0 := hback8.2.2 hnn6H.out

  have hg8 : Hid (∀ g, v8.ownBlock = some g → w4.heap.size ≤ g) := fun g hg => by
    rcases hback8.2.1 g hg with h9 | h9
    · exact hg6H.out g h9
    · omega
  have hl8 : Hid ((([(⟨2, bareX 3 n e' f', (p : Int) + 2 + (na : Int)⟩ : IX)] ++ ua) ++ [x1]).length = 1 + na + 1) := by show _ = _; rw [List.length_append, hl6H.out]; rfl
  have hA8H : Hid (AccI w8 w.heap.size v8 (([⟨2, bareX 3 n e' f', (p : Int) + 2 + (na : Int)⟩] ++ ua) ++ [x1]) l8 h8) := hA8
  have hr8H : Hid (∀ i, i < 2 + na → (h8 i ≤ w2.heap.size ∨ w3.heap.size ≤ l8 i)) := hr8
  have hnn8H : Hid (v8 ≠ .slice none 0 0) := hnn8
  have hown9 : Hid (w8.ownsRow w.heap.size 52 14 v8 (1 + na + 1) (fl14 (([⟨2, bareX 3 n e' f', (p : Int) + 2 + (na : Int)⟩] ++ ua) ++ [x1]))) := by
    have h9 := hA8.own
    rw [hl8.out] at h9
    exact h9
  have hAb8 : Hid (AccI w8 w2.heap.size (.slice (some ⟨gb, 0, none⟩) nb cb) ub l3 h3) := hAbH.out.below hY8
  have hnewB : Hid (∀ j u, (fl14 ub)[j]? = some u → w8.cell? ((⟨gb, 0, none⟩ : Addr).add j) = some u) := fun j u hj => hAb8.out.own.cells (g := gb) rfl j u hj
  have hflB : Hid ((fl14 ub).length = nb * 14) := by show _ = _; rw [fl14_length, hubH.out]
  have hzX2 := hX2.size
  clear hown8 hback8 hown7 hnew7 hfl7 hA8 hr8 hnn8 hA7 hS7
  go_wp2_with (at_builtin; go_loud (refine wpList_append0 _ rfl _ _ 24 rfl w.heap.size 52 i0 _ 14 200 Try.underlying24 hi0 hz0 hz1 hz2 rfl (by decide) (v8) (1 + na + 1) (fl14 (([⟨2, bareX 3 n e' f', (p : Int) + 2 + (na : Int)⟩] ++ ua) ++ [x1])) rfl hown9.out ⟨gb, 0, none⟩ (nb) (cb) (fl14 ub) rfl hflB.out hnewB.out (fl14_one _) (by unfold maxLen; omega) (by omega) (by omega) ?_); intro v10 w10 hown10 hback10)
  have hX10 : Below w.heap.size w w10 := hX8.trans (hback10.1.below (by omega) (fun q hq => by have := hg8.out q hq; omega))
  have hA10 : ∃ l h, AccI w10 w.heap.size v10 ((([⟨2, bareX 3 n e' f', (p : Int) + 2 + (na : Int)⟩] ++ ua) ++ [x1]) ++ ub) l h := by
    have hl8' := hl8.out
    have hub := hubH.out
    refine ⟨_, _, hA8H.out.pushAll (v' := v10) hAb8.out (fun i j hi hj => ?_) (by omega) (fun g hg j hj => ?_) (by rw [hl8', hub]; exact hown10) hback10⟩
    · obtain ⟨q1, q2⟩ := hBrH.out j (by omega)
      rcases hr8H.out i (by omega) with q | q
      · left; omega
      · right; omega
    · obtain ⟨q1, q2⟩ := hBrH.out j (by omega)
      have q := hg8.out g hg
      right; omega
  obtain ⟨l10, h10, hA10⟩ := hA10
  go_returns
  refine ⟨v10, rfl, ⟨_, l10, h10, hback10.2.2 hnn8H.out, ?_, hA10⟩, hX10⟩
  rw [List.append_assoc, List.append_assoc, ← hx1]
  exact SameI.cons (ix_bare hse hsf (by omega)) (hsaH.out.append (SameI.cons (ix_none (by omega)) hsbH.out))

theorem specCode (sz : Nat) : ∀ s : SX, s.size ≤ sz → sz ≤ 2097152 → SmallS s → ∀ (ok : Nat → Prop) (w : World), (∀ b, ok b → b < w.heap.size) → LiesS ok w s → ∀ p, p + 2 * s.size ≤ 1099511627776 →
    Calls Try.prog 45 #[s.val, .int .i64 (p : Int)] w fun r w' => ∃ v, r = .returned v ∧ MadeI (codeS s p) w.heap.size v w' ∧ Below w.heap.size w w' := by
  induction sz with
  | zero => intro s h; rw [SX.size_eq] at h; omega
  | succ sz ih =>
  intro s hsz hlim hm ok w hok hL p hp
  have HCB : ∀ W, Below w.heap.size w W → _ := fun W hW => specBare s hm ok W (fun b hb => Nat.lt_of_lt_of_le (hok b hb) hW.size) (hL.under hW hok)
  obtain ⟨m1, m2, m3, m4, m5, m6⟩ := hm.parts
  obtain ⟨l1, l2, l3, l4, l5, l6⟩ := hL.parts
  have hz := s.size_eq
  have hca := codeL_len s.la (p + 1)
  have HLA : ∀ W, Below w.heap.size w W → _ := fun W hW => specListOf s.la (by omega) s.abase s.acap (p + 1) (by omega) ok W (fun b hb => Nat.lt_of_lt_of_le (hok b hb) hW.size) (l3.under hW hok) (fun i x hx q w' hq hw' =>
    ih x (by have := SX.size_get hx; omega) (by omega) (m5 i x hx) ok w' (fun b hb => Nat.lt_of_lt_of_le (hok b hb) (hW.trans (hw'.mono hW.size)).size) ((l5 i x hx).under (hW.trans (hw'.mono hW.size)) hok) q (by omega))
  have HLB : ∀ W, Below w.heap.size w W → _ := fun W hW => specListOf s.lb (by omega) s.bbase s.bcap (p + 2 + (codeL s.la (p + 1)).length) (by omega) ok W (fun b hb => Nat.lt_of_lt_of_le (hok b hb) hW.size) (l4.under hW hok) (fun i x hx q w' hq hw' =>
    ih x (by have := SX.size_get hx; omega) (by omega) (m6 i x hx) ok w' (fun b hb => Nat.lt_of_lt_of_le (hok b hb) (hW.trans (hw'.mono hW.size)).size) ((l6 i x hx).under (hW.trans (hw'.mono hW.size)) hok) q (by omega))
  obtain ⟨k, n, e, f, ab, ac, la, bb, bc, lb⟩ := s
  simp only [SX.la, SX.lb] at hz
  by_cases h3 : k = 3
  · subst h3
    exact specIf n e f ab ac la bb bc lb p (by omega) (by omega) (by omega) w HCB HLA HLB
  · by_cases h4 : k = 4
    · subst h4
      exact specWhile n e f ab ac la bb bc lb p (by omega) (by omega) (by omega) w HCB HLA
    · have h := specDoes k h3 h4 n e f ab ac la bb bc lb p w HCB
      have hc : codeS (.mk k n e f ab ac la bb bc lb) p = [⟨1, bareX k n e f, 0⟩] := by rw [codeS, if_neg h3, if_neg h4]
      rw [hc]
      exact h
theorem specCodeL (ks : List SX) (hsz : SX.sizeAll ks ≤ 2097152) (hm : ∀ (i : Nat) (k : SX), ks[i]? = some k → SmallS k) (a : Option Addr) (c : Nat) (ok : Nat → Prop) (w : World) (hok : ∀ b, ok b → b < w.heap.size) (hcl : SRow ok w a ks) (hL : ∀ (i : Nat) (k : SX), ks[i]? = some k → LiesS ok w k) :
    Calls Try.prog 22 #[.slice a ks.length c, .int .i64 ((0 : Nat) : Int)] w fun r w' => ∃ v, r = .returned v ∧ MadeI (codeL ks 0) w.heap.size v w' ∧ Below w.heap.size w w' :=
  specListOf ks hsz a c 0 (by omega) ok w hok hcl (fun i x hx q w' hq hw' => specCode _ x (Nat.le_refl _) (by have := SX.size_get hx; omega) (hm i x hx) ok w' (fun b hb => Nat.lt_of_lt_of_le (hok b hb) hw'.size) ((hL i x hx).under hw' hok) q (by omega))
end Go.Proofs.Ytimfdfeleoaehaa
namespace Go.Proofs.Ytimfdfeleoaehaa
open Go.RowKit Go.Shelf
set_option linter.unusedSimpArgs false
set_option linter.unusedVariables false
attribute [local go_sem] Oper.semAt_some

set_option maxRecDepth 10000 in
set_option maxHeartbeats 8000000 in
theorem specFlat (ks : List SX) (hsz : SX.sizeAll ks ≤ 2097152) (hm : ∀ (i : Nat) (k : SX), ks[i]? = some k → SmallS k) (a : Option Addr) (c : Nat) (ok : Nat → Prop) (w : World) (hok : ∀ b, ok b → b < w.heap.size) (hcl : SRow ok w a ks) (hL : ∀ (i : Nat) (k : SX), ks[i]? = some k → LiesS ok w k) :
    Calls Try.prog 7 #[.slice a ks.length c] w fun r w' => ∃ v, r = .returned v ∧ MadeI (flatL ks) w.heap.size v w' ∧ Below w.heap.size w w' := by
  obtain ⟨i0, hi0, hz0, hz1, hz2⟩ := info_parts infoI
  have hcall := specCodeL ks hsz hm a c ok w hok hcl hL
  have hlc := codeL_len ks 0
  go_enter Try.func7, Try.ntmps7
  go_wp2_with fail
  go_at_call 22
  refine (show Calls Try.prog 22 _ _ _ from hcall).mono ?_
  rintro r w2 ⟨v, rfl, ⟨us, l, h, hnn, hsm, hA⟩, hB2⟩
  clear hcall
  obtain ⟨g0, cap0, rfl, -⟩ := hA.cellsOf (n := 0) hnn
  obtain ⟨n, hn⟩ : ∃ n, us.length = n := ⟨_, rfl⟩
  have hn2 : n ≤ 4194304 := by have := hsm.1; omega
  have hz2' := hB2.size
  obtain ⟨W3, hW3⟩ : ∃ W3, w2.alloc (.cells #[.int .i64 4, .int .i64 0, .string ⟨#[]⟩, .int .i64 0, .int .i64 0, .string ⟨#[]⟩, .slice none 0 0, .int .i64 0, .int .i64 0, .string ⟨#[]⟩, .slice none 0 0, .slice none 0 0, .slice none 0 0, .int .i64 0] 52) = W3 := ⟨_, rfl⟩
  have hB3 : Below w2.heap.size w2 W3 := by rw [← hW3]; exact (Below.refl _ _).alloc (Nat.le_refl _) _
  have hs3 : w2.heap.size + 1 = W3.heap.size := by rw [← hW3]; simp
  have hS : AccI W3 w2.heap.size (.slice (some ⟨w2.heap.size, 0, none⟩) 1 1) [⟨4, zS, 0⟩] (fun _ => w2.heap.size) (fun _ => w2.heap.size) := by
    rw [← hW3]
    exact AccI.single (W := w2) (base := w2.heap.size) ⟨4, zS, 0⟩ (OwnS1.zero w2 (Nat.le_refl _)) (Nat.le_refl _) (Nat.le_refl _) (Nat.le_refl _)
  have hA3 := hA.below hB3
  have hown3 : Hid (W3.ownsRow w.heap.size 52 14 (.slice (some ⟨g0, 0, none⟩) n cap0) n (fl14 us)) := by have h9 := hA3.own; rw [hn] at h9; exact h9
  have hnewH : Hid (∀ j u, (fl14 [(⟨4, zS, 0⟩ : IX)])[j]? = some u → W3.cell? ((⟨w2.heap.size, 0, none⟩ : Addr).add j) = some u) := hS.own.cells (g := w2.heap.size) rfl
  have hSH : Hid (AccI W3 w2.heap.size (.slice (some ⟨w2.heap.size, 0, none⟩) 1 1) [⟨4, zS, 0⟩] (fun _ => w2.heap.size) (fun _ => w2.heap.size)) := hS
  have hAH : Hid (AccI W3 w.heap.size (.slice (some ⟨g0, 0, none⟩) us.length cap0) us l h) := hA3
  have hiH : Hid (∀ j, j < us.length → h j ≤ w2.heap.size) := fun j hj => (hA.int j hj).2.1
  have hgH : Hid (g0 < w2.heap.size) := (hA.own.lt g0 rfl).2
  have hsH : Hid (SameI (codeL ks 0) us) := hsm
  clear hS hA hA3 hnn hlc hsm
  rw [hn]
  go_wp2_with (at_builtin; refine wpList_append0 _ rfl _ _ 24 rfl w.heap.size 52 i0 _ 14 200 Try.underlying24 hi0 hz0 hz1 hz2 rfl (by decide) (.slice (some ⟨g0, 0, none⟩) n cap0) n (fl14 us) rfl hown3.out ⟨w2.heap.size, 0, none⟩ 1 1 (fl14 [(⟨4, zS, 0⟩ : IX)]) rfl (fl14_length _) hnewH.out (fl14_one _) (by unfold maxLen; omega) (by omega) (by omega) ?_; intro v4 w4 hown4 hback4; (have hB4 : Below w.heap.size w w4 := (bstep hB2 hB3).trans (hback4.1.below (by omega) (fun k hk => (hown3.out.lt k hk).1))))
  go_returns
  refine ⟨v4, rfl, ⟨us ++ [⟨4, zS, 0⟩], _, _, hback4.2.2 (fun h => by cases h), ?_, hAH.out.pushAll (v' := v4) hSH.out (fun j k hj hk => ?_) (by omega) (fun g hg k hk => ?_) (by rw [hn]; exact hown4) (by rw [hn]; exact hback4)⟩, hB4⟩
  · exact hsH.out.append (SameI.refl _)
  · have := hiH.out j hj
    left; omega
  · cases hg
    have := hgH.out
    left; omega
end Go.Proofs.Ytimfdfeleoaehaa
