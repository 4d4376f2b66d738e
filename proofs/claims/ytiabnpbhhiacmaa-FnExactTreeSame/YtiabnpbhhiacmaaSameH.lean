/-
  Programs whose copies are compared are compared alike; what a copy is.
-/
import Derived.Test.YtiabnpbhhiacmaaSameG
import Derived.Test.YtiabnpbhhiacmaaOkQ
namespace Go.Proofs.Ytiabnpbhhiacmaa
open Go.RowKit Go.Shelf
set_option linter.unusedSimpArgs false
set_option linter.unusedVariables false

theorem allZ_congr {α : Type} {f : α → α → Bool} : ∀ {ks ks' us us' : List α}, ks'.length = ks.length → us'.length = us.length →
    (∀ (i : Nat) (x x' y y' : α), ks[i]? = some x → ks'[i]? = some x' → us[i]? = some y → us'[i]? = some y' → f x' y' = f x y) → allZ f ks' us' = allZ f ks us
  | [], ks', us, us', h1, h2, _ => by
    have : ks' = [] := List.length_eq_zero_iff.1 (by simpa using h1)
    subst this
    cases us with
    | nil =>
      have : us' = [] := List.length_eq_zero_iff.1 (by simpa using h2)
      subst this
      rfl
    | cons u us =>
      cases us' with
      | nil => simp at h2
      | cons v vs => rfl
  | k :: ks, ks', us, us', h1, h2, H => by
    cases ks' with
    | nil => simp at h1
    | cons k' ks' =>
      cases us with
      | nil =>
        have : us' = [] := List.length_eq_zero_iff.1 (by simpa using h2)
        subst this
        rfl
      | cons u us =>
        cases us' with
        | nil => simp at h2
        | cons v vs =>
          rw [allZ, allZ, H 0 k k' u v rfl rfl rfl rfl, allZ_congr (by simpa using h1) (by simpa using h2) (fun i x x' y y' a b c d => H (i + 1) x x' y y' (by simpa using a) (by simpa using b) (by simpa using c) (by simpa using d))]
theorem XT.same_same (sz : Nat) : ∀ t : XT, t.size ≤ sz → ∀ t' u u' : XT, Same t t' → Same u u' → t'.sameB u' = t.sameB u := by
  induction sz with
  | zero => intro t h; rw [XT.size_eq] at h; omega
  | succ sz ih =>
    intro t h t' u u' ht hu
    obtain ⟨a1, a2, a3, a4⟩ := ht.heads
    obtain ⟨b1, b2, b3, b4⟩ := hu.heads
    rw [XT.sameB_eq, XT.sameB_eq t u, a1, a2, a3, b1, b2, b3]
    rw [allZ_congr a4 b4 (fun i x x' y y' hx hx' hy hy' => ih x (by have h5 := XT.size_get hx; have h6 := t.size_eq; omega) x' y y' (ht.kid i x x' hx hx') (hu.kid i y y' hy hy'))]
theorem SX.same_same (sz : Nat) : ∀ t : SX, t.size ≤ sz → ∀ t' u u' : SX, SameS t t' → SameS u u' → t'.sameB u' = t.sameB u := by
  induction sz with
  | zero => intro t h; rw [SX.size_eq] at h; omega
  | succ sz ih =>
    intro t h t' u u' ht hu
    have hse := t.size_eq
    obtain ⟨a1, a2, a3, a4, a5, a6, a7, a8⟩ := ht.parts
    obtain ⟨b1, b2, b3, b4, b5, b6, b7, b8⟩ := hu.parts
    rw [SX.sameB_eq, SX.sameB_eq t u, a1, a2, b1, b2, XT.same_same _ _ (Nat.le_refl _) _ _ _ a3 b3, XT.same_same _ _ (Nat.le_refl _) _ _ _ a4 b4]
    rw [allZ_congr a5 b5 (fun i x x' y y' hx hx' hy hy' => ih x (by have h5 := SX.size_get hx; omega) x' y y' (a7 i x x' hx hx') (b7 i y y' hy hy'))]
    rw [allZ_congr a6 b6 (fun i x x' y y' hx hx' hy hy' => ih x (by have h5 := SX.size_get hx; omega) x' y y' (a8 i x x' hx hx') (b8 i y y' hy hy'))]
theorem LX.same_same {t t' u u' : LX} (ht : LX.Same t t') (hu : LX.Same u u') : t'.sameB u' = t.sameB u :=
  allZ_congr ht.len hu.len (fun i x x' y y' hx hx' hy hy' => SX.same_same _ x (Nat.le_refl _) x' y y' (ht.kid i x x' hx hx') (hu.kid i y y' hy hy'))
theorem PX.same_same {p p' q q' : PX} (hp : PX.Same p p') (hq : PX.Same q q') : p'.sameB q' = p.sameB q := by
  unfold PX.sameB
  rw [hp.v, hp.c, hp.n, hq.v, hq.c, hq.n, allZ_congr hp.tl hq.tl (fun i x x' y y' hx hx' hy hy' => LX.same_same (hp.t i x x' hx hx') (hq.t i y y' hy hy'))]
theorem PX.fine {p : PX} (h : p.tot ≤ 1048576) : p.Fine := ⟨PX.small h, fun i t ht => ⟨(PX.small h).t i t ht, by have := PX.sizes h i t ht; omega⟩⟩
/-- A copy of a program, in memory of its own. -/
structure Copy (p q : PX) (W : World) : Prop where
  same : PX.Same p q
  lies : PX.Lies (fun b => b < W.heap.size) W q
  plain : LX.Plain W q.tasks
theorem Copy.below {p q : PX} {A B : World} (h : Copy p q A) (hb : Below A.heap.size A B) : Copy p q B :=
  ⟨h.same, (h.lies.under hb (fun b hb => hb)).bound, h.plain.under hb⟩
theorem Copy.drew {p q : PX} {A : World} (h : Copy p q A) : Copy p q A.drew := h.below ((Below.refl _ A).drew)
theorem PX.copy (p : PX) (hm : p.Small) (ok : Nat → Prop) (w : World) (hok : ∀ b, ok b → b < w.heap.size) (hL : PX.Lies ok w p) (x : World) (hx : Below w.heap.size w x) :
    Calls Try.prog 20 #[p.val] x fun e w' => ∃ q : PX, e = .returned q.val ∧ Copy p q w' ∧ Below x.heap.size x w' :=
  (PX.toP p hm ok x (fun b hb => Nat.lt_of_lt_of_le (hok b hb) hx.size) (hL.under hx hok)).mono fun e w' ⟨q, h1, h2, h3, h4, h5⟩ => ⟨q, h1, ⟨h2, h3.bound, LX.Plain.of h4⟩, h5⟩
theorem Copy.fine {p q : PX} {W : World} (h : Copy p q W) (hm : p.tot ≤ 1048576) : q.Fine := PX.fine (by rw [(PX.same_ok (PX.small hm) h.same).2]; exact hm)
theorem Copy.spec {p q p' q' : PX} {W : World} (hp : Copy p p' W) (hq : Copy q q' W) (hm : p.tot ≤ 1048576) (hm' : q.tot ≤ 1048576) :
    Calls Try.prog 30 #[p'.val, q'.val] W fun e w' => e = .returned (.bool (p.sameB q)) ∧ Below W.heap.size W w' := by
  rw [← PX.same_same hp.same hq.same]
  exact PX.specSame p' q' (hp.fine hm) (hq.fine hm') _ W (fun b hb => hb) hp.lies hq.lies
theorem Copy.impl {p q p' q' : PX} {W : World} (hp : Copy p p' W) (hq : Copy q q' W) (hm : p.tot ≤ 1048576) (hm' : q.tot ≤ 1048576) :
    Calls Try.prog 31 #[p'.val, q'.val] W fun e w' => e = .returned (.bool (p.sameB q)) ∧ Below W.heap.size W w' := by
  rw [← PX.same_same hp.same hq.same]
  exact PX.implSame p' q' (hp.fine hm) (hq.fine hm') _ W (fun b hb => hb) hp.lies hq.lies hp.plain hq.plain
theorem Copy.eq {p p' p'' : PX} {W : World} (hp : Copy p p' W) (hq : Copy p p'' W) (hm : p.tot ≤ 1048576) :
    Calls Try.prog 22 #[p'.val, p''.val] W fun e w' => e = .returned (.bool true) ∧ Below W.heap.size W w' :=
  PX.eq p' p'' (hp.fine hm).small (hp.same.join hq.same) _ W (fun b hb => hb) hp.lies hq.lies
end Go.Proofs.Ytiabnpbhhiacmaa
