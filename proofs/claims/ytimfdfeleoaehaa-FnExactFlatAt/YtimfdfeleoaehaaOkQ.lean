/-
  Programs that are the same are answered alike.
-/
import Derived.Test.YtimfdfeleoaehaaOkK
namespace Go.Proofs.Ytimfdfeleoaehaa
open Go.RowKit Go.Shelf
set_option linter.unusedSimpArgs false
set_option linter.unusedVariables false

def proj (x : Int × SX) : Int × Bool × Nat := (x.1, x.2.fitB, x.2.e.size + x.2.f.size)
theorem none_same {t u : XT} (h : Same t u) : noneE u = noneE t := by
  obtain ⟨h1, h2, h3, h4⟩ := h.heads
  unfold noneE
  rw [h1, h2, h3, h4]
theorem okI_same {t u : XT} (h : Same t u) (hs : t.size ≤ 1099511627776) : u.okI = t.okI := by
  obtain ⟨r, z, -⟩ := Same.spec _ t (Nat.le_refl _) u h
  rw [XT.ok_same u (by omega), XT.ok_same t hs, r]
theorem fitB_same {s u : SX} (h : SameS s u) (hm : SmallS s) : u.fitB = s.fitB := by
  obtain ⟨h1, h2, h3, h4, h5, h6, -, -⟩ := h.parts
  obtain ⟨-, m2, m3, -⟩ := hm.parts
  have z2 := m2.1
  have z3 := m3.1
  have k1 := h3.heads.1
  unfold SX.fitB SX.onlyE SX.onlyN SX.noL
  rw [h1, h2, h5, h6, k1, okI_same h3 (by omega), okI_same h4 (by omega), none_same h3, none_same h4]
theorem SameS.spec (sz : Nat) : ∀ s : SX, s.size ≤ sz → SmallS s → ∀ u : SX, SameS s u → u.tot = s.tot ∧ u.size = s.size ∧ ∀ r, (u.within r).map proj = (s.within r).map proj := by
  induction sz with
  | zero => intro s h; rw [SX.size_eq] at h; omega
  | succ sz ih =>
    have hl : ∀ ks us : List SX, SX.sizeAll ks ≤ sz → us.length = ks.length → (∀ (i : Nat) (k : SX), ks[i]? = some k → SmallS k) → (∀ (i : Nat) (a b : SX), ks[i]? = some a → us[i]? = some b → SameS a b) →
        SX.totAll us = SX.totAll ks ∧ SX.sizeAll us = SX.sizeAll ks ∧ ∀ r, (SX.withinAll us r).map proj = (SX.withinAll ks r).map proj := by
      intro ks
      induction ks with
      | nil =>
        intro us _ hlen _ _
        have : us = [] := List.length_eq_zero_iff.1 (by simpa using hlen)
        subst this
        exact ⟨rfl, rfl, fun _ => rfl⟩
      | cons k ks ihk =>
        intro us hsz hlen hsm hS
        obtain ⟨v, vs, rfl⟩ : ∃ v vs, us = v :: vs := by
          cases us with
          | nil => simp at hlen
          | cons v vs => exact ⟨v, vs, rfl⟩
        simp only [SX.sizeAll] at hsz
        obtain ⟨t1, t2, t3⟩ := ih k (by omega) (hsm 0 k rfl) v (hS 0 k v rfl rfl)
        obtain ⟨q1, q2, q3⟩ := ihk vs (by omega) (by simpa using hlen) (fun i x hx => hsm (i + 1) x (by simpa using hx)) (fun i a b ha hb => hS (i + 1) a b (by simpa using ha) (by simpa using hb))
        refine ⟨by simp only [SX.totAll]; omega, by simp only [SX.sizeAll]; omega, fun r => ?_⟩
        rw [SX.withinAll, SX.withinAll, List.map_append, List.map_append, t3 r, q3 r]
    intro s h hm u hS
    obtain ⟨h1, h2, h3, h4, h5, h6, ha, hb⟩ := hS.parts
    obtain ⟨-, m2, m3, -, ka, kb⟩ := hm.parts
    obtain ⟨-, e1, e2⟩ := Same.spec _ s.e (Nat.le_refl _) u.e h3
    obtain ⟨-, f1, f2⟩ := Same.spec _ s.f (Nat.le_refl _) u.f h4
    have hsz := s.size_eq
    obtain ⟨a1, a2, a3⟩ := hl s.la u.la (by omega) h5 ka ha
    obtain ⟨b1, b2, b3⟩ := hl s.lb u.lb (by omega) h6 kb hb
    refine ⟨?_, ?_, fun r => ?_⟩
    · rw [SX.tot_eq, SX.tot_eq, h2, e2, f2, h5, h6, a1, b1]
    · rw [SX.size_eq, SX.size_eq, a2, b2]
    · rw [SX.within_eq, SX.within_eq, List.map_cons, List.map_cons, List.map_append, List.map_append, a3, b3]
      congr 1
      unfold proj
      rw [fitB_same hS hm, e1, f1]
theorem SameS.all {ks us : List SX} (hlen : us.length = ks.length) (hsm : ∀ (i : Nat) (k : SX), ks[i]? = some k → SmallS k) (hS : ∀ (i : Nat) (a b : SX), ks[i]? = some a → us[i]? = some b → SameS a b) :
    SX.totAll us = SX.totAll ks ∧ ∀ r, (SX.withinAll us r).map proj = (SX.withinAll ks r).map proj := by
  induction ks generalizing us with
  | nil =>
    have : us = [] := List.length_eq_zero_iff.1 (by simpa using hlen)
    subst this
    exact ⟨rfl, fun _ => rfl⟩
  | cons k ks ihk =>
    obtain ⟨v, vs, rfl⟩ : ∃ v vs, us = v :: vs := by
      cases us with
      | nil => simp at hlen
      | cons v vs => exact ⟨v, vs, rfl⟩
    obtain ⟨t1, t2, t3⟩ := SameS.spec _ k (Nat.le_refl _) (hsm 0 k rfl) v (hS 0 k v rfl rfl)
    obtain ⟨q1, q3⟩ := ihk (us := vs) (by simpa using hlen) (fun i x hx => hsm (i + 1) x (by simpa using hx)) (fun i a b ha hb => hS (i + 1) a b (by simpa using ha) (by simpa using hb))
    refine ⟨by simp only [SX.totAll]; omega, fun r => ?_⟩
    rw [SX.withinAll, SX.withinAll, List.map_append, List.map_append, t3 r, q3 r]
theorem taskI_proj (ks : List SX) : taskI ks = (((SX.withinAll ks 0).map proj).all (fun y => decide (y.1 ≤ 4) && y.2.1) && decide (((SX.withinAll ks 0).map proj).length ≤ 40 ∧ (((SX.withinAll ks 0).map proj).map (fun y => y.2.2)).sum ≤ 640)) := by
  unfold taskI
  rw [List.all_map, List.length_map, List.map_map]
  rfl
theorem LX.same_task {t u : LX} (hm : t.Small) (h : LX.Same t u) : taskI u.l = taskI t.l ∧ u.tot = t.tot := by
  obtain ⟨h1, h2⟩ := SameS.all h.len hm.kid h.kid
  refine ⟨?_, ?_⟩
  · rw [taskI_proj, taskI_proj, h2]
  · unfold LX.tot
    rw [h1, h.len]
theorem LX.same_tasks {ks us : List LX} (hlen : us.length = ks.length) (hsm : ∀ (i : Nat) (k : LX), ks[i]? = some k → k.Small) (hS : ∀ (i : Nat) (a b : LX), ks[i]? = some a → us[i]? = some b → LX.Same a b) :
    us.all (fun t => taskI t.l) = ks.all (fun t => taskI t.l) ∧ sumOf LX.tot us = sumOf LX.tot ks := by
  induction ks generalizing us with
  | nil =>
    have : us = [] := List.length_eq_zero_iff.1 (by simpa using hlen)
    subst this
    exact ⟨rfl, rfl⟩
  | cons k ks ihk =>
    obtain ⟨v, vs, rfl⟩ : ∃ v vs, us = v :: vs := by
      cases us with
      | nil => simp at hlen
      | cons v vs => exact ⟨v, vs, rfl⟩
    obtain ⟨t1, t2⟩ := LX.same_task (hsm 0 k rfl) (hS 0 k v rfl rfl)
    obtain ⟨q1, q3⟩ := ihk (us := vs) (by simpa using hlen) (fun i x hx => hsm (i + 1) x (by simpa using hx)) (fun i a b ha hb => hS (i + 1) a b (by simpa using ha) (by simpa using hb))
    refine ⟨?_, ?_⟩
    · rw [List.all_cons, List.all_cons, t1, q1]
    · simp only [sumOf]
      rw [t2, q3]
theorem PX.same_ok {p q : PX} (hm : p.Small) (h : PX.Same p q) : q.okI = p.okI ∧ q.tot = p.tot := by
  obtain ⟨t1, t2⟩ := LX.same_tasks h.tl hm.t h.t
  refine ⟨?_, ?_⟩
  · unfold PX.okI PX.lens
    rw [h.v, h.c, h.n, h.tl, t1]
  · unfold PX.tot
    rw [h.v, h.c, h.n, h.tl, t2]
theorem PX.sizes {p : PX} (h : p.tot ≤ 1048576) : ∀ (i : Nat) (t : LX), p.tasks[i]? = some t → SX.sizeAll t.l ≤ 1048577 := by
  intro i t ht
  have h1 := sumOf_get LX.tot ht
  have h2 := SX.sizeAll_tot t.l
  have h3 : t.tot = t.l.length + SX.totAll t.l := rfl
  unfold PX.tot at h
  omega
end Go.Proofs.Ytimfdfeleoaehaa
