/-
  Statements that are the same: of lists, of all within them; how many marks they take; lists that own their memory lie in blocks that may be written.
-/
import Derived.Test.YtimfdfeleoaehaaStmtsB
import Derived.Test.YtimfdfeleoaehaaStmtsD
import Derived.Test.YtimfdfeleoaehaaOwnB
import Derived.Test.YtimfdfeleoaehaaOkQ
namespace Go.Proofs.Ytimfdfeleoaehaa
open Go.RowKit Go.Shelf
set_option linter.unusedSimpArgs false
set_option linter.unusedVariables false
attribute [local go_sem] Oper.semAt_some

theorem Same.refl (sz : Nat) : ∀ t : XT, t.size ≤ sz → Same t t := by
  induction sz with
  | zero => intro t h; rw [XT.size_eq] at h; omega
  | succ sz ih =>
    intro t h
    rw [XT.size_eq] at h
    exact .mk _ _ rfl rfl rfl rfl (fun i a b ha hb => by rw [ha] at hb; cases hb; exact ih a (by have := XT.size_get ha; omega))
theorem SameS.refl (sz : Nat) : ∀ s : SX, s.size ≤ sz → SameS s s := by
  induction sz with
  | zero => intro t h; rw [SX.size_eq] at h; omega
  | succ sz ih =>
    intro s h
    rw [SX.size_eq] at h
    exact .mk _ _ rfl rfl (Same.refl _ _ (Nat.le_refl _)) (Same.refl _ _ (Nat.le_refl _)) rfl rfl (fun i a b ha hb => by rw [ha] at hb; cases hb; exact ih a (by have := SX.size_get ha; omega)) (fun i a b ha hb => by rw [ha] at hb; cases hb; exact ih a (by have := SX.size_get ha; omega))
theorem SameS.symm {s u : SX} (h : SameS s u) : SameS u s := SameS.join _ s (Nat.le_refl _) u s h (SameS.refl _ s (Nat.le_refl _))
theorem SameS.trans {s u v : SX} (h : SameS s u) (k : SameS u v) : SameS s v := SameS.join _ u (Nat.le_refl _) s v h.symm k
theorem SameL.trans {a b c : List SX} (h : SameL a b) (k : SameL b c) : SameL a c := by
  refine ⟨k.1.trans h.1, fun i x z hx hz => ?_⟩
  have hi := (List.getElem?_eq_some_iff.1 hz).1
  obtain ⟨y, hy⟩ : ∃ y, b[i]? = some y := ⟨_, List.getElem?_eq_getElem (by rw [← k.1]; exact hi)⟩
  exact (h.2 i x y hx hy).trans (k.2 i y z hy hz)
theorem SameL.symm {a b : List SX} (h : SameL a b) : SameL b a := ⟨h.1.symm, fun i x y hx hy => (h.2 i y x hy hx).symm⟩
theorem SameL.flat (sz : Nat) : ∀ ks us : List SX, SX.sizeAll ks ≤ sz → SameL ks us → SameL (SX.flatAll ks) (SX.flatAll us) := by
  induction sz using Nat.strongRecOn with
  | _ sz ih =>
  intro ks us hsz h
  match ks, us, h with
  | [], [], h => exact SameL.nil
  | [], y :: ys, h => exact absurd h.1 (by simp)
  | x :: xs, [], h => exact absurd h.1 (by simp)
  | x :: xs, y :: ys, h =>
    have hxy := h.2 0 x y rfl rfl
    have hxs : SameL xs ys := ⟨by have := h.1; simpa using this, fun i a b ha hb => h.2 (i + 1) a b (by simpa using ha) (by simpa using hb)⟩
    obtain ⟨-, -, -, -, l1, l2, p1, p2⟩ := hxy.parts
    have he := x.size_eq
    simp only [SX.sizeAll] at hsz
    have t1 := ih (SX.sizeAll x.la) (by omega) x.la y.la (Nat.le_refl _) ⟨l1, p1⟩
    have t2 := ih (SX.sizeAll x.lb) (by omega) x.lb y.lb (Nat.le_refl _) ⟨l2, p2⟩
    have t3 := ih (SX.sizeAll xs) (by omega) xs ys (Nat.le_refl _) hxs
    show SameL (x.flat ++ SX.flatAll xs) (y.flat ++ SX.flatAll ys)
    rw [x.flat_eq, y.flat_eq]
    exact ((SameL.one hxy).append (t1.append t2)).append t3
theorem SameS.tot (sz : Nat) : ∀ s : SX, s.size ≤ sz → ∀ u : SX, SameS s u → u.tot = s.tot := by
  induction sz with
  | zero => intro s h; rw [SX.size_eq] at h; omega
  | succ sz ih =>
    have hl : ∀ ks us : List SX, SX.sizeAll ks ≤ sz → SameL ks us → SX.totAll us = SX.totAll ks := by
      intro ks
      induction ks with
      | nil =>
        intro us _ h
        have : us = [] := List.length_eq_zero_iff.1 (by simpa using h.1)
        subst this
        rfl
      | cons x xs ihx =>
        intro us hz h
        match us, h with
        | [], h => exact absurd h.1 (by simp)
        | y :: ys, h =>
          simp only [SX.sizeAll] at hz
          have h1 := ih x (by omega) y (h.2 0 x y rfl rfl)
          have h2 := ihx ys (by omega) ⟨by have := h.1; simpa using this, fun i a b ha hb => h.2 (i + 1) a b (by simpa using ha) (by simpa using hb)⟩
          simp only [SX.totAll, h1, h2]
    intro s hs u h
    rw [SX.size_eq] at hs
    obtain ⟨-, h2, h3, h4, l1, l2, p1, p2⟩ := h.parts
    rw [SX.tot_eq, SX.tot_eq, h2, (Same.spec _ s.e (Nat.le_refl _) u.e h3).2.2, (Same.spec _ s.f (Nat.le_refl _) u.f h4).2.2, l1, l2, hl s.la u.la (by omega) ⟨l1, p1⟩, hl s.lb u.lb (by omega) ⟨l2, p2⟩]
theorem SX.cnt_le (sz : Nat) : ∀ s : SX, s.size ≤ sz → s.tot ≤ 1048576 → s.cnt ≤ 8 + 8 * s.tot := by
  induction sz with
  | zero => intro s h; rw [SX.size_eq] at h; omega
  | succ sz ih =>
    have hl : ∀ ks : List SX, SX.sizeAll ks ≤ sz → SX.totAll ks ≤ 1048576 → SX.cntL ks ≤ 8 * (ks.length + SX.totAll ks) := by
      intro ks
      induction ks with
      | nil => intro _ _; simp [SX.cntL]
      | cons x xs ihx =>
        intro hz ht
        simp only [SX.sizeAll] at hz
        simp only [SX.totAll] at ht
        have h1 := ih x (by omega) (by omega)
        have h2 := ihx (by omega) (by omega)
        simp only [SX.cntL, SX.totAll, List.length_cons]
        omega
    intro s hs ht
    rw [SX.size_eq] at hs
    rw [SX.tot_eq] at ht ⊢
    have e1 := (XT.tot_bounds _ s.e (Nat.le_refl _) (by omega)).1
    have e2 := (XT.tot_bounds _ s.f (Nat.le_refl _) (by omega)).1
    rw [XT.size_eq] at e1 e2
    have h1 := hl s.la (by omega) (by omega)
    have h2 := hl s.lb (by omega) (by omega)
    rw [SX.cnt_eq]
    omega
theorem SX.cntL_bound (ks : List SX) (h : ∀ (i : Nat) (k : SX), ks[i]? = some k → k.tot ≤ 1048576) : SX.cntL ks ≤ ks.length * 8388616 := by
  induction ks with
  | nil => simp [SX.cntL]
  | cons x xs ih =>
    have h1 := SX.cnt_le _ x (Nat.le_refl _) (h 0 x rfl)
    have h0 := h 0 x rfl
    have h2 := ih (fun i k hk => h (i + 1) k (by simpa using hk))
    simp only [SX.cntL, List.length_cons]
    omega
theorem flat_all (Q : SX → Prop) (hA : ∀ s, Q s → (∀ (i : Nat) (k : SX), s.la[i]? = some k → Q k) ∧ (∀ (i : Nat) (k : SX), s.lb[i]? = some k → Q k)) (ks : List SX) (h : ∀ (i : Nat) (k : SX), ks[i]? = some k → Q k) : ∀ (i : Nat) (x : SX), (SX.flatAll ks)[i]? = some x → Q x := by
  intro i x hx
  have hm := List.mem_of_getElem? hx
  rw [← SX.withinAll_flat ks 0, List.mem_map] at hm
  obtain ⟨y, hy, rfl⟩ := hm
  exact SX.within_all Q hA _ ks (Nat.le_refl _) h 0 y hy
theorem sameL_within {ks us : List SX} (h1 : us.length = (SX.withinAll ks 0).length) (h2 : ∀ (i : Nat) (x : Int × SX) (y : SX), (SX.withinAll ks 0)[i]? = some x → us[i]? = some y → SameS x.2 y) : SameL (SX.flatAll ks) us := by
  rw [← SX.withinAll_flat ks 0]
  refine ⟨by rw [List.length_map]; exact h1, fun i x y hx hy => ?_⟩
  rw [List.getElem?_map] at hx
  cases hw : (SX.withinAll ks 0)[i]? with
  | none => rw [hw] at hx; cases hx
  | some z => rw [hw] at hx; cases hx; exact h2 i z y hw hy
theorem OwnR.plain {W : World} {lo hi : Nat} {a : Option Addr} {ks : List XT} (h : OwnR W lo hi a ks) : ERow (fun b => (lo ≤ b ∧ b < hi) ∧ Pl W b) W a ks ∧ ∀ (i : Nat) (k : XT), ks[i]? = some k → Lies (fun b => (lo ≤ b ∧ b < hi) ∧ Pl W b) W k := by
  induction h with
  | mk lo hi a ks g N l h row cell box apart kid ih =>
    refine ⟨fun i k hk => ?_, fun i k hk => ?_⟩
    · obtain ⟨r1, r2, r3, r4, r5⟩ := row i k hk
      exact ⟨g, 0, r1, ⟨⟨r2, r3⟩, r4.plain⟩, cell i k hk⟩
    · have b0 := box i (List.getElem?_eq_some_iff.1 hk).1
      obtain ⟨q1, q2⟩ := ih i k hk
      exact .mk k (fun j y hy => by obtain ⟨b, o, e1, e2, e3⟩ := q1 j y hy; exact ⟨b, o, e1, ⟨⟨by omega, by omega⟩, e2.2⟩, e3⟩) (fun j y hy => (q2 j y hy).mono (fun b hb _ => ⟨⟨⟨by omega, by omega⟩, hb.2⟩, rfl⟩))
theorem OwnSR.plain {W : World} {lo hi : Nat} {a : Option Addr} {ks : List SX} (h : OwnSR W lo hi a ks) : SRow (fun b => (lo ≤ b ∧ b < hi) ∧ Pl W b) W a ks ∧ ∀ (i : Nat) (k : SX), ks[i]? = some k → LiesS (fun b => (lo ≤ b ∧ b < hi) ∧ Pl W b) W k := by
  induction h with
  | mk lo hi a ks g N l h row cell box apart ke kf ka kb iha ihb =>
    have hlt : ∀ (i : Nat) (k : SX), ks[i]? = some k → i < ks.length := fun i k hk => (List.getElem?_eq_some_iff.1 hk).1
    refine ⟨fun i k hk => ?_, fun i k hk => ?_⟩
    · obtain ⟨r1, r2, r3, r4, r5⟩ := row i k hk
      exact ⟨g, 0, r1, ⟨⟨r2, r3⟩, r4.plain⟩, cell i k hk⟩
    · have hi9 := hlt i k hk
      have b0 := box (4 * i) (by omega)
      have b1 := box (4 * i + 1) (by omega)
      have b2 := box (4 * i + 2) (by omega)
      have b3 := box (4 * i + 3) (by omega)
      obtain ⟨qa1, qa2⟩ := iha i k hk
      obtain ⟨qb1, qb2⟩ := ihb i k hk
      obtain ⟨qe1, qe2⟩ := (ke i k hk).plain
      obtain ⟨qf1, qf2⟩ := (kf i k hk).plain
      have le : Lies (fun b => (lo ≤ b ∧ b < hi) ∧ Pl W b) W k.e := (Lies.mk k.e qe1 qe2).mono (fun b hb _ => ⟨⟨⟨by omega, by omega⟩, hb.2⟩, rfl⟩)
      have lf : Lies (fun b => (lo ≤ b ∧ b < hi) ∧ Pl W b) W k.f := (Lies.mk k.f qf1 qf2).mono (fun b hb _ => ⟨⟨⟨by omega, by omega⟩, hb.2⟩, rfl⟩)
      refine .mk k le lf (qa1.mono (fun b hb _ => ⟨⟨⟨by omega, by omega⟩, hb.2⟩, rfl⟩)) (qb1.mono (fun b hb _ => ⟨⟨⟨by omega, by omega⟩, hb.2⟩, rfl⟩)) (fun j y hy => (qa2 j y hy).mono (fun b hb _ => ⟨⟨⟨by omega, by omega⟩, hb.2⟩, rfl⟩)) (fun j y hy => (qb2 j y hy).mono (fun b hb _ => ⟨⟨⟨by omega, by omega⟩, hb.2⟩, rfl⟩))
/-- Two lists that own their memory, or lie, are told to be the same. -/
theorem eqLists (ks us : List SX) (a a' : Option Addr) (c c' : Nat) (ok : Nat → Prop) (w : World) (hok : ∀ b, ok b → b < w.heap.size) (hR : SRow ok w a ks) (hL : ∀ (i : Nat) (k : SX), ks[i]? = some k → LiesS ok w k) (hR' : SRow ok w a' us) (hL' : ∀ (i : Nat) (k : SX), us[i]? = some k → LiesS ok w k) (hlen : ks.length ≤ 2097152) (hS : SameL ks us) (hsm : ∀ (i : Nat) (k : SX), ks[i]? = some k → SmallS k) :
    Calls Try.prog 11 #[.slice a ks.length c, .slice a' us.length c'] w fun e w' => e = .returned (.bool true) ∧ Below w.heap.size w w' :=
  eqSS ks us a a' c c' ok w hok hR hR' (by omega) hS.1 (fun i x y hx hy w' hB => eqS1 _ x y (Nat.le_refl _) (hsm i x hx) (hS.2 i x y hx hy) ok w' (fun b hb => Nat.lt_of_lt_of_le (hok b hb) hB.size) ((hL i x hx).under hB hok) ((hL' i y hy).under hB hok))
end Go.Proofs.Ytimfdfeleoaehaa
