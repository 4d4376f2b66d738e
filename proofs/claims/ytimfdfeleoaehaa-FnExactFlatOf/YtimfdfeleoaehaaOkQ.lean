/-
  How many expressions there are in one, by the program.
  A region that draws its order, inside a round of a range over a function: what is shown for whatever order outside of a round holds in it, where nothing is deferred.
  What the program answers of a task.
  What the program answers of a program.
  Programs that are the same are answered alike.
-/
import Derived.Test.YtimfdfeleoaehaaTreeF
import Derived.Test.YtimfdfeleoaehaaTreeR
import Derived.Deep.RegionHeld3
import Derived.OrdersIn
import Derived.Test.YtimfdfeleoaehaaOkG
import Derived.Test.YtimfdfeleoaehaaOkI
import Derived.Test.YtimfdfeleoaehaaOkD
namespace Go.Proofs.Ytimfdfeleoaehaa
open Go.RowKit Go.Shelf
set_option linter.unusedSimpArgs false
set_option linter.unusedVariables false
attribute [local go_sem] Oper.semAt_some

end Go.Proofs.Ytimfdfeleoaehaa
namespace Go.Proofs.Ytimfdfeleoaehaa
open Go.RowKit Go.Shelf
set_option linter.unusedSimpArgs false
set_option linter.unusedVariables false

theorem op_round {l n : Nat} {P : Program} {o : Oper} {a : Act} {w : World} {K : Act → World → Prop} {Q : Exit → Act → World → Prop} (hd : ∀ c, o.op ≠ .defer c) (h : o.wp P a w K Q) : o.wpIn (Fence.wide.inRound l) n P a w K Q := by
  unfold Oper.wpIn
  refine ⟨fun _ _ => trivial, ?_⟩
  rw [Oper.semAt_eq _ _ _ hd]
  unfold Oper.wp at h
  generalize (execOp a.eval o).run P w = r at *
  cases r with
  | ok x w' =>
    cases x <;> simp only [Oper.upon, Oper.uponIn] at h ⊢ <;>
      first
        | exact h
        | exact ⟨fun h => (by cases h), callsIn_wide.2 h⟩
        | exact ⟨fun h => (by cases h), fun c cs _ => let ⟨v, w', r, s⟩ := h c cs; ⟨v, w', r, stepsIn_wide.2 s⟩⟩
  | halt x w' => cases x <;> simp only [Oper.upon, Oper.uponIn] at h ⊢ <;> exact h
def noDefer (ops : Array Oper) : Bool := ops.all fun o => match o.op with | .defer _ => false | _ => true
theorem noDefer_spec {ops : Array Oper} (h : noDefer ops = true) {i : Nat} {o : Oper} (ho : ops[i]? = some o) : ∀ c, o.op ≠ .defer c := by
  intro c hc
  have h1 := Array.all_eq_true.1 h i (Array.getElem?_eq_some_iff.1 ho).1
  rw [(Array.getElem?_eq_some_iff.1 ho).2, hc] at h1
  cases h1
theorem any_round {l n : Nat} {P : Program} {md : Region.Mode} {ops : Array Oper} {Q : Exit → Act → World → Prop} (hd : noDefer ops = true) (hL : ¬ LetsOut Q) : ∀ (fuel : Nat) (listed : Array Bool) (a : Act) (w : World), wpAny P md ops Q fuel listed a w → wpAnyIn (Fence.wide.inRound l) n P md ops Q fuel listed a w
  | 0, _, _, _, h => h
  | fuel + 1, listed, a, w, h => by
    refine ⟨h.1, fun i hi => ?_⟩
    have h1 := h.2 i hi
    unfold wpOp at h1
    unfold wpOpIn
    cases ho : ops[i]? with
    | none =>
      simp only [ho] at h1 ⊢
      exact any_round hd hL fuel _ _ _ h1
    | some o =>
      simp only [ho] at h1 ⊢
      split
      · rename_i hw
        rw [if_pos hw] at h1
        rcases h1 with h1 | ⟨-, h1⟩
        · exact Oper.wpIn_mono (fun a' w' h2 => any_round hd hL fuel _ a' w' h2) (op_round (noDefer_spec hd ho) h1)
        · exact absurd h1 hL
      · rename_i hw
        rw [if_neg hw] at h1
        exact ⟨fun _ _ => trivial, any_round hd hL fuel _ _ _ h1⟩
theorem region_round {l n id : Nat} {P : Program} {ops : Array Oper} {Q : Exit → Act → World → Prop} {a : Act} {w : World} (S : World → Prop) (hm : P.follows .mixedOrders = true) (hd : noDefer ops = true) (hL : ¬ LetsOut Q) (hS : S w.drew)
    (h : S w.drew → wpAnyH P .any ops Q S ops.size (Array.replicate ops.size false) a w.drew) : (Code.region id ops true).wpIn (Fence.wide.inRound l) n P Q a w :=
  wpIn_region_any hm (any_round hd hL _ _ _ _ (wpAny_of_held _ _ _ _ (h hS)))
end Go.Proofs.Ytimfdfeleoaehaa
namespace Go.Proofs.Ytimfdfeleoaehaa
open Go.RowKit Go.Shelf
set_option linter.unusedSimpArgs false
set_option linter.unusedVariables false
attribute [local go_sem] Oper.semAt_some

theorem SX.within_all (Q : SX → Prop) (hA : ∀ s, Q s → (∀ (i : Nat) (k : SX), s.la[i]? = some k → Q k) ∧ (∀ (i : Nat) (k : SX), s.lb[i]? = some k → Q k)) (sz : Nat) :
    ∀ ks : List SX, SX.sizeAll ks ≤ sz → (∀ (i : Nat) (k : SX), ks[i]? = some k → Q k) → ∀ r, ∀ x ∈ SX.withinAll ks r, Q x.2 := by
  induction sz using Nat.strongRecOn with
  | _ sz ih =>
  intro ks
  induction ks with
  | nil => intro _ _ r x hx; simp [SX.withinAll] at hx
  | cons s ss ihs =>
    intro hsz hQ r x hx
    have hs := hQ 0 s rfl
    obtain ⟨ha, hb⟩ := hA s hs
    have h1 := s.size_eq
    simp only [SX.sizeAll] at hsz
    rw [SX.withinAll, List.mem_append, SX.within_eq, List.mem_cons, List.mem_append] at hx
    rcases hx with (rfl | hx | hx) | hx
    · exact hs
    · exact ih (SX.sizeAll s.la) (by omega) s.la (Nat.le_refl _) ha _ x hx
    · exact ih (SX.sizeAll s.lb) (by omega) s.lb (Nat.le_refl _) hb _ x hx
    · exact ihs (by omega) (fun i k hk => hQ (i + 1) k (by simpa using hk)) r x hx

theorem wrapN {n : Int} (h0 : 0 ≤ n) (h1 : n < 1000000000000) : IntKind.i64.wrap n = n := by
  rw [IntKind.wrap_i64]
  omega
def goodS (x : Int × SX) : Bool := decide (x.1 ≤ 4) && x.2.fitB
def nodesOf (l : List (Int × SX)) : Nat := (l.map (fun x => x.2.e.size + x.2.f.size)).sum
theorem nodesOf_append (a b : List (Int × SX)) : nodesOf (a ++ b) = nodesOf a + nodesOf b := by simp [nodesOf]
theorem nodesOf_one (x : Int × SX) : nodesOf [x] = x.2.e.size + x.2.f.size := by simp [nodesOf]
def taskI (ks : List SX) : Bool := (SX.withinAll ks 0).all goodS && decide ((SX.withinAll ks 0).length ≤ 40 ∧ nodesOf (SX.withinAll ks 0) ≤ 640)
theorem taskI_bad {ks : List SX} {pre : List (Int × SX)} {x : Int × SX} (h : pre ++ [x] <+: SX.withinAll ks 0) (hx : goodS x = false) : taskI ks = false := by
  have h1 : (SX.withinAll ks 0).all goodS = false := by
    rw [List.all_eq_false]
    exact ⟨x, h.subset (by simp), by simp [hx]⟩
  simp [taskI, h1]
theorem taskI_long {ks : List SX} {pre : List (Int × SX)} (h : pre <+: SX.withinAll ks 0) (hx : ¬ (pre.length ≤ 40 ∧ nodesOf pre ≤ 640)) : taskI ks = false := by
  obtain ⟨q, hq⟩ := h
  have h1 : ¬ ((SX.withinAll ks 0).length ≤ 40 ∧ nodesOf (SX.withinAll ks 0) ≤ 640) := by
    rw [← hq, List.length_append, nodesOf_append]
    omega
  unfold taskI
  rw [decide_eq_false h1, Bool.and_false]

end Go.Proofs.Ytimfdfeleoaehaa
namespace Go.Proofs.Ytimfdfeleoaehaa
open Go.RowKit Go.Shelf
set_option linter.unusedSimpArgs false
set_option linter.unusedVariables false
attribute [local go_sem] Oper.semAt_some

theorem SX.size_tot (sz : Nat) : ∀ s : SX, s.size ≤ sz → s.size ≤ 1 + s.tot := by
  induction sz with
  | zero => intro s h; rw [SX.size_eq] at h; omega
  | succ sz ih =>
    have hl : ∀ l : List SX, SX.sizeAll l ≤ sz → SX.sizeAll l ≤ l.length + SX.totAll l := by
      intro l
      induction l with
      | nil => intro _; simp [SX.sizeAll]
      | cons x xs ihx =>
        intro h
        simp only [SX.sizeAll] at h
        have h1 := ih x (by omega)
        have h2 := ihx (by omega)
        simp only [SX.sizeAll, SX.totAll, List.length_cons]
        omega
    intro s h
    rw [SX.size_eq] at h ⊢
    rw [SX.tot_eq]
    have h1 := hl s.la (by omega)
    have h2 := hl s.lb (by omega)
    omega
theorem SX.sizeAll_tot (l : List SX) : SX.sizeAll l ≤ l.length + SX.totAll l := by
  induction l with
  | nil => simp [SX.sizeAll]
  | cons x xs ih =>
    have h1 := SX.size_tot _ x (Nat.le_refl _)
    simp only [SX.sizeAll, SX.totAll, List.length_cons]
    omega
def PX.lens (p : PX) : Bool := decide (p.vars.length ≤ 6 ∧ p.chans.length ≤ 3 ∧ p.locks.length ≤ 3 ∧ p.tasks.length ≤ 4)
def PX.okI (p : PX) : Bool := p.lens && (p.vars.all (fun v => v.okB (mxI p.tasks.length 1)) && (p.chans.all (fun v => v.okB) && (p.locks.all (fun v => nameB v) && p.tasks.all (fun t => taskI t.l))))
end Go.Proofs.Ytimfdfeleoaehaa
namespace Go.Proofs.Ytimfdfeleoaehaa
open Go.RowKit Go.Shelf
set_option linter.unusedSimpArgs false
set_option linter.unusedVariables false

def proj (x : Int × SX) : Int × Bool × Nat := (x.1, x.2.fitB, x.2.e.size + x.2.f.size)
theorem none_same {t u : XT} (h : Same t u) : noneE u = noneE t := by
  obtain ⟨h1, h2, h3, h4⟩ := h.heads
  unfold noneE
  rw [h1, h2, h3, h4]
theorem okI_same {t u : XT} (h : Same t u) (hs : t.size ≤ 1099511627776) : u.okI = t.okI := by
  obtain ⟨r, z, -⟩ := Same.spec _ t (Nat.le_refl _) u h
  rw [XT.ok_same u (by omega), XT.ok_same t hs, r]
theorem fitB_same {s u : SX} (h : SameS s u) (hm : SmallS s) : u.fitB = s.fitB := by
  obtain ⟨h1, h2, h3, h4, h5, h6, -, -⟩ := h.parts
  obtain ⟨-, m2, m3, -⟩ := hm.parts
  have z2 := m2.1
  have z3 := m3.1
  have k1 := h3.heads.1
  unfold SX.fitB SX.onlyE SX.onlyN SX.noL
  rw [h1, h2, h5, h6, k1, okI_same h3 (by omega), okI_same h4 (by omega), none_same h3, none_same h4]
theorem SameS.spec (sz : Nat) : ∀ s : SX, s.size ≤ sz → SmallS s → ∀ u : SX, SameS s u → u.tot = s.tot ∧ u.size = s.size ∧ ∀ r, (u.within r).map proj = (s.within r).map proj := by
  induction sz with
  | zero => intro s h; rw [SX.size_eq] at h; omega
  | succ sz ih =>
    have hl : ∀ ks us : List SX, SX.sizeAll ks ≤ sz → us.length = ks.length → (∀ (i : Nat) (k : SX), ks[i]? = some k → SmallS k) → (∀ (i : Nat) (a b : SX), ks[i]? = some a → us[i]? = some b → SameS a b) →
        SX.totAll us = SX.totAll ks ∧ SX.sizeAll us = SX.sizeAll ks ∧ ∀ r, (SX.withinAll us r).map proj = (SX.withinAll ks r).map proj := by
      intro ks
      induction ks with
      | nil =>
        intro us _ hlen _ _
        have : us = [] := List.length_eq_zero_iff.1 (by simpa using hlen)
        subst this
        exact ⟨rfl, rfl, fun _ => rfl⟩
      | cons k ks ihk =>
        intro us hsz hlen hsm hS
        obtain ⟨v, vs, rfl⟩ : ∃ v vs, us = v :: vs := by
          cases us with
          | nil => simp at hlen
          | cons v vs => exact ⟨v, vs, rfl⟩
        simp only [SX.sizeAll] at hsz
        obtain ⟨t1, t2, t3⟩ := ih k (by omega) (hsm 0 k rfl) v (hS 0 k v rfl rfl)
        obtain ⟨q1, q2, q3⟩ := ihk vs (by omega) (by simpa using hlen) (fun i x hx => hsm (i + 1) x (by simpa using hx)) (fun i a b ha hb => hS (i + 1) a b (by simpa using ha) (by simpa using hb))
        refine ⟨by simp only [SX.totAll]; omega, by simp only [SX.sizeAll]; omega, fun r => ?_⟩
        rw [SX.withinAll, SX.withinAll, List.map_append, List.map_append, t3 r, q3 r]
    intro s h hm u hS
    obtain ⟨h1, h2, h3, h4, h5, h6, ha, hb⟩ := hS.parts
    obtain ⟨-, m2, m3, -, ka, kb⟩ := hm.parts
    obtain ⟨-, e1, e2⟩ := Same.spec _ s.e (Nat.le_refl _) u.e h3
    obtain ⟨-, f1, f2⟩ := Same.spec _ s.f (Nat.le_refl _) u.f h4
    have hsz := s.size_eq
    obtain ⟨a1, a2, a3⟩ := hl s.la u.la (by omega) h5 ka ha
    obtain ⟨b1, b2, b3⟩ := hl s.lb u.lb (by omega) h6 kb hb
    refine ⟨?_, ?_, fun r => ?_⟩
    · rw [SX.tot_eq, SX.tot_eq, h2, e2, f2, h5, h6, a1, b1]
    · rw [SX.size_eq, SX.size_eq, a2, b2]
    · rw [SX.within_eq, SX.within_eq, List.map_cons, List.map_cons, List.map_append, List.map_append, a3, b3]
      congr 1
      unfold proj
      rw [fitB_same hS hm, e1, f1]
theorem SameS.all {ks us : List SX} (hlen : us.length = ks.length) (hsm : ∀ (i : Nat) (k : SX), ks[i]? = some k → SmallS k) (hS : ∀ (i : Nat) (a b : SX), ks[i]? = some a → us[i]? = some b → SameS a b) :
    SX.totAll us = SX.totAll ks ∧ ∀ r, (SX.withinAll us r).map proj = (SX.withinAll ks r).map proj := by
  induction ks generalizing us with
  | nil =>
    have : us = [] := List.length_eq_zero_iff.1 (by simpa using hlen)
    subst this
    exact ⟨rfl, fun _ => rfl⟩
  | cons k ks ihk =>
    obtain ⟨v, vs, rfl⟩ : ∃ v vs, us = v :: vs := by
      cases us with
      | nil => simp at hlen
      | cons v vs => exact ⟨v, vs, rfl⟩
    obtain ⟨t1, t2, t3⟩ := SameS.spec _ k (Nat.le_refl _) (hsm 0 k rfl) v (hS 0 k v rfl rfl)
    obtain ⟨q1, q3⟩ := ihk (us := vs) (by simpa using hlen) (fun i x hx => hsm (i + 1) x (by simpa using hx)) (fun i a b ha hb => hS (i + 1) a b (by simpa using ha) (by simpa using hb))
    refine ⟨by simp only [SX.totAll]; omega, fun r => ?_⟩
    rw [SX.withinAll, SX.withinAll, List.map_append, List.map_append, t3 r, q3 r]
theorem taskI_proj (ks : List SX) : taskI ks = (((SX.withinAll ks 0).map proj).all (fun y => decide (y.1 ≤ 4) && y.2.1) && decide (((SX.withinAll ks 0).map proj).length ≤ 40 ∧ (((SX.withinAll ks 0).map proj).map (fun y => y.2.2)).sum ≤ 640)) := by
  unfold taskI
  rw [List.all_map, List.length_map, List.map_map]
  rfl
theorem LX.same_task {t u : LX} (hm : t.Small) (h : LX.Same t u) : taskI u.l = taskI t.l ∧ u.tot = t.tot := by
  obtain ⟨h1, h2⟩ := SameS.all h.len hm.kid h.kid
  refine ⟨?_, ?_⟩
  · rw [taskI_proj, taskI_proj, h2]
  · unfold LX.tot
    rw [h1, h.len]
theorem LX.same_tasks {ks us : List LX} (hlen : us.length = ks.length) (hsm : ∀ (i : Nat) (k : LX), ks[i]? = some k → k.Small) (hS : ∀ (i : Nat) (a b : LX), ks[i]? = some a → us[i]? = some b → LX.Same a b) :
    us.all (fun t => taskI t.l) = ks.all (fun t => taskI t.l) ∧ sumOf LX.tot us = sumOf LX.tot ks := by
  induction ks generalizing us with
  | nil =>
    have : us = [] := List.length_eq_zero_iff.1 (by simpa using hlen)
    subst this
    exact ⟨rfl, rfl⟩
  | cons k ks ihk =>
    obtain ⟨v, vs, rfl⟩ : ∃ v vs, us = v :: vs := by
      cases us with
      | nil => simp at hlen
      | cons v vs => exact ⟨v, vs, rfl⟩
    obtain ⟨t1, t2⟩ := LX.same_task (hsm 0 k rfl) (hS 0 k v rfl rfl)
    obtain ⟨q1, q3⟩ := ihk (us := vs) (by simpa using hlen) (fun i x hx => hsm (i + 1) x (by simpa using hx)) (fun i a b ha hb => hS (i + 1) a b (by simpa using ha) (by simpa using hb))
    refine ⟨?_, ?_⟩
    · rw [List.all_cons, List.all_cons, t1, q1]
    · simp only [sumOf]
      rw [t2, q3]
theorem PX.same_ok {p q : PX} (hm : p.Small) (h : PX.Same p q) : q.okI = p.okI ∧ q.tot = p.tot := by
  obtain ⟨t1, t2⟩ := LX.same_tasks h.tl hm.t h.t
  refine ⟨?_, ?_⟩
  · unfold PX.okI PX.lens
    rw [h.v, h.c, h.n, h.tl, t1]
  · unfold PX.tot
    rw [h.v, h.c, h.n, h.tl, t2]
theorem PX.sizes {p : PX} (h : p.tot ≤ 1048576) : ∀ (i : Nat) (t : LX), p.tasks[i]? = some t → SX.sizeAll t.l ≤ 1048577 := by
  intro i t ht
  have h1 := sumOf_get LX.tot ht
  have h2 := SX.sizeAll_tot t.l
  have h3 : t.tot = t.l.length + SX.totAll t.l := rfl
  unfold PX.tot at h
  omega
end Go.Proofs.Ytimfdfeleoaehaa
