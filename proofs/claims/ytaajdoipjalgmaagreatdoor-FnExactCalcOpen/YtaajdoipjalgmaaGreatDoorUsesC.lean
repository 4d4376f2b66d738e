/-
  What the program answers of the places of names in a program whose places are told by maps: what a name stands for, and what is wrong with a use of it.
-/
import Derived.Test.YtaajdoipjalgmaaGreatDoorUsesA
import Derived.Test.YtaajdoipjalgmaaGreatDoorScopeC
namespace Go.Proofs.YtaajdoipjalgmaaGreatDoor
open Go.RowKit Go.Shelf Go.Maps
set_option linter.unusedSimpArgs false
set_option linter.unusedVariables false
attribute [local go_sem] Oper.semAt_some

/-- A map of the first places of names. -/
def MX (W : World) (m : Nat) (l : List ByteArray) : Prop := ∃ (n : Nat) (D : DataW Unit), W.ownsMap Tryz.prog 9 (plainElem Tryz.prog 3) m n D ∧ Firsts D l
theorem MX.on {A B : World} {m : Nat} {l : List ByteArray} (h : MX A m l) (hb : B.heap[m]? = A.heap[m]?) : MX B m l := by
  obtain ⟨n, D, ⟨es, clock, h1, h2⟩, h3⟩ := h
  exact ⟨n, D, ⟨es, clock, hb.trans h1, h2⟩, h3⟩
theorem MX.lt {A : World} {m : Nat} {l : List ByteArray} (h : MX A m l) : m < A.heap.size := by
  obtain ⟨n, D, h1, h3⟩ := h
  exact h1.lt
theorem placeM {W : World} {m : Nat} {l : List ByteArray} (h : MX W m l) (s : ByteArray) (hs : s.size ≤ 1048576) :
    Calls Tryz.prog 139 #[.map (some m), .string s] W fun e w' => e = .returned (.int .i64 (firstOf l s)) ∧ w' = W := by
  obtain ⟨n, D, h1, h2⟩ := h
  exact placeIn l m n D s hs h2 W h1
/-- The places of the names of a program. -/
structure SC (W : World) (p : PX) (mv mc mn : Nat) : Prop where
  v : MX W mv (p.vars.map VX.name)
  c : MX W mc (p.chans.map CX.name)
  n : MX W mn p.locks
theorem SC.on {A B : World} {p : PX} {mv mc mn : Nat} (h : SC A p mv mc mn) (hb : ∀ k, (k = mv ∨ k = mc ∨ k = mn) → B.heap[k]? = A.heap[k]?) : SC B p mv mc mn := ⟨h.v.on (hb _ (.inl rfl)), h.c.on (hb _ (.inr (.inl rfl))), h.n.on (hb _ (.inr (.inr rfl)))⟩
theorem SC.below {A B : World} {n : Nat} {p : PX} {mv mc mn : Nat} (h : SC A p mv mc mn) (hb : Below n A B) (h1 : mv < n) (h2 : mc < n) (h3 : mn < n) : SC B p mv mc mn := h.on (fun k hk => hb.block k (by rcases hk with rfl | rfl | rfl <;> assumption))
theorem SC.new {A B : World} {p : PX} {mv mc mn : Nat} (h : SC A p mv mc mn) (hb : Below A.heap.size A B) : SC B p mv mc mn := h.below hb h.v.lt h.c.lt h.n.lt
abbrev scV (p : PX) (mv mc mn : Nat) : Value := .agg #[.slice p.vbase p.vars.length p.vcap, .slice p.cbase p.chans.length p.ccap, .slice p.nbase p.locks.length p.ncap, .slice p.tbase p.tasks.length p.tcap, .map (some mv), .map (some mc), .map (some mn)]
theorem isArrayT (x : VX) (w : World) : Calls Tryz.prog 178 #[x.val] w fun e w' => e = .returned (.bool (decide (0 < x.size))) ∧ Below w.heap.size w w' := by
  go_enter Tryz.func178, Tryz.ntmps178
  go_wp2
  go_returns
  exact ⟨ret_bool (by simp), (Below.refl _ w).alloc (Nat.le_refl _) _⟩
def PX.arrB (p : PX) (v : Int) : Bool := match p.vars[v.toNat]? with
  | some x => decide (0 < x.size)
  | none => false
def PX.placeI (p : PX) (u : UX) : Int :=
  if u.as_ = 3 then firstOf (p.chans.map CX.name) u.name else if u.as_ = 4 then firstOf p.locks u.name
  else if (decide (0 ≤ firstOf (p.vars.map VX.name) u.name) && (p.arrB (firstOf (p.vars.map VX.name) u.name) != decide (u.as_ = 2))) = true then -1 else firstOf (p.vars.map VX.name) u.name
theorem firstOf_cases (l : List ByteArray) (s : ByteArray) : firstOf l s = -1 ∨ ∃ i : Nat, firstOf l s = i ∧ i < l.length := by
  unfold firstOf
  cases h : findOf l s with
  | none => exact .inl rfl
  | some i => exact .inr ⟨i, rfl, by have := List.findIdx?_eq_some_iff_findIdx_eq.1 h; exact this.1⟩
set_option maxRecDepth 10000 in
set_option maxHeartbeats 4000000 in
theorem placeT (p : PX) (mv mc mn : Nat) (u : UX) (hu : u.name.size ≤ 1048576) (ok : Nat → Prop) (w : World) (hok : ∀ b, ok b → b < w.heap.size) (hS : SC w p mv mc mn) (hR : VX.Row ok w p.vbase p.vars) (hm : p.vars.length ≤ 1048577) :
    Calls Tryz.prog 145 #[scV p mv mc mn, u.val] w fun e w' => e = .returned (.int .i64 (p.placeI u)) ∧ Below w.heap.size w w' := by
  obtain ⟨nm, k⟩ := u
  obtain ⟨vb, vc, vars, cb, cc, chans, nb, nc, locks, tb, tc, tasks⟩ := p
  dsimp only at hu hR hm
  unfold scV
  dsimp only
  obtain ⟨W1, hW1⟩ : ∃ W1, w.alloc (.cells #[.slice vb vars.length vc, .slice cb chans.length cc, .slice nb locks.length nc, .slice tb tasks.length tc, .map (some mv), .map (some mc), .map (some mn)] 159) = W1 := ⟨_, rfl⟩
  obtain ⟨W2, hW2⟩ : ∃ W2, W1.alloc (.cells #[.string nm, .int .i64 k] 167) = W2 := ⟨_, rfl⟩
  have hs1 : w.heap.size + 1 = W1.heap.size := by rw [← hW1]; simp
  have hs2 : W1.heap.size + 1 = W2.heap.size := by rw [← hW2]; simp
  have hB2 : Below w.heap.size w W2 := by rw [← hW2, ← hW1]; exact ((Below.refl _ w).alloc (Nat.le_refl _) _).alloc (by simp) _
  have p1 : W2.heap[w.heap.size]? = some (.cells #[.slice vb vars.length vc, .slice cb chans.length cc, .slice nb locks.length nc, .slice tb tasks.length tc, .map (some mv), .map (some mc), .map (some mn)] 159) := by
    rw [← hW2]
    refine (Below.heap_alloc _ _ _ (by omega)).trans ?_
    rw [← hW1]
    exact Array.getElem?_push_size
  have p2 : W2.heap[W1.heap.size]? = some (.cells #[.string nm, .int .i64 k] 167) := by rw [← hW2]; exact Array.getElem?_push_size
  have a0 : W2.cell? ⟨w.heap.size, 0, none⟩ = some (.slice vb vars.length vc) := by simp [World.cell?, p1]
  have a4 : W2.cell? ⟨w.heap.size, 4, none⟩ = some (.map (some mv)) := by simp [World.cell?, p1]
  have a5 : W2.cell? ⟨w.heap.size, 5, none⟩ = some (.map (some mc)) := by simp [World.cell?, p1]
  have a6 : W2.cell? ⟨w.heap.size, 6, none⟩ = some (.map (some mn)) := by simp [World.cell?, p1]
  have b0 : W2.cell? ⟨W1.heap.size, 0, none⟩ = some (.string nm) := by simp [World.cell?, p2]
  have b1 : W2.cell? ⟨W1.heap.size, 1, none⟩ = some (.int .i64 k) := by simp [World.cell?, p2]
  have hS2 := hS.new hB2
  have hR2 := hR.under hB2 hok
  clear p1 p2
  by_cases h3 : k = 3
  · subst h3
    rw [show PX.placeI (⟨vb, vc, vars, cb, cc, chans, nb, nc, locks, tb, tc, tasks⟩ : PX) ⟨nm, 3⟩ = firstOf (chans.map CX.name) nm from rfl]
    go_enter Tryz.func145, Tryz.ntmps145
    go_wp2_with fail
    go_at_call 139
    refine (placeM (show MX W2 mc (chans.map CX.name) from hS2.c) nm hu).mono ?_
    rintro e w3 ⟨rfl, hw3⟩
    subst w3
    go_wp2_with fail
    go_returns
    exact ⟨rfl, hB2⟩
  by_cases h4 : k = 4
  · subst h4
    rw [show PX.placeI (⟨vb, vc, vars, cb, cc, chans, nb, nc, locks, tb, tc, tasks⟩ : PX) ⟨nm, 4⟩ = firstOf locks nm from rfl]
    go_enter Tryz.func145, Tryz.ntmps145
    go_wp2_with fail
    go_at_call 139
    refine (placeM (show MX W2 mn locks from hS2.n) nm hu).mono ?_
    rintro e w3 ⟨rfl, hw3⟩
    subst w3
    go_wp2_with fail
    go_returns
    exact ⟨rfl, hB2⟩
  rw [show PX.placeI (⟨vb, vc, vars, cb, cc, chans, nb, nc, locks, tb, tc, tasks⟩ : PX) ⟨nm, k⟩ = if (decide (0 ≤ firstOf (vars.map VX.name) nm) && (PX.arrB (⟨vb, vc, vars, cb, cc, chans, nb, nc, locks, tb, tc, tasks⟩ : PX) (firstOf (vars.map VX.name) nm) != decide (k = 2))) = true then -1 else firstOf (vars.map VX.name) nm from by unfold PX.placeI; rw [if_neg h3, if_neg h4]]
  have hpm := placeM (show MX W2 mv (vars.map VX.name) from hS2.v) nm hu
  rcases firstOf_cases (vars.map VX.name) nm with hf | ⟨i, hf, hi⟩
  · rw [hf] at hpm ⊢
    simp only [Int.reduceNeg, Int.reduceLE, decide_false, Bool.false_and, Bool.false_eq_true, if_false]
    go_enter Tryz.func145, Tryz.ntmps145
    go_wp2_with fail
    go_at_call 139
    refine hpm.mono ?_
    rintro e w3 ⟨rfl, hw3⟩
    subst w3
    have e0 := Later.cell a0
    have e1 := Later.cell b1
    haveI : Nonempty (Later W2) := ⟨⟨W2, Below.refl _ _⟩⟩
    go_wp2_with fail
    refine region_class (fun w' => ∃ z : Later W2, w' = z.at) (by kernel_rfl) (by kernel_rfl) ⟨⟨_, (Below.refl _ _).drew⟩, rfl⟩ ?_
    repeat (go_big_quiet_step (fail))
    refine wpQuiet_nil ?_
    rintro w' ⟨z, rfl⟩
    go_wp2
    go_returns
    exact ⟨rfl, hB2.trans ((Later.below z).mono hB2.size)⟩
  · rw [hf] at hpm ⊢
    rw [List.length_map] at hi
    obtain ⟨x, hx⟩ : ∃ x, vars[i]? = some x := ⟨_, List.getElem?_eq_getElem hi⟩
    obtain ⟨b, o, hbase, hob, hc⟩ := hR2 i x hx
    obtain ⟨q0, q1, q2, q3, q4, q5, q6⟩ := hc
    rw [show PX.arrB (⟨vb, vc, vars, cb, cc, chans, nb, nc, locks, tb, tc, tasks⟩ : PX) (i : Int) = decide (0 < x.size) from by unfold PX.arrB; simp [hx]]
    rw [show decide ((0 : Int) ≤ (i : Int)) = true from by simp, Bool.true_and]
    have hib : i < 1048577 := by omega
    clear hx hR hR2 hS hS2
    subst hbase
    have e0 := Later.cell a0
    have e1 := Later.cell b1
    have e2 := Later.cell q0
    have e3 := Later.cell q1
    have e4 := Later.cell q2
    have e5 := Later.cell q3
    have e6 := Later.cell q4
    have e7 := Later.cell q5
    have e8 := Later.cell q6
    haveI : Nonempty (Later W2) := ⟨⟨W2, Below.refl _ _⟩⟩
    go_enter Tryz.func145, Tryz.ntmps145
    go_wp2_with fail
    go_at_call 139
    refine hpm.mono ?_
    rintro e w3 ⟨rfl, hw3⟩
    subst w3
    go_wp2_with fail
    refine region_class (fun w' => ∃ z : Later W2, w' = z.at) (by kernel_rfl) (by kernel_rfl) ⟨⟨_, (Below.refl _ _).drew⟩, rfl⟩ ?_
    repeat (go_big_quiet_step (first | (go_at_call 178; refine (isArrayT x _).mono ?_; rintro e w2 ⟨rfl, hb⟩; exact ⟨rfl, ⟨_, bstep (Subtype.property _) hb⟩, rfl⟩)))
    refine wpQuiet_nil ?_
    rintro w' ⟨z, rfl⟩
    have hBz := hB2.trans ((Later.below z).mono hB2.size)
    cases hA : decide (0 < x.size) <;> cases hK : decide (k = 2)
    all_goals
      have hA' := hA
      have hK' := hK
      simp only [decide_eq_true_eq, decide_eq_false_iff_not] at hA' hK'
      go_wp2
      all_goals first | (exfalso; simp_all; done) | skip
      all_goals
        go_returns
        exact ⟨ret_int (by simp), hBz⟩
end Go.Proofs.YtaajdoipjalgmaaGreatDoor
