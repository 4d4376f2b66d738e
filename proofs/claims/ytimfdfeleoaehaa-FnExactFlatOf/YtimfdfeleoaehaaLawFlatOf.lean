/-
  The code of statements, as the program answers it.
  At every list of statements the program's FlatOf answers as the specification's, writes into no argument, and its answer owns its memory, behind another call too, whatever memory the call starts in.
-/
import Derived.Test.YtimfdfeleoaehaaCodeH
import Derived.Test.YtimfdfeleoaehaaCodeJ
import Derived.Test.YtimfdfeleoaehaaCodeN
import Derived.Test.YtimfdfeleoaehaaCodeL
import Derived.Test.YtimfdfeleoaehaaInstH
import Derived.Test.YtimfdfeleoaehaaFlatD
import Derived.Test.YtimfdfeleoaehaaStmtE
import Derived.Test.YtimfdfeleoaehaaInstG
import Derived.Test.YtimfdfeleoaehaaRows
import Derived.ChangeMaps5
import Derived.OpenShut
import Derived.ChangeOld
import Derived.Lib.SmallJoins
namespace Go.Proofs.Ytimfdfeleoaehaa
open Go.RowKit Go.Shelf
set_option linter.unusedSimpArgs false
set_option linter.unusedVariables false
attribute [local go_sem] Oper.semAt_some

theorem OwnI.wide {W : World} {lo hi lo' hi' : Nat} {a : Option Addr} {ks : List IX} (h : OwnI W lo hi a ks) (h1 : lo' ≤ lo) (h2 : hi ≤ hi') : OwnI W lo' hi' a ks := by
  obtain ⟨g, N, l, h, row, cell, box, apart, ke, kf, ka, kb⟩ := h
  refine ⟨g, N, l, h, fun i k hk => ?_, cell, fun m hm => ?_, apart, ke, kf, ka, kb⟩
  · obtain ⟨r1, r2, r3, r4⟩ := row i k hk
    exact ⟨r1, by omega, by omega, r4⟩
  · obtain ⟨r1, r2, r3⟩ := box m hm
    exact ⟨by omega, by omega, r3⟩
theorem Cod.row {W : World} {bc : Nat} {v : Value} {xs : List IX} (h : Cod W bc v xs) : ∃ a c, v = .slice a xs.length c ∧ IX.Row (fun b => b < W.heap.size) W a xs := by
  rcases h.own.2 with ⟨rfl, h0⟩ | ⟨g, cap, cur, rfl, hb, hg, hnc, hcm, hcs, htk⟩
  · have : xs = [] := List.length_eq_zero_iff.1 h0
    subst this
    exact ⟨none, 0, rfl, fun i k hk => by simp at hk⟩
  · refine ⟨_, cap, rfl, fun i k hk => ⟨g, 0, rfl, (Array.getElem?_eq_some_iff.1 hg).1, ?_⟩⟩
    have hcell : ∀ (j : Nat) (u : Value), k.vals[j]? = some u → W.cell? ⟨g, 0 + i * 14 + j, none⟩ = some u := by
      intro j u hj
      have h1 := h.own.cells (g := g) rfl _ u (fl14_get hk hj)
      have hadd : (⟨g, 0, none⟩ : Addr).add (i * 14 + j) = ⟨g, 0 + i * 14 + j, none⟩ := by unfold Addr.add; split <;> simp_all
      rw [hadd] at h1
      exact h1
    exact ⟨hcell 0 _ rfl, hcell 1 _ rfl, hcell 2 _ rfl, hcell 3 _ rfl, hcell 4 _ rfl, hcell 5 _ rfl, hcell 6 _ rfl, hcell 7 _ rfl, hcell 8 _ rfl, hcell 9 _ rfl, hcell 10 _ rfl, hcell 11 _ rfl, hcell 12 _ rfl, hcell 13 _ rfl⟩
set_option maxRecDepth 10000 in
set_option maxHeartbeats 8000000 in
theorem implFlat (ks : List SX) (hsz : SX.sizeAll ks ≤ 2097152) (hm : ∀ (i : Nat) (k : SX), ks[i]? = some k → SmallS k) (a : Option Addr) (c : Nat) (ok : Nat → Prop) (w : World) (hok : ∀ b, ok b → b < w.heap.size ∧ Pl w b) (hR : SRow ok w a ks) (hL : ∀ (i : Nat) (k : SX), ks[i]? = some k → LiesS ok w k) :
    Calls Try.prog 9 #[.slice a ks.length c] w fun r w' => ∃ (a' : Option Addr) (c' : Nat) (us : List IX), r = .returned (.slice a' us.length c') ∧ SameI (flatL ks) us ∧ OwnI w' w.heap.size w'.heap.size a' us ∧ Below w.heap.size w w' := by
  have hlc := codeL_len ks 0
  have hfl : (flatL ks).length = (codeL ks 0).length + 1 := by rw [flatL, List.length_append]; rfl
  have hok' : ∀ b, ok b → b < w.heap.size := fun b hb => (hok b hb).1
  have hh := holdsO0 ks hsz a c ok w hok hR hL w (Below.refl _ _)
  have hcode : Hid (∀ W, Below w.heap.size w W → ∀ (bc : Nat), w.heap.size ≤ bc → Cod W bc (.slice none 0 0) [] → Calls Try.prog 26 #[Value.pointer (some ⟨bc, 0, none⟩), .slice a ks.length c] W fun r w' => ∃ q v', r = .returned q ∧ Cod w' bc v' (codeL ks 0) ∧ WrC bc W w' (.slice none 0 0) v') := fun W hW bc hbc hC => by
    have h9 := implCoder _ ks (Nat.le_refl _) a c ok W (hR.under hW hok') (fun i k hk => (hL i k hk).under hW hok') bc (.slice none 0 0) [] (fun b hb => ⟨Nat.lt_of_lt_of_le (hok' b hb) hW.size, by have := hok' b hb; omega, fun e => by simp [Value.ownBlock] at e⟩) hC (by simp; omega)
    exact h9
  have hall : Hid (∀ W, Below w.heap.size w W → ∀ (i : Nat) (x : IX), (flatL ks)[i]? = some x → SmallS x.s ∧ LiesS ok W x.s ∧ x.s.size = 1) := fun W hW i x hx => flatL_all hm ok W (fun i k hk => (hL i k hk).under hW hok') x (List.mem_of_getElem? hx)
  clear hR hL hm
  go_enter Try.func9, Try.ntmps9
  go_wp2_with fail
  go_at_call 24
  refine hh.mono ?_
  rintro e w1 ⟨rfl, hB1⟩
  clear hh
  have hz1 := hB1.size
  obtain ⟨W2, hW2⟩ : ∃ W2, w1.alloc (.cells #[.slice none 0 0] 60) = W2 := ⟨_, rfl⟩
  have s2 : w1.heap.size + 1 = W2.heap.size := by rw [← hW2]; simp
  have hB2 : Below w1.heap.size w1 W2 := by rw [← hW2]; exact (Below.refl _ w1).alloc (Nat.le_refl _) _
  have hbx : Boxed W2 w1.heap.size 60 (.slice none 0 0) := by rw [← hW2]; exact Boxed.new w1 _ _
  have hC0 : Cod W2 w1.heap.size (.slice none 0 0) [] := ⟨hbx, World.ownsRow_nil _ _ _ _⟩
  have hX2 : Below w.heap.size w W2 := bstep hB1 hB2
  have hc3 := hcode.out W2 hX2 w1.heap.size hz1 hC0
  clear hC0 hcode
  go_wp2_with fail
  go_at_call 26
  refine hc3.mono ?_
  rintro e w3 ⟨q3, v3, rfl, hC3, hw3⟩
  clear hc3
  have hc4 := writeEnd w1.heap.size w3 v3 (codeL ks 0) hC3 (by omega)
  have hbx3 := hC3.box.cell
  go_wp2_with fail
  go_at_call 27
  refine hc4.mono ?_
  rintro e w4 ⟨q4, v4, rfl, hC4, hw4⟩
  clear hc4 hbx3
  have hC4' : Cod w4 w1.heap.size v4 (flatL ks) := hC4
  obtain ⟨a4, c4, rfl, hrow4⟩ := hC4'.row
  have hw34 := hw3.trans hw4
  have hX4 : Below w.heap.size w w4 := hX2.trans (hw34.kept.below (by omega) (fun k hk => hk.elim (fun e => by omega) (fun e => by simp [Value.ownBlock] at e)))
  have hz4 := hX4.size
  have hb4 := hC4'.box.cell
  have hbH : Hid (Cod w4 w1.heap.size (.slice a4 (flatL ks).length c4) (flatL ks)) := hC4'
  have hc5 : Hid (Calls Try.prog 28 #[.slice a4 (flatL ks).length c4, .func (.func 29) #[] #[]] w4 fun e w' => e = .returned (.bool true) ∧ Below w4.heap.size w4 w') := endsAll (flatL ks) a4 c4 (fun b => b < w4.heap.size) ok w4 (fun b hb => hb) (fun b hb => ⟨Nat.lt_of_lt_of_le (hok' b hb) hX4.size, (hok b hb).2.below hX4 (hok' b hb)⟩) hrow4 (by omega) (hall.out w4 hX4)
  have hc6 : Hid (∀ W, Below w4.heap.size w4 W → Calls Try.prog 30 #[.slice a4 (flatL ks).length c4, .func (.func 31) #[] #[]] W fun e w' => ∃ (v : Value) (us : List IX) (l h : Nat → Nat), e = .returned v ∧ us.length = (flatL ks).length ∧ (∀ (i : Nat) (x y : IX), (flatL ks)[i]? = some x → us[i]? = some y → IX.Same x y) ∧ AccI w' W.heap.size v us l h ∧ Below W.heap.size W w') := fun W hW => by
    have hXW : Below w.heap.size w W := bstep hX4 hW
    exact eachI (flatL ks) a4 c4 (fun b => b < w4.heap.size) W (fun b hb => Nat.lt_of_lt_of_le hb hW.size) (hrow4.under hW (fun b hb => hb)) (by omega) (fun i k hk W' hW' => by
      have hXW' : Below w.heap.size w W' := bstep hXW hW'
      obtain ⟨q1, q2, q3⟩ := hall.out W' hXW' i k hk
      exact copyI k q1 ok W' (fun b hb => Nat.lt_of_lt_of_le (hok' b hb) hXW'.size) q2)
  obtain ⟨fs, hfs⟩ : ∃ fs, flatL ks = fs := ⟨_, rfl⟩
  have hfsH : Hid (flatL ks = fs) := hfs
  rw [hfs] at hc5 hc6 hb4 hbH hall hfl
  clear hfs
  clear hw3 hw4 hw34 hC3 hC4 hC4' hrow4 hW2 hbx
  obtain ⟨fn, hfn⟩ : ∃ fn, fs.length = fn := ⟨_, rfl⟩
  rw [hfn] at hb4 hc5 hc6 hbH hfl
  have hfb : fn ≤ 8388609 := by omega
  clear hfl hlc
  go_wp2_with fail
  go_at_call 28
  refine hc5.out.mono ?_
  rintro e w5 ⟨rfl, hB5⟩
  clear hc5
  have hb5 := below_cell hB5 hb4 hbH.out.box.lt
  clear hb4
  go_wp2_with fail
  go_at_call 30
  refine (hc6.out w5 hB5).mono ?_
  rintro e w6 ⟨v6, us, l, h, rfl, hul, hus, hA6, hB6⟩
  clear hc6
  obtain ⟨a6, c6, rfl, hO6⟩ := hA6.done
  go_wp2_with fail
  go_returns
  exact ⟨a6, c6, us, (by rw [hul]; rfl), hfsH.out ▸ (⟨by omega, hus⟩ : SameI fs us), hO6.wide (by have := hB5.size; omega) (Nat.le_refl _), bstep (bstep hX4 hB5) hB6⟩
end Go.Proofs.Ytimfdfeleoaehaa
namespace Go.Proofs.Ytimfdfeleoaehaa
open Go.ChangeShapes Go.WideShapes Go.ChangeAt Go.RowKit Go.Joins
set_option linter.unusedSimpArgs false
set_option linter.unusedVariables false

namespace FnExactFlatOf
open Go.Shelf
theorem totL {ks us : List SX} (h : SameL ks us) : SX.totAll us = SX.totAll ks := by
  induction ks generalizing us with
  | nil =>
    have : us = [] := List.length_eq_zero_iff.1 (by simpa using h.1)
    subst this
    rfl
  | cons x xs ih =>
    match us, h with
    | [], h => exact absurd h.1 (by simp)
    | y :: ys, h =>
      have h1 := SameS.tot _ x (Nat.le_refl _) y (h.2 0 x y rfl rfl)
      have h2 := ih (us := ys) ⟨by have := h.1; simpa using this, fun i a b ha hb => h.2 (i + 1) a b (by simpa using ha) (by simpa using hb)⟩
      simp only [SX.totAll, h1, h2]
theorem goodL {ks us : List SX} (hT : ks.length + SX.totAll ks ≤ 1048576) (h : SameL ks us) : SX.sizeAll us ≤ 1048576 ∧ us.length ≤ 1048576 ∧ (∀ (i : Nat) (k : SX), us[i]? = some k → SmallS k ∧ k.tot ≤ 1048576) := by
  have h1 := totL h
  have h2 := SX.sizeAll_tot us
  have h3 := h.1
  refine ⟨by omega, by omega, fun i k hk => ?_⟩
  have h4 := SX.tot_get hk
  exact ⟨SX.small _ k (Nat.le_refl _) (by omega), by omega⟩
theorem flat_tot {us : List SX} (hq : ∀ (i : Nat) (k : SX), us[i]? = some k → SmallS k ∧ k.tot ≤ 1048576) : ∀ x ∈ flatL us, x.s.tot ≤ 1048576 := by
  intro x hx
  rw [flatL, List.mem_append] at hx
  rcases hx with hx | hx
  · refine code_all (fun s => s.tot ≤ 1048576) (fun x => x.s.tot ≤ 1048576) (fun op d => (by show zS.tot ≤ 1048576; decide)) (fun s hs => ⟨fun op d => ?_, fun i k hk => ?_, fun i k hk => ?_⟩) _ us (Nat.le_refl _) (fun i k hk => (hq i k hk).2) 0 x hx
    · show (SX.mk s.kind s.name s.e s.f none 0 [] none 0 []).tot ≤ 1048576
      have hs2 := hs
      rw [SX.tot_eq] at hs2 ⊢
      simp only [SX.la, SX.lb, SX.name, SX.e, SX.f, SX.totAll, List.length_nil] at hs2 ⊢
      omega
    · have h1 := SX.tot_get hk
      have h2 := hs
      rw [SX.tot_eq] at h2
      omega
    · have h1 := SX.tot_get hk
      have h2 := hs
      rw [SX.tot_eq] at h2
      omega
  · simp only [List.mem_singleton] at hx
    subst hx
    show zS.tot ≤ 1048576
    decide
theorem goodF {us : List SX} {vs : List IX} (hz : SX.sizeAll us ≤ 1048576) (hq : ∀ (i : Nat) (k : SX), us[i]? = some k → SmallS k ∧ k.tot ≤ 1048576) (h : SameI (flatL us) vs) : vs.length ≤ 2097153 ∧ (∀ (i : Nat) (x : IX), vs[i]? = some x → SmallS x.s ∧ x.s.tot ≤ 1048576) := by
  have h1 := h.1
  have h2 := codeL_len us 0
  have h3 : (flatL us).length = (codeL us 0).length + 1 := by rw [flatL, List.length_append]; rfl
  refine ⟨by omega, fun i x hx => ?_⟩
  have hi := (List.getElem?_eq_some_iff.1 hx).1
  obtain ⟨y, hy⟩ : ∃ y, (flatL us)[i]? = some y := ⟨_, List.getElem?_eq_getElem (by omega)⟩
  have ht := flat_tot hq y (List.mem_of_getElem? hy)
  have h4 := SameS.tot _ y.s (Nat.le_refl _) x.s (h.2 i y x hy hx).s
  exact ⟨SX.small _ x.s (Nat.le_refl _) (by omega), by omega⟩
theorem cnt_bound (xs : List IX) (hq : ∀ (i : Nat) (x : IX), xs[i]? = some x → SmallS x.s ∧ x.s.tot ≤ 1048576) : cntI xs ≤ xs.length * 8388618 := by
  induction xs with
  | nil => simp [cntI, sumOf]
  | cons x xs ih =>
    have h1 := ih (fun i y hy => hq (i + 1) y (by simpa using hy))
    have h2 := hq 0 x rfl
    have h3 := SX.cnt_le _ x.s (Nat.le_refl _) h2.2
    have h4 : cntI (x :: xs) = (x.s.cnt + 2) + cntI xs := rfl
    rw [h4, List.length_cons]
    omega
theorem copied {ks : List SX} {a : Option Addr} {c : Nat} {w : World} (hT : ks.length + SX.totAll ks ≤ 1048576) (hR : SRow (fun b => b < w.heap.size) w a ks) (hL : ∀ (i : Nat) (k : SX), ks[i]? = some k → LiesS (fun b => b < w.heap.size) w k) (W : World) (hW : Below w.heap.size w W) :
    Calls Try.prog 8 #[.slice a ks.length c] W fun e w' => ∃ us : List SX, e = .returned (.slice (some ⟨W.heap.size, 0, none⟩) us.length us.length) ∧ SameL ks us ∧ OwnSR w' W.heap.size w'.heap.size (some ⟨W.heap.size, 0, none⟩) us ∧ Below W.heap.size W w' := by
  have hz := hW.size
  refine (toSSO ks a c (fun b => b < w.heap.size) W (fun b hb => by omega) (hR.under hW (fun b hb => hb)) (by omega) (fun i k hk w' hB => toS1O _ k (Nat.le_refl _) (SX.small _ k (Nat.le_refl _) (by have := SX.tot_get hk; omega)) (fun b => b < w.heap.size) w' (fun b hb => by have := hB.size; omega) (((hL i k hk).under hW (fun b hb => hb)).under hB (fun b hb => by omega)))).mono ?_
  rintro e w' ⟨us, rfl, h1, h2, h3, h4⟩
  exact ⟨us, by rw [h1], ⟨h1, h2⟩, h3, h4⟩
theorem implied {us : List SX} {a : Option Addr} {c lo hi : Nat} {w : World} (hz : SX.sizeAll us ≤ 1048576) (hq : ∀ (i : Nat) (k : SX), us[i]? = some k → SmallS k ∧ k.tot ≤ 1048576) (hO : OwnSR w lo hi a us) (hhi : hi ≤ w.heap.size) :
    Calls Try.prog 9 #[.slice a us.length c] w fun e w' => ∃ (a' : Option Addr) (c' : Nat) (vs : List IX), e = .returned (.slice a' vs.length c') ∧ SameI (flatL us) vs ∧ OwnI w' w.heap.size w'.heap.size a' vs ∧ Below w.heap.size w w' := by
  obtain ⟨p1, p2⟩ := hO.plain
  exact implFlat us (by omega) (fun i k hk => (hq i k hk).1) a c _ w (fun b hb => ⟨by omega, hb.2⟩) p1 p2
theorem specced {us : List SX} {a : Option Addr} {c lo hi : Nat} {w : World} (hz : SX.sizeAll us ≤ 1048576) (hq : ∀ (i : Nat) (k : SX), us[i]? = some k → SmallS k ∧ k.tot ≤ 1048576) (hO : OwnSR w lo hi a us) (hhi : hi ≤ w.heap.size) :
    Calls Try.prog 7 #[.slice a us.length c] w fun e w' => ∃ (a' : Option Addr) (c' : Nat) (vs : List IX), e = .returned (.slice a' vs.length c') ∧ SameI (flatL us) vs ∧ OwnI w' w.heap.size w'.heap.size a' vs ∧ Below w.heap.size w w' := by
  obtain ⟨p1, p2⟩ := hO.lies
  refine (specFlat us (by omega) (fun i k hk => (hq i k hk).1) a c _ w (fun b hb => by omega) p1 p2).mono ?_
  rintro e w' ⟨v, rfl, ⟨vs, l, h, -, h2, h3⟩, h4⟩
  obtain ⟨a', c', rfl, hO'⟩ := h3.done
  exact ⟨a', c', vs, rfl, h2, hO', h4⟩
theorem equalF {xs ys : List IX} {a a' : Option Addr} {c c' lo hi lo' hi' : Nat} {w : World} (hO : OwnI w lo hi a xs) (hO' : OwnI w lo' hi' a' ys) (hhi : hi ≤ w.heap.size) (hhi' : hi' ≤ w.heap.size) (hlen : xs.length ≤ 2097153) (hq : ∀ (i : Nat) (x : IX), xs[i]? = some x → SmallS x.s ∧ x.s.tot ≤ 1048576) (hS : SameI xs ys) :
    Calls Try.prog 10 #[.slice a xs.length c, .slice a' ys.length c'] w fun e w' => e = .returned (.bool true) ∧ Below w.heap.size w w' := by
  obtain ⟨p1, p2⟩ := hO.lies
  obtain ⟨q1, q2⟩ := hO'.lies
  exact IX.eqs xs ys a a' c c' (fun b => b < w.heap.size) w (fun b hb => hb) (p1.mono (fun b hb h => ⟨h, rfl⟩)) (q1.mono (fun b hb h => ⟨h, rfl⟩)) (by omega) hS.1 (fun i k hk => ⟨(hq i k hk).1, (p2 i k hk).mono (fun b hb h => ⟨h, rfl⟩)⟩) (fun i k hk => (q2 i k hk).mono (fun b hb h => ⟨h, rfl⟩)) hS.2
theorem markedF {xs : List IX} {a : Option Addr} {c lo hi : Nat} {w : World} (hO : OwnI w lo hi a xs) (hhi : hi ≤ w.heap.size) (hlen : xs.length ≤ 2097153) (hq : ∀ (i : Nat) (x : IX), xs[i]? = some x → SmallS x.s ∧ x.s.tot ≤ 1048576) (m : Nat) (hm : 1 + cntI xs = m) :
    Calls Try.prog 13 #[.slice a xs.length c, .int .i64 1] w fun e w' => e = .returned (.int .i64 (m : Int)) ∧ OwnI w' lo hi a (IX.markL xs 1) ∧ Kept (fun b => lo ≤ b ∧ b < hi) w w' := by
  have h1 := cnt_bound xs hq
  have h := markI xs lo hi a c 1 w hO hhi (by omega)
  rw [hm] at h
  exact h
theorem heldF {xs : List IX} {a : Option Addr} {c lo hi : Nat} {w : World} (hO : OwnI w lo hi a (IX.markL xs 1)) (hhi : hi ≤ w.heap.size) (hlen : xs.length ≤ 2097153) (hq : ∀ (i : Nat) (x : IX), xs[i]? = some x → SmallS x.s ∧ x.s.tot ≤ 1048576) (m : Nat) (hm : 1 + cntI xs = m) :
    Calls Try.prog 14 #[.slice a xs.length c, .int .i64 1] w fun e w' => e = .returned (.int .i64 (m : Int)) ∧ Below w.heap.size w w' := by
  have h1 := cnt_bound xs hq
  obtain ⟨p1, p2⟩ := hO.lies
  have h := heldI xs a c 1 (fun b => lo ≤ b ∧ b < hi) w (fun b hb => by omega) p1 p2 (by omega)
  rw [hm] at h
  exact h
theorem equal {xs ys : List SX} {a a' : Option Addr} {c c' lo hi lo' hi' : Nat} {w : World} (hO : OwnSR w lo hi a xs) (hO' : OwnSR w lo' hi' a' ys) (hhi : hi ≤ w.heap.size) (hhi' : hi' ≤ w.heap.size) (hlen : xs.length ≤ 1048576) (hq : ∀ (i : Nat) (k : SX), xs[i]? = some k → SmallS k ∧ k.tot ≤ 1048576) (hS : SameL xs ys) :
    Calls Try.prog 11 #[.slice a xs.length c, .slice a' ys.length c'] w fun e w' => e = .returned (.bool true) ∧ Below w.heap.size w w' := by
  obtain ⟨p1, p2⟩ := hO.lies
  obtain ⟨q1, q2⟩ := hO'.lies
  exact eqLists xs ys a a' c c' (fun b => b < w.heap.size) w (fun b hb => hb) (p1.mono (fun b hb h => ⟨h, rfl⟩)) (fun i k hk => (p2 i k hk).mono (fun b hb h => ⟨h, rfl⟩)) (q1.mono (fun b hb h => ⟨h, rfl⟩)) (fun i k hk => (q2 i k hk).mono (fun b hb h => ⟨h, rfl⟩)) (by omega) hS (fun i k hk => (hq i k hk).1)
theorem marked {xs : List SX} {a : Option Addr} {c lo hi : Nat} {w : World} (hO : OwnSR w lo hi a xs) (hhi : hi ≤ w.heap.size) (hlen : xs.length ≤ 1048576) (hq : ∀ (i : Nat) (k : SX), xs[i]? = some k → SmallS k ∧ k.tot ≤ 1048576) (m : Nat) (hm : 1 + SX.cntL xs = m) :
    Calls Try.prog 12 #[.slice a xs.length c, .int .i64 1] w fun e w' => e = .returned (.int .i64 (m : Int)) ∧ OwnSR w' lo hi a (SX.markL xs 1) ∧ Kept (fun b => lo ≤ b ∧ b < hi) w w' := by
  have h1 := SX.cntL_bound xs (fun i k hk => (hq i k hk).2)
  have h := markS _ xs (Nat.le_refl _) lo hi a c 1 w hO hhi (by omega)
  rw [hm] at h
  exact h
set_option maxRecDepth 10000 in
set_option maxHeartbeats 4000000 in
theorem walk (a : Option Addr) (c : Nat) (ks : List SX) (w : World) (hlen : ks.length ≤ maxLen) (hR : SRow (fun b => b < w.heap.size) w a ks) (hL : ∀ (i : Nat) (k : SX), ks[i]? = some k → WideS k ∧ LiesS (fun b => b < w.heap.size) w k) :
    Calls Try.prog 3 #[.slice a ks.length c] w fun e w' => e = .returned (.bool true) ∧ Below w.heap.size w w' := by
  have hsz := szSS ks a c (fun b => b < w.heap.size) w (fun b hb => hb) hR hlen (fun i k hk left w' h0 h1 hB => szS1 _ k (Nat.le_refl _) (hL i k hk).1 (fun b => b < w.heap.size) w' (fun b hb => by have := hB.size; omega) ((hL i k hk).2.under hB (fun b hb => hb)) left h0 h1) 1048576 (by omega) (by omega)
  have hL2 : ∀ (i : Nat) (k : SX), ks[i]? = some k → LiesS (fun b => b < w.heap.size) w k := fun i k hk => (hL i k hk).2
  have hsame : SameL ks ks := ⟨rfl, fun i x y hx hy => by rw [hx] at hy; cases hy; exact SameS.refl _ x (Nat.le_refl _)⟩
  go_enter Try.func3, Try.ntmps3
  go_wp2_with fail
  go_at_call 6
  refine hsz.mono ?_
  clear hsz
  rintro e w1 ⟨rfl, hb1⟩
  by_cases hT : ks.length + SX.totAll ks ≤ 1048576
  · rw [subI_yes (by omega)]
    have hto := copied (c := c) hT hR hL2
    have hO1 : Below w.heap.size w w1 := hb1
    clear hL hL2 hR
    go_wp2_with fail
    all_goals first | (exfalso; omega) | skip
    have hz1 := hb1.size
    go_at_call 8
    refine (hto _ hO1).mono ?_
    rintro e w2 ⟨us, rfl, hSu, hWu, hb2⟩
    have hz2 := hb2.size
    have hO2 : Below w.heap.size w w2 := hO1.trans (hb2.mono hO1.size)
    obtain ⟨zu, lu, qu⟩ := goodL hT hSu
    go_wp2_with fail
    go_at_call 7
    refine (specced zu qu hWu (Nat.le_refl _)).mono ?_
    rintro e w3 ⟨av, cv, vs, rfl, hSv, hWv, hb3⟩
    have hz3 := hb3.size
    have hO3 : Below w.heap.size w w3 := hO2.trans (hb3.mono hO2.size)
    replace hWu := hWu.mono (fun b q1 q2 => hb3.block b (by omega))
    go_wp2_with fail
    go_at_call 8
    refine (hto _ hO3).mono ?_
    rintro e w4 ⟨xs, rfl, hSx, hWx, hb4⟩
    have hz4 := hb4.size
    have hO4 : Below w.heap.size w w4 := hO3.trans (hb4.mono hO3.size)
    replace hWu := hWu.mono (fun b q1 q2 => hb4.block b (by omega))
    replace hWv := hWv.mono (fun b q1 q2 => hb4.block b (by omega))
    obtain ⟨zx, lx, qx⟩ := goodL hT hSx
    go_wp2_with fail
    go_at_call 9
    refine (implied zx qx hWx (Nat.le_refl _)).mono ?_
    rintro e w5 ⟨ag, cg, gs, rfl, hSg, hWg, hb5⟩
    have hz5 := hb5.size
    have hO5 : Below w.heap.size w w5 := hO4.trans (hb5.mono hO4.size)
    replace hWu := hWu.mono (fun b q1 q2 => hb5.block b (by omega))
    replace hWv := hWv.mono (fun b q1 q2 => hb5.block b (by omega))
    replace hWx := hWx.mono (fun b q1 q2 => hb5.block b (by omega))
    obtain ⟨lg, qg⟩ := goodF zx qx hSg
    have hgv : SameI gs vs := hSg.symm.trans ((flatL_same (hSx.symm.trans hSu)).trans hSv)
    go_wp2_with fail
    go_at_call 10
    refine (equalF hWg hWv (by omega) (by omega) lg qg hgv).mono ?_
    rintro e w6 ⟨rfl, hb6⟩
    have hz6 := hb6.size
    have hO6 : Below w.heap.size w w6 := hO5.trans (hb6.mono hO5.size)
    replace hWu := hWu.mono (fun b q1 q2 => hb6.block b (by omega))
    replace hWv := hWv.mono (fun b q1 q2 => hb6.block b (by omega))
    replace hWx := hWx.mono (fun b q1 q2 => hb6.block b (by omega))
    replace hWg := hWg.mono (fun b q1 q2 => hb6.block b (by omega))
    go_wp2_with fail
    go_at_call 8
    refine (hto _ hO6).mono ?_
    rintro e w7 ⟨ys, rfl, hSy, hWy, hb7⟩
    have hz7 := hb7.size
    have hO7 : Below w.heap.size w w7 := hO6.trans (hb7.mono hO6.size)
    replace hWu := hWu.mono (fun b q1 q2 => hb7.block b (by omega))
    replace hWv := hWv.mono (fun b q1 q2 => hb7.block b (by omega))
    replace hWx := hWx.mono (fun b q1 q2 => hb7.block b (by omega))
    replace hWg := hWg.mono (fun b q1 q2 => hb7.block b (by omega))
    go_wp2_with fail
    go_at_call 11
    refine (equal hWx hWy (by omega) (by omega) lx qx (hSx.symm.trans hSy)).mono ?_
    rintro e w8 ⟨rfl, hb8⟩
    have hz8 := hb8.size
    have hO8 : Below w.heap.size w w8 := hO7.trans (hb8.mono hO7.size)
    replace hWu := hWu.mono (fun b q1 q2 => hb8.block b (by omega))
    replace hWv := hWv.mono (fun b q1 q2 => hb8.block b (by omega))
    replace hWx := hWx.mono (fun b q1 q2 => hb8.block b (by omega))
    replace hWg := hWg.mono (fun b q1 q2 => hb8.block b (by omega))
    replace hWy := hWy.mono (fun b q1 q2 => hb8.block b (by omega))
    obtain ⟨m1, hm1⟩ : ∃ m, 1 + SX.cntL xs = m := ⟨_, rfl⟩
    obtain ⟨m2, hm2⟩ : ∃ m, 1 + cntI gs = m := ⟨_, rfl⟩
    have hmark1 := marked (c := xs.length) hWx (by omega) lx qx m1 hm1
    clear hm1
    go_wp2_with fail
    go_at_call 12
    refine (hmark1).mono ?_
    rintro e w9 ⟨rfl, hWx, hk9⟩
    have hz9 := hk9.size
    have hO9 : Below w.heap.size w w9 := hO8.trans (hk9.below hO8.size (fun b hb => by omega))
    replace hWu := hWu.mono (fun b q1 q2 => hk9.block b (by omega) (by omega))
    replace hWv := hWv.mono (fun b q1 q2 => hk9.block b (by omega) (by omega))
    replace hWg := hWg.mono (fun b q1 q2 => hk9.block b (by omega) (by omega))
    replace hWy := hWy.mono (fun b q1 q2 => hk9.block b (by omega) (by omega))
    go_wp2_with fail
    all_goals first | (exfalso; omega) | skip
    go_at_call 10
    refine (equalF hWg hWv (by omega) (by omega) lg qg hgv).mono ?_
    rintro e w10 ⟨rfl, hb10⟩
    have hz10 := hb10.size
    have hO10 : Below w.heap.size w w10 := hO9.trans (hb10.mono hO9.size)
    replace hWu := hWu.mono (fun b q1 q2 => hb10.block b (by omega))
    replace hWv := hWv.mono (fun b q1 q2 => hb10.block b (by omega))
    replace hWx := hWx.mono (fun b q1 q2 => hb10.block b (by omega))
    replace hWg := hWg.mono (fun b q1 q2 => hb10.block b (by omega))
    replace hWy := hWy.mono (fun b q1 q2 => hb10.block b (by omega))
    have hmark2 := markedF (c := cg) hWg (by omega) lg qg m2 hm2
    go_wp2_with fail
    go_at_call 13
    refine (hmark2).mono ?_
    rintro e w11 ⟨rfl, hWg, hk11⟩
    have hz11 := hk11.size
    have hO11 : Below w.heap.size w w11 := hO10.trans (hk11.below hO10.size (fun b hb => by omega))
    replace hWu := hWu.mono (fun b q1 q2 => hk11.block b (by omega) (by omega))
    replace hWv := hWv.mono (fun b q1 q2 => hk11.block b (by omega) (by omega))
    replace hWx := hWx.mono (fun b q1 q2 => hk11.block b (by omega) (by omega))
    replace hWy := hWy.mono (fun b q1 q2 => hk11.block b (by omega) (by omega))
    have hheld1 := heldF (c := cg) hWg (by omega) lg qg m2 hm2
    go_wp2_with fail
    go_at_call 14
    refine (hheld1).mono ?_
    rintro e w12 ⟨rfl, hb12⟩
    have hz12 := hb12.size
    have hO12 : Below w.heap.size w w12 := hO11.trans (hb12.mono hO11.size)
    replace hWu := hWu.mono (fun b q1 q2 => hb12.block b (by omega))
    replace hWv := hWv.mono (fun b q1 q2 => hb12.block b (by omega))
    replace hWx := hWx.mono (fun b q1 q2 => hb12.block b (by omega))
    replace hWg := hWg.mono (fun b q1 q2 => hb12.block b (by omega))
    replace hWy := hWy.mono (fun b q1 q2 => hb12.block b (by omega))
    go_wp2_with fail
    all_goals first | (exfalso; omega) | skip
    go_at_call 8
    refine (hto _ hO12).mono ?_
    rintro e w13 ⟨ts, rfl, hSt, hWt, hb13⟩
    have hz13 := hb13.size
    have hO13 : Below w.heap.size w w13 := hO12.trans (hb13.mono hO12.size)
    replace hWu := hWu.mono (fun b q1 q2 => hb13.block b (by omega))
    replace hWv := hWv.mono (fun b q1 q2 => hb13.block b (by omega))
    replace hWx := hWx.mono (fun b q1 q2 => hb13.block b (by omega))
    replace hWg := hWg.mono (fun b q1 q2 => hb13.block b (by omega))
    replace hWy := hWy.mono (fun b q1 q2 => hb13.block b (by omega))
    obtain ⟨zt, lt, qt⟩ := goodL hT hSt
    go_wp2_with fail
    go_at_call 9
    refine (implied zt qt hWt (Nat.le_refl _)).mono ?_
    rintro e w14 ⟨ah, ch, hs, rfl, hSh, hWh, hb14⟩
    have hz14 := hb14.size
    have hO14 : Below w.heap.size w w14 := hO13.trans (hb14.mono hO13.size)
    replace hWu := hWu.mono (fun b q1 q2 => hb14.block b (by omega))
    replace hWv := hWv.mono (fun b q1 q2 => hb14.block b (by omega))
    replace hWx := hWx.mono (fun b q1 q2 => hb14.block b (by omega))
    replace hWg := hWg.mono (fun b q1 q2 => hb14.block b (by omega))
    replace hWy := hWy.mono (fun b q1 q2 => hb14.block b (by omega))
    replace hWt := hWt.mono (fun b q1 q2 => hb14.block b (by omega))
    obtain ⟨lh, qh⟩ := goodF zt qt hSh
    have hhv : SameI hs vs := hSh.symm.trans ((flatL_same (hSt.symm.trans hSu)).trans hSv)
    go_wp2_with fail
    go_at_call 10
    refine (equalF hWh hWv (by omega) (by omega) lh qh hhv).mono ?_
    rintro e w15 ⟨rfl, hb15⟩
    have hz15 := hb15.size
    have hO15 : Below w.heap.size w w15 := hO14.trans (hb15.mono hO14.size)
    replace hWu := hWu.mono (fun b q1 q2 => hb15.block b (by omega))
    replace hWv := hWv.mono (fun b q1 q2 => hb15.block b (by omega))
    replace hWx := hWx.mono (fun b q1 q2 => hb15.block b (by omega))
    replace hWg := hWg.mono (fun b q1 q2 => hb15.block b (by omega))
    replace hWy := hWy.mono (fun b q1 q2 => hb15.block b (by omega))
    replace hWt := hWt.mono (fun b q1 q2 => hb15.block b (by omega))
    replace hWh := hWh.mono (fun b q1 q2 => hb15.block b (by omega))
    have hheld2 := heldF (c := cg) hWg (by omega) lg qg m2 hm2
    go_wp2_with fail
    go_at_call 14
    refine (hheld2).mono ?_
    rintro e w16 ⟨rfl, hb16⟩
    have hz16 := hb16.size
    have hO16 : Below w.heap.size w w16 := hO15.trans (hb16.mono hO15.size)
    replace hWu := hWu.mono (fun b q1 q2 => hb16.block b (by omega))
    replace hWv := hWv.mono (fun b q1 q2 => hb16.block b (by omega))
    replace hWx := hWx.mono (fun b q1 q2 => hb16.block b (by omega))
    replace hWg := hWg.mono (fun b q1 q2 => hb16.block b (by omega))
    replace hWy := hWy.mono (fun b q1 q2 => hb16.block b (by omega))
    replace hWt := hWt.mono (fun b q1 q2 => hb16.block b (by omega))
    replace hWh := hWh.mono (fun b q1 q2 => hb16.block b (by omega))
    go_wp2_with fail
    all_goals first | (exfalso; omega) | skip
    go_returns
    exact ⟨rfl, hO16⟩
  · rw [subI_no (by omega)]
    go_wp2
    go_returns
    exact ⟨rfl, hb1⟩
theorem own : ownKnob Try.prog.godebug = none := by kernel_rfl
theorem laidOut : laidOutB Try.prog = true := by kernel_rfl
set_option maxRecDepth 100000 in
theorem lifted (os : Os) (started : os.Started) (H : Type) (enc : TypeId × Value → H) :
    ReturnsInHanded {} Try.checked os 3 .any (Rows.fnExactFlatOfSpec.pre6 enc Try.prog Try.f3 Rows.fnExactFlatOfRow.domain false) (Rows.fnExactFlatOfSpec.post enc Try.prog Try.f3 false true false false) := by
  refine returnsInHanded_of_change (C := Try.checked) own started (by kernel_rfl) Try.func3
    (ChangeSpec.witness6 (enc := enc) (C := Try.checked) false ⟨#[], #[.slice none 0 0], []⟩ 8 (by kernel_rfl) (by kernel_rfl) (by kernel_rfl) (by kernel_rfl)) ?_
  intro W base args ds gs before hval0 hW hcnd _
  have hval : ∀ (j : Nat) t v, Try.f3.params[j]? = some t → args[j]? = some v → Value.okWide Try.prog W .any base t v := hval0
  have hW' := hW
  obtain ⟨p, q, hA0, hV, rfl, hfz, hnd⟩ := hW
  have hA : DataW.TrodAll enc Try.prog W 0 (fun _ => true) true Try.f3.params.toList args.toList ds p := hA0
  rw [Try.params3] at hA hval
  obtain ⟨v0, vs0, d0, ds0, p0, q0, hargs, rfl, rfl, h0, r0⟩ := trodAll_cons hA
  obtain ⟨rfl, rfl, rfl⟩ := trodAll_nil r0
  obtain rfl : args = #[v0] := by cases args; simp_all
  obtain ⟨rfl, rfl⟩ := trodVars_none hV
  have k0 := h0
  have lt0 : ∀ x ∈ p0, x.block < W.heap.size := by obtain ⟨m, hm⟩ := k0; exact DataW.trod_lt m _ _ _ hm
  obtain ⟨b0, len0, bap0, rfl⟩ := okWide_slice Try.underlying22 (hval 0 22 v0 rfl rfl)
  obtain ⟨a0, cap0, ks0, e0, wl0, wr0, wk0⟩ : ∃ (a : Option Addr) (cap : Nat) (ks : List SX), Value.slice b0 len0 bap0 = .slice a ks.length cap ∧ ks.length ≤ maxLen ∧ SRow (fun b => b < W.heap.size) W a ks ∧ ∀ (i : Nat) (k : SX), ks[i]? = some k → WideS k ∧ LiesS (fun b => b < W.heap.size) W k := by
    obtain ⟨m, hm⟩ := h0
    exact readSS m (fun m' _ cs x hx => readS m' cs x hx) _ _ hm
  cases e0
  clear hA0 hval0
  refine (walk b0 bap0 ks0 W wl0 wr0 wk0).mono fun e W' ⟨he, bel⟩ => ?_
  subst he
  exact ⟨_, rfl, _, _, _, [], _, [], hW', trodAll_mk1 (shut_bool Try.underlying4 _), (trodAll_cons_mk (Below.trod laidOut (by kernel_rfl) (of_decide_eq_true (by kernel_rfl)) k0 bel lt0) trodAll_mk0), rfl, bel.frame _, fun h => by cases h⟩
theorem over : Rows.fnExactFlatOfRow.holds Try.pinned (OpenSpec.ofChange Rows.fnExactFlatOfSpec) :=
  OpenClaim.holds_of_wide 3 Try.f3 rfl rfl rfl rfl rfl rfl rfl ⟨rfl, rfl, rfl, rfl, rfl⟩ rfl rfl rfl rfl rfl (by kernel_rfl) Try.func3 (by kernel_rfl)
    (of_decide_eq_true (by kernel_rfl)) (by unfold Func.isWrapper; first | (rw [if_pos (by decide +kernel)]; kernel_rfl) | (rw [if_neg (by decide +kernel)]; exact ⟨rfl, rfl⟩))
    (fun os started H enc _ => lifted os started H enc)
end FnExactFlatOf
theorem flatOf_holds : Rows.FnExactFlatOfSaid := FnExactFlatOf.over
#print axioms flatOf_holds
end Go.Proofs.Ytimfdfeleoaehaa
