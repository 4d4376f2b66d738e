/-
  What is wrong with the names of a program first, as the program tells it.
-/
import Derived.Test.YtcbfgidkjhfgmaaGreatDoorUsesH
import Derived.Test.YtcbfgidkjhfgmaaGreatDoorUsesB
import Derived.Test.YtcbfgidkjhfgmaaGreatDoorOkK
import Derived.Test.YtcbfgidkjhfgmaaGreatDoorOkQ
namespace Go.Proofs.YtcbfgidkjhfgmaaGreatDoor
open Go.RowKit Go.Shelf Go.Maps
set_option linter.unusedSimpArgs false
set_option linter.unusedVariables false
attribute [local go_sem] Oper.semAt_some

def badU (p : PX) (task : Int) : List UX → Int
  | [] => 0
  | u :: r => if p.wrongI task u = 0 then badU p task r else p.wrongI task u
def badT (p : PX) (i : Nat) : List LX → Int
  | [] => 0
  | t :: r => if badU p i (usesL (SX.withinAll t.l 0)) = 0 then badT p (i + 1) r else badU p i (usesL (SX.withinAll t.l 0))
def PX.namesI (p : PX) : Int :=
  if p.okI = false then 1 else if onceB p.allN = false then 2 else if locksB p.vars p.locks = false then 3 else badT p 0 p.tasks
theorem badU_hit {p : PX} {task : Int} {us pre : List UX} {u : UX} (h : pre ++ [u] <+: us) (hg : ∀ y ∈ pre, p.wrongI task y = 0) (hb : ¬ p.wrongI task u = 0) : badU p task us = p.wrongI task u := by
  obtain ⟨r, rfl⟩ := h
  induction pre with
  | nil => simp [badU, hb]
  | cons y q ih =>
    simp only [List.cons_append, badU]
    rw [if_pos (hg y (by simp))]
    exact ih (fun z hz => hg z (by simp [hz]))
theorem badU_none {p : PX} {task : Int} {us : List UX} (hg : ∀ y ∈ us, p.wrongI task y = 0) : badU p task us = 0 := by
  induction us with
  | nil => rfl
  | cons y q ih =>
    simp only [badU]
    rw [if_pos (hg y (by simp))]
    exact ih (fun z hz => hg z (by simp [hz]))
theorem badT_hit {p : PX} : ∀ (ts : List LX) (k i : Nat) (t : LX), ts[i]? = some t → (∀ (j : Nat) (y : LX), j < i → ts[j]? = some y → badU p ((k + j : Nat) : Int) (usesL (SX.withinAll y.l 0)) = 0) → ¬ badU p ((k + i : Nat) : Int) (usesL (SX.withinAll t.l 0)) = 0 → badT p k ts = badU p ((k + i : Nat) : Int) (usesL (SX.withinAll t.l 0))
  | [], k, i, t, h, _, _ => by simp at h
  | y :: r, k, 0, t, h, _, hb => by
    simp at h
    subst h
    simp only [badT]
    rw [if_neg (by simpa using hb)]
    simp
  | y :: r, k, i + 1, t, h, hg, hb => by
    simp only [List.getElem?_cons_succ] at h
    simp only [badT]
    rw [if_pos (by simpa using hg 0 y (by omega) rfl)]
    have h1 := badT_hit r (k + 1) i t h (fun j z hj hz => by have := hg (j + 1) z (by omega) (by simpa using hz); rw [show k + 1 + j = k + (j + 1) from by omega]; exact this) (by rw [show k + 1 + i = k + (i + 1) from by omega]; exact hb)
    rw [h1, show k + 1 + i = k + (i + 1) from by omega]
theorem badT_none {p : PX} : ∀ (ts : List LX) (k : Nat), (∀ (j : Nat) (y : LX), ts[j]? = some y → badU p ((k + j : Nat) : Int) (usesL (SX.withinAll y.l 0)) = 0) → badT p k ts = 0
  | [], _, _ => rfl
  | y :: r, k, hg => by
    simp only [badT]
    rw [if_pos (by simpa using hg 0 y rfl)]
    exact badT_none r (k + 1) (fun j z hz => by have := hg (j + 1) z (by simpa using hz); rw [show k + 1 + j = k + (j + 1) from by omega]; exact this)
theorem XT.parts_good (sz : Nat) : ∀ (t : XT), t.size ≤ sz → Good t → ∀ (d : Int), ∀ x ∈ t.parts d, Good x.2 := by
  induction sz with
  | zero => intro t h; rw [XT.size_eq] at h; omega
  | succ sz ih =>
    intro t hsz hG d x hx
    rw [XT.parts_eq] at hx
    rcases List.mem_cons.1 hx with rfl | hx
    · exact hG
    · have hk : ∀ (ks : List XT) (d : Int), (∀ k ∈ ks, k.size ≤ sz ∧ Good k) → ∀ x ∈ XT.partsAll ks d, Good x.2 := by
        intro ks
        induction ks with
        | nil => intro d _ x hx; simp [XT.partsAll] at hx
        | cons k r ihk =>
          intro d hks x hx
          rw [XT.partsAll, List.mem_append] at hx
          rcases hx with hx | hx
          · exact ih k (hks k (by simp)).1 (hks k (by simp)).2 d x hx
          · exact ihk d (fun y hy => hks y (by simp [hy])) x hx
      refine hk t.kids _ (fun k hkm => ?_) x hx
      obtain ⟨i, hi⟩ := List.getElem?_of_mem hkm
      have h1 := XT.size_get hi
      have h2 := t.size_eq
      exact ⟨by omega, hG.kid i k hi⟩
theorem useE_name {t : XT} (h : Good t) : (useE t).name.size ≤ 1048576 := by
  unfold useE
  dsimp only
  split
  · exact Nat.zero_le _
  · exact h.name
theorem useName {s : SX} (h : SmallS s) : (useS s).name.size ≤ 1048576 ∧ ∀ u ∈ usesE s.e ++ usesE s.f, u.name.size ≤ 1048576 := by
  obtain ⟨h1, h2, h3, -⟩ := h.parts
  refine ⟨?_, ?_⟩
  · unfold useS
    dsimp only
    split
    · exact Nat.zero_le _
    · exact h1
  · intro u hu
    rcases List.mem_append.1 hu with hu | hu
    · obtain ⟨x, hx, rfl⟩ := List.mem_map.1 hu
      exact useE_name (XT.parts_good _ s.e (Nat.le_refl _) h2.2 1 x hx)
    · obtain ⟨x, hx, rfl⟩ := List.mem_map.1 hu
      exact useE_name (XT.parts_good _ s.f (Nat.le_refl _) h3.2 1 x hx)
theorem usesOfT (a : Option Addr) (len c : Nat) (w : World) :
    Calls Tryz.prog 47 #[.slice a len c] w fun e w' => e = .returned (.func (.func 80) #[] #[.pointer (some ⟨w.heap.size, 0, none⟩)]) ∧ w' = w.alloc (.cells #[.slice a len c] 71) := by
  go_enter Tryz.func47, Tryz.ntmps47
  go_wp2
  go_returns
  exact ⟨rfl, rfl⟩
theorem errNil (w : World) : (binOp BinOp.neq 55 .nilIface .nilIface).run Tryz.prog w = .ok (.bool false) w := by kernel_rfl
theorem errName (c : Int) (x : ByteArray) (w : World) : (binOp BinOp.neq 55 (nameV c x) .nilIface).run Tryz.prog w = .ok (.bool true) w := by kernel_rfl
set_option maxRecDepth 100000 in
set_option maxHeartbeats 8000000 in
theorem wrongInT (p : PX) (hm : p.Small) (hN : p.Names) (hT : ∀ (i : Nat) (t : LX), p.tasks[i]? = some t → SX.sizeAll t.l ≤ 1048577) (ok : Nat → Prop) (w : World) (hok : ∀ b, ok b → b < w.heap.size) (hL : PX.Lies ok w p) :
    Calls Tryz.prog 22 #[p.val] w fun e w' => (∃ x, e = .returned (errV p.namesI x)) ∧ Below w.heap.size w w' := by
  obtain ⟨W1, hW1⟩ : ∃ W1, w.alloc (.cells #[.slice p.vbase p.vars.length p.vcap, .slice p.cbase p.chans.length p.ccap, .slice p.nbase p.locks.length p.ncap, .slice p.tbase p.tasks.length p.tcap] 34) = W1 := ⟨_, rfl⟩
  obtain ⟨W2, hW2⟩ : ∃ W2, W1.alloc (.cells #[.nilIface] 55) = W2 := ⟨_, rfl⟩
  have hs1 : w.heap.size + 1 = W1.heap.size := by rw [← hW1]; simp
  have hs2 : W1.heap.size + 1 = W2.heap.size := by rw [← hW2]; simp
  have hB2 : Below w.heap.size w W2 := by rw [← hW2, ← hW1]; exact ((Below.refl _ w).alloc (Nat.le_refl _) _).alloc (by simp) _
  have pa : W2.heap[w.heap.size]? = some (.cells #[.slice p.vbase p.vars.length p.vcap, .slice p.cbase p.chans.length p.ccap, .slice p.nbase p.locks.length p.ncap, .slice p.tbase p.tasks.length p.tcap] 34) := by
    rw [← hW2]
    refine (Below.heap_alloc _ _ _ (by omega)).trans ?_
    rw [← hW1]
    exact Array.getElem?_push_size
  have pb : Boxed W2 W1.heap.size 55 .nilIface := by rw [← hW2]; exact Boxed.new W1 55 .nilIface
  have hcells : ∀ A : World, A.heap[w.heap.size]? = W2.heap[w.heap.size]? → A.cell? ⟨w.heap.size, 0, none⟩ = some (.slice p.vbase p.vars.length p.vcap) ∧ A.cell? ⟨w.heap.size, 1, none⟩ = some (.slice p.cbase p.chans.length p.ccap) ∧ A.cell? ⟨w.heap.size, 2, none⟩ = some (.slice p.nbase p.locks.length p.ncap) ∧ A.cell? ⟨w.heap.size, 3, none⟩ = some (.slice p.tbase p.tasks.length p.tcap) := by
    intro A h1
    rw [pa] at h1
    refine ⟨?_, ?_, ?_, ?_⟩ <;> simp [World.cell?, h1]
  have hL2 := hL.under hB2 hok
  have hok2 : ∀ b, ok b → b < W2.heap.size := fun b hb => by have := hok b hb; omega
  have hTree := PX.implOk p hm hN (fun i t ht => by have := hT i t ht; omega) ok W2 hok2 hL2
  obtain ⟨n, -⟩ : ∃ n : Nat, True := ⟨0, trivial⟩
  refine (callsIn_wide (n := n)).1 ?_
  refine callsIn_of_wp_marks Tryz.func22 rfl trivial ?_ rfl
  simp only [Tryz.ntmps22, List.size_toArray, List.length_cons, List.length_nil, Nat.reduceAdd, Nat.reduceSub, Array.replicate_succ, Array.replicate_zero, List.push_toArray, List.append_toArray, List.nil_append, List.cons_append]
  obtain ⟨c0, c1, c2, c3⟩ := hcells W2 rfl
  have qn := errNil
  have qe := errName
  have fin : ∀ (X : World) (v : Value) (tm : Array Value) (ds : List Nat), tm.getD 2 undef = .pointer (some ⟨W1.heap.size, 0, none⟩) → Boxed X W1.heap.size 55 v → (∀ D ∈ ds, W2.heap.size ≤ D ∧ X.heap[D]? = some (.deferred (some []))) → ds.Nodup → Below w.heap.size w X → (∃ x, v = errV p.namesI x) →
      LeavesInM Fence.wide n Tryz.prog Tryz.f22 tm (fun e w' => (∃ x, e = .returned (errV p.namesI x)) ∧ Below w.heap.size w w') (ds.map mark) .returning X := by
    rintro X v tm ds htm hbx hds hnd hBX ⟨x, rfl⟩
    have hzX := hBX.size
    have hlX := World.block_lt_of_cell? X _ hbx.cell
    dsimp only at hlX
    refine leave_marks ds X hnd (fun D hD => (hds D hD).2) (fun W' hk => ?_)
    have hb' : Boxed W' W1.heap.size 55 (errV p.namesI x) := (hk.block _ hlX (fun h => by have := (hds _ h).1; omega)).trans hbx
    have hcc := hb'.cell
    refine ⟨errV p.namesI x, ?_, ⟨x, rfl⟩, hBX.trans (hk.below hzX (fun k h => by have := (hds _ h).1; omega))⟩
    have htm2 : tm[2]?.getD undef = .pointer (some ⟨W1.heap.size, 0, none⟩) := by simpa using htm
    simp [results, Tryz.results22, go_sem, htm2, hcc]
  gi_wp2
  refine ⟨trivial, (fun h => by cases h), (callsIn_wide.2 hTree).mono ?_⟩
  rintro e w3 ⟨rfl, hB3⟩
  have hz3 := hB3.size
  have hBw3 := hB2.trans (hB3.mono hB2.size)
  have pb3 : Boxed w3 W1.heap.size 55 .nilIface := (hB3.block _ (by omega)).trans pb
  have hx3 := hB3.block w.heap.size (by omega)
  have hL3 := hL2.under hB3 hok2
  clear c0 c1 c2 c3 hTree
  obtain ⟨c0, c1, c2, c3⟩ := hcells w3 hx3
  have hbc := pb3.cell
  have hbf := pb3.frozen
  cases hok1 : p.okI
  · gi_wp2
    exact fin _ (nameV 1 ⟨#[]⟩) _ [] rfl (pb3.set _) (by simp) List.nodup_nil (hBw3.setCell (p := ⟨W1.heap.size, 0, none⟩) (by dsimp only; omega) _) ⟨⟨#[]⟩, by unfold PX.namesI errV; rw [if_pos hok1]; rfl⟩
  have hnI : p.namesI = if onceB p.allN = false then 2 else if locksB p.vars p.locks = false then 3 else badT p 0 p.tasks := by unfold PX.namesI; rw [if_neg (by rw [hok1]; simp)]
  have hok3 : ∀ b, ok b → b < w3.heap.size := fun b hb => by have := hok2 b hb; omega
  have htw := twiceInT p (fun i x h => (hN.v i x h).1) hN.c hN.n (by have := hm.vl; omega) (by have := hm.cl; omega) (by have := hm.nl; omega) ok w3 hok3 hL3
  gi_wp2
  refine ⟨trivial, (fun h => by cases h), (callsIn_wide.2 htw).mono ?_⟩
  clear htw
  rintro e w4 ⟨⟨x4, rfl⟩, hB4⟩
  have hz4 := hB4.size
  have hBw4 := hBw3.trans (hB4.mono hBw3.size)
  have pb4 : Boxed w4 W1.heap.size 55 .nilIface := (hB4.block _ (by omega)).trans pb3
  have hx4 := (hB4.block w.heap.size (by omega)).trans hx3
  have hL4 := hL3.under hB4 hok3
  clear c0 c1 c2 c3 hbc hbf
  obtain ⟨c0, c1, c2, c3⟩ := hcells w4 hx4
  have hbc := pb4.cell
  have hbf := pb4.frozen
  cases honce : onceB p.allN
  · rw [honce] at hnI
    simp only [if_true] at hnI
    rw [show errV (if false = true then 0 else 2) x4 = nameV 2 x4 from rfl]
    gi_wp2
    exact fin _ (nameV 2 x4) _ [] rfl (pb4.set _) (by simp) List.nodup_nil (hBw4.setCell (p := ⟨W1.heap.size, 0, none⟩) (by dsimp only; omega) _) ⟨x4, by rw [hnI]; rfl⟩
  rw [honce] at hnI
  simp only [Bool.true_eq_false, if_false] at hnI
  rw [show errV (if true = true then 0 else 2) x4 = .nilIface from rfl]
  have hok4 : ∀ b, ok b → b < w4.heap.size := fun b hb => by have := hok3 b hb; omega
  have hsc := scopeOfT p (fun i x h => (hN.v i x h).1) hN.c hN.n (by have := hm.vl; omega) (by have := hm.cl; omega) (by have := hm.nl; omega) ok w4 hok4 hL4
  gi_wp2
  refine ⟨trivial, (fun h => by cases h), (callsIn_wide.2 hsc).mono ?_⟩
  clear hsc
  rintro e w5 ⟨mv, mc, mn, rfl, hSC, hB5⟩
  have hz5 := hB5.size
  have hBw5 := hBw4.trans (hB5.mono hBw4.size)
  have hL5 := hL4.under hB5 hok4
  have hok5 : ∀ b, ok b → b < w5.heap.size := fun b hb => by have := hok4 b hb; omega
  obtain ⟨W6, hW6⟩ : ∃ W6, w5.alloc (.cells #[.slice p.vbase p.vars.length p.vcap, .slice p.cbase p.chans.length p.ccap, .slice p.nbase p.locks.length p.ncap, .slice p.tbase p.tasks.length p.tcap, .map (some mv), .map (some mc), .map (some mn)] 101) = W6 := ⟨_, rfl⟩
  have hs6 : w5.heap.size + 1 = W6.heap.size := by rw [← hW6]; simp
  have hB6 : Below w5.heap.size w5 W6 := by rw [← hW6]; exact (Below.refl _ _).alloc (Nat.le_refl _) _
  have ps : W6.heap[w5.heap.size]? = some (.cells #[.slice p.vbase p.vars.length p.vcap, .slice p.cbase p.chans.length p.ccap, .slice p.nbase p.locks.length p.ncap, .slice p.tbase p.tasks.length p.tcap, .map (some mv), .map (some mc), .map (some mn)] 101) := by rw [← hW6]; exact Array.getElem?_push_size
  have hsce : ∀ A : World, A.heap[w5.heap.size]? = W6.heap[w5.heap.size]? → A.cell? ⟨w5.heap.size, 0, none⟩ = some (.slice p.vbase p.vars.length p.vcap) ∧ A.cell? ⟨w5.heap.size, 1, none⟩ = some (.slice p.cbase p.chans.length p.ccap) ∧ A.cell? ⟨w5.heap.size, 2, none⟩ = some (.slice p.nbase p.locks.length p.ncap) ∧ A.cell? ⟨w5.heap.size, 3, none⟩ = some (.slice p.tbase p.tasks.length p.tcap) ∧ A.cell? ⟨w5.heap.size, 4, none⟩ = some (.map (some mv)) ∧ A.cell? ⟨w5.heap.size, 5, none⟩ = some (.map (some mc)) ∧ A.cell? ⟨w5.heap.size, 6, none⟩ = some (.map (some mn)) := by
    intro A h1
    rw [ps] at h1
    refine ⟨?_, ?_, ?_, ?_, ?_, ?_, ?_⟩ <;> simp [World.cell?, h1]
  have hSC6 := hSC.new hB6
  have hL6 := hL5.under hB6 hok5
  have hok6 : ∀ b, ok b → b < W6.heap.size := fun b hb => by have := hok5 b hb; omega
  have pb6 : Boxed W6 W1.heap.size 55 .nilIface := (hB6.block _ (by omega)).trans ((hB5.block _ (by omega)).trans pb4)
  have hx6 := (hB6.block w.heap.size (by omega)).trans ((hB5.block w.heap.size (by omega)).trans hx4)
  have hwl := wrongLockT p mv mc mn (fun i x h => (hN.v i x h).2) ok W6 hok6 hSC6 hL6.v (by have := hm.vl; omega)
  have hBw6 := hBw5.trans (hB6.mono hBw5.size)
  clear c0 c1 c2 c3 hbc hbf
  obtain ⟨e0, e1, e2, e3, e4, e5, e6⟩ := hsce W6 rfl
  gi_wp2
  refine ⟨trivial, (fun h => by cases h), (callsIn_wide.2 hwl).mono ?_⟩
  clear hwl
  rintro e w7 ⟨⟨x7, rfl⟩, hB7⟩
  have hz7 := hB7.size
  have hBw7 := hBw6.trans (hB7.mono hBw6.size)
  have pb7 : Boxed w7 W1.heap.size 55 .nilIface := (hB7.block _ (by omega)).trans pb6
  have hx7 := (hB7.block w.heap.size (by omega)).trans hx6
  have hbc := pb7.cell
  have hbf := pb7.frozen
  clear e0 e1 e2 e3 e4 e5 e6
  obtain ⟨c0, c1, c2, c3⟩ := hcells w7 hx7
  cases hlk : locksB p.vars p.locks
  · rw [hlk] at hnI
    simp only [if_true] at hnI
    rw [show errV (if false = true then 0 else 3) x7 = nameV 3 x7 from rfl]
    gi_wp2
    exact fin _ (nameV 3 x7) _ [] rfl (pb7.set _) (by simp) List.nodup_nil (hBw7.setCell (p := ⟨W1.heap.size, 0, none⟩) (by dsimp only; omega) _) ⟨x7, by rw [hnI]; rfl⟩
  rw [hlk] at hnI
  simp only [Bool.true_eq_false, if_false] at hnI
  rw [show errV (if true = true then 0 else 3) x7 = .nilIface from rfl]
  have hSC7 := hSC6.new hB7
  have hL7 := hL6.under hB7 hok6
  have hsc7 := hB7.block w5.heap.size (by omega)
  have hes : ∀ (j : Nat) (t : LX), p.tasks[j]? = some t → ∀ x ∈ SX.withinAll t.l 0, SmallS x.2 := fun j t ht => SX.within_all SmallS (fun s hs => ⟨hs.parts.2.2.2.2.1, hs.parts.2.2.2.2.2⟩) _ t.l (Nat.le_refl _) ((hm.t j t ht).kid) 0
  have htl := hm.tl
  have hvl := hm.vl
  have hokW : ∀ b, ok b → b < w.heap.size := hok
  gi_wp2
  refine wpIn_loop (fun A w' => ∃ (i : Nat) (ds : List Nat) (u6 u7 u31 u32 u33 u34 u35 u36 u45 : Value), A = ⟨#[p.val, .pointer (some ⟨w.heap.size, 0, none⟩), .pointer (some ⟨W1.heap.size, 0, none⟩), .nilIface, .pointer (some ⟨w5.heap.size, 0, none⟩), .nilIface, u6, u7, undef, undef, p.val, .bool true, .bool false, undef, undef, p.val, .nilIface, .nilIface, .bool false, undef, p.val, scV p mv mc mn, scV p mv mc mn, .nilIface, .nilIface, .bool false, undef,
      .pointer (some ⟨w.heap.size, 3, none⟩), .slice p.tbase p.tasks.length p.tcap, .int .i64 p.tasks.length, .int .i64 i, u31, u32, u33, u34, u35, u36, undef, undef, undef, undef, undef, undef, undef, undef, u45], ds.map mark⟩ ∧
      i ≤ p.tasks.length ∧ ds.Nodup ∧ (∀ D ∈ ds, W2.heap.size ≤ D ∧ w'.heap[D]? = some (.deferred (some []))) ∧ Below w.heap.size w w' ∧ w7.heap.size ≤ w'.heap.size ∧ Boxed w' W1.heap.size 55 .nilIface ∧ w'.heap[w5.heap.size]? = W6.heap[w5.heap.size]? ∧ SC w' p mv mc mn ∧ PX.Lies ok w' p ∧
      (∀ (j : Nat) (y : LX), j < i → p.tasks[j]? = some y → badU p j (usesL (SX.withinAll y.l 0)) = 0))
    (fun A _ => p.tasks.length - (intOf (A.tmps.getD 30 undef)).toNat) ?_ ?_
  · exact ⟨0, [], _, _, _, _, _, _, _, _, _, rfl, by omega, List.nodup_nil, by simp, hBw7, Nat.le_refl _, pb7, hsc7, hSC7, hL7, fun j y hj => by omega⟩
  · clear hSC7 hL7 hsc7 pb7 hBw7 c0 c1 c2 c3 hbc hbf
    rintro A w' ⟨i, ds, u6, u7, u31, u32, u33, u34, u35, u36, u45, rfl, hi, hnd, hds, hBw, hzw, hbx, hsw, hSCw, hLw, hgood⟩
    have hbx0 := hbx.cell
    by_cases hlt : i < p.tasks.length
    case neg =>
      have hne : badT p 0 p.tasks = 0 := badT_none p.tasks 0 (fun j y hy => by have := hgood j y (by have := (List.getElem?_eq_some_iff.1 hy).1; omega) hy; simpa using this)
      have hbc := hbx.cell
      have hbf := hbx.frozen
      gi_wp2
      exact fin _ .nilIface _ ds rfl (hbx.set _) (fun D hD => ⟨(hds D hD).1, (Below.heap_setCell _ _ _ _ (by dsimp only; have := (hds D hD).1; omega)).trans (hds D hD).2⟩) hnd (hBw.setCell (p := ⟨W1.heap.size, 0, none⟩) (by dsimp only; omega) _) ⟨ByteArray.empty, by rw [hnI, hne]; rfl⟩
    obtain ⟨t, ht⟩ : ∃ t, p.tasks[i]? = some t := ⟨_, List.getElem?_eq_getElem hlt⟩
    obtain ⟨b, o, hbase, hob, hct⟩ := hLw.t i t ht
    obtain ⟨hrow, hkid⟩ := hLw.k i t ht
    have hsm := hes i t ht
    have hsz := hT i t ht
    have hcells' : w'.cell? ⟨b, o + i, none⟩ = some (.slice t.base t.l.length t.cap) := hct
    rw [hbase]
    gi_wp2
    refine ⟨trivial, (fun h => by cases h), (callsIn_wide.2 (usesOfT t.base t.l.length t.cap _)).mono ?_⟩
    rintro e w8 ⟨rfl, hw8⟩
    subst w8
    gi_wp2
    obtain ⟨V1, hV1⟩ : ∃ V1, w'.alloc (.cells #[.int .i64 i] 3) = V1 := ⟨_, rfl⟩
    obtain ⟨V2, hV2⟩ : ∃ V2, V1.alloc (.cells #[.slice t.base t.l.length t.cap] 71) = V2 := ⟨_, rfl⟩
    rw [hV1, hV2]
    have v1 : V1.heap.size = w'.heap.size + 1 := by rw [← hV1]; simp
    have v2 : V2.heap.size = w'.heap.size + 2 := by rw [← hV2]; simp [v1]
    have hBV : Below w'.heap.size w' V2 := by rw [← hV2, ← hV1]; exact ((Below.refl _ w').alloc (Nat.le_refl _) _).alloc (by simp) _
    have hti : Boxed V2 w'.heap.size 3 (.int .i64 i) := by
      have h1 := (Boxed.new w' 3 (.int .i64 i)).alloc (.cells #[.slice t.base t.l.length t.cap] 71)
      rw [hV1, hV2] at h1
      exact h1
    have htl' : V2.cell? ⟨w'.heap.size + 1, 0, none⟩ = some (.slice t.base t.l.length t.cap) := by
      have h1 := Boxed.new V1 71 (.slice t.base t.l.length t.cap)
      rw [hV2, v1] at h1
      exact h1.cell
    clear hV1 hV2
    have hdw : ∀ D ∈ ds, D < w'.heap.size := fun D h => (Array.getElem?_eq_some_iff.1 (hds D h).2).1
    have hwl' : W1.heap.size < w'.heap.size := by have := World.block_lt_of_cell? w' _ hbx0; dsimp only at this; exact this
    have hokv : ∀ b, ok b → b < w'.heap.size := fun b hb => by have := hokW b hb; omega
    have hnm : ∀ u ∈ usesL (SX.withinAll t.l 0), u.name.size ≤ 1048576 := by
      intro u hu
      obtain ⟨x, hx, hux⟩ := List.mem_flatMap.1 hu
      obtain ⟨k1, k2⟩ := useName (hsm x hx)
      rcases List.mem_cons.1 hux with rfl | hux
      · exact k1
      · exact k2 u hux
    refine range_law (gf := 80) (lb := #[.pointer (some ⟨w'.heap.size + 1, 0, none⟩)]) rfl (enters_of Tryz.func80 (by kernel_rfl) rfl) useV (fun _ => rfl) (usesL (SX.withinAll t.l 0)) (fun k => k = W1.heap.size)
      (fun pre X => Boxed X W1.heap.size 55 .nilIface ∧ X.heap[w5.heap.size]? = W6.heap[w5.heap.size]? ∧ SC X p mv mc mn ∧ PX.Lies ok X p ∧ Boxed X w'.heap.size 3 (.int .i64 i) ∧ (∀ y ∈ pre, p.wrongI i y = 0) ∧ (∀ D ∈ ds, X.heap[D]? = some (.deferred (some []))))
      (fun pre X => (∃ c x, Boxed X W1.heap.size 55 (nameV c x) ∧ ¬ c = 0 ∧ badU p i (usesL (SX.withinAll t.l 0)) = c) ∧ (∀ D ∈ ds, X.heap[D]? = some (.deferred (some []))))
      (fun k h => by omega)
      (fun pre A B h ⟨h1, h2, h3, h4, h5, h6, h7⟩ => ⟨(h.block _ (by omega)).trans h1, (h.block _ (by omega)).trans h2, h3.below h (by have := hSCw.v.lt; omega) (by have := hSCw.c.lt; omega) (by have := hSCw.n.lt; omega), h4.under h (fun b hb => by have := hokv b hb; omega), (h.block _ (by omega)).trans h5, h6, fun D hD => (h.block D (by have := hdw D hD; omega)).trans (h7 D hD)⟩)
      (fun pre A B h ⟨⟨c, x, h1, h2⟩, h7⟩ => ⟨⟨c, x, (h.block _ (by omega)).trans h1, h2⟩, fun D hD => (h.block D (by have := hdw D hD; omega)).trans (h7 D hD)⟩)
      ⟨(hBV.block _ hwl').trans hbx, (hBV.block _ (by omega)).trans hsw, hSCw.new hBV, hLw.under hBV hokv, hti, by simp, fun D hD => (hBV.block D (hdw D hD)).trans (hds D hD).2⟩
      ?hit ?hround ?hdone ?hstop
    case hit =>
      intro X hBX hsX
      refine uses1 t.l (by omega) (fun x hx => by have := (hsm x hx).parts; exact ⟨by omega, by omega⟩) t.base t.cap _ _ ok X ?_ ?_ (below_cell hBX htl' (by dsimp only; omega)) ?_ ?_ ?_
      · rintro j (h | h) <;> omega
      · intro b hb
        have h1 := hokW b hb
        have h2 := hokv b hb
        exact ⟨by rintro (h | h) <;> omega, by omega⟩
      · rintro (h | h) <;> omega
      · exact (hrow.under hBV hokv).under hBX (fun b hb => by have := hokv b hb; omega)
      · exact fun j k hk => ((hkid j k hk).under hBV hokv).under hBX (fun b hb => by have := hokv b hb; omega)
    case hdone =>
      rintro D X hD ⟨h1, h2, h3, h4, h5, h6, h7⟩ hkX hdX
      have hBX : Below w.heap.size w X := (hBw.trans (hBV.mono (by omega))).trans (hkX.below (by omega) (fun k hk => by omega))
      gi_wp2
      refine ⟨⟨i + 1, D :: ds, _, _, _, _, _, _, _, _, _, by first | rfl | (rw [hbase]; rfl), by omega, ?_, ?_, hBX, by have := hkX.size; omega, h1, h2, h3, h4, ?_⟩, ?_⟩
      · exact List.nodup_cons.2 ⟨fun h => by have := hdw D h; omega, hnd⟩
      · intro E hE
        rcases List.mem_cons.1 hE with rfl | hE
        · exact ⟨by omega, hdX⟩
        · exact ⟨(hds E hE).1, h7 E hE⟩
      · intro j y hj hy
        by_cases e : j = i
        · subst e
          rw [ht] at hy
          cases hy
          exact badU_none h6
        · exact hgood j y (by omega) hy
      · simp [intOf]
        omega
    case hstop =>
      rintro D pre X hD hpre ⟨⟨c, x, h1, h2, h3⟩, h7⟩ hkX hdX
      have hBX : Below w.heap.size w X := (hBw.trans (hBV.mono (by omega))).trans (hkX.below (by omega) (fun k hk => by omega))
      have hbt : badT p 0 p.tasks = c := by
        rw [badT_hit p.tasks 0 i t ht (fun j y hj hy => by have := hgood j y hj hy; simpa using this) (by rw [Nat.zero_add, h3]; exact h2), Nat.zero_add, h3]
      exact fin X (nameV c x) _ (D :: ds) rfl h1 (by
        intro E hE
        rcases List.mem_cons.1 hE with rfl | hE
        · exact ⟨by omega, hdX⟩
        · exact ⟨(hds E hE).1, h7 E hE⟩) (List.nodup_cons.2 ⟨fun h => by have := hdw D h; omega, hnd⟩) hBX ⟨x, by rw [hnI, hbt]; unfold errV; rw [if_neg h2]⟩
    case hround =>
      clear hbase
      rintro l m pre u X hl hlX hI hpre
      gi_wp2
      refine ⟨(Below.refl _ X).alloc (Nat.le_refl _) _, ?_⟩
      rintro w9 hk9 ⟨i1, i2, i3, i4, i5, i6, i7⟩
      have hz9 := hk9.size
      simp only [World.size_alloc] at hz9
      have u0 : w9.cell? ⟨X.heap.size, 0, none⟩ = some (.string u.name) := hk9.cell (World.cell?_alloc_new X _ _ 0) (by dsimp only; omega)
      have u1 : w9.cell? ⟨X.heap.size, 1, none⟩ = some (.int .i64 u.as_) := hk9.cell (World.cell?_alloc_new X _ _ 1) (by dsimp only; omega)
      obtain ⟨e0, e1, e2, e3, e4, e5, e6⟩ := hsce w9 i2
      have ti := i5.cell
      have hum : u ∈ usesL (SX.withinAll t.l 0) := by
        obtain ⟨r, hr⟩ := hpre
        rw [← hr]; simp
      have hok9 : ∀ b, ok b → b < w9.heap.size := fun b hb => by have := hokv b hb; omega
      have hcall := wrongUseT p mv mc mn i u (hnm u hum) ok w9 hok9 i3 i4.v (by omega)
      by_cases hzw0 : p.wrongI i u = 0
      · rw [hzw0, show errV 0 u.name = .nilIface from rfl] at hcall
        gi_wp2
        refine ⟨trivial, (fun h => by cases h), (CallsIn.inRound l (callsIn_wide.2 hcall)).mono ?_⟩
        rintro e wA ⟨rfl, hBA⟩
        gi_wp2
        refine ⟨Kept.of_new _ hBA, (hBA.block _ i1.lt).trans i1, (hBA.block _ (by omega)).trans i2, i3.new hBA, i4.under hBA hok9, (hBA.block _ i5.lt).trans i5, ?_, fun D hD => (hBA.block D (by have := hdw D hD; omega)).trans (i7 D hD)⟩
        intro y hy
        rcases List.mem_append.1 hy with hy | hy
        · exact i6 y hy
        · rw [List.mem_singleton.1 hy]; exact hzw0
      · rw [show errV (p.wrongI i u) u.name = nameV (p.wrongI i u) u.name from by unfold errV; rw [if_neg hzw0]] at hcall
        have hbad := badU_hit hpre i6 hzw0
        gi_wp2
        refine ⟨trivial, (fun h => by cases h), (CallsIn.inRound l (callsIn_wide.2 hcall)).mono ?_⟩
        rintro e wA ⟨rfl, hBA⟩
        have bxA : Boxed wA W1.heap.size 55 .nilIface := (hBA.block _ i1.lt).trans i1
        have hbc := bxA.cell
        have hbf := bxA.frozen
        gi_wp2
        exact ⟨(Kept.of_new (fun k => k = W1.heap.size) hBA).setCell (p := ⟨W1.heap.size, 0, none⟩) rfl _, ⟨_, u.name, bxA.set _, hzw0, hbad⟩, fun D hD => (Below.heap_setCell _ _ _ _ (by dsimp only; have := (hds D hD).1; omega)).trans ((hBA.block D (by have := hdw D hD; omega)).trans (i7 D hD))⟩
end Go.Proofs.YtcbfgidkjhfgmaaGreatDoor
