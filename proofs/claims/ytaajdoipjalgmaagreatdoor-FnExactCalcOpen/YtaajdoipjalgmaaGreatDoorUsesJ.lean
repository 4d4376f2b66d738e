/-
  What the program answers of the locks of variables, and of the places of all names of a program.
  What slices.Grow answers of no list: one with room.
  What slices.Concat answers of lists of words: a new list of all of them, in order.
  What the program answers of whether two of all names of a program are one.
  What is wrong with the names of a program first, as the program tells it.
  What the program's ScopeCheck answers.
-/
import Derived.Test.YtaajdoipjalgmaaGreatDoorUsesD
import Derived.Shelf.RegionOpen
import Derived.Lib.AppendZerosOnto
import Derived.Lib.SlFresh
import Derived.Deep.RegionHeld3
import Derived.Test.YtaajdoipjalgmaaGreatDoorUsesB
import Derived.Test.YtaajdoipjalgmaaGreatDoorOkK
import Derived.Test.YtaajdoipjalgmaaGreatDoorOkQ
namespace Go.Proofs.YtaajdoipjalgmaaGreatDoor
open Go.RowKit Go.Shelf Go.Maps
set_option linter.unusedSimpArgs false
set_option linter.unusedVariables false
attribute [local go_sem] Oper.semAt_some

def lockOk (locks : List ByteArray) (x : VX) : Bool := x.lock.toList.isEmpty || decide (0 ≤ firstOf locks x.lock)
def locksB (vars : List VX) (locks : List ByteArray) : Bool := vars.all (lockOk locks)
theorem locksB_bad {vars : List VX} {locks : List ByteArray} {i : Nat} {x : VX} (h : vars[i]? = some x) (hx : lockOk locks x = false) : locksB vars locks = false := by
  unfold locksB
  rw [List.all_eq_false]
  exact ⟨x, List.mem_of_getElem? h, by simp [hx]⟩
theorem locksB_good {vars : List VX} {locks : List ByteArray} (h : ∀ (i : Nat) (x : VX), vars[i]? = some x → lockOk locks x = true) : locksB vars locks = true := by
  unfold locksB
  rw [List.all_eq_true]
  intro x hx
  obtain ⟨i, hi⟩ := List.getElem?_of_mem hx
  exact h i x hi
theorem take_all {vars : List VX} {locks : List ByteArray} {i : Nat} {x : VX} (h : ∀ (j : Nat) (y : VX), j < i → vars[j]? = some y → lockOk locks y = true) (hx : vars[i]? = some x) (hg : lockOk locks x = true) : ∀ (j : Nat) (y : VX), j < i + 1 → vars[j]? = some y → lockOk locks y = true := by
  intro j y hj hy
  by_cases e : j = i
  · subst e
    rw [hx] at hy
    cases hy
    exact hg
  · exact h j y (by omega) hy
set_option maxRecDepth 10000 in
set_option maxHeartbeats 4000000 in
theorem wrongLockT (p : PX) (mv mc mn : Nat) (hl : ∀ (i : Nat) (x : VX), p.vars[i]? = some x → x.lock.size ≤ 1048576) (ok : Nat → Prop) (w : World) (hok : ∀ b, ok b → b < w.heap.size) (hS : SC w p mv mc mn) (hR : VX.Row ok w p.vbase p.vars) (hm : p.vars.length ≤ 1048577) :
    Calls Tryz.prog 103 #[scV p mv mc mn] w fun e w' => (∃ x, e = .returned (errV (if locksB p.vars p.locks then 0 else 3) x)) ∧ Below w.heap.size w w' := by
  obtain ⟨vb, vc, vars, cb, cc, chans, nb, nc, locks, tb, tc, tasks⟩ := p
  unfold scV
  dsimp only at hl hR hm ⊢
  obtain ⟨len, hlen⟩ : ∃ len, vars.length = len := ⟨_, rfl⟩
  rw [hlen] at hm ⊢
  obtain ⟨W1, hW1⟩ : ∃ W1, w.alloc (.cells #[.slice vb len vc, .slice cb chans.length cc, .slice nb locks.length nc, .slice tb tasks.length tc, .map (some mv), .map (some mc), .map (some mn)] 159) = W1 := ⟨_, rfl⟩
  have hs1 : w.heap.size + 1 = W1.heap.size := by rw [← hW1]; simp
  have hB1 : Below w.heap.size w W1 := by rw [← hW1]; exact (Below.refl _ w).alloc (Nat.le_refl _) _
  have p1 : W1.heap[w.heap.size]? = some (.cells #[.slice vb len vc, .slice cb chans.length cc, .slice nb locks.length nc, .slice tb tasks.length tc, .map (some mv), .map (some mc), .map (some mn)] 159) := by
    rw [← hW1]
    exact Array.getElem?_push_size
  have hN1 : MX W1 mn locks := hS.n.on (hB1.block _ hS.n.lt)
  have hR1 := hR.under hB1 hok
  have a0 : W1.cell? ⟨w.heap.size, 0, none⟩ = some (.slice vb len vc) := by simp [World.cell?, p1]
  have a6 : W1.cell? ⟨w.heap.size, 6, none⟩ = some (.map (some mn)) := by simp [World.cell?, p1]
  clear hS hR
  go_enter Tryz.func103, Tryz.ntmps103
  go_wp2_with fail
  go_loopw [9] (fun v9 wr => ∃ (i : Nat), v9 = .int .i64 i ∧ i ≤ len ∧ Below W1.heap.size W1 wr ∧ (∀ (j : Nat) (y : VX), j < i → vars[j]? = some y → lockOk locks y = true)) (fun v9 _ => len - (intOf v9).toNat)
  case atStart => exact ⟨0, rfl, by omega, Below.refl _ _, fun j y hj => by omega⟩
  case round =>
    obtain ⟨i, rfl, hi, hB, hgood⟩ := hrel
    have hz := hB.size
    by_cases hlt : i < len
    · obtain ⟨x, hx⟩ : ∃ x, vars[i]? = some x := ⟨_, List.getElem?_eq_getElem (by omega)⟩
      obtain ⟨b1, o1, hbase1, hok1, hc1⟩ := hR1 i x hx
      have hxl := hl i x hx
      have hok1' := hok b1 hok1
      obtain ⟨q0, q1, q2, q3, q4, q5, q6⟩ := hc1.below hB (by omega)
      have e6 := below_cell hB a6 (by dsimp only; omega)
      have hN := hN1.on (hB.block _ hN1.lt)
      subst hbase1
      obtain ⟨W3, hW3⟩ : ∃ W3, wr.alloc (.cells #[.string x.name, .int .i64 x.size, .int .i64 x.init, .int .i64 x.lo, .int .i64 x.hi, .string x.lock, .int .i64 x.task] 58) = W3 := ⟨_, rfl⟩
      have hB3 : Below wr.heap.size wr W3 := by rw [← hW3]; exact (Below.refl _ _).alloc (Nat.le_refl _) _
      have p3 : W3.heap[wr.heap.size]? = some (.cells #[.string x.name, .int .i64 x.size, .int .i64 x.init, .int .i64 x.lo, .int .i64 x.hi, .string x.lock, .int .i64 x.task] 58) := by rw [← hW3]; exact Array.getElem?_push_size
      have k5 : W3.cell? ⟨wr.heap.size, 5, none⟩ = some (.string x.lock) := by simp [World.cell?, p3]
      have e6' := below_cell hB3 e6 (by dsimp only; omega)
      have hM := placeM (hN.on (hB3.block _ hN.lt)) x.lock hxl
      have hBf := hB1.trans ((hB.trans (hB3.mono hB.size)).mono hB1.size)
      have hBn : Below W1.heap.size W1 W3 := hB.trans (hB3.mono hB.size)
      clear p3
      cases hle : x.lock.toList.isEmpty
      · have hne : ¬ x.lock.toList = [] := fun h => by rw [h] at hle; cases hle
        cases hf : decide (0 ≤ firstOf locks x.lock)
        · have hf' : firstOf locks x.lock < 0 := by simpa using hf
          obtain ⟨fl, hfl⟩ : ∃ fl, firstOf locks x.lock = fl := ⟨_, rfl⟩
          have hbad : locksB vars locks = false := locksB_bad hx (by unfold lockOk; rw [hle, hf]; rfl)
          rw [hfl] at hM hf'
          go_wp2_with fail
          go_at_call 139
          refine hM.mono ?_
          rintro e w4 ⟨rfl, hw4⟩
          subst w4
          go_wp2_with fail
          all_goals first | (exfalso; omega) | skip
          all_goals
            go_returns
            exact ⟨⟨x.lock, by first | rfl | (rw [hbad]; rfl)⟩, hBf⟩
        · have hf' : 0 ≤ firstOf locks x.lock := by simpa using hf
          obtain ⟨fl, hfl⟩ : ∃ fl, firstOf locks x.lock = fl := ⟨_, rfl⟩
          have hg := take_all hgood hx (by unfold lockOk; rw [hle, hf]; rfl)
          rw [hfl] at hM hf'
          go_wp2_with fail
          go_at_call 139
          refine hM.mono ?_
          rintro e w4 ⟨rfl, hw4⟩
          subst w4
          go_wp2_with fail
          all_goals first | (exfalso; omega) | skip
          refine ⟨⟨i + 1, by go_num, by omega, hBn, hg⟩, by simp [intOf]; omega⟩
      · have hne : x.lock.toList = [] := by simpa using hle
        have hg := take_all hgood hx (by unfold lockOk; rw [hle]; rfl)
        go_wp2_with fail
        all_goals first | (exfalso; omega) | skip
        refine ⟨⟨i + 1, by go_num, by omega, hBn, hg⟩, by simp [intOf]; omega⟩
    · have hall : locksB vars locks = true := locksB_good (fun j y hy => hgood j y (by have := (List.getElem?_eq_some_iff.1 hy).1; omega) hy)
      go_wp2_with fail
      all_goals first | (exfalso; omega) | skip
      go_returns
      exact ⟨⟨ByteArray.empty, by first | rfl | (rw [hall]; rfl)⟩, hB1.trans (hB.mono hB1.size)⟩
theorem MX.ne {A : World} {m b : Nat} {l : List ByteArray} {cs : Array Value} {t : TypeId} (h : MX A m l) (hb : A.heap[b]? = some (.cells cs t)) : ¬ m = b := by
  rintro rfl
  obtain ⟨n, D, ⟨es, clock, h1, h2⟩, h3⟩ := h
  rw [hb] at h1
  cases h1
theorem scopeV (p : PX) : p.val = .agg #[.slice p.vbase p.vars.length p.vcap, .slice p.cbase p.chans.length p.ccap, .slice p.nbase p.locks.length p.ncap, .slice p.tbase p.tasks.length p.tcap] := rfl
set_option maxRecDepth 10000 in
set_option maxHeartbeats 4000000 in
theorem scopeOfT (p : PX) (hn : ∀ (i : Nat) (x : VX), p.vars[i]? = some x → x.name.size ≤ 1048576) (hcn : ∀ (i : Nat) (x : CX), p.chans[i]? = some x → x.name.size ≤ 1048576) (hln : ∀ (i : Nat) (k : ByteArray), p.locks[i]? = some k → k.size ≤ 1048576)
    (hmv : p.vars.length ≤ 1048577) (hmc : p.chans.length ≤ 1048577) (hml : p.locks.length ≤ 1048577) (ok : Nat → Prop) (w : World) (hok : ∀ b, ok b → b < w.heap.size) (hL : PX.Lies ok w p) :
    Calls Tryz.prog 102 #[p.val] w fun e w' => ∃ mv mc mn, e = .returned (scV p mv mc mn) ∧ SC w' p mv mc mn ∧ Below w.heap.size w w' := by
  obtain ⟨W1, hW1⟩ : ∃ W1, w.alloc (.cells #[.slice p.vbase p.vars.length p.vcap, .slice p.cbase p.chans.length p.ccap, .slice p.nbase p.locks.length p.ncap, .slice p.tbase p.tasks.length p.tcap] 35) = W1 := ⟨_, rfl⟩
  have hs1 : w.heap.size + 1 = W1.heap.size := by rw [← hW1]; simp
  have hA1 : PX.At W1 w.heap.size p := by rw [← hW1]; exact PX.At.new w p _
  have hB1 : Below w.heap.size w W1 := by rw [← hW1]; exact (Below.refl _ w).alloc (Nat.le_refl _) _
  obtain ⟨W2, hW2⟩ : ∃ W2, W1.alloc (.cells #[.slice none 0 0, .slice none 0 0, .slice none 0 0, .slice none 0 0, .map none, .map none, .map none] 159) = W2 := ⟨_, rfl⟩
  have hs2 : W1.heap.size + 1 = W2.heap.size := by rw [← hW2]; simp
  have hB2 : Below w.heap.size w W2 := by rw [← hW2]; exact hB1.alloc (by omega) _
  obtain ⟨V, hV⟩ : ∃ V, W2.drew = V := ⟨_, rfl⟩
  have hsV : W2.heap.size = V.heap.size := by rw [← hV]; rfl
  have hBV : Below w.heap.size w V := by rw [← hV]; exact hB2.drew
  have paV : V.heap[w.heap.size]? = some (.cells #[.slice p.vbase p.vars.length p.vcap, .slice p.cbase p.chans.length p.ccap, .slice p.nbase p.locks.length p.ncap, .slice p.tbase p.tasks.length p.tcap] 35) := by
    rw [← hV, ← hW2]
    refine (Below.heap_alloc W1 _ w.heap.size (by omega)).trans ?_
    rw [← hW1]
    exact Array.getElem?_push_size
  have pbV : V.heap[W1.heap.size]? = some (.cells #[.slice none 0 0, .slice none 0 0, .slice none 0 0, .slice none 0 0, .map none, .map none, .map none] 159) := by
    rw [← hV, ← hW2]
    exact Array.getElem?_push_size
  have hcells : ∀ A : World, A.heap[w.heap.size]? = some (.cells #[.slice p.vbase p.vars.length p.vcap, .slice p.cbase p.chans.length p.ccap, .slice p.nbase p.locks.length p.ncap, .slice p.tbase p.tasks.length p.tcap] 35) → A.heap[W1.heap.size]? = some (.cells #[.slice none 0 0, .slice none 0 0, .slice none 0 0, .slice none 0 0, .map none, .map none, .map none] 159) →
      A.cell? ⟨w.heap.size, 0, none⟩ = some (.slice p.vbase p.vars.length p.vcap) ∧ A.cell? ⟨w.heap.size, 1, none⟩ = some (.slice p.cbase p.chans.length p.ccap) ∧ A.cell? ⟨w.heap.size, 2, none⟩ = some (.slice p.nbase p.locks.length p.ncap) ∧ A.cell? ⟨w.heap.size, 3, none⟩ = some (.slice p.tbase p.tasks.length p.tcap) ∧ A.cell? ⟨W1.heap.size, 0, none⟩ = some (.slice none 0 0) ∧ A.cell? ⟨W1.heap.size, 1, none⟩ = some (.slice none 0 0) ∧ A.cell? ⟨W1.heap.size, 2, none⟩ = some (.slice none 0 0) ∧ A.cell? ⟨W1.heap.size, 3, none⟩ = some (.slice none 0 0) ∧ A.cell? ⟨W1.heap.size, 4, none⟩ = some (.map none) ∧ A.cell? ⟨W1.heap.size, 5, none⟩ = some (.map none) ∧ A.cell? ⟨W1.heap.size, 6, none⟩ = some (.map none) ∧ (∀ i, A.frozen? ⟨W1.heap.size, i, none⟩ = false) := by
    intro A h1 h2
    refine ⟨?_, ?_, ?_, ?_, ?_, ?_, ?_, ?_, ?_, ?_, ?_, ?_⟩
    all_goals first | (intro i; simp [World.frozen?, h2]; done) | (simp [World.cell?, h1]; done) | (simp [World.cell?, h2]; done)
  have hvn := PX.varNames p ok V (fun b hb => by have := hok b hb; omega) (hL.v.under hBV hok) hmv
  have hcn' : ∀ A, Below V.heap.size V A → Calls Tryz.prog 137 #[p.val] A fun e w' => ∃ v, e = .returned v ∧ w'.ownsRow A.heap.size 9 1 v p.chans.length ((p.chans.map CX.name).map Value.string) ∧ Below A.heap.size A w' := by
    intro A hA
    have hzA := hA.size
    exact PX.chanNames p ok A (fun b hb => by have := hok b hb; omega) ((hL.c.under hBV hok).under hA (fun b hb => by have := hok b hb; omega)) hmc
  have hpl : ∀ A, Below V.heap.size V A → Calls Tryz.prog 138 #[.slice p.nbase p.locks.length p.ncap] A fun e w' => ∃ m, e = .returned (.map (some m)) ∧ MX w' m p.locks ∧ Below A.heap.size A w' := by
    intro A hA
    have hzA := hA.size
    exact (placesOf p.locks p.nbase p.ncap ok A (fun b hb => by have := hok b hb; omega) ((hL.n.under hBV hok).under hA (fun b hb => by have := hok b hb; omega)) (by omega) hln).mono fun e w' ⟨D, h1, h2, h3, h4⟩ => ⟨_, h1, ⟨_, D, h2, h3⟩, h4⟩
  have hpn : ∀ (l : List ByteArray) (n : Nat) (a : Option Addr) (c : Nat) (A : World) (base : Nat), l.length = n → n ≤ 1048577 → (∀ k ∈ l, k.size ≤ 1048576) → NRow (fun b => base ≤ b ∧ b < A.heap.size) A a l → Calls Tryz.prog 138 #[.slice a n c] A fun e w' => ∃ m, e = .returned (.map (some m)) ∧ MX w' m l ∧ Below A.heap.size A w' := by
    rintro l n a c A base rfl hl1 hl2 hr
    exact (placesOf l a c _ A (fun b hb => hb.2) hr (by omega) (fun i k hk => hl2 k (List.mem_of_getElem? hk))).mono fun e w' ⟨D, h1, h2, h3, h4⟩ => ⟨_, h1, ⟨_, D, h2, h3⟩, h4⟩
  have hnames1 : ∀ k ∈ p.vars.map VX.name, k.size ≤ 1048576 := by
    intro k hk
    obtain ⟨x, hx, rfl⟩ := List.mem_map.1 hk
    obtain ⟨i, hi⟩ := List.getElem?_of_mem hx
    exact hn i x hi
  have hnames2 : ∀ k ∈ p.chans.map CX.name, k.size ≤ 1048576 := by
    intro k hk
    obtain ⟨x, hx, rfl⟩ := List.mem_map.1 hk
    obtain ⟨i, hi⟩ := List.getElem?_of_mem hx
    exact hcn i x hi
  go_enter Tryz.func102, Tryz.ntmps102
  go_wp2_with fail
  try rw [hW2]
  obtain ⟨x0, x1, x2, x3, y0, y1, y2, y3, y4, y5, y6, yf⟩ := hcells V paV pbV
  go_region_held3 (fun w' => w'.cell? ⟨w.heap.size, 0, none⟩ = some (.slice p.vbase p.vars.length p.vcap) ∧ w'.cell? ⟨w.heap.size, 1, none⟩ = some (.slice p.cbase p.chans.length p.ccap) ∧ w'.cell? ⟨w.heap.size, 2, none⟩ = some (.slice p.nbase p.locks.length p.ncap) ∧ w'.cell? ⟨w.heap.size, 3, none⟩ = some (.slice p.tbase p.tasks.length p.tcap)) (simp [*, go_sem, World.cell?_alloc_some, World.cell?_setCell_far, apart1, apart2, apart3, apart4, apart5, apart6]) (first
    | (go_at_call 138; refine (hpl v4 hbV4).mono ?_; rintro e v5 ⟨mn, rfl, hmN, hb5⟩; (have pav5 := (hb5.block w.heap.size (by omega)).trans pav4); (have pbv5 := (hb5.block W1.heap.size (by omega)).trans pbv4); (obtain ⟨x0, x1, x2, x3, y0, y1, y2, y3, y4, y5, y6, yf⟩ := hcells v5 pav5 pbv5); (have hzv5 := hb5.size); (have hbV5 := hbV4.trans (hb5.mono (by omega))))
    | (go_at_call 138; refine (hpn (p.chans.map CX.name) p.chans.length ca cc' v3 _ (by rw [List.length_map]) hmc hnames2 hrow3).mono ?_; rintro e v4 ⟨mc, rfl, hmC, hb4⟩; (have pav4 := (hb4.block w.heap.size (by omega)).trans pav3); (have pbv4 := (hb4.block W1.heap.size (by omega)).trans pbv3); (obtain ⟨x0, x1, x2, x3, y0, y1, y2, y3, y4, y5, y6, yf⟩ := hcells v4 pav4 pbv4); (have hzv4 := hb4.size); (have hbV4 := hbV3.trans (hb4.mono (by omega))))
    | (go_at_call 138; refine (hpn (p.vars.map VX.name) p.vars.length va vc' v1 _ (by rw [List.length_map]) hmv hnames1 hrow1).mono ?_; rintro e v2 ⟨mv, rfl, hmV, hb2⟩; (have pav2 := (hb2.block w.heap.size (by omega)).trans pav1); (have pbv2 := (hb2.block W1.heap.size (by omega)).trans pbv1); (obtain ⟨x0, x1, x2, x3, y0, y1, y2, y3, y4, y5, y6, yf⟩ := hcells v2 pav2 pbv2); (have hzv2 := hb2.size); (have hbV2 := hbV1.trans (hb2.mono (by omega))))
    | (go_at_call 137; refine (hcn' v2 hbV2).mono ?_; rintro e v3 ⟨cv, rfl, hown3, hb3⟩; (obtain ⟨ca, cc', hcv, hrow3⟩ := names_row (l := p.chans.map CX.name) (by rw [List.length_map]; exact hown3)); (rw [List.length_map] at hcv); subst hcv; (have pav3 := (hb3.block w.heap.size (by omega)).trans pav2); (have pbv3 := (hb3.block W1.heap.size (by omega)).trans pbv2); (obtain ⟨x0, x1, x2, x3, y0, y1, y2, y3, y4, y5, y6, yf⟩ := hcells v3 pav3 pbv3); (have hzv3 := hb3.size); (have hbV3 := hbV2.trans (hb3.mono (by omega))))
    | (go_at_call 136; refine hvn.mono ?_; rintro e v1 ⟨vv, rfl, hown1, hb1⟩; (obtain ⟨va, vc', hvv, hrow1⟩ := names_row (l := p.vars.map VX.name) (by rw [List.length_map]; exact hown1)); (rw [List.length_map] at hvv); subst hvv; (have pav1 := (hb1.block w.heap.size (by omega)).trans paV); (have pbv1 := (hb1.block W1.heap.size (by omega)).trans pbV); (obtain ⟨x0, x1, x2, x3, y0, y1, y2, y3, y4, y5, y6, yf⟩ := hcells v1 pav1 pbv1); (have hzv1 := hb1.size); (have hbV1 := hb1)))
  obtain ⟨Wf, hWf⟩ : ∃ Wf, (((((((v5.setCell ⟨W1.heap.size, 0, none⟩ (.slice p.vbase p.vars.length p.vcap)).setCell ⟨W1.heap.size, 1, none⟩ (.slice p.cbase p.chans.length p.ccap)).setCell ⟨W1.heap.size, 2, none⟩ (.slice p.nbase p.locks.length p.ncap)).setCell ⟨W1.heap.size, 3, none⟩ (.slice p.tbase p.tasks.length p.tcap)).setCell ⟨W1.heap.size, 4, none⟩ (.map (some mv))).setCell ⟨W1.heap.size, 5, none⟩ (.map (some mc))).setCell ⟨W1.heap.size, 6, none⟩ (.map (some mn))) = Wf := ⟨_, rfl⟩
  have hKf : Kept (fun k => k = W1.heap.size) v5 Wf := by rw [← hWf]; exact (((((((Kept.refl (fun k => k = W1.heap.size) v5).setCell (p := ⟨W1.heap.size, 0, none⟩) rfl _).setCell (p := ⟨W1.heap.size, 1, none⟩) rfl _).setCell (p := ⟨W1.heap.size, 2, none⟩) rfl _).setCell (p := ⟨W1.heap.size, 3, none⟩) rfl _).setCell (p := ⟨W1.heap.size, 4, none⟩) rfl _).setCell (p := ⟨W1.heap.size, 5, none⟩) rfl _).setCell (p := ⟨W1.heap.size, 6, none⟩) rfl _
  have pf : Wf.heap[W1.heap.size]? = some (.cells #[.slice p.vbase p.vars.length p.vcap, .slice p.cbase p.chans.length p.ccap, .slice p.nbase p.locks.length p.ncap, .slice p.tbase p.tasks.length p.tcap, .map (some mv), .map (some mc), .map (some mn)] 159) := by rw [← hWf]; exact (heap_setCell_same _ _ 6 _ _ _ (heap_setCell_same _ _ 5 _ _ _ (heap_setCell_same _ _ 4 _ _ _ (heap_setCell_same _ _ 3 _ _ _ (heap_setCell_same _ _ 2 _ _ _ (heap_setCell_same _ _ 1 _ _ _ (heap_setCell_same _ _ 0 _ _ _ pbv5)))))))
  have hSC : SC Wf p mv mc mn := by
    have n1 := hmV.ne pbv2
    have n2 := hmC.ne pbv4
    have n3 := hmN.ne pbv5
    have l1 := hmV.lt
    have l2 := hmC.lt
    have l3 := hmN.lt
    exact ⟨hmV.on ((hKf.block mv (by omega) n1).trans ((hb5.block mv (by omega)).trans ((hb4.block mv (by omega)).trans (hb3.block mv (by omega))))), hmC.on ((hKf.block mc (by omega) n2).trans (hb5.block mc (by omega))), hmN.on (hKf.block mn (by omega) n3)⟩
  have f0 : Wf.cell? ⟨W1.heap.size, 0, none⟩ = some (.slice p.vbase p.vars.length p.vcap) := by simp [World.cell?, pf]
  have f1 : Wf.cell? ⟨W1.heap.size, 1, none⟩ = some (.slice p.cbase p.chans.length p.ccap) := by simp [World.cell?, pf]
  have f2 : Wf.cell? ⟨W1.heap.size, 2, none⟩ = some (.slice p.nbase p.locks.length p.ncap) := by simp [World.cell?, pf]
  have f3 : Wf.cell? ⟨W1.heap.size, 3, none⟩ = some (.slice p.tbase p.tasks.length p.tcap) := by simp [World.cell?, pf]
  have f4 : Wf.cell? ⟨W1.heap.size, 4, none⟩ = some (.map (some mv)) := by simp [World.cell?, pf]
  have f5 : Wf.cell? ⟨W1.heap.size, 5, none⟩ = some (.map (some mc)) := by simp [World.cell?, pf]
  have f6 : Wf.cell? ⟨W1.heap.size, 6, none⟩ = some (.map (some mn)) := by simp [World.cell?, pf]
  have hBf : Below w.heap.size w Wf := (hBV.trans (hbV5.mono hBV.size)).trans (hKf.below (by omega) (fun k hk => by omega))
  try rw [hWf]
  go_wp2
  refine bodyPost_ret (v := scV p mv mc mn) (by simp [results, Tryz.results102, go_sem, f0, f1, f2, f3, f4, f5, f6]) rfl ?_
  exact ⟨mv, mc, mn, rfl, hSC, hBf⟩
end Go.Proofs.YtaajdoipjalgmaaGreatDoor
namespace Go.Proofs.YtaajdoipjalgmaaGreatDoor
open Go.RowKit Go.Shelf Go.Maps
set_option linter.unusedSimpArgs false
set_option linter.unusedVariables false
attribute [local go_sem] Oper.semAt_some

set_option maxRecDepth 10000 in
set_option maxHeartbeats 4000000 in
theorem growN (n : Nat) (hn : n ≤ 4194304) (w : World) :
    Calls Tryz.prog 170 #[.slice none 0 0, .int .i64 n] w fun e w' => ∃ v, e = .returned v ∧ w'.ownsRow w.heap.size 9 1 v 0 [] ∧ Below w.heap.size w w' := by
  by_cases h0 : n = 0
  · subst h0
    go_enter Tryz.func170, Tryz.ntmps170
    go_wp2
    go_returns
    exact ⟨_, rfl, ⟨rfl, .inl ⟨rfl, rfl⟩⟩, Below.refl _ _⟩
  · obtain ⟨i0, hi0, hz0, hz1, hz2⟩ := info_parts infoW
    have hold : (Builtin.firstCells i0.size 0 (.slice none 0 0)).run Tryz.prog w.drew = .ok ([] : List Value).toArray w.drew := run_firstCells_none w.drew i0.size 0 0 0
    have hrz : ∀ ty, (Builtin.append_ #[24, 3] ty #[.slice none 0 0, .int .i64 n]).run Tryz.prog w =
        .ok (.slice (some ⟨w.heap.size, 0, none⟩) n (grownCap w n 0 9)) (w.drew.alloc (.cells (([] : List Value).toArray ++ Builtin.zeroCells (Value.cells (.string ByteArray.empty)) n ++ Builtin.zeroCells (Value.cells (.string ByteArray.empty)) (grownCap w n 0 9 - n)) 9)) := fun ty => by
      have h := Lib.run_append_grow_zeros w 24 3 ty 9 i0 _ .i64 .i64 Tryz.underlying24 Tryz.underlying3 hi0 hz0 none 0 0 [] hold n (by omega) (by omega) (by omega) (by omega) (by rw [hz2]; omega) (by rw [hz2, Nat.zero_add]; exact growslice_fits (by omega) (by omega))
      rw [Nat.zero_add] at h
      exact h
    have hGn : n ≤ grownCap w n 0 9 := grownCap_ge w _ _ _
    have hGm := grownCap_le_maxLen w n 0 9 (by unfold maxLen; omega)
    obtain ⟨G, hG⟩ : ∃ G, grownCap w n 0 9 = G := ⟨_, rfl⟩
    rw [hG] at hrz hGn hGm
    obtain ⟨cur, hcur⟩ : ∃ cur, ([] : List Value).toArray ++ Builtin.zeroCells (Value.cells (.string ByteArray.empty)) n ++ Builtin.zeroCells (Value.cells (.string ByteArray.empty)) (G - n) = cur := ⟨_, rfl⟩
    have hcs : cur.size = G * 1 := by
      rw [← hcur]
      simp [size_zeroCells, Value.cells]
      omega
    rw [hcur] at hrz
    obtain ⟨W1, hW1⟩ : ∃ W1, w.drew.alloc (.cells cur 9) = W1 := ⟨_, rfl⟩
    have hown : W1.ownsRow w.heap.size 9 1 (.slice (some ⟨w.heap.size, 0, none⟩) 0 G) 0 [] := by
      refine ⟨rfl, .inr ⟨w.heap.size, G, cur, rfl, Nat.le_refl _, ?_, Nat.zero_le _, hGm, hcs, by simp⟩⟩
      rw [← hW1]
      exact Array.getElem?_push_size
    have hB1 : Below w.heap.size w W1 := by rw [← hW1]; exact ((Below.refl _ w).drew).alloc (Nat.le_refl _) _
    rw [hW1] at hrz
    unfold maxLen at hGm
    have h1 : ¬ ((n : Int) < 0) := by omega
    have h4 : (n : Int) > 0 := by omega
    have h3 : wrap64 (n : Int) = (n : Int) := by unfold wrap64; omega
    go_enter Tryz.func170, Tryz.ntmps170
    go_wp2_with (at_builtin; refine Lib.wpList_append_run _ rfl _ _ _ _ rfl _ _ rfl rfl _ _ (hrz _) ?_)
    all_goals
      go_returns
      exact ⟨_, rfl, hown, hB1⟩
theorem run_append_empty {P : Program} {w : World} (base : Nat) (t ty e : TypeId) (i : TypeInfo) (size : Nat) (ht : P.underlying t = some (.slice e)) (hi : P.info? e = some i)
    (v : Value) (n : Nat) (xs : List Value) (hown : w.ownsRow base e size v n xs) (a : Option Addr) (c : Nat) :
    (Builtin.append_ #[t, t] ty #[v, .slice a 0 c]).run P w = .ok v w := by
  rcases hown.2 with ⟨rfl, rfl⟩ | ⟨g, cap, cur, rfl, _, _, hnc, _⟩ <;> cases a <;>
    simp [*, Builtin.append_, run_underlying ht, sizeOf, typeInfo, hi, Builtin.lenOf, Builtin.firstCells, storeCells, loadCells, loadCellsFrom]
end Go.Proofs.YtaajdoipjalgmaaGreatDoor
namespace Go.Proofs.YtaajdoipjalgmaaGreatDoor
open Go.RowKit Go.Shelf Go.Maps
set_option linter.unusedSimpArgs false
set_option linter.unusedVariables false
attribute [local go_sem] Oper.semAt_some

abbrev L3 := Option Addr × List ByteArray × Nat
def L3.val (x : L3) : Value := .slice x.1 x.2.1.length x.2.2
def sumL : List L3 → Nat
  | [] => 0
  | x :: r => x.2.1.length + sumL r
def catL : List L3 → List ByteArray
  | [] => []
  | x :: r => x.2.1 ++ catL r
theorem sumL_take {ls : List L3} {i : Nat} {x : L3} (h : ls[i]? = some x) : sumL (ls.take (i + 1)) = sumL (ls.take i) + x.2.1.length := by
  induction ls generalizing i with
  | nil => simp at h
  | cons y r ih =>
    cases i with
    | zero => simp at h; subst h; simp [sumL]
    | succ i => simp only [List.getElem?_cons_succ] at h; simp only [List.take_succ_cons, sumL]; rw [ih h]; omega
theorem catL_take {ls : List L3} {i : Nat} {x : L3} (h : ls[i]? = some x) : catL (ls.take (i + 1)) = catL (ls.take i) ++ x.2.1 := by
  induction ls generalizing i with
  | nil => simp at h
  | cons y r ih =>
    cases i with
    | zero => simp at h; subst h; simp [catL]
    | succ i => simp only [List.getElem?_cons_succ] at h; simp only [List.take_succ_cons, catL]; rw [ih h, List.append_assoc]
theorem sumL_le (ls : List L3) (i : Nat) : sumL (ls.take i) ≤ sumL ls := by
  induction ls generalizing i with
  | nil => simp [sumL]
  | cons y r ih =>
    cases i with
    | zero => simp [sumL]
    | succ i => simp only [List.take_succ_cons, sumL]; have := ih i; omega
theorem catL_len (ls : List L3) : (catL ls).length = sumL ls := by
  induction ls with
  | nil => rfl
  | cons y r ih => simp [catL, sumL, ih]
set_option maxRecDepth 10000 in
set_option maxHeartbeats 4000000 in
theorem concatN (ls : List L3) (hls : ls.length ≤ 8) (hsum : sumL ls ≤ 4194304) (g : Nat) (ok : Nat → Prop) (w : World) (hok : ∀ b, ok b → b < w.heap.size)
    (hc : ∀ (i : Nat) (x : L3), ls[i]? = some x → w.cell? ⟨g, i, none⟩ = some x.val ∧ NRow ok w x.1 x.2.1) (hg : g < w.heap.size) :
    Calls Tryz.prog 135 #[.slice (some ⟨g, 0, none⟩) ls.length ls.length] w fun e w' => ∃ v, e = .returned v ∧ w'.ownsRow w.heap.size 9 1 v (sumL ls) ((catL ls).map Value.string) ∧ Below w.heap.size w w' := by
  obtain ⟨len, hl⟩ : ∃ len, ls.length = len := ⟨_, rfl⟩
  rw [hl] at hls ⊢
  obtain ⟨i0, hi0, hz0, hz1, hz2⟩ := info_parts infoW
  obtain ⟨tot, htot⟩ : ∃ tot, sumL ls = tot := ⟨_, rfl⟩
  go_enter Tryz.func135, Tryz.ntmps135
  go_wp2_with fail
  go_loopw [3, 11] (fun v3 v11 wr => ∃ (i : Nat), v11 = .int .i64 i ∧ i ≤ len ∧ v3 = .int .i64 (sumL (ls.take i) : Nat) ∧ wr = w) (fun _ v11 _ => len - (intOf v11).toNat)
  case atStart => exact ⟨0, rfl, by omega, rfl, rfl⟩
  case round =>
    obtain ⟨i, rfl, hi, rfl, hwr⟩ := hrel
    subst wr
    have hsl := sumL_le ls i
    by_cases hlt : i < len
    · obtain ⟨x, hx⟩ : ∃ x, ls[i]? = some x := ⟨_, List.getElem?_eq_getElem (by omega)⟩
      obtain ⟨c0, -⟩ := hc i x hx
      have hst := sumL_take hx
      have hsl1 := sumL_le ls (i + 1)
      obtain ⟨a, l, c⟩ := x
      unfold L3.val at c0
      dsimp only at c0 hst
      have hwr : wrap64 ((sumL (ls.take i) : Nat) + (l.length : Nat) : Int) = ((sumL (ls.take (i + 1)) : Nat) : Int) := by unfold wrap64; omega
      obtain ⟨s1, hs1⟩ : ∃ s1, sumL (ls.take (i + 1)) = s1 := ⟨_, rfl⟩
      obtain ⟨s0, hs0⟩ : ∃ s0, sumL (ls.take i) = s0 := ⟨_, rfl⟩
      rw [hs0] at hst hsl hwr ⊢
      rw [hs1] at hst hsl1 hwr
      clear hx hc
      go_wp2_with fail
      all_goals first | (exfalso; omega) | skip
      refine ⟨⟨i + 1, by go_num, by omega, ?_, by first | rfl | trivial⟩, by simp [intOf]; omega⟩
      rw [hs1, hwr]
    · have he : i = len := by omega
      subst he
      have hta : ls.take i = ls := List.take_of_length_le (by omega)
      rw [hta, htot]
      go_wp2_with fail
      go_at_call 170
      refine (growN tot (by omega) w).mono ?_
      rintro e w1 ⟨v0, rfl, hown0, hB0⟩
      clear hsl hta
      go_wp2_with fail
      go_loopw [6, 27] (fun v6 v27 wr => ∃ (k : Nat), v27 = .int .i64 k ∧ k ≤ i ∧ Hid (wr.ownsRow w.heap.size 9 1 v6 (sumL (ls.take k)) ((catL (ls.take k)).map Value.string)) ∧ Below w.heap.size w wr) (fun _ v27 _ => i - (intOf v27).toNat)
      case atStart => exact ⟨0, rfl, by omega, hown0, hB0⟩
      case round =>
        obtain ⟨k, rfl, hk, hA, hB⟩ := hrel
        obtain ⟨v, rfl⟩ : ∃ v, v = u6 := ⟨_, rfl⟩
        have hzw := hB.size
        by_cases hlt : k < i
        · obtain ⟨x, hx⟩ : ∃ x, ls[k]? = some x := ⟨_, List.getElem?_eq_getElem (by omega)⟩
          obtain ⟨c0, hrow⟩ := hc k x hx
          have hst := sumL_take hx
          have hct := catL_take hx
          have hsl1 := sumL_le ls (k + 1)
          obtain ⟨a, l, c⟩ := x
          unfold L3.val at c0
          dsimp only at c0 hst hrow hct
          have d0 := below_cell hB c0 hg
          clear c0
          have hrow' := hrow.under hB hok
          obtain ⟨s0, hs0⟩ : ∃ s0, sumL (ls.take k) = s0 := ⟨_, rfl⟩
          obtain ⟨l0, hl0⟩ : ∃ l0, catL (ls.take k) = l0 := ⟨_, rfl⟩
          rw [hs0] at hst
          rw [hl0] at hct
          rw [hs0, hl0] at hA
          clear hx hc hrow htot
          cases l with
          | nil =>
            go_wp2_with (at_builtin; refine Lib.wpList_append_run_sl _ rfl _ _ 24 rfl v _ rfl rfl (run_append_empty w.heap.size 24 _ 9 i0 1 Tryz.underlying24 hi0 v s0 _ hA.out a c) ?_)
            all_goals first | (exfalso; omega) | skip
            refine ⟨⟨k + 1, by go_num, by omega, ?_, hB⟩, by simp [intOf]; omega⟩
            rw [hst, hct]
            simpa using hA
          | cons y r =>
            obtain ⟨b, o, hba, hokb, -⟩ := hrow' 0 y rfl
            subst hba
            have hnewH : Hid (∀ j u, ((y :: r).map Value.string)[j]? = some u → wr.cell? ((⟨b, o, none⟩ : Addr).add j) = some u) := by
              intro j u hj
              have hadd : (⟨b, o, none⟩ : Addr).add j = ⟨b, o + j, none⟩ := by unfold Addr.add; split <;> simp_all
              rw [hadd]
              rw [List.getElem?_map] at hj
              cases hq : (y :: r)[j]? with
              | none => rw [hq] at hj; cases hj
              | some z =>
                rw [hq] at hj
                obtain ⟨b', o', hb', -, hc'⟩ := hrow' j z hq
                simp only [Option.some.injEq, Addr.mk.injEq, and_true] at hb'
                obtain ⟨rfl, rfl⟩ := hb'
                simpa using hj ▸ hc'
            have hone : Hid (∀ u ∈ (y :: r).map Value.string, u.oneCell' = true) := by
              intro u hu
              obtain ⟨z, -, rfl⟩ := List.mem_map.1 hu
              rfl
            obtain ⟨m, hm⟩ : ∃ m, (y :: r).length = m := ⟨_, rfl⟩
            obtain ⟨news, hnews⟩ : ∃ news, (y :: r).map Value.string = news := ⟨_, rfl⟩
            have hnl : news.length = m * 1 := by rw [← hnews, List.length_map, hm, Nat.mul_one]
            have hm0 : 0 < m := by rw [← hm]; simp
            have hfin : ((l0 ++ y :: r).map Value.string) = l0.map Value.string ++ news := by rw [List.map_append, hnews]
            rw [hm] at d0 hst
            rw [hnews] at hnewH hone
            clear hrow' hnews hm
            go_wp2_with (at_builtin; refine wpList_append_back _ rfl _ _ 24 rfl w.heap.size 9 i0 _ 1 16 Tryz.underlying24 hi0 hz0 hz1 hz2 rfl (by decide) v s0 (l0.map Value.string) rfl hA.out ⟨b, o, none⟩ m c news rfl hnl hnewH.out hone.out (by unfold maxLen; omega) (by omega) (by omega) hm0 ?_; intro v' w4 hown' hback)
            all_goals first | (exfalso; omega) | skip
            refine ⟨⟨k + 1, by go_num, by omega, ?_, ?_⟩, by simp [intOf]; omega⟩
            · rw [hct, hst, hfin]
              exact hown'
            · refine hB.trans (hback.kept.below (by omega) (fun j hj => ?_))
              rcases hj with hj | hj
              · exact (hA.out.lt j hj).1
              · exact (hown'.lt j hj).1
        · have he : k = i := by omega
          subst he
          go_wp2_with fail
          all_goals first | (exfalso; omega) | skip
          go_returns
          have h := hA.out
          rw [List.take_of_length_le (by omega)] at h
          exact ⟨v, rfl, h, hB⟩
end Go.Proofs.YtaajdoipjalgmaaGreatDoor
namespace Go.Proofs.YtaajdoipjalgmaaGreatDoor
open Go.RowKit Go.Shelf Go.Maps
set_option linter.unusedSimpArgs false
set_option linter.unusedVariables false
attribute [local go_sem] Oper.semAt_some

def PX.allN (p : PX) : List ByteArray := p.vars.map VX.name ++ (p.chans.map CX.name ++ p.locks)
def onceB (l : List ByteArray) : Bool := l.zipIdx.all fun x => decide ((x.2 : Int) ≤ firstOf l x.1)
theorem onceB_bad {l : List ByteArray} {i : Nat} {x : ByteArray} (h : l[i]? = some x) (hx : firstOf l x < i) : onceB l = false := by
  unfold onceB
  rw [List.all_eq_false]
  exact ⟨(x, i), List.mem_zipIdx_iff_getElem?.2 h, by simp; omega⟩
theorem onceB_good {l : List ByteArray} (h : ∀ (i : Nat) (x : ByteArray), l[i]? = some x → (i : Int) ≤ firstOf l x) : onceB l = true := by
  unfold onceB
  rw [List.all_eq_true]
  rintro ⟨x, i⟩ hx
  have h1 := h i x (List.mem_zipIdx_iff_getElem?.1 hx)
  simpa using h1
set_option maxRecDepth 10000 in
set_option maxHeartbeats 4000000 in
theorem twiceInT (p : PX) (hn : ∀ (i : Nat) (x : VX), p.vars[i]? = some x → x.name.size ≤ 1048576) (hcn : ∀ (i : Nat) (x : CX), p.chans[i]? = some x → x.name.size ≤ 1048576) (hln : ∀ (i : Nat) (k : ByteArray), p.locks[i]? = some k → k.size ≤ 1048576)
    (hmv : p.vars.length ≤ 1048577) (hmc : p.chans.length ≤ 1048577) (hml : p.locks.length ≤ 1048577) (ok : Nat → Prop) (w : World) (hok : ∀ b, ok b → b < w.heap.size) (hL : PX.Lies ok w p) :
    Calls Tryz.prog 101 #[p.val] w fun e w' => (∃ x, e = .returned (errV (if onceB p.allN then 0 else 2) x)) ∧ Below w.heap.size w w' := by
  obtain ⟨W1, hW1⟩ : ∃ W1, w.alloc (.cells #[.slice p.vbase p.vars.length p.vcap, .slice p.cbase p.chans.length p.ccap, .slice p.nbase p.locks.length p.ncap, .slice p.tbase p.tasks.length p.tcap] 35) = W1 := ⟨_, rfl⟩
  have hs1 : w.heap.size + 1 = W1.heap.size := by rw [← hW1]; simp
  have hB1 : Below w.heap.size w W1 := by rw [← hW1]; exact (Below.refl _ w).alloc (Nat.le_refl _) _
  obtain ⟨V, hV⟩ : ∃ V, W1.drew = V := ⟨_, rfl⟩
  have hsV : W1.heap.size = V.heap.size := by rw [← hV]; rfl
  have hBV : Below w.heap.size w V := by rw [← hV]; exact hB1.drew
  have paV : V.heap[w.heap.size]? = some (.cells #[.slice p.vbase p.vars.length p.vcap, .slice p.cbase p.chans.length p.ccap, .slice p.nbase p.locks.length p.ncap, .slice p.tbase p.tasks.length p.tcap] 35) := by
    rw [← hV, ← hW1]
    exact Array.getElem?_push_size
  have hcells : ∀ A : World, A.heap[w.heap.size]? = some (.cells #[.slice p.vbase p.vars.length p.vcap, .slice p.cbase p.chans.length p.ccap, .slice p.nbase p.locks.length p.ncap, .slice p.tbase p.tasks.length p.tcap] 35) →
      A.cell? ⟨w.heap.size, 0, none⟩ = some (.slice p.vbase p.vars.length p.vcap) ∧ A.cell? ⟨w.heap.size, 1, none⟩ = some (.slice p.cbase p.chans.length p.ccap) ∧ A.cell? ⟨w.heap.size, 2, none⟩ = some (.slice p.nbase p.locks.length p.ncap) ∧ A.cell? ⟨w.heap.size, 3, none⟩ = some (.slice p.tbase p.tasks.length p.tcap) := by
    intro A h1
    refine ⟨?_, ?_, ?_, ?_⟩ <;> simp [World.cell?, h1]
  have hvn := PX.varNames p ok V (fun b hb => by have := hok b hb; omega) (hL.v.under hBV hok) hmv
  have hcn' : ∀ A, Below V.heap.size V A → Calls Tryz.prog 137 #[p.val] A fun e w' => ∃ v, e = .returned v ∧ w'.ownsRow A.heap.size 9 1 v p.chans.length ((p.chans.map CX.name).map Value.string) ∧ Below A.heap.size A w' := by
    intro A hA
    have hzA := hA.size
    exact PX.chanNames p ok A (fun b hb => by have := hok b hb; omega) ((hL.c.under hBV hok).under hA (fun b hb => by have := hok b hb; omega)) hmc
  have hall : ∀ k ∈ p.allN, k.size ≤ 1048576 := by
    intro k hk
    rcases List.mem_append.1 hk with hk | hk
    · obtain ⟨x, hx, rfl⟩ := List.mem_map.1 hk
      obtain ⟨i, hi⟩ := List.getElem?_of_mem hx
      exact hn i x hi
    rcases List.mem_append.1 hk with hk | hk
    · obtain ⟨x, hx, rfl⟩ := List.mem_map.1 hk
      obtain ⟨i, hi⟩ := List.getElem?_of_mem hx
      exact hcn i x hi
    · obtain ⟨i, hi⟩ := List.getElem?_of_mem hk
      exact hln i k hi
  have hlen : p.allN.length = p.vars.length + (p.chans.length + p.locks.length) := by simp [PX.allN]
  have hcat : ∀ (A : World) (va ca : Option Addr) (vc cc : Nat) (bv bc : Nat), V.heap.size ≤ A.heap.size → Below V.heap.size V A → NRow (fun b => bv ≤ b ∧ b < A.heap.size) A va (p.vars.map VX.name) → NRow (fun b => bc ≤ b ∧ b < A.heap.size) A ca (p.chans.map CX.name) →
      Calls Tryz.prog 135 #[.slice (some ⟨A.heap.size, 0, none⟩) 3 3] (A.alloc (.cells #[.slice va p.vars.length vc, .slice ca p.chans.length cc, .slice p.nbase p.locks.length p.ncap] 24)) fun e w' => ∃ a c, e = .returned (.slice a p.allN.length c) ∧ NRow (fun b => A.heap.size + 1 ≤ b ∧ b < w'.heap.size) w' a p.allN ∧ Below A.heap.size A w' := by
    intro A va ca vc cc bv bc hz hA h1 h2
    obtain ⟨B, hB⟩ : ∃ B, A.alloc (.cells #[.slice va p.vars.length vc, .slice ca p.chans.length cc, .slice p.nbase p.locks.length p.ncap] 24) = B := ⟨_, rfl⟩
    have hBB : Below A.heap.size A B := by rw [← hB]; exact (Below.refl _ _).alloc (Nat.le_refl _) _
    have hsB : B.heap.size = A.heap.size + 1 := by rw [← hB]; simp
    have hnw : ∀ j, B.cell? ⟨A.heap.size, j, none⟩ = (#[Value.slice va p.vars.length vc, .slice ca p.chans.length cc, .slice p.nbase p.locks.length p.ncap])[j]? := by intro j; rw [← hB]; exact World.cell?_alloc_new A _ _ j
    have hcc := concatN [(va, p.vars.map VX.name, vc), (ca, p.chans.map CX.name, cc), (p.nbase, p.locks, p.ncap)] (by simp) (by simp [sumL]; omega) A.heap.size (fun b => b < B.heap.size) B (fun b hb => hb) ?_ (by omega)
    · rw [hB]
      refine hcc.mono ?_
      rintro e w' ⟨v, rfl, hown, hBw⟩
      have hcl : catL [(va, p.vars.map VX.name, vc), (ca, p.chans.map CX.name, cc), (p.nbase, p.locks, p.ncap)] = p.allN := by simp [catL, PX.allN]
      have hsl : sumL [(va, p.vars.map VX.name, vc), (ca, p.chans.map CX.name, cc), (p.nbase, p.locks, p.ncap)] = p.allN.length := by rw [← catL_len, hcl]
      rw [hcl, hsl] at hown
      obtain ⟨a, c, rfl, hrow⟩ := names_row hown
      rw [hsB] at hrow
      exact ⟨a, c, rfl, hrow, hBB.trans (hBw.mono (by omega))⟩
    · intro i x hx
      have h3 : i = 0 ∨ i = 1 ∨ i = 2 := by have := (List.getElem?_eq_some_iff.1 hx).1; simp at this; omega
      rcases h3 with rfl | rfl | rfl
      · cases hx
        exact ⟨by rw [hnw]; simp [L3.val], (h1.under hBB (fun b hb => hb.2)).mono (fun b hb h => ⟨h, rfl⟩)⟩
      · cases hx
        exact ⟨by rw [hnw]; simp [L3.val], (h2.under hBB (fun b hb => hb.2)).mono (fun b hb h => ⟨h, rfl⟩)⟩
      · cases hx
        exact ⟨by rw [hnw]; simp [L3.val], (((hL.n.under hBV hok).under hA (fun b hb => by have := hok b hb; omega)).under hBB (fun b hb => by have := hok b hb; omega)).mono (fun b hb h => ⟨h, rfl⟩)⟩
  go_enter Tryz.func101, Tryz.ntmps101
  go_wp2_with fail
  try rw [hW1]
  obtain ⟨x0, x1, x2, x3⟩ := hcells V paV
  go_region_held3 (fun w' => w'.cell? ⟨w.heap.size, 0, none⟩ = some (.slice p.vbase p.vars.length p.vcap) ∧ w'.cell? ⟨w.heap.size, 1, none⟩ = some (.slice p.cbase p.chans.length p.ccap) ∧ w'.cell? ⟨w.heap.size, 2, none⟩ = some (.slice p.nbase p.locks.length p.ncap) ∧ w'.cell? ⟨w.heap.size, 3, none⟩ = some (.slice p.tbase p.tasks.length p.tcap)) (simp [*, go_sem, World.cell?_alloc_some, World.cell?_setCell_far, apart1, apart2, apart3, apart4, apart5, apart6]) (first
    | (go_at_call 135; refine (hcat v2 va ca vc' cc' _ _ (by omega) hbV2 hrow1' hrow3).mono ?_; rintro e v3 ⟨na, nc, rfl, hrowN, hb3⟩; (have pav3 := (hb3.block w.heap.size (by omega)).trans pav2); (obtain ⟨x0, x1, x2, x3⟩ := hcells v3 pav3); (have hzv3 := hb3.size); (have hbV3 := hbV2.trans (hb3.mono (by omega))))
    | (go_at_call 137; refine (hcn' v1 hbV1).mono ?_; rintro e v2 ⟨cv, rfl, hown3, hb2⟩; (obtain ⟨ca, cc', hcv, hrow3⟩ := names_row (l := p.chans.map CX.name) (by rw [List.length_map]; exact hown3)); (rw [List.length_map] at hcv); subst hcv; (have pav2 := (hb2.block w.heap.size (by omega)).trans pav1); (obtain ⟨x0, x1, x2, x3⟩ := hcells v2 pav2); (have hzv2 := hb2.size); (have hbV2 := hbV1.trans (hb2.mono (by omega))); (have hrow1' := (hrow1.under hb2 (fun b hb => hb.2)).mono (ok' := fun b => V.heap.size ≤ b ∧ b < v2.heap.size) (fun b hb h => ⟨⟨hb.1, h⟩, rfl⟩)))
    | (go_at_call 136; refine hvn.mono ?_; rintro e v1 ⟨vv, rfl, hown1, hb1⟩; (obtain ⟨va, vc', hvv, hrow1⟩ := names_row (l := p.vars.map VX.name) (by rw [List.length_map]; exact hown1)); (rw [List.length_map] at hvv); subst hvv; (have pav1 := (hb1.block w.heap.size (by omega)).trans paV); (obtain ⟨x0, x1, x2, x3⟩ := hcells v1 pav1); (have hzv1 := hb1.size); (have hbV1 := hb1)))
  have hz3' := hbV3.size
  have hpl := placesOf p.allN na nc _ v3 (fun b hb => hb.2) hrowN (by omega) (fun i k hk => hall k (List.mem_of_getElem? hk))
  obtain ⟨N, hN⟩ : ∃ N, p.vars.length + (p.chans.length + p.locks.length) = N := ⟨_, rfl⟩
  rw [hN] at hlen
  rw [hlen] at hpl
  have hN4 : N ≤ 3145731 := by omega
  rw [hN]
  have hBw3 : Below w.heap.size w v3 := hBV.trans (hbV3.mono (by omega))
  clear hvn hcn' hcat hcells x0 x1 x2 x3
  go_wp2_with fail
  go_at_call 138
  refine hpl.mono ?_
  clear hpl
  rintro e v4 ⟨D, rfl, hownM, hF, hb4⟩
  have hM : MX v4 v3.heap.size p.allN := ⟨_, D, hownM, hF⟩
  have hrow4 := hrowN.under hb4 (fun b hb => hb.2)
  have hBw4 : Below w.heap.size w v4 := hBw3.trans (hb4.mono hBw3.size)
  clear hownM hF hrowN
  go_wp2_with fail
  go_loopw [19] (fun v19 wr => ∃ (i : Nat), v19 = .int .i64 i ∧ i ≤ N ∧ wr = v4 ∧ (∀ (j : Nat) (x : ByteArray), j < i → p.allN[j]? = some x → (j : Int) ≤ firstOf p.allN x)) (fun v19 _ => N - (intOf v19).toNat)
  case atStart => exact ⟨0, rfl, by omega, rfl, fun j x hj => by omega⟩
  case round =>
    obtain ⟨i, rfl, hi, hwr, hgood⟩ := hrel
    subst wr
    by_cases hlt : i < N
    · obtain ⟨x, hx⟩ : ∃ x, p.allN[i]? = some x := ⟨_, List.getElem?_eq_getElem (by omega)⟩
      obtain ⟨b1, o1, hbase1, hok1, hc1⟩ := hrow4 i x hx
      have hP := placeM hM x (hall x (List.mem_of_getElem? hx))
      obtain ⟨fl, hfl⟩ : ∃ fl, firstOf p.allN x = fl := ⟨_, rfl⟩
      rw [hfl] at hP
      by_cases hbd : fl < (i : Int)
      · have hb := onceB_bad hx (by rw [hfl]; exact hbd)
        clear hx hrow4 hgood hfl
        subst hbase1
        go_wp2_with fail
        go_at_call 139
        refine hP.mono ?_
        rintro e w5 ⟨rfl, hw5⟩
        subst w5
        go_wp2_with fail
        all_goals first | (exfalso; omega) | skip
        all_goals
          go_returns
          exact ⟨⟨x, by first | rfl | (rw [hb]; rfl)⟩, hBw4⟩
      · have hg : ∀ (j : Nat) (y : ByteArray), j < i + 1 → p.allN[j]? = some y → (j : Int) ≤ firstOf p.allN y := by
          intro j y hj hy
          by_cases e : j = i
          · subst e
            rw [hx] at hy
            cases hy
            omega
          · exact hgood j y (by omega) hy
        clear hx hrow4 hgood hfl
        subst hbase1
        go_wp2_with fail
        go_at_call 139
        refine hP.mono ?_
        rintro e w5 ⟨rfl, hw5⟩
        subst w5
        go_wp2_with fail
        all_goals first | (exfalso; omega) | skip
        refine ⟨⟨i + 1, by go_num, by omega, by first | rfl | trivial, hg⟩, by simp [intOf]; omega⟩
    · have hg : onceB p.allN = true := onceB_good (fun j x hx => hgood j x (by have := (List.getElem?_eq_some_iff.1 hx).1; omega) hx)
      clear hgood hrow4
      go_wp2_with fail
      all_goals first | (exfalso; omega) | skip
      go_returns
      exact ⟨⟨ByteArray.empty, by first | rfl | (rw [hg]; rfl)⟩, hBw4⟩
end Go.Proofs.YtaajdoipjalgmaaGreatDoor
namespace Go.Proofs.YtaajdoipjalgmaaGreatDoor
open Go.RowKit Go.Shelf Go.Maps
set_option linter.unusedSimpArgs false
set_option linter.unusedVariables false
attribute [local go_sem] Oper.semAt_some

def badU (p : PX) (task : Int) : List UX → Int
  | [] => 0
  | u :: r => if p.wrongI task u = 0 then badU p task r else p.wrongI task u
def badT (p : PX) (i : Nat) : List LX → Int
  | [] => 0
  | t :: r => if badU p i (usesL (SX.withinAll t.l 0)) = 0 then badT p (i + 1) r else badU p i (usesL (SX.withinAll t.l 0))
def PX.namesI (p : PX) : Int :=
  if p.okI = false then 1 else if onceB p.allN = false then 2 else if locksB p.vars p.locks = false then 3 else badT p 0 p.tasks
theorem badU_hit {p : PX} {task : Int} {us pre : List UX} {u : UX} (h : pre ++ [u] <+: us) (hg : ∀ y ∈ pre, p.wrongI task y = 0) (hb : ¬ p.wrongI task u = 0) : badU p task us = p.wrongI task u := by
  obtain ⟨r, rfl⟩ := h
  induction pre with
  | nil => simp [badU, hb]
  | cons y q ih =>
    simp only [List.cons_append, badU]
    rw [if_pos (hg y (by simp))]
    exact ih (fun z hz => hg z (by simp [hz]))
theorem badU_none {p : PX} {task : Int} {us : List UX} (hg : ∀ y ∈ us, p.wrongI task y = 0) : badU p task us = 0 := by
  induction us with
  | nil => rfl
  | cons y q ih =>
    simp only [badU]
    rw [if_pos (hg y (by simp))]
    exact ih (fun z hz => hg z (by simp [hz]))
theorem badT_hit {p : PX} : ∀ (ts : List LX) (k i : Nat) (t : LX), ts[i]? = some t → (∀ (j : Nat) (y : LX), j < i → ts[j]? = some y → badU p ((k + j : Nat) : Int) (usesL (SX.withinAll y.l 0)) = 0) → ¬ badU p ((k + i : Nat) : Int) (usesL (SX.withinAll t.l 0)) = 0 → badT p k ts = badU p ((k + i : Nat) : Int) (usesL (SX.withinAll t.l 0))
  | [], k, i, t, h, _, _ => by simp at h
  | y :: r, k, 0, t, h, _, hb => by
    simp at h
    subst h
    simp only [badT]
    rw [if_neg (by simpa using hb)]
    simp
  | y :: r, k, i + 1, t, h, hg, hb => by
    simp only [List.getElem?_cons_succ] at h
    simp only [badT]
    rw [if_pos (by simpa using hg 0 y (by omega) rfl)]
    have h1 := badT_hit r (k + 1) i t h (fun j z hj hz => by have := hg (j + 1) z (by omega) (by simpa using hz); rw [show k + 1 + j = k + (j + 1) from by omega]; exact this) (by rw [show k + 1 + i = k + (i + 1) from by omega]; exact hb)
    rw [h1, show k + 1 + i = k + (i + 1) from by omega]
theorem badT_none {p : PX} : ∀ (ts : List LX) (k : Nat), (∀ (j : Nat) (y : LX), ts[j]? = some y → badU p ((k + j : Nat) : Int) (usesL (SX.withinAll y.l 0)) = 0) → badT p k ts = 0
  | [], _, _ => rfl
  | y :: r, k, hg => by
    simp only [badT]
    rw [if_pos (by simpa using hg 0 y rfl)]
    exact badT_none r (k + 1) (fun j z hz => by have := hg (j + 1) z (by simpa using hz); rw [show k + 1 + j = k + (j + 1) from by omega]; exact this)
theorem XT.parts_good (sz : Nat) : ∀ (t : XT), t.size ≤ sz → Good t → ∀ (d : Int), ∀ x ∈ t.parts d, Good x.2 := by
  induction sz with
  | zero => intro t h; rw [XT.size_eq] at h; omega
  | succ sz ih =>
    intro t hsz hG d x hx
    rw [XT.parts_eq] at hx
    rcases List.mem_cons.1 hx with rfl | hx
    · exact hG
    · have hk : ∀ (ks : List XT) (d : Int), (∀ k ∈ ks, k.size ≤ sz ∧ Good k) → ∀ x ∈ XT.partsAll ks d, Good x.2 := by
        intro ks
        induction ks with
        | nil => intro d _ x hx; simp [XT.partsAll] at hx
        | cons k r ihk =>
          intro d hks x hx
          rw [XT.partsAll, List.mem_append] at hx
          rcases hx with hx | hx
          · exact ih k (hks k (by simp)).1 (hks k (by simp)).2 d x hx
          · exact ihk d (fun y hy => hks y (by simp [hy])) x hx
      refine hk t.kids _ (fun k hkm => ?_) x hx
      obtain ⟨i, hi⟩ := List.getElem?_of_mem hkm
      have h1 := XT.size_get hi
      have h2 := t.size_eq
      exact ⟨by omega, hG.kid i k hi⟩
theorem useE_name {t : XT} (h : Good t) : (useE t).name.size ≤ 1048576 := by
  unfold useE
  dsimp only
  split
  · exact Nat.zero_le _
  · exact h.name
theorem useName {s : SX} (h : SmallS s) : (useS s).name.size ≤ 1048576 ∧ ∀ u ∈ usesE s.e ++ usesE s.f, u.name.size ≤ 1048576 := by
  obtain ⟨h1, h2, h3, -⟩ := h.parts
  refine ⟨?_, ?_⟩
  · unfold useS
    dsimp only
    split
    · exact Nat.zero_le _
    · exact h1
  · intro u hu
    rcases List.mem_append.1 hu with hu | hu
    · obtain ⟨x, hx, rfl⟩ := List.mem_map.1 hu
      exact useE_name (XT.parts_good _ s.e (Nat.le_refl _) h2.2 1 x hx)
    · obtain ⟨x, hx, rfl⟩ := List.mem_map.1 hu
      exact useE_name (XT.parts_good _ s.f (Nat.le_refl _) h3.2 1 x hx)
theorem usesOfT (a : Option Addr) (len c : Nat) (w : World) :
    Calls Tryz.prog 104 #[.slice a len c] w fun e w' => e = .returned (.func (.func 140) #[] #[.pointer (some ⟨w.heap.size, 0, none⟩)]) ∧ w' = w.alloc (.cells #[.slice a len c] 81) := by
  go_enter Tryz.func104, Tryz.ntmps104
  go_wp2
  go_returns
  exact ⟨rfl, rfl⟩
theorem errNil (w : World) : (binOp BinOp.neq 108 .nilIface .nilIface).run Tryz.prog w = .ok (.bool false) w := by kernel_rfl
theorem errName (c : Int) (x : ByteArray) (w : World) : (binOp BinOp.neq 108 (nameV c x) .nilIface).run Tryz.prog w = .ok (.bool true) w := by kernel_rfl
set_option maxRecDepth 100000 in
set_option maxHeartbeats 8000000 in
theorem wrongInT (p : PX) (hm : p.Small) (hN : p.Names) (hT : ∀ (i : Nat) (t : LX), p.tasks[i]? = some t → SX.sizeAll t.l ≤ 1048577) (ok : Nat → Prop) (w : World) (hok : ∀ b, ok b → b < w.heap.size) (hL : PX.Lies ok w p) :
    Calls Tryz.prog 71 #[p.val] w fun e w' => (∃ x, e = .returned (errV p.namesI x)) ∧ Below w.heap.size w w' := by
  obtain ⟨W1, hW1⟩ : ∃ W1, w.alloc (.cells #[.slice p.vbase p.vars.length p.vcap, .slice p.cbase p.chans.length p.ccap, .slice p.nbase p.locks.length p.ncap, .slice p.tbase p.tasks.length p.tcap] 35) = W1 := ⟨_, rfl⟩
  obtain ⟨W2, hW2⟩ : ∃ W2, W1.alloc (.cells #[.nilIface] 108) = W2 := ⟨_, rfl⟩
  have hs1 : w.heap.size + 1 = W1.heap.size := by rw [← hW1]; simp
  have hs2 : W1.heap.size + 1 = W2.heap.size := by rw [← hW2]; simp
  have hB2 : Below w.heap.size w W2 := by rw [← hW2, ← hW1]; exact ((Below.refl _ w).alloc (Nat.le_refl _) _).alloc (by simp) _
  have pa : W2.heap[w.heap.size]? = some (.cells #[.slice p.vbase p.vars.length p.vcap, .slice p.cbase p.chans.length p.ccap, .slice p.nbase p.locks.length p.ncap, .slice p.tbase p.tasks.length p.tcap] 35) := by
    rw [← hW2]
    refine (Below.heap_alloc _ _ _ (by omega)).trans ?_
    rw [← hW1]
    exact Array.getElem?_push_size
  have pb : Boxed W2 W1.heap.size 108 .nilIface := by rw [← hW2]; exact Boxed.new W1 108 .nilIface
  have hcells : ∀ A : World, A.heap[w.heap.size]? = W2.heap[w.heap.size]? → A.cell? ⟨w.heap.size, 0, none⟩ = some (.slice p.vbase p.vars.length p.vcap) ∧ A.cell? ⟨w.heap.size, 1, none⟩ = some (.slice p.cbase p.chans.length p.ccap) ∧ A.cell? ⟨w.heap.size, 2, none⟩ = some (.slice p.nbase p.locks.length p.ncap) ∧ A.cell? ⟨w.heap.size, 3, none⟩ = some (.slice p.tbase p.tasks.length p.tcap) := by
    intro A h1
    rw [pa] at h1
    refine ⟨?_, ?_, ?_, ?_⟩ <;> simp [World.cell?, h1]
  have hL2 := hL.under hB2 hok
  have hok2 : ∀ b, ok b → b < W2.heap.size := fun b hb => by have := hok b hb; omega
  have hTree := PX.implOk p hm hN (fun i t ht => by have := hT i t ht; omega) ok W2 hok2 hL2
  obtain ⟨n, -⟩ : ∃ n : Nat, True := ⟨0, trivial⟩
  refine (callsIn_wide (n := n)).1 ?_
  refine callsIn_of_wp_marks Tryz.func71 rfl trivial ?_ rfl
  simp only [Tryz.ntmps71, List.size_toArray, List.length_cons, List.length_nil, Nat.reduceAdd, Nat.reduceSub, Array.replicate_succ, Array.replicate_zero, List.push_toArray, List.append_toArray, List.nil_append, List.cons_append]
  obtain ⟨c0, c1, c2, c3⟩ := hcells W2 rfl
  have qn := errNil
  have qe := errName
  have fin : ∀ (X : World) (v : Value) (tm : Array Value) (ds : List Nat), tm.getD 2 undef = .pointer (some ⟨W1.heap.size, 0, none⟩) → Boxed X W1.heap.size 108 v → (∀ D ∈ ds, W2.heap.size ≤ D ∧ X.heap[D]? = some (.deferred (some []))) → ds.Nodup → Below w.heap.size w X → (∃ x, v = errV p.namesI x) →
      LeavesInM Fence.wide n Tryz.prog Tryz.f71 tm (fun e w' => (∃ x, e = .returned (errV p.namesI x)) ∧ Below w.heap.size w w') (ds.map mark) .returning X := by
    rintro X v tm ds htm hbx hds hnd hBX ⟨x, rfl⟩
    have hzX := hBX.size
    have hlX := World.block_lt_of_cell? X _ hbx.cell
    dsimp only at hlX
    refine leave_marks ds X hnd (fun D hD => (hds D hD).2) (fun W' hk => ?_)
    have hb' : Boxed W' W1.heap.size 108 (errV p.namesI x) := (hk.block _ hlX (fun h => by have := (hds _ h).1; omega)).trans hbx
    have hcc := hb'.cell
    refine ⟨errV p.namesI x, ?_, ⟨x, rfl⟩, hBX.trans (hk.below hzX (fun k h => by have := (hds _ h).1; omega))⟩
    have htm2 : tm[2]?.getD undef = .pointer (some ⟨W1.heap.size, 0, none⟩) := by simpa using htm
    simp [results, Tryz.results71, go_sem, htm2, hcc]
  gi_wp2
  refine ⟨trivial, (fun h => by cases h), (callsIn_wide.2 hTree).mono ?_⟩
  rintro e w3 ⟨rfl, hB3⟩
  have hz3 := hB3.size
  have hBw3 := hB2.trans (hB3.mono hB2.size)
  have pb3 : Boxed w3 W1.heap.size 108 .nilIface := (hB3.block _ (by omega)).trans pb
  have hx3 := hB3.block w.heap.size (by omega)
  have hL3 := hL2.under hB3 hok2
  clear c0 c1 c2 c3 hTree
  obtain ⟨c0, c1, c2, c3⟩ := hcells w3 hx3
  have hbc := pb3.cell
  have hbf := pb3.frozen
  cases hok1 : p.okI
  · gi_wp2
    exact fin _ (nameV 1 ⟨#[]⟩) _ [] rfl (pb3.set _) (by simp) List.nodup_nil (hBw3.setCell (p := ⟨W1.heap.size, 0, none⟩) (by dsimp only; omega) _) ⟨⟨#[]⟩, by unfold PX.namesI errV; rw [if_pos hok1]; rfl⟩
  have hnI : p.namesI = if onceB p.allN = false then 2 else if locksB p.vars p.locks = false then 3 else badT p 0 p.tasks := by unfold PX.namesI; rw [if_neg (by rw [hok1]; simp)]
  have hok3 : ∀ b, ok b → b < w3.heap.size := fun b hb => by have := hok2 b hb; omega
  have htw := twiceInT p (fun i x h => (hN.v i x h).1) hN.c hN.n (by have := hm.vl; omega) (by have := hm.cl; omega) (by have := hm.nl; omega) ok w3 hok3 hL3
  gi_wp2
  refine ⟨trivial, (fun h => by cases h), (callsIn_wide.2 htw).mono ?_⟩
  clear htw
  rintro e w4 ⟨⟨x4, rfl⟩, hB4⟩
  have hz4 := hB4.size
  have hBw4 := hBw3.trans (hB4.mono hBw3.size)
  have pb4 : Boxed w4 W1.heap.size 108 .nilIface := (hB4.block _ (by omega)).trans pb3
  have hx4 := (hB4.block w.heap.size (by omega)).trans hx3
  have hL4 := hL3.under hB4 hok3
  clear c0 c1 c2 c3 hbc hbf
  obtain ⟨c0, c1, c2, c3⟩ := hcells w4 hx4
  have hbc := pb4.cell
  have hbf := pb4.frozen
  cases honce : onceB p.allN
  · rw [honce] at hnI
    simp only [if_true] at hnI
    rw [show errV (if false = true then 0 else 2) x4 = nameV 2 x4 from rfl]
    gi_wp2
    exact fin _ (nameV 2 x4) _ [] rfl (pb4.set _) (by simp) List.nodup_nil (hBw4.setCell (p := ⟨W1.heap.size, 0, none⟩) (by dsimp only; omega) _) ⟨x4, by rw [hnI]; rfl⟩
  rw [honce] at hnI
  simp only [Bool.true_eq_false, if_false] at hnI
  rw [show errV (if true = true then 0 else 2) x4 = .nilIface from rfl]
  have hok4 : ∀ b, ok b → b < w4.heap.size := fun b hb => by have := hok3 b hb; omega
  have hsc := scopeOfT p (fun i x h => (hN.v i x h).1) hN.c hN.n (by have := hm.vl; omega) (by have := hm.cl; omega) (by have := hm.nl; omega) ok w4 hok4 hL4
  gi_wp2
  refine ⟨trivial, (fun h => by cases h), (callsIn_wide.2 hsc).mono ?_⟩
  clear hsc
  rintro e w5 ⟨mv, mc, mn, rfl, hSC, hB5⟩
  have hz5 := hB5.size
  have hBw5 := hBw4.trans (hB5.mono hBw4.size)
  have hL5 := hL4.under hB5 hok4
  have hok5 : ∀ b, ok b → b < w5.heap.size := fun b hb => by have := hok4 b hb; omega
  obtain ⟨W6, hW6⟩ : ∃ W6, w5.alloc (.cells #[.slice p.vbase p.vars.length p.vcap, .slice p.cbase p.chans.length p.ccap, .slice p.nbase p.locks.length p.ncap, .slice p.tbase p.tasks.length p.tcap, .map (some mv), .map (some mc), .map (some mn)] 159) = W6 := ⟨_, rfl⟩
  have hs6 : w5.heap.size + 1 = W6.heap.size := by rw [← hW6]; simp
  have hB6 : Below w5.heap.size w5 W6 := by rw [← hW6]; exact (Below.refl _ _).alloc (Nat.le_refl _) _
  have ps : W6.heap[w5.heap.size]? = some (.cells #[.slice p.vbase p.vars.length p.vcap, .slice p.cbase p.chans.length p.ccap, .slice p.nbase p.locks.length p.ncap, .slice p.tbase p.tasks.length p.tcap, .map (some mv), .map (some mc), .map (some mn)] 159) := by rw [← hW6]; exact Array.getElem?_push_size
  have hsce : ∀ A : World, A.heap[w5.heap.size]? = W6.heap[w5.heap.size]? → A.cell? ⟨w5.heap.size, 0, none⟩ = some (.slice p.vbase p.vars.length p.vcap) ∧ A.cell? ⟨w5.heap.size, 1, none⟩ = some (.slice p.cbase p.chans.length p.ccap) ∧ A.cell? ⟨w5.heap.size, 2, none⟩ = some (.slice p.nbase p.locks.length p.ncap) ∧ A.cell? ⟨w5.heap.size, 3, none⟩ = some (.slice p.tbase p.tasks.length p.tcap) ∧ A.cell? ⟨w5.heap.size, 4, none⟩ = some (.map (some mv)) ∧ A.cell? ⟨w5.heap.size, 5, none⟩ = some (.map (some mc)) ∧ A.cell? ⟨w5.heap.size, 6, none⟩ = some (.map (some mn)) := by
    intro A h1
    rw [ps] at h1
    refine ⟨?_, ?_, ?_, ?_, ?_, ?_, ?_⟩ <;> simp [World.cell?, h1]
  have hSC6 := hSC.new hB6
  have hL6 := hL5.under hB6 hok5
  have hok6 : ∀ b, ok b → b < W6.heap.size := fun b hb => by have := hok5 b hb; omega
  have pb6 : Boxed W6 W1.heap.size 108 .nilIface := (hB6.block _ (by omega)).trans ((hB5.block _ (by omega)).trans pb4)
  have hx6 := (hB6.block w.heap.size (by omega)).trans ((hB5.block w.heap.size (by omega)).trans hx4)
  have hwl := wrongLockT p mv mc mn (fun i x h => (hN.v i x h).2) ok W6 hok6 hSC6 hL6.v (by have := hm.vl; omega)
  have hBw6 := hBw5.trans (hB6.mono hBw5.size)
  clear c0 c1 c2 c3 hbc hbf
  obtain ⟨e0, e1, e2, e3, e4, e5, e6⟩ := hsce W6 rfl
  gi_wp2
  refine ⟨trivial, (fun h => by cases h), (callsIn_wide.2 hwl).mono ?_⟩
  clear hwl
  rintro e w7 ⟨⟨x7, rfl⟩, hB7⟩
  have hz7 := hB7.size
  have hBw7 := hBw6.trans (hB7.mono hBw6.size)
  have pb7 : Boxed w7 W1.heap.size 108 .nilIface := (hB7.block _ (by omega)).trans pb6
  have hx7 := (hB7.block w.heap.size (by omega)).trans hx6
  have hbc := pb7.cell
  have hbf := pb7.frozen
  clear e0 e1 e2 e3 e4 e5 e6
  obtain ⟨c0, c1, c2, c3⟩ := hcells w7 hx7
  cases hlk : locksB p.vars p.locks
  · rw [hlk] at hnI
    simp only [if_true] at hnI
    rw [show errV (if false = true then 0 else 3) x7 = nameV 3 x7 from rfl]
    gi_wp2
    exact fin _ (nameV 3 x7) _ [] rfl (pb7.set _) (by simp) List.nodup_nil (hBw7.setCell (p := ⟨W1.heap.size, 0, none⟩) (by dsimp only; omega) _) ⟨x7, by rw [hnI]; rfl⟩
  rw [hlk] at hnI
  simp only [Bool.true_eq_false, if_false] at hnI
  rw [show errV (if true = true then 0 else 3) x7 = .nilIface from rfl]
  have hSC7 := hSC6.new hB7
  have hL7 := hL6.under hB7 hok6
  have hsc7 := hB7.block w5.heap.size (by omega)
  have hes : ∀ (j : Nat) (t : LX), p.tasks[j]? = some t → ∀ x ∈ SX.withinAll t.l 0, SmallS x.2 := fun j t ht => SX.within_all SmallS (fun s hs => ⟨hs.parts.2.2.2.2.1, hs.parts.2.2.2.2.2⟩) _ t.l (Nat.le_refl _) ((hm.t j t ht).kid) 0
  have htl := hm.tl
  have hvl := hm.vl
  have hokW : ∀ b, ok b → b < w.heap.size := hok
  gi_wp2
  refine wpIn_loop (fun A w' => ∃ (i : Nat) (ds : List Nat) (u6 u7 u31 u32 u33 u34 u35 u36 u45 : Value), A = ⟨#[p.val, .pointer (some ⟨w.heap.size, 0, none⟩), .pointer (some ⟨W1.heap.size, 0, none⟩), .nilIface, .pointer (some ⟨w5.heap.size, 0, none⟩), .nilIface, u6, u7, undef, undef, p.val, .bool true, .bool false, undef, undef, p.val, .nilIface, .nilIface, .bool false, undef, p.val, scV p mv mc mn, scV p mv mc mn, .nilIface, .nilIface, .bool false, undef,
      .pointer (some ⟨w.heap.size, 3, none⟩), .slice p.tbase p.tasks.length p.tcap, .int .i64 p.tasks.length, .int .i64 i, u31, u32, u33, u34, u35, u36, undef, undef, undef, undef, undef, undef, undef, undef, u45], ds.map mark⟩ ∧
      i ≤ p.tasks.length ∧ ds.Nodup ∧ (∀ D ∈ ds, W2.heap.size ≤ D ∧ w'.heap[D]? = some (.deferred (some []))) ∧ Below w.heap.size w w' ∧ w7.heap.size ≤ w'.heap.size ∧ Boxed w' W1.heap.size 108 .nilIface ∧ w'.heap[w5.heap.size]? = W6.heap[w5.heap.size]? ∧ SC w' p mv mc mn ∧ PX.Lies ok w' p ∧
      (∀ (j : Nat) (y : LX), j < i → p.tasks[j]? = some y → badU p j (usesL (SX.withinAll y.l 0)) = 0))
    (fun A _ => p.tasks.length - (intOf (A.tmps.getD 30 undef)).toNat) ?_ ?_
  · exact ⟨0, [], _, _, _, _, _, _, _, _, _, rfl, by omega, List.nodup_nil, by simp, hBw7, Nat.le_refl _, pb7, hsc7, hSC7, hL7, fun j y hj => by omega⟩
  · clear hSC7 hL7 hsc7 pb7 hBw7 c0 c1 c2 c3 hbc hbf
    rintro A w' ⟨i, ds, u6, u7, u31, u32, u33, u34, u35, u36, u45, rfl, hi, hnd, hds, hBw, hzw, hbx, hsw, hSCw, hLw, hgood⟩
    have hbx0 := hbx.cell
    by_cases hlt : i < p.tasks.length
    case neg =>
      have hne : badT p 0 p.tasks = 0 := badT_none p.tasks 0 (fun j y hy => by have := hgood j y (by have := (List.getElem?_eq_some_iff.1 hy).1; omega) hy; simpa using this)
      have hbc := hbx.cell
      have hbf := hbx.frozen
      gi_wp2
      exact fin _ .nilIface _ ds rfl (hbx.set _) (fun D hD => ⟨(hds D hD).1, (Below.heap_setCell _ _ _ _ (by dsimp only; have := (hds D hD).1; omega)).trans (hds D hD).2⟩) hnd (hBw.setCell (p := ⟨W1.heap.size, 0, none⟩) (by dsimp only; omega) _) ⟨ByteArray.empty, by rw [hnI, hne]; rfl⟩
    obtain ⟨t, ht⟩ : ∃ t, p.tasks[i]? = some t := ⟨_, List.getElem?_eq_getElem hlt⟩
    obtain ⟨b, o, hbase, hob, hct⟩ := hLw.t i t ht
    obtain ⟨hrow, hkid⟩ := hLw.k i t ht
    have hsm := hes i t ht
    have hsz := hT i t ht
    have hcells' : w'.cell? ⟨b, o + i, none⟩ = some (.slice t.base t.l.length t.cap) := hct
    rw [hbase]
    gi_wp2
    refine ⟨trivial, (fun h => by cases h), (callsIn_wide.2 (usesOfT t.base t.l.length t.cap _)).mono ?_⟩
    rintro e w8 ⟨rfl, hw8⟩
    subst w8
    gi_wp2
    obtain ⟨V1, hV1⟩ : ∃ V1, w'.alloc (.cells #[.int .i64 i] 3) = V1 := ⟨_, rfl⟩
    obtain ⟨V2, hV2⟩ : ∃ V2, V1.alloc (.cells #[.slice t.base t.l.length t.cap] 81) = V2 := ⟨_, rfl⟩
    rw [hV1, hV2]
    have v1 : V1.heap.size = w'.heap.size + 1 := by rw [← hV1]; simp
    have v2 : V2.heap.size = w'.heap.size + 2 := by rw [← hV2]; simp [v1]
    have hBV : Below w'.heap.size w' V2 := by rw [← hV2, ← hV1]; exact ((Below.refl _ w').alloc (Nat.le_refl _) _).alloc (by simp) _
    have hti : Boxed V2 w'.heap.size 3 (.int .i64 i) := by
      have h1 := (Boxed.new w' 3 (.int .i64 i)).alloc (.cells #[.slice t.base t.l.length t.cap] 81)
      rw [hV1, hV2] at h1
      exact h1
    have htl' : V2.cell? ⟨w'.heap.size + 1, 0, none⟩ = some (.slice t.base t.l.length t.cap) := by
      have h1 := Boxed.new V1 81 (.slice t.base t.l.length t.cap)
      rw [hV2, v1] at h1
      exact h1.cell
    clear hV1 hV2
    have hdw : ∀ D ∈ ds, D < w'.heap.size := fun D h => (Array.getElem?_eq_some_iff.1 (hds D h).2).1
    have hwl' : W1.heap.size < w'.heap.size := by have := World.block_lt_of_cell? w' _ hbx0; dsimp only at this; exact this
    have hokv : ∀ b, ok b → b < w'.heap.size := fun b hb => by have := hokW b hb; omega
    have hnm : ∀ u ∈ usesL (SX.withinAll t.l 0), u.name.size ≤ 1048576 := by
      intro u hu
      obtain ⟨x, hx, hux⟩ := List.mem_flatMap.1 hu
      obtain ⟨k1, k2⟩ := useName (hsm x hx)
      rcases List.mem_cons.1 hux with rfl | hux
      · exact k1
      · exact k2 u hux
    refine range_law (gf := 140) (lb := #[.pointer (some ⟨w'.heap.size + 1, 0, none⟩)]) rfl (enters_of Tryz.func140 (by kernel_rfl) rfl) useV (fun _ => rfl) (usesL (SX.withinAll t.l 0)) (fun k => k = W1.heap.size)
      (fun pre X => Boxed X W1.heap.size 108 .nilIface ∧ X.heap[w5.heap.size]? = W6.heap[w5.heap.size]? ∧ SC X p mv mc mn ∧ PX.Lies ok X p ∧ Boxed X w'.heap.size 3 (.int .i64 i) ∧ (∀ y ∈ pre, p.wrongI i y = 0) ∧ (∀ D ∈ ds, X.heap[D]? = some (.deferred (some []))))
      (fun pre X => (∃ c x, Boxed X W1.heap.size 108 (nameV c x) ∧ ¬ c = 0 ∧ badU p i (usesL (SX.withinAll t.l 0)) = c) ∧ (∀ D ∈ ds, X.heap[D]? = some (.deferred (some []))))
      (fun k h => by omega)
      (fun pre A B h ⟨h1, h2, h3, h4, h5, h6, h7⟩ => ⟨(h.block _ (by omega)).trans h1, (h.block _ (by omega)).trans h2, h3.below h (by have := hSCw.v.lt; omega) (by have := hSCw.c.lt; omega) (by have := hSCw.n.lt; omega), h4.under h (fun b hb => by have := hokv b hb; omega), (h.block _ (by omega)).trans h5, h6, fun D hD => (h.block D (by have := hdw D hD; omega)).trans (h7 D hD)⟩)
      (fun pre A B h ⟨⟨c, x, h1, h2⟩, h7⟩ => ⟨⟨c, x, (h.block _ (by omega)).trans h1, h2⟩, fun D hD => (h.block D (by have := hdw D hD; omega)).trans (h7 D hD)⟩)
      ⟨(hBV.block _ hwl').trans hbx, (hBV.block _ (by omega)).trans hsw, hSCw.new hBV, hLw.under hBV hokv, hti, by simp, fun D hD => (hBV.block D (hdw D hD)).trans (hds D hD).2⟩
      ?hit ?hround ?hdone ?hstop
    case hit =>
      intro X hBX hsX
      refine uses1 t.l (by omega) (fun x hx => by have := (hsm x hx).parts; exact ⟨by omega, by omega⟩) t.base t.cap _ _ ok X ?_ ?_ (below_cell hBX htl' (by dsimp only; omega)) ?_ ?_ ?_
      · rintro j (h | h) <;> omega
      · intro b hb
        have h1 := hokW b hb
        have h2 := hokv b hb
        exact ⟨by rintro (h | h) <;> omega, by omega⟩
      · rintro (h | h) <;> omega
      · exact (hrow.under hBV hokv).under hBX (fun b hb => by have := hokv b hb; omega)
      · exact fun j k hk => ((hkid j k hk).under hBV hokv).under hBX (fun b hb => by have := hokv b hb; omega)
    case hdone =>
      rintro D X hD ⟨h1, h2, h3, h4, h5, h6, h7⟩ hkX hdX
      have hBX : Below w.heap.size w X := (hBw.trans (hBV.mono (by omega))).trans (hkX.below (by omega) (fun k hk => by omega))
      gi_wp2
      refine ⟨⟨i + 1, D :: ds, _, _, _, _, _, _, _, _, _, by first | rfl | (rw [hbase]; rfl), by omega, ?_, ?_, hBX, by have := hkX.size; omega, h1, h2, h3, h4, ?_⟩, ?_⟩
      · exact List.nodup_cons.2 ⟨fun h => by have := hdw D h; omega, hnd⟩
      · intro E hE
        rcases List.mem_cons.1 hE with rfl | hE
        · exact ⟨by omega, hdX⟩
        · exact ⟨(hds E hE).1, h7 E hE⟩
      · intro j y hj hy
        by_cases e : j = i
        · subst e
          rw [ht] at hy
          cases hy
          exact badU_none h6
        · exact hgood j y (by omega) hy
      · simp [intOf]
        omega
    case hstop =>
      rintro D pre X hD hpre ⟨⟨c, x, h1, h2, h3⟩, h7⟩ hkX hdX
      have hBX : Below w.heap.size w X := (hBw.trans (hBV.mono (by omega))).trans (hkX.below (by omega) (fun k hk => by omega))
      have hbt : badT p 0 p.tasks = c := by
        rw [badT_hit p.tasks 0 i t ht (fun j y hj hy => by have := hgood j y hj hy; simpa using this) (by rw [Nat.zero_add, h3]; exact h2), Nat.zero_add, h3]
      exact fin X (nameV c x) _ (D :: ds) rfl h1 (by
        intro E hE
        rcases List.mem_cons.1 hE with rfl | hE
        · exact ⟨by omega, hdX⟩
        · exact ⟨(hds E hE).1, h7 E hE⟩) (List.nodup_cons.2 ⟨fun h => by have := hdw D h; omega, hnd⟩) hBX ⟨x, by rw [hnI, hbt]; unfold errV; rw [if_neg h2]⟩
    case hround =>
      clear hbase
      rintro l m pre u X hl hlX hI hpre
      gi_wp2
      refine ⟨(Below.refl _ X).alloc (Nat.le_refl _) _, ?_⟩
      rintro w9 hk9 ⟨i1, i2, i3, i4, i5, i6, i7⟩
      have hz9 := hk9.size
      simp only [World.size_alloc] at hz9
      have u0 : w9.cell? ⟨X.heap.size, 0, none⟩ = some (.string u.name) := hk9.cell (World.cell?_alloc_new X _ _ 0) (by dsimp only; omega)
      have u1 : w9.cell? ⟨X.heap.size, 1, none⟩ = some (.int .i64 u.as_) := hk9.cell (World.cell?_alloc_new X _ _ 1) (by dsimp only; omega)
      obtain ⟨e0, e1, e2, e3, e4, e5, e6⟩ := hsce w9 i2
      have ti := i5.cell
      have hum : u ∈ usesL (SX.withinAll t.l 0) := by
        obtain ⟨r, hr⟩ := hpre
        rw [← hr]; simp
      have hok9 : ∀ b, ok b → b < w9.heap.size := fun b hb => by have := hokv b hb; omega
      have hcall := wrongUseT p mv mc mn i u (hnm u hum) ok w9 hok9 i3 i4.v (by omega)
      by_cases hzw0 : p.wrongI i u = 0
      · rw [hzw0, show errV 0 u.name = .nilIface from rfl] at hcall
        gi_wp2
        refine ⟨trivial, (fun h => by cases h), (CallsIn.inRound l (callsIn_wide.2 hcall)).mono ?_⟩
        rintro e wA ⟨rfl, hBA⟩
        gi_wp2
        refine ⟨Kept.of_new _ hBA, (hBA.block _ i1.lt).trans i1, (hBA.block _ (by omega)).trans i2, i3.new hBA, i4.under hBA hok9, (hBA.block _ i5.lt).trans i5, ?_, fun D hD => (hBA.block D (by have := hdw D hD; omega)).trans (i7 D hD)⟩
        intro y hy
        rcases List.mem_append.1 hy with hy | hy
        · exact i6 y hy
        · rw [List.mem_singleton.1 hy]; exact hzw0
      · rw [show errV (p.wrongI i u) u.name = nameV (p.wrongI i u) u.name from by unfold errV; rw [if_neg hzw0]] at hcall
        have hbad := badU_hit hpre i6 hzw0
        gi_wp2
        refine ⟨trivial, (fun h => by cases h), (CallsIn.inRound l (callsIn_wide.2 hcall)).mono ?_⟩
        rintro e wA ⟨rfl, hBA⟩
        have bxA : Boxed wA W1.heap.size 108 .nilIface := (hBA.block _ i1.lt).trans i1
        have hbc := bxA.cell
        have hbf := bxA.frozen
        gi_wp2
        exact ⟨(Kept.of_new (fun k => k = W1.heap.size) hBA).setCell (p := ⟨W1.heap.size, 0, none⟩) rfl _, ⟨_, u.name, bxA.set _, hzw0, hbad⟩, fun D hD => (Below.heap_setCell _ _ _ _ (by dsimp only; have := (hds D hD).1; omega)).trans ((hBA.block D (by have := hdw D hD; omega)).trans (i7 D hD))⟩
end Go.Proofs.YtaajdoipjalgmaaGreatDoor
namespace Go.Proofs.YtaajdoipjalgmaaGreatDoor
open Go.RowKit Go.Shelf Go.Maps
set_option linter.unusedSimpArgs false
set_option linter.unusedVariables false
attribute [local go_sem] Oper.semAt_some

set_option maxRecDepth 10000 in
set_option maxHeartbeats 1000000 in
theorem implScope (p : PX) (hm : p.Small) (hN : p.Names) (hT : ∀ (i : Nat) (t : LX), p.tasks[i]? = some t → SX.sizeAll t.l ≤ 1048577) (ok : Nat → Prop) (w : World) (hok : ∀ b, ok b → b < w.heap.size) (hL : PX.Lies ok w p) (hg : ErrG w) :
    Calls Tryz.prog 33 #[p.val] w fun e w' => e = .returned (.int .i64 p.namesI) ∧ Below w.heap.size w w' := by
  obtain ⟨W1, hW1⟩ : ∃ W1, w.alloc (.cells #[.slice p.vbase p.vars.length p.vcap, .slice p.cbase p.chans.length p.ccap, .slice p.nbase p.locks.length p.ncap, .slice p.tbase p.tasks.length p.tcap] 35) = W1 := ⟨_, rfl⟩
  obtain ⟨W2, hW2⟩ : ∃ W2, W1.alloc (.cells #[.int .i64 0, .string ⟨#[]⟩] 105) = W2 := ⟨_, rfl⟩
  have hs1 : w.heap.size + 1 = W1.heap.size := by rw [← hW1]; simp
  have hs2 : W1.heap.size + 1 = W2.heap.size := by rw [← hW2]; simp
  have hB2 : Below w.heap.size w W2 := by rw [← hW2, ← hW1]; exact ((Below.refl _ w).alloc (Nat.le_refl _) _).alloc (by simp) _
  have pa : W2.heap[w.heap.size]? = some (.cells #[.slice p.vbase p.vars.length p.vcap, .slice p.cbase p.chans.length p.ccap, .slice p.nbase p.locks.length p.ncap, .slice p.tbase p.tasks.length p.tcap] 35) := by
    rw [← hW2]
    refine (Below.heap_alloc _ _ _ (by omega)).trans ?_
    rw [← hW1]
    exact Array.getElem?_push_size
  have pb : W2.heap[W1.heap.size]? = some (.cells #[.int .i64 0, .string ⟨#[]⟩] 105) := by rw [← hW2]; exact Array.getElem?_push_size
  have c0 : W2.cell? ⟨w.heap.size, 0, none⟩ = some (.slice p.vbase p.vars.length p.vcap) := by simp [World.cell?, pa]
  have c1 : W2.cell? ⟨w.heap.size, 1, none⟩ = some (.slice p.cbase p.chans.length p.ccap) := by simp [World.cell?, pa]
  have c2 : W2.cell? ⟨w.heap.size, 2, none⟩ = some (.slice p.nbase p.locks.length p.ncap) := by simp [World.cell?, pa]
  have c3 : W2.cell? ⟨w.heap.size, 3, none⟩ = some (.slice p.tbase p.tasks.length p.tcap) := by simp [World.cell?, pa]
  have hL2 := hL.under hB2 hok
  have hwr := wrongInT p hm hN hT ok W2 (fun b hb => by have := hok b hb; omega) hL2
  have hg2 := hg.of hB2
  have hg2l := hg2.lt
  obtain ⟨cd, hcd⟩ : ∃ cd, p.namesI = cd := ⟨_, rfl⟩
  rw [hcd] at hwr ⊢
  by_cases h0 : cd = 0
  · subst h0
    go_enter Tryz.func33, Tryz.ntmps33
    go_wp2_with fail
    go_at_call 71
    refine hwr.mono ?_
    rintro e w3 ⟨⟨x, rfl⟩, hB3⟩
    rw [show errV 0 x = .nilIface from rfl]
    go_wp2_with fail
    go_at_call 70
    refine (asNil _ w3).mono ?_
    rintro e w4 ⟨rfl, hw4⟩
    subst w4
    go_wp2
    go_returns
    exact ⟨rfl, hB2.trans (hB3.mono hB2.size)⟩
  · go_enter Tryz.func33, Tryz.ntmps33
    go_wp2_with fail
    go_at_call 71
    refine hwr.mono ?_
    rintro e w3 ⟨⟨x, rfl⟩, hB3⟩
    rw [show errV cd x = nameV cd x from by unfold errV; rw [if_neg h0]]
    have hz3 := hB3.size
    have p3 := (hB3.block W1.heap.size (by omega)).trans pb
    have k0 : w3.cell? ⟨W1.heap.size, 0, none⟩ = some (.int .i64 0) := by simp [World.cell?, p3]
    have k1 : w3.cell? ⟨W1.heap.size, 1, none⟩ = some (.string ⟨#[]⟩) := by simp [World.cell?, p3]
    have kf : ∀ i, w3.frozen? ⟨W1.heap.size, i, none⟩ = false := fun i => by simp [World.frozen?, p3]
    have hA := asName cd x W1.heap.size _ _ w3 (hg2.of hB3) k0 k1 kf
    go_wp2_with fail
    go_at_call 70
    refine hA.mono ?_
    clear hA k0 k1 kf
    rintro e w4 ⟨rfl, W5, hB5, hw4⟩
    have p5 := (hB5.block W1.heap.size (by omega)).trans p3
    have p6 : w4.heap[W1.heap.size]? = some (.cells #[.int .i64 cd, .string x] 105) := by
      rw [hw4]
      exact heap_setCell_same _ _ 1 _ _ _ (heap_setCell_same _ _ 0 _ _ _ p5)
    have k6 : w4.cell? ⟨W1.heap.size, 0, none⟩ = some (.int .i64 cd) := by simp [World.cell?, p6]
    have hB4 : Below w.heap.size w w4 := by
      rw [hw4]
      exact (((hB2.trans (hB3.mono hB2.size)).trans (hB5.mono (by omega))).setCell (p := ⟨W1.heap.size, 0, none⟩) (by dsimp only; omega) _).setCell (p := ⟨W1.heap.size, 1, none⟩) (by dsimp only; omega) _
    clear hw4
    go_wp2
    go_returns
    exact ⟨rfl, hB4⟩
end Go.Proofs.YtaajdoipjalgmaaGreatDoor
