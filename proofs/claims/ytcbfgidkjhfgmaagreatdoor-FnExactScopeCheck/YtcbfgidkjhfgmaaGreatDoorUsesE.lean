/-
  What the program answers of the locks of variables, and of the places of all names of a program.
-/
import Derived.Test.YtcbfgidkjhfgmaaGreatDoorUsesD
import Derived.Shelf.RegionOpen
namespace Go.Proofs.YtcbfgidkjhfgmaaGreatDoor
open Go.RowKit Go.Shelf Go.Maps
set_option linter.unusedSimpArgs false
set_option linter.unusedVariables false
attribute [local go_sem] Oper.semAt_some

def lockOk (locks : List ByteArray) (x : VX) : Bool := x.lock.toList.isEmpty || decide (0 ≤ firstOf locks x.lock)
def locksB (vars : List VX) (locks : List ByteArray) : Bool := vars.all (lockOk locks)
theorem locksB_bad {vars : List VX} {locks : List ByteArray} {i : Nat} {x : VX} (h : vars[i]? = some x) (hx : lockOk locks x = false) : locksB vars locks = false := by
  unfold locksB
  rw [List.all_eq_false]
  exact ⟨x, List.mem_of_getElem? h, by simp [hx]⟩
theorem locksB_good {vars : List VX} {locks : List ByteArray} (h : ∀ (i : Nat) (x : VX), vars[i]? = some x → lockOk locks x = true) : locksB vars locks = true := by
  unfold locksB
  rw [List.all_eq_true]
  intro x hx
  obtain ⟨i, hi⟩ := List.getElem?_of_mem hx
  exact h i x hi
theorem take_all {vars : List VX} {locks : List ByteArray} {i : Nat} {x : VX} (h : ∀ (j : Nat) (y : VX), j < i → vars[j]? = some y → lockOk locks y = true) (hx : vars[i]? = some x) (hg : lockOk locks x = true) : ∀ (j : Nat) (y : VX), j < i + 1 → vars[j]? = some y → lockOk locks y = true := by
  intro j y hj hy
  by_cases e : j = i
  · subst e
    rw [hx] at hy
    cases hy
    exact hg
  · exact h j y (by omega) hy
set_option maxRecDepth 10000 in
set_option maxHeartbeats 4000000 in
theorem wrongLockT (p : PX) (mv mc mn : Nat) (hl : ∀ (i : Nat) (x : VX), p.vars[i]? = some x → x.lock.size ≤ 1048576) (ok : Nat → Prop) (w : World) (hok : ∀ b, ok b → b < w.heap.size) (hS : SC w p mv mc mn) (hR : VX.Row ok w p.vbase p.vars) (hm : p.vars.length ≤ 1048577) :
    Calls Tryz.prog 46 #[scV p mv mc mn] w fun e w' => (∃ x, e = .returned (errV (if locksB p.vars p.locks then 0 else 3) x)) ∧ Below w.heap.size w w' := by
  obtain ⟨vb, vc, vars, cb, cc, chans, nb, nc, locks, tb, tc, tasks⟩ := p
  unfold scV
  dsimp only at hl hR hm ⊢
  obtain ⟨len, hlen⟩ : ∃ len, vars.length = len := ⟨_, rfl⟩
  rw [hlen] at hm ⊢
  obtain ⟨W1, hW1⟩ : ∃ W1, w.alloc (.cells #[.slice vb len vc, .slice cb chans.length cc, .slice nb locks.length nc, .slice tb tasks.length tc, .map (some mv), .map (some mc), .map (some mn)] 101) = W1 := ⟨_, rfl⟩
  have hs1 : w.heap.size + 1 = W1.heap.size := by rw [← hW1]; simp
  have hB1 : Below w.heap.size w W1 := by rw [← hW1]; exact (Below.refl _ w).alloc (Nat.le_refl _) _
  have p1 : W1.heap[w.heap.size]? = some (.cells #[.slice vb len vc, .slice cb chans.length cc, .slice nb locks.length nc, .slice tb tasks.length tc, .map (some mv), .map (some mc), .map (some mn)] 101) := by
    rw [← hW1]
    exact Array.getElem?_push_size
  have hN1 : MX W1 mn locks := hS.n.on (hB1.block _ hS.n.lt)
  have hR1 := hR.under hB1 hok
  have a0 : W1.cell? ⟨w.heap.size, 0, none⟩ = some (.slice vb len vc) := by simp [World.cell?, p1]
  have a6 : W1.cell? ⟨w.heap.size, 6, none⟩ = some (.map (some mn)) := by simp [World.cell?, p1]
  clear hS hR
  go_enter Tryz.func46, Tryz.ntmps46
  go_wp2_with fail
  go_loopw [9] (fun v9 wr => ∃ (i : Nat), v9 = .int .i64 i ∧ i ≤ len ∧ Below W1.heap.size W1 wr ∧ (∀ (j : Nat) (y : VX), j < i → vars[j]? = some y → lockOk locks y = true)) (fun v9 _ => len - (intOf v9).toNat)
  case atStart => exact ⟨0, rfl, by omega, Below.refl _ _, fun j y hj => by omega⟩
  case round =>
    obtain ⟨i, rfl, hi, hB, hgood⟩ := hrel
    have hz := hB.size
    by_cases hlt : i < len
    · obtain ⟨x, hx⟩ : ∃ x, vars[i]? = some x := ⟨_, List.getElem?_eq_getElem (by omega)⟩
      obtain ⟨b1, o1, hbase1, hok1, hc1⟩ := hR1 i x hx
      have hxl := hl i x hx
      have hok1' := hok b1 hok1
      obtain ⟨q0, q1, q2, q3, q4, q5, q6⟩ := hc1.below hB (by omega)
      have e6 := below_cell hB a6 (by dsimp only; omega)
      have hN := hN1.on (hB.block _ hN1.lt)
      subst hbase1
      obtain ⟨W3, hW3⟩ : ∃ W3, wr.alloc (.cells #[.string x.name, .int .i64 x.size, .int .i64 x.init, .int .i64 x.lo, .int .i64 x.hi, .string x.lock, .int .i64 x.task] 44) = W3 := ⟨_, rfl⟩
      have hB3 : Below wr.heap.size wr W3 := by rw [← hW3]; exact (Below.refl _ _).alloc (Nat.le_refl _) _
      have p3 : W3.heap[wr.heap.size]? = some (.cells #[.string x.name, .int .i64 x.size, .int .i64 x.init, .int .i64 x.lo, .int .i64 x.hi, .string x.lock, .int .i64 x.task] 44) := by rw [← hW3]; exact Array.getElem?_push_size
      have k5 : W3.cell? ⟨wr.heap.size, 5, none⟩ = some (.string x.lock) := by simp [World.cell?, p3]
      have e6' := below_cell hB3 e6 (by dsimp only; omega)
      have hM := placeM (hN.on (hB3.block _ hN.lt)) x.lock hxl
      have hBf := hB1.trans ((hB.trans (hB3.mono hB.size)).mono hB1.size)
      have hBn : Below W1.heap.size W1 W3 := hB.trans (hB3.mono hB.size)
      clear p3
      cases hle : x.lock.toList.isEmpty
      · have hne : ¬ x.lock.toList = [] := fun h => by rw [h] at hle; cases hle
        cases hf : decide (0 ≤ firstOf locks x.lock)
        · have hf' : firstOf locks x.lock < 0 := by simpa using hf
          obtain ⟨fl, hfl⟩ : ∃ fl, firstOf locks x.lock = fl := ⟨_, rfl⟩
          have hbad : locksB vars locks = false := locksB_bad hx (by unfold lockOk; rw [hle, hf]; rfl)
          rw [hfl] at hM hf'
          go_wp2_with fail
          go_at_call 79
          refine hM.mono ?_
          rintro e w4 ⟨rfl, hw4⟩
          subst w4
          go_wp2_with fail
          all_goals first | (exfalso; omega) | skip
          all_goals
            go_returns
            exact ⟨⟨x.lock, by first | rfl | (rw [hbad]; rfl)⟩, hBf⟩
        · have hf' : 0 ≤ firstOf locks x.lock := by simpa using hf
          obtain ⟨fl, hfl⟩ : ∃ fl, firstOf locks x.lock = fl := ⟨_, rfl⟩
          have hg := take_all hgood hx (by unfold lockOk; rw [hle, hf]; rfl)
          rw [hfl] at hM hf'
          go_wp2_with fail
          go_at_call 79
          refine hM.mono ?_
          rintro e w4 ⟨rfl, hw4⟩
          subst w4
          go_wp2_with fail
          all_goals first | (exfalso; omega) | skip
          refine ⟨⟨i + 1, by go_num, by omega, hBn, hg⟩, by simp [intOf]; omega⟩
      · have hne : x.lock.toList = [] := by simpa using hle
        have hg := take_all hgood hx (by unfold lockOk; rw [hle]; rfl)
        go_wp2_with fail
        all_goals first | (exfalso; omega) | skip
        refine ⟨⟨i + 1, by go_num, by omega, hBn, hg⟩, by simp [intOf]; omega⟩
    · have hall : locksB vars locks = true := locksB_good (fun j y hy => hgood j y (by have := (List.getElem?_eq_some_iff.1 hy).1; omega) hy)
      go_wp2_with fail
      all_goals first | (exfalso; omega) | skip
      go_returns
      exact ⟨⟨ByteArray.empty, by first | rfl | (rw [hall]; rfl)⟩, hB1.trans (hB.mono hB1.size)⟩
theorem MX.ne {A : World} {m b : Nat} {l : List ByteArray} {cs : Array Value} {t : TypeId} (h : MX A m l) (hb : A.heap[b]? = some (.cells cs t)) : ¬ m = b := by
  rintro rfl
  obtain ⟨n, D, ⟨es, clock, h1, h2⟩, h3⟩ := h
  rw [hb] at h1
  cases h1
theorem scopeV (p : PX) : p.val = .agg #[.slice p.vbase p.vars.length p.vcap, .slice p.cbase p.chans.length p.ccap, .slice p.nbase p.locks.length p.ncap, .slice p.tbase p.tasks.length p.tcap] := rfl
set_option maxRecDepth 10000 in
set_option maxHeartbeats 4000000 in
theorem scopeOfT (p : PX) (hn : ∀ (i : Nat) (x : VX), p.vars[i]? = some x → x.name.size ≤ 1048576) (hcn : ∀ (i : Nat) (x : CX), p.chans[i]? = some x → x.name.size ≤ 1048576) (hln : ∀ (i : Nat) (k : ByteArray), p.locks[i]? = some k → k.size ≤ 1048576)
    (hmv : p.vars.length ≤ 1048577) (hmc : p.chans.length ≤ 1048577) (hml : p.locks.length ≤ 1048577) (ok : Nat → Prop) (w : World) (hok : ∀ b, ok b → b < w.heap.size) (hL : PX.Lies ok w p) :
    Calls Tryz.prog 45 #[p.val] w fun e w' => ∃ mv mc mn, e = .returned (scV p mv mc mn) ∧ SC w' p mv mc mn ∧ Below w.heap.size w w' := by
  obtain ⟨W1, hW1⟩ : ∃ W1, w.alloc (.cells #[.slice p.vbase p.vars.length p.vcap, .slice p.cbase p.chans.length p.ccap, .slice p.nbase p.locks.length p.ncap, .slice p.tbase p.tasks.length p.tcap] 34) = W1 := ⟨_, rfl⟩
  have hs1 : w.heap.size + 1 = W1.heap.size := by rw [← hW1]; simp
  have hA1 : PX.At W1 w.heap.size p := by rw [← hW1]; exact PX.At.new w p _
  have hB1 : Below w.heap.size w W1 := by rw [← hW1]; exact (Below.refl _ w).alloc (Nat.le_refl _) _
  obtain ⟨W2, hW2⟩ : ∃ W2, W1.alloc (.cells #[.slice none 0 0, .slice none 0 0, .slice none 0 0, .slice none 0 0, .map none, .map none, .map none] 101) = W2 := ⟨_, rfl⟩
  have hs2 : W1.heap.size + 1 = W2.heap.size := by rw [← hW2]; simp
  have hB2 : Below w.heap.size w W2 := by rw [← hW2]; exact hB1.alloc (by omega) _
  obtain ⟨V, hV⟩ : ∃ V, W2.drew = V := ⟨_, rfl⟩
  have hsV : W2.heap.size = V.heap.size := by rw [← hV]; rfl
  have hBV : Below w.heap.size w V := by rw [← hV]; exact hB2.drew
  have paV : V.heap[w.heap.size]? = some (.cells #[.slice p.vbase p.vars.length p.vcap, .slice p.cbase p.chans.length p.ccap, .slice p.nbase p.locks.length p.ncap, .slice p.tbase p.tasks.length p.tcap] 34) := by
    rw [← hV, ← hW2]
    refine (Below.heap_alloc W1 _ w.heap.size (by omega)).trans ?_
    rw [← hW1]
    exact Array.getElem?_push_size
  have pbV : V.heap[W1.heap.size]? = some (.cells #[.slice none 0 0, .slice none 0 0, .slice none 0 0, .slice none 0 0, .map none, .map none, .map none] 101) := by
    rw [← hV, ← hW2]
    exact Array.getElem?_push_size
  have hcells : ∀ A : World, A.heap[w.heap.size]? = some (.cells #[.slice p.vbase p.vars.length p.vcap, .slice p.cbase p.chans.length p.ccap, .slice p.nbase p.locks.length p.ncap, .slice p.tbase p.tasks.length p.tcap] 34) → A.heap[W1.heap.size]? = some (.cells #[.slice none 0 0, .slice none 0 0, .slice none 0 0, .slice none 0 0, .map none, .map none, .map none] 101) →
      A.cell? ⟨w.heap.size, 0, none⟩ = some (.slice p.vbase p.vars.length p.vcap) ∧ A.cell? ⟨w.heap.size, 1, none⟩ = some (.slice p.cbase p.chans.length p.ccap) ∧ A.cell? ⟨w.heap.size, 2, none⟩ = some (.slice p.nbase p.locks.length p.ncap) ∧ A.cell? ⟨w.heap.size, 3, none⟩ = some (.slice p.tbase p.tasks.length p.tcap) ∧ A.cell? ⟨W1.heap.size, 0, none⟩ = some (.slice none 0 0) ∧ A.cell? ⟨W1.heap.size, 1, none⟩ = some (.slice none 0 0) ∧ A.cell? ⟨W1.heap.size, 2, none⟩ = some (.slice none 0 0) ∧ A.cell? ⟨W1.heap.size, 3, none⟩ = some (.slice none 0 0) ∧ A.cell? ⟨W1.heap.size, 4, none⟩ = some (.map none) ∧ A.cell? ⟨W1.heap.size, 5, none⟩ = some (.map none) ∧ A.cell? ⟨W1.heap.size, 6, none⟩ = some (.map none) ∧ (∀ i, A.frozen? ⟨W1.heap.size, i, none⟩ = false) := by
    intro A h1 h2
    refine ⟨?_, ?_, ?_, ?_, ?_, ?_, ?_, ?_, ?_, ?_, ?_, ?_⟩
    all_goals first | (intro i; simp [World.frozen?, h2]; done) | (simp [World.cell?, h1]; done) | (simp [World.cell?, h2]; done)
  have hvn := PX.varNames p ok V (fun b hb => by have := hok b hb; omega) (hL.v.under hBV hok) hmv
  have hcn' : ∀ A, Below V.heap.size V A → Calls Tryz.prog 77 #[p.val] A fun e w' => ∃ v, e = .returned v ∧ w'.ownsRow A.heap.size 9 1 v p.chans.length ((p.chans.map CX.name).map Value.string) ∧ Below A.heap.size A w' := by
    intro A hA
    have hzA := hA.size
    exact PX.chanNames p ok A (fun b hb => by have := hok b hb; omega) ((hL.c.under hBV hok).under hA (fun b hb => by have := hok b hb; omega)) hmc
  have hpl : ∀ A, Below V.heap.size V A → Calls Tryz.prog 78 #[.slice p.nbase p.locks.length p.ncap] A fun e w' => ∃ m, e = .returned (.map (some m)) ∧ MX w' m p.locks ∧ Below A.heap.size A w' := by
    intro A hA
    have hzA := hA.size
    exact (placesOf p.locks p.nbase p.ncap ok A (fun b hb => by have := hok b hb; omega) ((hL.n.under hBV hok).under hA (fun b hb => by have := hok b hb; omega)) (by omega) hln).mono fun e w' ⟨D, h1, h2, h3, h4⟩ => ⟨_, h1, ⟨_, D, h2, h3⟩, h4⟩
  have hpn : ∀ (l : List ByteArray) (n : Nat) (a : Option Addr) (c : Nat) (A : World) (base : Nat), l.length = n → n ≤ 1048577 → (∀ k ∈ l, k.size ≤ 1048576) → NRow (fun b => base ≤ b ∧ b < A.heap.size) A a l → Calls Tryz.prog 78 #[.slice a n c] A fun e w' => ∃ m, e = .returned (.map (some m)) ∧ MX w' m l ∧ Below A.heap.size A w' := by
    rintro l n a c A base rfl hl1 hl2 hr
    exact (placesOf l a c _ A (fun b hb => hb.2) hr (by omega) (fun i k hk => hl2 k (List.mem_of_getElem? hk))).mono fun e w' ⟨D, h1, h2, h3, h4⟩ => ⟨_, h1, ⟨_, D, h2, h3⟩, h4⟩
  have hnames1 : ∀ k ∈ p.vars.map VX.name, k.size ≤ 1048576 := by
    intro k hk
    obtain ⟨x, hx, rfl⟩ := List.mem_map.1 hk
    obtain ⟨i, hi⟩ := List.getElem?_of_mem hx
    exact hn i x hi
  have hnames2 : ∀ k ∈ p.chans.map CX.name, k.size ≤ 1048576 := by
    intro k hk
    obtain ⟨x, hx, rfl⟩ := List.mem_map.1 hk
    obtain ⟨i, hi⟩ := List.getElem?_of_mem hx
    exact hcn i x hi
  go_enter Tryz.func45, Tryz.ntmps45
  go_wp2_with fail
  try rw [hW2]
  obtain ⟨x0, x1, x2, x3, y0, y1, y2, y3, y4, y5, y6, yf⟩ := hcells V paV pbV
  go_region_held3 (fun w' => w'.cell? ⟨w.heap.size, 0, none⟩ = some (.slice p.vbase p.vars.length p.vcap) ∧ w'.cell? ⟨w.heap.size, 1, none⟩ = some (.slice p.cbase p.chans.length p.ccap) ∧ w'.cell? ⟨w.heap.size, 2, none⟩ = some (.slice p.nbase p.locks.length p.ncap) ∧ w'.cell? ⟨w.heap.size, 3, none⟩ = some (.slice p.tbase p.tasks.length p.tcap)) (simp [*, go_sem, World.cell?_alloc_some, World.cell?_setCell_far, apart1, apart2, apart3, apart4, apart5, apart6]) (first
    | (go_at_call 78; refine (hpl v4 hbV4).mono ?_; rintro e v5 ⟨mn, rfl, hmN, hb5⟩; (have pav5 := (hb5.block w.heap.size (by omega)).trans pav4); (have pbv5 := (hb5.block W1.heap.size (by omega)).trans pbv4); (obtain ⟨x0, x1, x2, x3, y0, y1, y2, y3, y4, y5, y6, yf⟩ := hcells v5 pav5 pbv5); (have hzv5 := hb5.size); (have hbV5 := hbV4.trans (hb5.mono (by omega))))
    | (go_at_call 78; refine (hpn (p.chans.map CX.name) p.chans.length ca cc' v3 _ (by rw [List.length_map]) hmc hnames2 hrow3).mono ?_; rintro e v4 ⟨mc, rfl, hmC, hb4⟩; (have pav4 := (hb4.block w.heap.size (by omega)).trans pav3); (have pbv4 := (hb4.block W1.heap.size (by omega)).trans pbv3); (obtain ⟨x0, x1, x2, x3, y0, y1, y2, y3, y4, y5, y6, yf⟩ := hcells v4 pav4 pbv4); (have hzv4 := hb4.size); (have hbV4 := hbV3.trans (hb4.mono (by omega))))
    | (go_at_call 78; refine (hpn (p.vars.map VX.name) p.vars.length va vc' v1 _ (by rw [List.length_map]) hmv hnames1 hrow1).mono ?_; rintro e v2 ⟨mv, rfl, hmV, hb2⟩; (have pav2 := (hb2.block w.heap.size (by omega)).trans pav1); (have pbv2 := (hb2.block W1.heap.size (by omega)).trans pbv1); (obtain ⟨x0, x1, x2, x3, y0, y1, y2, y3, y4, y5, y6, yf⟩ := hcells v2 pav2 pbv2); (have hzv2 := hb2.size); (have hbV2 := hbV1.trans (hb2.mono (by omega))))
    | (go_at_call 77; refine (hcn' v2 hbV2).mono ?_; rintro e v3 ⟨cv, rfl, hown3, hb3⟩; (obtain ⟨ca, cc', hcv, hrow3⟩ := names_row (l := p.chans.map CX.name) (by rw [List.length_map]; exact hown3)); (rw [List.length_map] at hcv); subst hcv; (have pav3 := (hb3.block w.heap.size (by omega)).trans pav2); (have pbv3 := (hb3.block W1.heap.size (by omega)).trans pbv2); (obtain ⟨x0, x1, x2, x3, y0, y1, y2, y3, y4, y5, y6, yf⟩ := hcells v3 pav3 pbv3); (have hzv3 := hb3.size); (have hbV3 := hbV2.trans (hb3.mono (by omega))))
    | (go_at_call 76; refine hvn.mono ?_; rintro e v1 ⟨vv, rfl, hown1, hb1⟩; (obtain ⟨va, vc', hvv, hrow1⟩ := names_row (l := p.vars.map VX.name) (by rw [List.length_map]; exact hown1)); (rw [List.length_map] at hvv); subst hvv; (have pav1 := (hb1.block w.heap.size (by omega)).trans paV); (have pbv1 := (hb1.block W1.heap.size (by omega)).trans pbV); (obtain ⟨x0, x1, x2, x3, y0, y1, y2, y3, y4, y5, y6, yf⟩ := hcells v1 pav1 pbv1); (have hzv1 := hb1.size); (have hbV1 := hb1)))
  obtain ⟨Wf, hWf⟩ : ∃ Wf, (((((((v5.setCell ⟨W1.heap.size, 0, none⟩ (.slice p.vbase p.vars.length p.vcap)).setCell ⟨W1.heap.size, 1, none⟩ (.slice p.cbase p.chans.length p.ccap)).setCell ⟨W1.heap.size, 2, none⟩ (.slice p.nbase p.locks.length p.ncap)).setCell ⟨W1.heap.size, 3, none⟩ (.slice p.tbase p.tasks.length p.tcap)).setCell ⟨W1.heap.size, 4, none⟩ (.map (some mv))).setCell ⟨W1.heap.size, 5, none⟩ (.map (some mc))).setCell ⟨W1.heap.size, 6, none⟩ (.map (some mn))) = Wf := ⟨_, rfl⟩
  have hKf : Kept (fun k => k = W1.heap.size) v5 Wf := by rw [← hWf]; exact (((((((Kept.refl (fun k => k = W1.heap.size) v5).setCell (p := ⟨W1.heap.size, 0, none⟩) rfl _).setCell (p := ⟨W1.heap.size, 1, none⟩) rfl _).setCell (p := ⟨W1.heap.size, 2, none⟩) rfl _).setCell (p := ⟨W1.heap.size, 3, none⟩) rfl _).setCell (p := ⟨W1.heap.size, 4, none⟩) rfl _).setCell (p := ⟨W1.heap.size, 5, none⟩) rfl _).setCell (p := ⟨W1.heap.size, 6, none⟩) rfl _
  have pf : Wf.heap[W1.heap.size]? = some (.cells #[.slice p.vbase p.vars.length p.vcap, .slice p.cbase p.chans.length p.ccap, .slice p.nbase p.locks.length p.ncap, .slice p.tbase p.tasks.length p.tcap, .map (some mv), .map (some mc), .map (some mn)] 101) := by rw [← hWf]; exact (heap_setCell_same _ _ 6 _ _ _ (heap_setCell_same _ _ 5 _ _ _ (heap_setCell_same _ _ 4 _ _ _ (heap_setCell_same _ _ 3 _ _ _ (heap_setCell_same _ _ 2 _ _ _ (heap_setCell_same _ _ 1 _ _ _ (heap_setCell_same _ _ 0 _ _ _ pbv5)))))))
  have hSC : SC Wf p mv mc mn := by
    have n1 := hmV.ne pbv2
    have n2 := hmC.ne pbv4
    have n3 := hmN.ne pbv5
    have l1 := hmV.lt
    have l2 := hmC.lt
    have l3 := hmN.lt
    exact ⟨hmV.on ((hKf.block mv (by omega) n1).trans ((hb5.block mv (by omega)).trans ((hb4.block mv (by omega)).trans (hb3.block mv (by omega))))), hmC.on ((hKf.block mc (by omega) n2).trans (hb5.block mc (by omega))), hmN.on (hKf.block mn (by omega) n3)⟩
  have f0 : Wf.cell? ⟨W1.heap.size, 0, none⟩ = some (.slice p.vbase p.vars.length p.vcap) := by simp [World.cell?, pf]
  have f1 : Wf.cell? ⟨W1.heap.size, 1, none⟩ = some (.slice p.cbase p.chans.length p.ccap) := by simp [World.cell?, pf]
  have f2 : Wf.cell? ⟨W1.heap.size, 2, none⟩ = some (.slice p.nbase p.locks.length p.ncap) := by simp [World.cell?, pf]
  have f3 : Wf.cell? ⟨W1.heap.size, 3, none⟩ = some (.slice p.tbase p.tasks.length p.tcap) := by simp [World.cell?, pf]
  have f4 : Wf.cell? ⟨W1.heap.size, 4, none⟩ = some (.map (some mv)) := by simp [World.cell?, pf]
  have f5 : Wf.cell? ⟨W1.heap.size, 5, none⟩ = some (.map (some mc)) := by simp [World.cell?, pf]
  have f6 : Wf.cell? ⟨W1.heap.size, 6, none⟩ = some (.map (some mn)) := by simp [World.cell?, pf]
  have hBf : Below w.heap.size w Wf := (hBV.trans (hbV5.mono hBV.size)).trans (hKf.below (by omega) (fun k hk => by omega))
  try rw [hWf]
  go_wp2
  refine bodyPost_ret (v := scV p mv mc mn) (by simp [results, Tryz.results45, go_sem, f0, f1, f2, f3, f4, f5, f6]) rfl ?_
  exact ⟨mv, mc, mn, rfl, hSC, hBf⟩
end Go.Proofs.YtcbfgidkjhfgmaaGreatDoor
