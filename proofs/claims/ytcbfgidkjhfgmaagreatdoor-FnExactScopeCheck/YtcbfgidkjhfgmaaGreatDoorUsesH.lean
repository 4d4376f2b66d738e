/-
  What the program answers of whether two of all names of a program are one.
-/
import Derived.Test.YtcbfgidkjhfgmaaGreatDoorUsesG
import Derived.Deep.RegionHeld3
namespace Go.Proofs.YtcbfgidkjhfgmaaGreatDoor
open Go.RowKit Go.Shelf Go.Maps
set_option linter.unusedSimpArgs false
set_option linter.unusedVariables false
attribute [local go_sem] Oper.semAt_some

def PX.allN (p : PX) : List ByteArray := p.vars.map VX.name ++ (p.chans.map CX.name ++ p.locks)
def onceB (l : List ByteArray) : Bool := l.zipIdx.all fun x => decide ((x.2 : Int) ≤ firstOf l x.1)
theorem onceB_bad {l : List ByteArray} {i : Nat} {x : ByteArray} (h : l[i]? = some x) (hx : firstOf l x < i) : onceB l = false := by
  unfold onceB
  rw [List.all_eq_false]
  exact ⟨(x, i), List.mem_zipIdx_iff_getElem?.2 h, by simp; omega⟩
theorem onceB_good {l : List ByteArray} (h : ∀ (i : Nat) (x : ByteArray), l[i]? = some x → (i : Int) ≤ firstOf l x) : onceB l = true := by
  unfold onceB
  rw [List.all_eq_true]
  rintro ⟨x, i⟩ hx
  have h1 := h i x (List.mem_zipIdx_iff_getElem?.1 hx)
  simpa using h1
set_option maxRecDepth 10000 in
set_option maxHeartbeats 4000000 in
theorem twiceInT (p : PX) (hn : ∀ (i : Nat) (x : VX), p.vars[i]? = some x → x.name.size ≤ 1048576) (hcn : ∀ (i : Nat) (x : CX), p.chans[i]? = some x → x.name.size ≤ 1048576) (hln : ∀ (i : Nat) (k : ByteArray), p.locks[i]? = some k → k.size ≤ 1048576)
    (hmv : p.vars.length ≤ 1048577) (hmc : p.chans.length ≤ 1048577) (hml : p.locks.length ≤ 1048577) (ok : Nat → Prop) (w : World) (hok : ∀ b, ok b → b < w.heap.size) (hL : PX.Lies ok w p) :
    Calls Tryz.prog 44 #[p.val] w fun e w' => (∃ x, e = .returned (errV (if onceB p.allN then 0 else 2) x)) ∧ Below w.heap.size w w' := by
  obtain ⟨W1, hW1⟩ : ∃ W1, w.alloc (.cells #[.slice p.vbase p.vars.length p.vcap, .slice p.cbase p.chans.length p.ccap, .slice p.nbase p.locks.length p.ncap, .slice p.tbase p.tasks.length p.tcap] 34) = W1 := ⟨_, rfl⟩
  have hs1 : w.heap.size + 1 = W1.heap.size := by rw [← hW1]; simp
  have hB1 : Below w.heap.size w W1 := by rw [← hW1]; exact (Below.refl _ w).alloc (Nat.le_refl _) _
  obtain ⟨V, hV⟩ : ∃ V, W1.drew = V := ⟨_, rfl⟩
  have hsV : W1.heap.size = V.heap.size := by rw [← hV]; rfl
  have hBV : Below w.heap.size w V := by rw [← hV]; exact hB1.drew
  have paV : V.heap[w.heap.size]? = some (.cells #[.slice p.vbase p.vars.length p.vcap, .slice p.cbase p.chans.length p.ccap, .slice p.nbase p.locks.length p.ncap, .slice p.tbase p.tasks.length p.tcap] 34) := by
    rw [← hV, ← hW1]
    exact Array.getElem?_push_size
  have hcells : ∀ A : World, A.heap[w.heap.size]? = some (.cells #[.slice p.vbase p.vars.length p.vcap, .slice p.cbase p.chans.length p.ccap, .slice p.nbase p.locks.length p.ncap, .slice p.tbase p.tasks.length p.tcap] 34) →
      A.cell? ⟨w.heap.size, 0, none⟩ = some (.slice p.vbase p.vars.length p.vcap) ∧ A.cell? ⟨w.heap.size, 1, none⟩ = some (.slice p.cbase p.chans.length p.ccap) ∧ A.cell? ⟨w.heap.size, 2, none⟩ = some (.slice p.nbase p.locks.length p.ncap) ∧ A.cell? ⟨w.heap.size, 3, none⟩ = some (.slice p.tbase p.tasks.length p.tcap) := by
    intro A h1
    refine ⟨?_, ?_, ?_, ?_⟩ <;> simp [World.cell?, h1]
  have hvn := PX.varNames p ok V (fun b hb => by have := hok b hb; omega) (hL.v.under hBV hok) hmv
  have hcn' : ∀ A, Below V.heap.size V A → Calls Tryz.prog 77 #[p.val] A fun e w' => ∃ v, e = .returned v ∧ w'.ownsRow A.heap.size 9 1 v p.chans.length ((p.chans.map CX.name).map Value.string) ∧ Below A.heap.size A w' := by
    intro A hA
    have hzA := hA.size
    exact PX.chanNames p ok A (fun b hb => by have := hok b hb; omega) ((hL.c.under hBV hok).under hA (fun b hb => by have := hok b hb; omega)) hmc
  have hall : ∀ k ∈ p.allN, k.size ≤ 1048576 := by
    intro k hk
    rcases List.mem_append.1 hk with hk | hk
    · obtain ⟨x, hx, rfl⟩ := List.mem_map.1 hk
      obtain ⟨i, hi⟩ := List.getElem?_of_mem hx
      exact hn i x hi
    rcases List.mem_append.1 hk with hk | hk
    · obtain ⟨x, hx, rfl⟩ := List.mem_map.1 hk
      obtain ⟨i, hi⟩ := List.getElem?_of_mem hx
      exact hcn i x hi
    · obtain ⟨i, hi⟩ := List.getElem?_of_mem hk
      exact hln i k hi
  have hlen : p.allN.length = p.vars.length + (p.chans.length + p.locks.length) := by simp [PX.allN]
  have hcat : ∀ (A : World) (va ca : Option Addr) (vc cc : Nat) (bv bc : Nat), V.heap.size ≤ A.heap.size → Below V.heap.size V A → NRow (fun b => bv ≤ b ∧ b < A.heap.size) A va (p.vars.map VX.name) → NRow (fun b => bc ≤ b ∧ b < A.heap.size) A ca (p.chans.map CX.name) →
      Calls Tryz.prog 75 #[.slice (some ⟨A.heap.size, 0, none⟩) 3 3] (A.alloc (.cells #[.slice va p.vars.length vc, .slice ca p.chans.length cc, .slice p.nbase p.locks.length p.ncap] 24)) fun e w' => ∃ a c, e = .returned (.slice a p.allN.length c) ∧ NRow (fun b => A.heap.size + 1 ≤ b ∧ b < w'.heap.size) w' a p.allN ∧ Below A.heap.size A w' := by
    intro A va ca vc cc bv bc hz hA h1 h2
    obtain ⟨B, hB⟩ : ∃ B, A.alloc (.cells #[.slice va p.vars.length vc, .slice ca p.chans.length cc, .slice p.nbase p.locks.length p.ncap] 24) = B := ⟨_, rfl⟩
    have hBB : Below A.heap.size A B := by rw [← hB]; exact (Below.refl _ _).alloc (Nat.le_refl _) _
    have hsB : B.heap.size = A.heap.size + 1 := by rw [← hB]; simp
    have hnw : ∀ j, B.cell? ⟨A.heap.size, j, none⟩ = (#[Value.slice va p.vars.length vc, .slice ca p.chans.length cc, .slice p.nbase p.locks.length p.ncap])[j]? := by intro j; rw [← hB]; exact World.cell?_alloc_new A _ _ j
    have hcc := concatN [(va, p.vars.map VX.name, vc), (ca, p.chans.map CX.name, cc), (p.nbase, p.locks, p.ncap)] (by simp) (by simp [sumL]; omega) A.heap.size (fun b => b < B.heap.size) B (fun b hb => hb) ?_ (by omega)
    · rw [hB]
      refine hcc.mono ?_
      rintro e w' ⟨v, rfl, hown, hBw⟩
      have hcl : catL [(va, p.vars.map VX.name, vc), (ca, p.chans.map CX.name, cc), (p.nbase, p.locks, p.ncap)] = p.allN := by simp [catL, PX.allN]
      have hsl : sumL [(va, p.vars.map VX.name, vc), (ca, p.chans.map CX.name, cc), (p.nbase, p.locks, p.ncap)] = p.allN.length := by rw [← catL_len, hcl]
      rw [hcl, hsl] at hown
      obtain ⟨a, c, rfl, hrow⟩ := names_row hown
      rw [hsB] at hrow
      exact ⟨a, c, rfl, hrow, hBB.trans (hBw.mono (by omega))⟩
    · intro i x hx
      have h3 : i = 0 ∨ i = 1 ∨ i = 2 := by have := (List.getElem?_eq_some_iff.1 hx).1; simp at this; omega
      rcases h3 with rfl | rfl | rfl
      · cases hx
        exact ⟨by rw [hnw]; simp [L3.val], (h1.under hBB (fun b hb => hb.2)).mono (fun b hb h => ⟨h, rfl⟩)⟩
      · cases hx
        exact ⟨by rw [hnw]; simp [L3.val], (h2.under hBB (fun b hb => hb.2)).mono (fun b hb h => ⟨h, rfl⟩)⟩
      · cases hx
        exact ⟨by rw [hnw]; simp [L3.val], (((hL.n.under hBV hok).under hA (fun b hb => by have := hok b hb; omega)).under hBB (fun b hb => by have := hok b hb; omega)).mono (fun b hb h => ⟨h, rfl⟩)⟩
  go_enter Tryz.func44, Tryz.ntmps44
  go_wp2_with fail
  try rw [hW1]
  obtain ⟨x0, x1, x2, x3⟩ := hcells V paV
  go_region_held3 (fun w' => w'.cell? ⟨w.heap.size, 0, none⟩ = some (.slice p.vbase p.vars.length p.vcap) ∧ w'.cell? ⟨w.heap.size, 1, none⟩ = some (.slice p.cbase p.chans.length p.ccap) ∧ w'.cell? ⟨w.heap.size, 2, none⟩ = some (.slice p.nbase p.locks.length p.ncap) ∧ w'.cell? ⟨w.heap.size, 3, none⟩ = some (.slice p.tbase p.tasks.length p.tcap)) (simp [*, go_sem, World.cell?_alloc_some, World.cell?_setCell_far, apart1, apart2, apart3, apart4, apart5, apart6]) (first
    | (go_at_call 75; refine (hcat v2 va ca vc' cc' _ _ (by omega) hbV2 hrow1' hrow3).mono ?_; rintro e v3 ⟨na, nc, rfl, hrowN, hb3⟩; (have pav3 := (hb3.block w.heap.size (by omega)).trans pav2); (obtain ⟨x0, x1, x2, x3⟩ := hcells v3 pav3); (have hzv3 := hb3.size); (have hbV3 := hbV2.trans (hb3.mono (by omega))))
    | (go_at_call 77; refine (hcn' v1 hbV1).mono ?_; rintro e v2 ⟨cv, rfl, hown3, hb2⟩; (obtain ⟨ca, cc', hcv, hrow3⟩ := names_row (l := p.chans.map CX.name) (by rw [List.length_map]; exact hown3)); (rw [List.length_map] at hcv); subst hcv; (have pav2 := (hb2.block w.heap.size (by omega)).trans pav1); (obtain ⟨x0, x1, x2, x3⟩ := hcells v2 pav2); (have hzv2 := hb2.size); (have hbV2 := hbV1.trans (hb2.mono (by omega))); (have hrow1' := (hrow1.under hb2 (fun b hb => hb.2)).mono (ok' := fun b => V.heap.size ≤ b ∧ b < v2.heap.size) (fun b hb h => ⟨⟨hb.1, h⟩, rfl⟩)))
    | (go_at_call 76; refine hvn.mono ?_; rintro e v1 ⟨vv, rfl, hown1, hb1⟩; (obtain ⟨va, vc', hvv, hrow1⟩ := names_row (l := p.vars.map VX.name) (by rw [List.length_map]; exact hown1)); (rw [List.length_map] at hvv); subst hvv; (have pav1 := (hb1.block w.heap.size (by omega)).trans paV); (obtain ⟨x0, x1, x2, x3⟩ := hcells v1 pav1); (have hzv1 := hb1.size); (have hbV1 := hb1)))
  have hz3' := hbV3.size
  have hpl := placesOf p.allN na nc _ v3 (fun b hb => hb.2) hrowN (by omega) (fun i k hk => hall k (List.mem_of_getElem? hk))
  obtain ⟨N, hN⟩ : ∃ N, p.vars.length + (p.chans.length + p.locks.length) = N := ⟨_, rfl⟩
  rw [hN] at hlen
  rw [hlen] at hpl
  have hN4 : N ≤ 3145731 := by omega
  rw [hN]
  have hBw3 : Below w.heap.size w v3 := hBV.trans (hbV3.mono (by omega))
  clear hvn hcn' hcat hcells x0 x1 x2 x3
  go_wp2_with fail
  go_at_call 78
  refine hpl.mono ?_
  clear hpl
  rintro e v4 ⟨D, rfl, hownM, hF, hb4⟩
  have hM : MX v4 v3.heap.size p.allN := ⟨_, D, hownM, hF⟩
  have hrow4 := hrowN.under hb4 (fun b hb => hb.2)
  have hBw4 : Below w.heap.size w v4 := hBw3.trans (hb4.mono hBw3.size)
  clear hownM hF hrowN
  go_wp2_with fail
  go_loopw [19] (fun v19 wr => ∃ (i : Nat), v19 = .int .i64 i ∧ i ≤ N ∧ wr = v4 ∧ (∀ (j : Nat) (x : ByteArray), j < i → p.allN[j]? = some x → (j : Int) ≤ firstOf p.allN x)) (fun v19 _ => N - (intOf v19).toNat)
  case atStart => exact ⟨0, rfl, by omega, rfl, fun j x hj => by omega⟩
  case round =>
    obtain ⟨i, rfl, hi, hwr, hgood⟩ := hrel
    subst wr
    by_cases hlt : i < N
    · obtain ⟨x, hx⟩ : ∃ x, p.allN[i]? = some x := ⟨_, List.getElem?_eq_getElem (by omega)⟩
      obtain ⟨b1, o1, hbase1, hok1, hc1⟩ := hrow4 i x hx
      have hP := placeM hM x (hall x (List.mem_of_getElem? hx))
      obtain ⟨fl, hfl⟩ : ∃ fl, firstOf p.allN x = fl := ⟨_, rfl⟩
      rw [hfl] at hP
      by_cases hbd : fl < (i : Int)
      · have hb := onceB_bad hx (by rw [hfl]; exact hbd)
        clear hx hrow4 hgood hfl
        subst hbase1
        go_wp2_with fail
        go_at_call 79
        refine hP.mono ?_
        rintro e w5 ⟨rfl, hw5⟩
        subst w5
        go_wp2_with fail
        all_goals first | (exfalso; omega) | skip
        all_goals
          go_returns
          exact ⟨⟨x, by first | rfl | (rw [hb]; rfl)⟩, hBw4⟩
      · have hg : ∀ (j : Nat) (y : ByteArray), j < i + 1 → p.allN[j]? = some y → (j : Int) ≤ firstOf p.allN y := by
          intro j y hj hy
          by_cases e : j = i
          · subst e
            rw [hx] at hy
            cases hy
            omega
          · exact hgood j y (by omega) hy
        clear hx hrow4 hgood hfl
        subst hbase1
        go_wp2_with fail
        go_at_call 79
        refine hP.mono ?_
        rintro e w5 ⟨rfl, hw5⟩
        subst w5
        go_wp2_with fail
        all_goals first | (exfalso; omega) | skip
        refine ⟨⟨i + 1, by go_num, by omega, by first | rfl | trivial, hg⟩, by simp [intOf]; omega⟩
    · have hg : onceB p.allN = true := onceB_good (fun j x hx => hgood j x (by have := (List.getElem?_eq_some_iff.1 hx).1; omega) hx)
      clear hgood hrow4
      go_wp2_with fail
      all_goals first | (exfalso; omega) | skip
      go_returns
      exact ⟨⟨ByteArray.empty, by first | rfl | (rw [hg]; rfl)⟩, hBw4⟩
end Go.Proofs.YtcbfgidkjhfgmaaGreatDoor
