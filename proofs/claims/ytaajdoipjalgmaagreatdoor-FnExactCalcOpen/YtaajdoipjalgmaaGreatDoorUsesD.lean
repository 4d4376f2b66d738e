/-
  What the program answers of a use of a name, of the locks of variables, and of the places of all names of a program.
-/
import Derived.Test.YtaajdoipjalgmaaGreatDoorUsesC
import Derived.Test.YtaajdoipjalgmaaGreatDoorAsN
import Derived.Deep.RegionHeld3
namespace Go.Proofs.YtaajdoipjalgmaaGreatDoor
open Go.RowKit Go.Shelf Go.Maps
set_option linter.unusedSimpArgs false
set_option linter.unusedVariables false
attribute [local go_sem] Oper.semAt_some

def errV (c : Int) (x : ByteArray) : Value := if c = 0 then .nilIface else nameV c x
def PX.wrongI (p : PX) (task : Int) (u : UX) : Int :=
  if u.as_ = 0 then 0 else if p.placeI u < 0 then 3
  else if ((decide (u.as_ = 1) || decide (u.as_ = 2)) && !p.mayB task (p.placeI u)) = true then 4 else 0
set_option maxRecDepth 10000 in
set_option maxHeartbeats 4000000 in
theorem wrongUseT (p : PX) (mv mc mn : Nat) (task : Int) (u : UX) (hu : u.name.size ≤ 1048576) (ok : Nat → Prop) (w : World) (hok : ∀ b, ok b → b < w.heap.size) (hS : SC w p mv mc mn) (hR : VX.Row ok w p.vbase p.vars) (hm : p.vars.length ≤ 1048577) :
    Calls Tryz.prog 105 #[scV p mv mc mn, .int .i64 task, u.val] w fun e w' => e = .returned (errV (p.wrongI task u) u.name) ∧ Below w.heap.size w w' := by
  obtain ⟨nm, k⟩ := u
  dsimp only at hu ⊢
  obtain ⟨W1, hW1⟩ : ∃ W1, w.alloc (.cells #[.slice p.vbase p.vars.length p.vcap, .slice p.cbase p.chans.length p.ccap, .slice p.nbase p.locks.length p.ncap, .slice p.tbase p.tasks.length p.tcap, .map (some mv), .map (some mc), .map (some mn)] 159) = W1 := ⟨_, rfl⟩
  obtain ⟨W2, hW2⟩ : ∃ W2, W1.alloc (.cells #[.string nm, .int .i64 k] 167) = W2 := ⟨_, rfl⟩
  have hs1 : w.heap.size + 1 = W1.heap.size := by rw [← hW1]; simp
  have hs2 : W1.heap.size + 1 = W2.heap.size := by rw [← hW2]; simp
  have hB2 : Below w.heap.size w W2 := by rw [← hW2, ← hW1]; exact ((Below.refl _ w).alloc (Nat.le_refl _) _).alloc (by simp) _
  have p1 : W2.heap[w.heap.size]? = some (.cells #[.slice p.vbase p.vars.length p.vcap, .slice p.cbase p.chans.length p.ccap, .slice p.nbase p.locks.length p.ncap, .slice p.tbase p.tasks.length p.tcap, .map (some mv), .map (some mc), .map (some mn)] 159) := by
    rw [← hW2]
    refine (Below.heap_alloc _ _ _ (by omega)).trans ?_
    rw [← hW1]
    exact Array.getElem?_push_size
  have p2 : W2.heap[W1.heap.size]? = some (.cells #[.string nm, .int .i64 k] 167) := by rw [← hW2]; exact Array.getElem?_push_size
  have hS2 := hS.new hB2
  have hR2 := hR.under hB2 hok
  have hP := placeT p mv mc mn ⟨nm, k⟩ hu ok W2 (fun b hb => by have := hok b hb; omega) hS2 hR2 hm
  have hcells : ∀ A : World, A.heap[w.heap.size]? = W2.heap[w.heap.size]? → A.heap[W1.heap.size]? = W2.heap[W1.heap.size]? →
      A.cell? ⟨w.heap.size, 0, none⟩ = some (.slice p.vbase p.vars.length p.vcap) ∧ A.cell? ⟨w.heap.size, 1, none⟩ = some (.slice p.cbase p.chans.length p.ccap) ∧ A.cell? ⟨w.heap.size, 2, none⟩ = some (.slice p.nbase p.locks.length p.ncap) ∧ A.cell? ⟨w.heap.size, 3, none⟩ = some (.slice p.tbase p.tasks.length p.tcap) ∧
      A.cell? ⟨w.heap.size, 4, none⟩ = some (.map (some mv)) ∧ A.cell? ⟨w.heap.size, 5, none⟩ = some (.map (some mc)) ∧ A.cell? ⟨w.heap.size, 6, none⟩ = some (.map (some mn)) ∧ A.cell? ⟨W1.heap.size, 0, none⟩ = some (.string nm) ∧ A.cell? ⟨W1.heap.size, 1, none⟩ = some (.int .i64 k) := by
    intro A h1 h2
    rw [p1] at h1
    rw [p2] at h2
    refine ⟨?_, ?_, ?_, ?_, ?_, ?_, ?_, ?_, ?_⟩ <;> simp [World.cell?, h1, h2]
  obtain ⟨a0, a1, a2, a3, a4, a5, a6, b0, b1⟩ := hcells W2 rfl rfl
  by_cases h0 : k = 0
  · subst h0
    rw [show p.wrongI task ⟨nm, 0⟩ = 0 from rfl, show errV 0 nm = .nilIface from rfl]
    go_enter Tryz.func105, Tryz.ntmps105
    go_wp2_with fail
    go_returns
    exact ⟨rfl, hB2⟩
  by_cases hlt : p.placeI ⟨nm, k⟩ < 0
  · rw [show p.wrongI task ⟨nm, k⟩ = 3 from by unfold PX.wrongI; rw [if_neg h0, if_pos hlt], show errV 3 nm = nameV 3 nm from rfl]
    obtain ⟨pl, hpl⟩ : ∃ pl, p.placeI ⟨nm, k⟩ = pl := ⟨_, rfl⟩
    rw [hpl] at hP hlt
    go_enter Tryz.func105, Tryz.ntmps105
    go_wp2_with fail
    go_at_call 145
    refine hP.mono ?_
    rintro e w3 ⟨rfl, hB3⟩
    obtain ⟨c0, c1, c2, c3, c4, c5, c6, d0, d1⟩ := hcells w3 (hB3.block _ (by omega)) (hB3.block _ (by omega))
    clear a0 a1 a2 a3 a4 a5 a6 b0 b1
    go_wp2_with fail
    go_returns
    exact ⟨rfl, hB2.trans (hB3.mono hB2.size)⟩
  · rw [show p.wrongI task ⟨nm, k⟩ = if ((decide (k = 1) || decide (k = 2)) && !p.mayB task (p.placeI ⟨nm, k⟩)) = true then 4 else 0 from by unfold PX.wrongI; rw [if_neg h0, if_neg hlt]]
    obtain ⟨pl, hpl⟩ : ∃ pl, p.placeI ⟨nm, k⟩ = pl := ⟨_, rfl⟩
    rw [hpl] at hP hlt ⊢
    obtain ⟨mb, hmb⟩ : ∃ mb, p.mayB task pl = mb := ⟨_, rfl⟩
    have hMay : ∀ w3, Below W2.heap.size W2 w3 → Calls Tryz.prog 146 #[p.val, .int .i64 task, .int .i64 pl] w3 fun e w' => e = .returned (.bool mb) ∧ Below w3.heap.size w3 w' := by
      intro w3 hB3
      have hz3 := hB3.size
      have h := PX.implMay p task pl ok w3 (fun b hb => by have := hok b hb; omega) hm (hR2.under hB3 (fun b hb => by have := hok b hb; omega))
      rw [hmb] at h
      exact h
    rw [hmb]
    clear hmb hpl
    by_cases h12 : k = 1 ∨ k = 2
    · rw [show (decide (k = 1) || decide (k = 2)) = true from by simpa using h12, Bool.true_and]
      rcases h12 with rfl | rfl <;> cases mb
      all_goals
        go_enter Tryz.func105, Tryz.ntmps105
        go_wp2_with fail
        go_at_call 145
        refine hP.mono ?_
        rintro e w3 ⟨rfl, hB3⟩
        have hz3 := hB3.size
        obtain ⟨c0, c1, c2, c3, c4, c5, c6, d0, d1⟩ := hcells w3 (hB3.block _ (by omega)) (hB3.block _ (by omega))
        have hM := hMay w3 hB3
        have hB3' := hB2.trans (hB3.mono hB2.size)
        clear a0 a1 a2 a3 a4 a5 a6 b0 b1
        go_wp2_with fail
        go_at_call 146
        refine hM.mono ?_
        rintro e w4 ⟨rfl, hB4⟩
        clear c0 c1 c2 c3 c4 c5 c6 d0 d1
        obtain ⟨c0, c1, c2, c3, c4, c5, c6, d0, d1⟩ := hcells w4 ((hB4.block _ (by omega)).trans (hB3.block _ (by omega))) ((hB4.block _ (by omega)).trans (hB3.block _ (by omega)))
        have hB4' := hB3'.trans (hB4.mono hB3'.size)
        go_wp2_with fail
        go_returns
        exact ⟨rfl, hB4'⟩
    · rw [show (decide (k = 1) || decide (k = 2)) = false from by simpa using h12, Bool.false_and]
      have h1 : ¬ k = 1 := fun h => h12 (.inl h)
      have h2 : ¬ k = 2 := fun h => h12 (.inr h)
      go_enter Tryz.func105, Tryz.ntmps105
      go_wp2_with fail
      go_at_call 145
      refine hP.mono ?_
      rintro e w3 ⟨rfl, hB3⟩
      have hz3 := hB3.size
      obtain ⟨c0, c1, c2, c3, c4, c5, c6, d0, d1⟩ := hcells w3 (hB3.block _ (by omega)) (hB3.block _ (by omega))
      have hM := hMay w3 hB3
      have hB3' := hB2.trans (hB3.mono hB2.size)
      clear a0 a1 a2 a3 a4 a5 a6 b0 b1
      go_wp2_with fail
      go_returns
      exact ⟨rfl, hB3'⟩
end Go.Proofs.YtaajdoipjalgmaaGreatDoor
