/-
  How many expressions there are in one, by the program.
-/
import Derived.Test.YtaajdoipjalgmaaGreatDoorTreeF
namespace Go.Proofs.YtaajdoipjalgmaaGreatDoor
open Go.RowKit Go.Shelf
set_option linter.unusedSimpArgs false
set_option linter.unusedVariables false
attribute [local go_sem] Oper.semAt_some

set_option maxRecDepth 100000 in
set_option maxHeartbeats 8000000 in
theorem nodes (t : XT) (hsz : t.size ≤ 1099511627776) (ok : Nat → Prop) (w : World) (hok : ∀ b, ok b → b < w.heap.size) (hL : Lies ok w t) :
    Calls Tryz.prog 169 #[t.val] w fun e w' => e = .returned (.int .i64 t.size) ∧ Below w.heap.size w w' := by
  obtain ⟨n, -⟩ : ∃ n : Nat, True := ⟨0, trivial⟩
  refine (callsIn_wide (n := n)).1 ?_
  refine callsIn_of_wp_marks Tryz.func169 rfl trivial ?_ rfl
  simp only [Tryz.ntmps169, List.size_toArray, List.length_cons, List.length_nil, Nat.reduceAdd, Nat.reduceSub, Array.replicate_succ, Array.replicate_zero, List.push_toArray, List.append_toArray, List.nil_append, List.cons_append]
  gi_wp2
  refine ⟨trivial, (fun h => by cases h), (callsIn_wide.2 (partsOf t 1 _)).mono ?_⟩
  rintro e w3 ⟨rfl, hw3⟩
  subst w3
  gi_wp2
  obtain ⟨W1, hW1⟩ : ∃ W1, w.alloc (.cells #[.int .i64 t.kind, .int .i64 t.num, .string t.name, .slice t.base t.kids.length t.cap] 123) = W1 := ⟨_, rfl⟩
  obtain ⟨W2, hW2⟩ : ∃ W2, W1.alloc (.cells #[.int .i64 0] 3) = W2 := ⟨_, rfl⟩
  obtain ⟨W4, hW4⟩ : ∃ W4, W2.alloc (.cells #[.int .i64 t.kind, .int .i64 t.num, .string t.name, .slice t.base t.kids.length t.cap] 123) = W4 := ⟨_, rfl⟩
  obtain ⟨W5, hW5⟩ : ∃ W5, W4.alloc (.cells #[.int .i64 1] 3) = W5 := ⟨_, rfl⟩
  rw [hW1, hW2, hW4, hW5]
  have s1 : W1.heap.size = w.heap.size + 1 := by rw [← hW1]; simp
  have s2 : W2.heap.size = w.heap.size + 2 := by rw [← hW2]; simp [s1]
  have s4 : W4.heap.size = w.heap.size + 3 := by rw [← hW4]; simp [s2]
  have s5 : W5.heap.size = w.heap.size + 4 := by rw [← hW5]; simp [s4]
  have hbn : Boxed W5 (w.heap.size + 1) 3 (.int .i64 0) := by
    have h := ((Boxed.new W1 3 (.int .i64 0)).alloc (.cells #[.int .i64 t.kind, .int .i64 t.num, .string t.name, .slice t.base t.kids.length t.cap] 123)).alloc (.cells #[.int .i64 1] 3)
    rw [hW2, hW4, hW5, s1] at h
    exact h
  have hbe : Cells4 W5 (w.heap.size + 2) 0 t := by
    have h := Cells4.new W2 t
    rw [hW4, s2] at h
    rw [← hW5]
    exact h.below (n := W4.heap.size) ((Below.refl _ _).alloc (Nat.le_refl _) _) (by omega)
  have hbd : W5.cell? ⟨w.heap.size + 3, 0, none⟩ = some (.int .i64 1) := by
    have h := World.cell?_alloc_new W4 #[.int .i64 1] 3 0
    rw [hW5, s4] at h
    exact h
  have hB5 : Below w.heap.size w W5 := by
    rw [← hW5, ← hW4, ← hW2, ← hW1]
    exact ((((Below.refl _ w).alloc (Nat.le_refl _) _).alloc (by simp) _).alloc (by simp; omega) _).alloc (by simp; omega) _
  have hL5 := hL.under hB5 hok
  have hlen := XT.parts_length _ t (Nat.le_refl _) 1
  clear hW1 hW2 hW4 hW5
  refine range_law (gf := 177) (lb := #[.pointer (some ⟨w.heap.size + 1 + 1 + 1, 0, none⟩), .pointer (some ⟨w.heap.size + 1 + 1, 0, none⟩)]) rfl (enters_of Tryz.func177 (by kernel_rfl) rfl) partE (fun _ => rfl) (t.parts 1) (fun k => k = w.heap.size + 1)
    (fun pre X => Boxed X (w.heap.size + 1) 3 (.int .i64 pre.length))
    (fun pre X => False)
    (fun k h => by omega)
    (fun pre A B h h1 => (h.block _ (by omega)).trans h1)
    (fun pre A B h h1 => h1)
    hbn
    ?hit ?hround ?hdone ?hstop
  case hit =>
    intro W6 hB6 hs6
    refine parts1 _ t hsz (Nat.le_refl _) 1 _ _ _ ok W6 ?_ ?_ (below_cell hB6 hbd (by dsimp only; omega)) ?_ (hbe.below hB6 (by omega)) ?_ (hL5.under hB6 (fun b hb => by have := hok b hb; omega))
    · intro k h; omega
    · intro b hb
      have := hok b hb
      omega
    · omega
    · omega
  case hround =>
    rintro l m pre x X hl hlX h1 hpre
    gi_wp2
    refine ⟨Below.refl _ _, ?_⟩
    rintro w₂ hk2 j1
    have hc1 := j1.cell
    have hf1 := j1.frozen
    have hpl : pre.length + 1 ≤ 1099511627776 := by
      have h3 := hpre.length_le
      rw [List.length_append, List.length_singleton, hlen] at h3
      omega
    gi_wp2
    refine ⟨(Kept.refl (fun k => k = w.heap.size + 1) w₂).setCell (p := ⟨w.heap.size + 1, 0, none⟩) rfl _, ?_⟩
    have hj := j1.set (.int .i64 (pre.length + 1))
    simpa using hj
  case hdone =>
    rintro D X hD h1 hkX hdX
    have hc := h1.cell
    rw [hlen] at hc
    gi_wp2
    refine leave_marks [D] _ (by simp) (fun E hE => ?_) (fun W' hk' => ⟨.int .i64 t.size, ?_, rfl, ?_⟩)
    · rw [List.mem_singleton.1 hE]
      exact hdX
    · simp [results, Tryz.results169, go_sem]
    · exact hB5.trans ((hkX.join hk' (T := fun k => k ∈ [D]) (fun k h1 h2 => by simp at h2; omega)).below (by omega) (fun k h => by omega))
  case hstop =>
    rintro D pre X hD hpre h1 hkX hdX
    exact h1.elim
end Go.Proofs.YtaajdoipjalgmaaGreatDoor
