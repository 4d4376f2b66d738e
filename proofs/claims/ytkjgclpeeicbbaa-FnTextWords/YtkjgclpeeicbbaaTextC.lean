/-
  The words of a text: the program's iterator yields them, in order, to whatever rounds take them; the text lies in memory that the rounds leave alone.
-/
import Derived.Test.YtkjgclpeeicbbaaTextB
import Derived.Test.YtkjgclpeeicbbaaTextR
namespace Go.Proofs.Ytkjgclpeeicbbaa
open Go.RowKit Go.Shelf
set_option linter.unusedSimpArgs false
set_option linter.unusedVariables false
attribute [local go_sem] Oper.semAt_some

theorem wordsOf (s : ByteArray) (w : World) :
    Calls Try.prog 10 #[.string s] w fun e w' =>
      e = .returned (.func (.func 11) #[] #[.pointer (some ⟨w.heap.size, 0, none⟩)]) ∧ w' = w.alloc (.cells #[.string s] 9) := by
  go_enter Try.func10, Try.ntmps10
  go_wp2
  go_returns
  exact ⟨rfl, rfl⟩

abbrev wordE (x : ByteArray) : Array Value := #[.string x]

set_option maxRecDepth 10000 in
set_option maxHeartbeats 4000000 in
theorem words1 (s : ByteArray) (hs : s.size ≤ 1048576) (bt : Nat) (S : Nat → Prop) (W : World) (hbt : W.cell? ⟨bt, 0, none⟩ = some (.string s)) (hsb : ¬ S bt) :
    Iter2 Try.prog 11 #[.pointer (some ⟨bt, 0, none⟩)] wordE (wds s) S W := by
  intro n l J Jx hJ hJx hY h0
  refine callsIn_of_wp_marks Try.func11 rfl trivial ?_ rfl
  simp only [Try.ntmps11, List.size_toArray, List.length_cons, List.length_nil, Nat.reduceAdd, Nat.reduceSub, Array.replicate_succ, Array.replicate_zero, List.push_toArray, List.append_toArray, List.nil_append, List.cons_append]
  gi_wp2
  gi_loopw [3, 8] (fun v3 v8 w' => ∃ (k f : Nat) (ws : List ByteArray), k ≤ s.size + 1 ∧ f ≤ k ∧ Hid (wst s k = (ws, f)) ∧ v3 = .int .i64 f ∧ v8 = .int .i64 k ∧ J ws w' ∧ Kept S W w' ∧ w'.cell? ⟨bt, 0, none⟩ = some (.string s)) (fun _ v8 _ => s.size + 1 - (intOf v8).toNat)
  case atStart => exact ⟨0, 0, [], by omega, by omega, rfl, rfl, rfl, h0, Kept.refl _ _, hbt⟩
  case round =>
    obtain ⟨k, f, ws, hk, hf, hH, rfl, rfl, hj, hK, hb⟩ := hrel
    have hwr := hK.size
    by_cases hend : k = s.size + 1
    · have hH1 := hH.out
      rw [hend, wst_last] at hH1
      cases hH1
      gi_wp2
      all_goals first | (exfalso; omega) | skip
      exact leave_marks [] wr List.nodup_nil (by simp) (fun W' hk' => ⟨_, results_none rfl _ _ _, ⟨_, rfl⟩, hK.trans (hk'.mono (by simp)), .inl (hJ _ _ _ (hk'.mono (by simp)) hj)⟩)
    · by_cases hgo : ∃ h : k < s.size, sepB s[k] = false
      · obtain ⟨hlt, hsp⟩ := hgo
        have hn : Hid (wst s (k + 1) = (ws, f)) := (wst_let hlt hsp).trans hH.out
        simp only [sepB, decide_eq_false_iff_not] at hsp
        gi_wp2
        all_goals first | (exfalso; simp only [bne_iff_ne, bne_eq_false_iff_eq, ne_eq] at *; omega) | skip
        exact ⟨⟨k + 1, f, ws, by omega, by omega, hn, rfl, rfl, hj, hK, hb⟩, by simp [intOf]; omega⟩
      · have hcut : wst s (k + 1) = (wcut s k, k + 1) := by
          by_cases hlt : k < s.size
          · refine wst_sep hlt ?_
            rcases hq : sepB s[k] with _ | _
            · exact absurd ⟨hlt, hq⟩ hgo
            · rfl
          · have he : k = s.size := by omega
            subst he
            exact wst_last s
        have hno : ∀ h : k < s.size, (s[k].toNat : Int) = 32 ∨ (s[k].toNat : Int) = 10 := by
          intro hlt
          rcases hq : sepB s[k] with _ | _
          · exact absurd ⟨hlt, hq⟩ hgo
          · simpa only [sepB, decide_eq_true_eq] using hq
        clear hgo
        by_cases hfk : f < k
        · have hn : Hid (wst s (k + 1) = (ws ++ [s.extract f k], k + 1)) := by
            have h1 := hH.out
            show wst s (k + 1) = _
            rw [hcut, wcut, h1, if_pos hfk]
          have hpre : ws ++ [s.extract f k] <+: wds s := by
            have h1 := wst_wds s (k := k + 1) (by omega)
            rw [hn.out] at h1
            exact h1
          have hsz : (s.extract f k).size ≤ 1048576 := by
            rw [ext_size s (by omega)]
            omega
          have hpreH : Hid (ws ++ [s.extract f k] <+: wds s) := hpre
          clear hpre hcut
          gi_wp2
          all_goals
            first
              | (exfalso; have h9 := hno (by assumption); simp only [bne_iff_ne, bne_eq_false_iff_eq, ne_eq] at *; omega)
              | skip
          all_goals
            refine ⟨trivial, (fun h => by cases h), (callsIn_wide.2 (clone (s.extract f k) wr hsz)).mono ?_⟩
            rintro e w1 ⟨rfl, hb1⟩
            obtain ⟨fn, tmps, assign, body, hy, hR⟩ := hY (n - 1) ws (s.extract f k) w1 (hJ _ _ _ (Kept.of_new _ hb1) hj) hpreH.out
            dsimp only [wordE] at hy
            have hb2 := below_cell hb1 hb (World.block_lt_of_cell? wr _ hb)
            gi_wp2
            refine ⟨(fun h => by cases h), hR.mono ?_⟩
            clear hy hR fn tmps assign body
            rintro e W2 ⟨hk2, (⟨rfl, hj2⟩ | ⟨rfl, hx2⟩)⟩
            · gi_wp2
              exact ⟨⟨k + 1, k + 1, ws ++ [s.extract f k], by omega, by omega, hn, rfl, rfl, hj2, (hK.trans (Kept.of_new S hb1)).trans hk2, hk2.cell hb2 hsb⟩, by simp [intOf]; omega⟩
            · gi_wp2
              exact leave_marks [] W2 List.nodup_nil (by simp) (fun W' hk' => ⟨_, results_none rfl _ _ _, ⟨_, rfl⟩, ((hK.trans (Kept.of_new S hb1)).trans hk2).trans (hk'.mono (by simp)), .inr ⟨_, hpreH.out, hJx _ _ _ (hk'.mono (by simp)) hx2⟩⟩)
        · have hn : Hid (wst s (k + 1) = (ws, k + 1)) := by
            have h1 := hH.out
            show wst s (k + 1) = _
            rw [hcut, wcut, h1, if_neg hfk]
          clear hcut
          gi_wp2
          all_goals
            first
              | (exfalso; have h9 := hno (by assumption); simp only [bne_iff_ne, bne_eq_false_iff_eq, ne_eq] at *; omega)
              | skip
          all_goals
            refine ⟨trivial, ?_⟩
            gi_wp2
            refine ⟨fun _ _ => trivial, ?_⟩
            gi_wp2
            exact ⟨⟨k + 1, k + 1, ws, by omega, by omega, hn, rfl, rfl, hj, hK, hb⟩, by simp [intOf]; omega⟩

theorem own_kept {A C : World} {base : Nat} {e : TypeId} {size n : Nat} {v : Value} {xs : List Value} (h : A.ownsRow base e size v n xs) (hb : ∀ g, v.ownBlock = some g → C.heap[g]? = A.heap[g]?) : C.ownsRow base e size v n xs := by
  obtain ⟨hl, h2⟩ := h
  refine ⟨hl, ?_⟩
  rcases h2 with h2 | ⟨g, cap, cur, rfl, h3, h4, h5⟩
  · exact .inl h2
  · exact .inr ⟨g, cap, cur, rfl, h3, (hb g rfl).trans h4, h5⟩

theorem own_le {A : World} {base base' : Nat} {e : TypeId} {size n : Nat} {v : Value} {xs : List Value} (h : A.ownsRow base e size v n xs) (hb : base' ≤ base) : A.ownsRow base' e size v n xs := by
  obtain ⟨hl, h2⟩ := h
  refine ⟨hl, ?_⟩
  rcases h2 with h2 | ⟨g, cap, cur, rfl, h3, h4, h5⟩
  · exact .inl h2
  · exact .inr ⟨g, cap, cur, rfl, Nat.le_trans hb h3, h4, h5⟩
theorem kept_grown {S : Nat → Prop} {A B : World} {row : Option Nat} (hg : A.grownBy B row) (hr : ∀ r, row = some r → S r) : Kept S A B :=
  ⟨hg.os, hg.tape, hg.output, hg.size, fun k hk hs => hg.block k hk (fun e => hs (hr k e.symm))⟩

set_option maxRecDepth 10000 in
set_option maxHeartbeats 4000000 in
theorem implWords (s : ByteArray) (w : World) (hs : s.size ≤ 1048576) :
    Calls Try.prog 5 #[.string s] w fun e w' => ∃ v, e = .returned v ∧ w'.ownsRow w.heap.size 9 1 v (wds s).length (strs (wds s)) ∧ Below w.heap.size w w' := by
  obtain ⟨i0, hi, hz0, hz1, hz2⟩ := info_parts infoStr
  obtain ⟨n, -⟩ : ∃ n : Nat, True := ⟨0, trivial⟩
  refine (callsIn_wide (n := n)).1 ?_
  refine callsIn_of_wp_marks Try.func5 rfl trivial ?_ rfl
  simp only [Try.ntmps5, List.size_toArray, List.length_cons, List.length_nil, Nat.reduceAdd, Nat.reduceSub, Array.replicate_succ, Array.replicate_zero, List.push_toArray, List.append_toArray, List.nil_append, List.cons_append]
  gi_wp2
  refine ⟨trivial, (fun h => by cases h), (callsIn_wide.2 (wordsOf s _)).mono ?_⟩
  rintro e w3 ⟨rfl, hw3⟩
  subst w3
  gi_wp2
  obtain ⟨W1, hW1⟩ : ∃ W1, w.alloc (.cells #[.slice none 0 0] 24) = W1 := ⟨_, rfl⟩
  obtain ⟨W2, hW2⟩ : ∃ W2, W1.alloc (.cells #[.string s] 9) = W2 := ⟨_, rfl⟩
  rw [hW1, hW2]
  have s1 : W1.heap.size = w.heap.size + 1 := by rw [← hW1]; simp
  have s2 : W2.heap.size = w.heap.size + 2 := by rw [← hW2]; simp [s1]
  have hbl : Boxed W2 w.heap.size 24 (.slice none 0 0) := by
    have h := (Boxed.new w 24 (.slice none 0 0)).alloc (.cells #[.string s] 9)
    rw [hW1, hW2] at h
    exact h
  have hbt : W2.cell? ⟨w.heap.size + 1, 0, none⟩ = some (.string s) := by
    have h := World.cell?_alloc_new W1 #[.string s] 9 0
    rw [hW2, s1] at h
    exact h
  have hB2 : Below w.heap.size w W2 := by
    rw [← hW2, ← hW1]
    exact ((Below.refl _ w).alloc (Nat.le_refl _) _).alloc (by simp) _
  clear hW1 hW2 s1
  refine range_law2 (gf := 11) (lb := #[.pointer (some ⟨w.heap.size + 1, 0, none⟩)]) rfl (enters_of Try.func11 (by kernel_rfl) rfl) wordE (fun _ => rfl) (wds s) (fun k => k = w.heap.size ∨ W2.heap.size + 2 ≤ k)
    (fun pre X => ∃ v, Boxed X w.heap.size 24 v ∧ X.ownsRow (W2.heap.size + 2) 9 1 v pre.length (strs pre))
    (fun pre X => False)
    (by omega) (by omega)
    (fun pre A B h ⟨v, h1, h2⟩ => ⟨v, (h.block _ h1.lt (by omega)).trans h1, own_kept h2 (fun g hg => h.block g (h2.lt g hg).2 (by have := (h2.lt g hg).1; omega))⟩)
    (fun pre A B h h1 => h1)
    ⟨_, hbl, World.ownsRow_nil _ _ _ _⟩
    ?hit ?hround ?hdone ?hstop
  case hit =>
    intro W6 hB6 hs6
    exact words1 s hs _ _ W6 (below_cell hB6 hbt (by dsimp only; omega)) (by omega)
  case hround =>
    rintro l m pre x X hl hlX ⟨v, h1, h2⟩ hpre
    gi_wp2
    refine ⟨Below.refl _ _, ?_⟩
    rintro w₂ hk2 ⟨v, j1, j2⟩
    have hpl : pre.length + 1 ≤ 1048576 := by
      have h3 := hpre.length_le
      have h4 : (wds s).length ≤ s.size := wcut_le s s.size
      rw [List.length_append, List.length_singleton] at h3
      omega
    have hc := j1.cell
    have hsz : W2.heap.size + 2 ≤ w₂.heap.size := by have := hk2.size; omega
    have hvb : ∀ g, v.ownBlock = some g → W2.heap.size + 2 ≤ g := fun g hg => (j2.lt g hg).1
    gi_wp2_with (gi_at_builtin; refine wpListIn_append_own _ rfl _ _ 24 rfl (W2.heap.size + 2) 9 i0 _ 1 16 Try.underlying24 hi hz0 hz1 hz2 rfl (by decide) v pre.length (strs pre) rfl (j2.alloc _) ⟨w₂.heap.size, 0, none⟩ 1 1 [.string x] rfl rfl (cell_one_new _ _ _) (by simp [Value.oneCell']) (by unfold maxLen; omega) (by omega) (by rw [World.size_alloc]; omega) ?_; intro v' w1 hown' hgrow _; obtain ⟨g', cap', rfl⟩ := ownsRow_succ hown'; (have b1 : Boxed w1 w.heap.size 24 v := (j1.alloc _).kept hgrow (fun e => by have := hvb _ e.symm; omega)); (have c1 := b1.cell); (have f1 := b1.frozen))
    have hg' := (hown'.lt g' rfl).1
    rw [← strs_snoc] at hown'
    refine ⟨(((Kept.refl _ w₂).alloc _).trans (kept_grown hgrow (fun r hr => .inr (hvb r hr)))).setCell (.inl rfl) _, _, b1.set _, ?_⟩
    rw [List.length_append]
    exact own_kept hown' (fun g hg => by simp [Value.ownBlock] at hg; exact Below.heap_setCell _ _ _ _ (by dsimp only; omega))
  case hdone =>
    rintro D X hD ⟨v, h1, h2⟩ hkX hdX
    have hc := h1.cell
    gi_wp2
    refine leave_marks [D] _ (by simp) (fun E hE => ?_) (fun W' hk' => ⟨v, ?_, v, rfl, ?_, ?_⟩)
    · rw [List.mem_singleton.1 hE]
      exact hdX
    · simp [results, Try.results5, go_sem]
    · exact own_le (own_kept h2 (fun g hg => hk'.block g (h2.lt g hg).2 (by have := (h2.lt g hg).1; simp; omega))) (by omega)
    · exact hB2.trans (((hkX.mono (T := fun k => k = w.heap.size ∨ W2.heap.size ≤ k) (fun k _ h => by omega)).join hk' (T := fun k => k ∈ [D]) (S := fun k => k = w.heap.size ∨ W2.heap.size ≤ k) (fun k h1 h2 => by simp at h2; omega)).below (by omega) (fun k h => by omega))
  case hstop =>
    rintro D pre X hD hpre h1 hkX hdX
    exact h1.elim
end Go.Proofs.Ytkjgclpeeicbbaa
