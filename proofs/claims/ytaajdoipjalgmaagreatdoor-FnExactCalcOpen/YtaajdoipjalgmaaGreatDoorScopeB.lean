/-
  What the program and the specification answer of places of variables, channels and locks: one contract a function.
-/
import Derived.Test.YtaajdoipjalgmaaGreatDoorScopeA
import Derived.Maps.OwnSet
namespace Go.Proofs.YtaajdoipjalgmaaGreatDoor
open Go.RowKit Go.Shelf Go.Maps Go.WideMaps
set_option linter.unusedSimpArgs false
set_option linter.unusedVariables false
attribute [local go_sem] Oper.semAt_some

theorem find_hit {l : List ByteArray} {i : Nat} {x s : ByteArray} (h : l[i]? = some x) (hn : findOf (l.take i) s = none) (hx : isIt s x = true) : findOf l s = some i := by
  have hi := (List.getElem?_eq_some_iff.1 h).1
  have e : l = l.take i ++ x :: l.drop (i + 1) := by
    rw [← (List.getElem?_eq_some_iff.1 h).2, List.getElem_cons_drop, List.take_append_drop]
  have hn' : List.findIdx? (isIt s) (l.take i) = none := hn
  rw [e]
  unfold findOf
  rw [List.findIdx?_append, hn', List.findIdx?_cons, hx]
  simp
  omega
theorem find_step {l : List ByteArray} {i : Nat} {x s : ByteArray} (h : l[i]? = some x) (hn : findOf (l.take i) s = none) (hx : isIt s x = false) : findOf (l.take (i + 1)) s = none := by
  rw [List.take_add_one, h]
  simp only [Option.toList]
  rw [findOf_snoc, hn, hx]
  rfl
theorem first_hit {l : List ByteArray} {i : Nat} {x s : ByteArray} (h : l[i]? = some x) (hn : findOf (l.take i) s = none) (hx : isIt s x = true) : firstOf l s = i := by
  unfold firstOf
  rw [find_hit h hn hx]
theorem first_none {l : List ByteArray} {i : Nat} {s : ByteArray} (hi : l.length ≤ i) (hn : findOf (l.take i) s = none) : firstOf l s = -1 := by
  rw [List.take_of_length_le hi] at hn
  unfold firstOf
  rw [hn]
theorem news1 (w : World) (s : ByteArray) (T : TypeId) : ∀ j u, [Value.string s][j]? = some u → (w.alloc (.cells #[.string s] T)).cell? ((⟨w.heap.size, 0, none⟩ : Addr).add j) = some u := by
  intro j u hj
  have hadd : (⟨w.heap.size, 0, none⟩ : Addr).add j = ⟨w.heap.size, j, none⟩ := by unfold Addr.add; split <;> simp_all
  rw [hadd]
  have h := World.cell?_alloc_new w #[.string s] T j
  rw [h]
  simpa using hj
theorem names_row {W : World} {base : Nat} {v : Value} {l : List ByteArray} (h : W.ownsRow base 9 1 v l.length (l.map Value.string)) : ∃ a c, v = .slice a l.length c ∧ NRow (fun b => base ≤ b ∧ b < W.heap.size) W a l := by
  rcases h.2 with ⟨rfl, h0⟩ | ⟨g, cap, cur, rfl, hb, hg, hnc, hcm, hcs, htk⟩
  · have : l = [] := List.length_eq_zero_iff.1 h0
    subst this
    exact ⟨none, 0, rfl, fun i k hk => by simp at hk⟩
  · refine ⟨_, cap, rfl, fun i k hk => ⟨g, 0, rfl, ⟨hb, (Array.getElem?_eq_some_iff.1 hg).1⟩, ?_⟩⟩
    have h1 := h.cells (g := g) rfl i (.string k) (by simp [hk])
    have hadd : (⟨g, 0, none⟩ : Addr).add i = ⟨g, 0 + i, none⟩ := by unfold Addr.add; split <;> simp_all
    rw [hadd] at h1
    exact h1
set_option maxHeartbeats 2000000 in
theorem placesOf (l : List ByteArray) (a : Option Addr) (c : Nat) (ok : Nat → Prop) (w : World) (hok : ∀ b, ok b → b < w.heap.size) (hcl : NRow ok w a l) (hlen : l.length ≤ 4194304) (hs : ∀ (i : Nat) (k : ByteArray), l[i]? = some k → k.size ≤ 1048576) :
    Calls Tryz.prog 138 #[.slice a l.length c] w fun e w' => ∃ D : DataW Unit, e = .returned (.map (some w.heap.size)) ∧ w'.ownsMap Tryz.prog 9 (plainElem Tryz.prog 3) w.heap.size l.length D ∧ Firsts D l ∧ Below w.heap.size w w' := by
  obtain ⟨len, hl⟩ : ∃ len, l.length = len := ⟨_, rfl⟩
  rw [hl] at hlen ⊢
  have hmm := @run_makeMap Tryz.prog
  go_enter Tryz.func138, Tryz.ntmps138
  go_wp2_with fail
  go_loopw [11] (fun v11 wr => ∃ (i : Nat) (D : DataW Unit), v11 = .int .i64 i ∧ i ≤ len ∧ wr.ownsMap Tryz.prog 9 (plainElem Tryz.prog 3) w.heap.size i D ∧ Firsts D (l.take i) ∧ Below w.heap.size w wr) (fun v11 _ => len - (intOf v11).toNat)
  case atStart => exact ⟨0, _, rfl, by omega, World.ownsMap_made _ _ _ _, by rw [List.take_zero]; exact Firsts.nil, (Below.refl _ w).alloc (Nat.le_refl _) _⟩
  case round =>
    obtain ⟨i, D, rfl, hi, hown, hF, hB⟩ := hrel
    by_cases hlt : i < len
    · obtain ⟨x, hx⟩ : ∃ x, l[i]? = some x := ⟨_, List.getElem?_eq_getElem (by omega)⟩
      obtain ⟨b1, o1, hbase1, hok1, hc1⟩ := hcl i x hx
      have c0 := below_cell hB hc1 (hok b1 hok1)
      have hsx := hs i x hx
      have hkey : keyOf Tryz.prog 9 (.string x) = some (keyL x) := keyOf_string_mk Tryz.underlying9 (by unfold maxLen; omega)
      have htk : l.take (i + 1) = l.take i ++ [x] := by rw [List.take_add_one, hx]; rfl
      have hlt' : (l.take i).length = i := by rw [List.length_take]; omega
      subst hbase1
      cases hh : Maps.has D (keyL x)
      · go_wp2_with (first | (at_lookup; refine wpList_lookup_own_ok_int _ rfl _ _ 157 rfl 9 3 .i64 lawK Tryz.underlying157 Tryz.underlying3 (zeroI _) w.heap.size i D rfl hown _ _ rfl hkey ?_; intro c hat hwc) | (at_mapUpdate; refine wpList_mapUpdate_own _ rfl _ _ _ 157 rfl 9 3 lawK Tryz.underlying157 _ w.heap.size i D rfl hown (by unfold maxLen; omega) _ _ _ rfl rfl hkey _ [] (plainElem_int Tryz.underlying3 (WalkArith.wf_i64 (by omega))) ?_; intro w1 hown1 hgrow1))
        have hF1 := hF.put hh
        rw [hlt'] at hF1
        refine ⟨⟨i + 1, _, by go_num, by omega, hown1, by rw [htk]; exact hF1, hB.grown hgrow1 hB.size (fun j hj => by cases hj; exact Nat.le_refl _)⟩, by simp [intOf]; omega⟩
      · go_wp2_with (at_lookup; refine wpList_lookup_own_ok_int _ rfl _ _ 157 rfl 9 3 .i64 lawK Tryz.underlying157 Tryz.underlying3 (zeroI _) w.heap.size i D rfl hown _ _ rfl hkey ?_; intro c hat hwc)
        exact ⟨⟨i + 1, D, by go_num, by omega, hown.mono (by omega), by rw [htk]; exact hF.same hh, hB⟩, by simp [intOf]; omega⟩
    · have he : i = len := by omega
      subst he
      go_wp2_with fail
      go_returns
      rw [List.take_of_length_le (by omega)] at hF
      exact ⟨D, rfl, hown, hF, hB⟩
theorem placeIn (l : List ByteArray) (m n : Nat) (D : DataW Unit) (s : ByteArray) (hs : s.size ≤ 1048576) (hF : Firsts D l) (w : World) (hown : w.ownsMap Tryz.prog 9 (plainElem Tryz.prog 3) m n D) :
    Calls Tryz.prog 139 #[.map (some m), .string s] w fun e w' => e = .returned (.int .i64 (firstOf l s)) ∧ w' = w := by
  have hkey : keyOf Tryz.prog 9 (.string s) = some (keyL s) := keyOf_string_mk Tryz.underlying9 (by unfold maxLen; omega)
  have hhas := hF.has s
  go_enter Tryz.func139, Tryz.ntmps139
  cases hf : findOf l s with
  | none =>
    rw [hf] at hhas
    simp only [Option.isSome_none] at hhas
    have hr : firstOf l s = -1 := by unfold firstOf; rw [hf]
    rw [hr]
    go_wp2_with (at_lookup; refine wpList_lookup_own_ok_int _ rfl _ _ 157 rfl 9 3 .i64 lawK Tryz.underlying157 Tryz.underlying3 (zeroI _) m n D rfl hown _ _ rfl hkey ?_; intro c hat hwc)
    go_returns
    exact ⟨rfl, rfl⟩
  | some i =>
    rw [hf] at hhas
    simp only [Option.isSome_some] at hhas
    have hr : firstOf l s = i := by unfold firstOf; rw [hf]
    have hat0 := hF.at_ s i hf
    rw [hr]
    go_wp2_with (at_lookup; refine wpList_lookup_own_ok_int _ rfl _ _ 157 rfl 9 3 .i64 lawK Tryz.underlying157 Tryz.underlying3 (zeroI _) m n D rfl hown _ _ rfl hkey ?_; intro c hat hwc)
    rw [hat0] at hat
    cases hat
    go_returns
    exact ⟨rfl, rfl⟩
end Go.Proofs.YtaajdoipjalgmaaGreatDoor
