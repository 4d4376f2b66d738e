/-
  What slices.Concat answers of lists of words: a new list of all of them, in order.
-/
import Derived.Test.YtcbfgidkjhfgmaaGreatDoorUsesF
namespace Go.Proofs.YtcbfgidkjhfgmaaGreatDoor
open Go.RowKit Go.Shelf Go.Maps
set_option linter.unusedSimpArgs false
set_option linter.unusedVariables false
attribute [local go_sem] Oper.semAt_some

abbrev L3 := Option Addr × List ByteArray × Nat
def L3.val (x : L3) : Value := .slice x.1 x.2.1.length x.2.2
def sumL : List L3 → Nat
  | [] => 0
  | x :: r => x.2.1.length + sumL r
def catL : List L3 → List ByteArray
  | [] => []
  | x :: r => x.2.1 ++ catL r
theorem sumL_take {ls : List L3} {i : Nat} {x : L3} (h : ls[i]? = some x) : sumL (ls.take (i + 1)) = sumL (ls.take i) + x.2.1.length := by
  induction ls generalizing i with
  | nil => simp at h
  | cons y r ih =>
    cases i with
    | zero => simp at h; subst h; simp [sumL]
    | succ i => simp only [List.getElem?_cons_succ] at h; simp only [List.take_succ_cons, sumL]; rw [ih h]; omega
theorem catL_take {ls : List L3} {i : Nat} {x : L3} (h : ls[i]? = some x) : catL (ls.take (i + 1)) = catL (ls.take i) ++ x.2.1 := by
  induction ls generalizing i with
  | nil => simp at h
  | cons y r ih =>
    cases i with
    | zero => simp at h; subst h; simp [catL]
    | succ i => simp only [List.getElem?_cons_succ] at h; simp only [List.take_succ_cons, catL]; rw [ih h, List.append_assoc]
theorem sumL_le (ls : List L3) (i : Nat) : sumL (ls.take i) ≤ sumL ls := by
  induction ls generalizing i with
  | nil => simp [sumL]
  | cons y r ih =>
    cases i with
    | zero => simp [sumL]
    | succ i => simp only [List.take_succ_cons, sumL]; have := ih i; omega
theorem catL_len (ls : List L3) : (catL ls).length = sumL ls := by
  induction ls with
  | nil => rfl
  | cons y r ih => simp [catL, sumL, ih]
set_option maxRecDepth 10000 in
set_option maxHeartbeats 4000000 in
theorem concatN (ls : List L3) (hls : ls.length ≤ 8) (hsum : sumL ls ≤ 4194304) (g : Nat) (ok : Nat → Prop) (w : World) (hok : ∀ b, ok b → b < w.heap.size)
    (hc : ∀ (i : Nat) (x : L3), ls[i]? = some x → w.cell? ⟨g, i, none⟩ = some x.val ∧ NRow ok w x.1 x.2.1) (hg : g < w.heap.size) :
    Calls Tryz.prog 75 #[.slice (some ⟨g, 0, none⟩) ls.length ls.length] w fun e w' => ∃ v, e = .returned v ∧ w'.ownsRow w.heap.size 9 1 v (sumL ls) ((catL ls).map Value.string) ∧ Below w.heap.size w w' := by
  obtain ⟨len, hl⟩ : ∃ len, ls.length = len := ⟨_, rfl⟩
  rw [hl] at hls ⊢
  obtain ⟨i0, hi0, hz0, hz1, hz2⟩ := info_parts infoW
  obtain ⟨tot, htot⟩ : ∃ tot, sumL ls = tot := ⟨_, rfl⟩
  go_enter Tryz.func75, Tryz.ntmps75
  go_wp2_with fail
  go_loopw [3, 11] (fun v3 v11 wr => ∃ (i : Nat), v11 = .int .i64 i ∧ i ≤ len ∧ v3 = .int .i64 (sumL (ls.take i) : Nat) ∧ wr = w) (fun _ v11 _ => len - (intOf v11).toNat)
  case atStart => exact ⟨0, rfl, by omega, rfl, rfl⟩
  case round =>
    obtain ⟨i, rfl, hi, rfl, hwr⟩ := hrel
    subst wr
    have hsl := sumL_le ls i
    by_cases hlt : i < len
    · obtain ⟨x, hx⟩ : ∃ x, ls[i]? = some x := ⟨_, List.getElem?_eq_getElem (by omega)⟩
      obtain ⟨c0, -⟩ := hc i x hx
      have hst := sumL_take hx
      have hsl1 := sumL_le ls (i + 1)
      obtain ⟨a, l, c⟩ := x
      unfold L3.val at c0
      dsimp only at c0 hst
      have hwr : wrap64 ((sumL (ls.take i) : Nat) + (l.length : Nat) : Int) = ((sumL (ls.take (i + 1)) : Nat) : Int) := by unfold wrap64; omega
      obtain ⟨s1, hs1⟩ : ∃ s1, sumL (ls.take (i + 1)) = s1 := ⟨_, rfl⟩
      obtain ⟨s0, hs0⟩ : ∃ s0, sumL (ls.take i) = s0 := ⟨_, rfl⟩
      rw [hs0] at hst hsl hwr ⊢
      rw [hs1] at hst hsl1 hwr
      clear hx hc
      go_wp2_with fail
      all_goals first | (exfalso; omega) | skip
      refine ⟨⟨i + 1, by go_num, by omega, ?_, by first | rfl | trivial⟩, by simp [intOf]; omega⟩
      rw [hs1, hwr]
    · have he : i = len := by omega
      subst he
      have hta : ls.take i = ls := List.take_of_length_le (by omega)
      rw [hta, htot]
      go_wp2_with fail
      go_at_call 108
      refine (growN tot (by omega) w).mono ?_
      rintro e w1 ⟨v0, rfl, hown0, hB0⟩
      clear hsl hta
      go_wp2_with fail
      go_loopw [6, 27] (fun v6 v27 wr => ∃ (k : Nat), v27 = .int .i64 k ∧ k ≤ i ∧ Hid (wr.ownsRow w.heap.size 9 1 v6 (sumL (ls.take k)) ((catL (ls.take k)).map Value.string)) ∧ Below w.heap.size w wr) (fun _ v27 _ => i - (intOf v27).toNat)
      case atStart => exact ⟨0, rfl, by omega, hown0, hB0⟩
      case round =>
        obtain ⟨k, rfl, hk, hA, hB⟩ := hrel
        obtain ⟨v, rfl⟩ : ∃ v, v = u6 := ⟨_, rfl⟩
        have hzw := hB.size
        by_cases hlt : k < i
        · obtain ⟨x, hx⟩ : ∃ x, ls[k]? = some x := ⟨_, List.getElem?_eq_getElem (by omega)⟩
          obtain ⟨c0, hrow⟩ := hc k x hx
          have hst := sumL_take hx
          have hct := catL_take hx
          have hsl1 := sumL_le ls (k + 1)
          obtain ⟨a, l, c⟩ := x
          unfold L3.val at c0
          dsimp only at c0 hst hrow hct
          have d0 := below_cell hB c0 hg
          clear c0
          have hrow' := hrow.under hB hok
          obtain ⟨s0, hs0⟩ : ∃ s0, sumL (ls.take k) = s0 := ⟨_, rfl⟩
          obtain ⟨l0, hl0⟩ : ∃ l0, catL (ls.take k) = l0 := ⟨_, rfl⟩
          rw [hs0] at hst
          rw [hl0] at hct
          rw [hs0, hl0] at hA
          clear hx hc hrow htot
          cases l with
          | nil =>
            go_wp2_with (at_builtin; refine Lib.wpList_append_run_sl _ rfl _ _ 24 rfl v _ rfl rfl (run_append_empty w.heap.size 24 _ 9 i0 1 Tryz.underlying24 hi0 v s0 _ hA.out a c) ?_)
            all_goals first | (exfalso; omega) | skip
            refine ⟨⟨k + 1, by go_num, by omega, ?_, hB⟩, by simp [intOf]; omega⟩
            rw [hst, hct]
            simpa using hA
          | cons y r =>
            obtain ⟨b, o, hba, hokb, -⟩ := hrow' 0 y rfl
            subst hba
            have hnewH : Hid (∀ j u, ((y :: r).map Value.string)[j]? = some u → wr.cell? ((⟨b, o, none⟩ : Addr).add j) = some u) := by
              intro j u hj
              have hadd : (⟨b, o, none⟩ : Addr).add j = ⟨b, o + j, none⟩ := by unfold Addr.add; split <;> simp_all
              rw [hadd]
              rw [List.getElem?_map] at hj
              cases hq : (y :: r)[j]? with
              | none => rw [hq] at hj; cases hj
              | some z =>
                rw [hq] at hj
                obtain ⟨b', o', hb', -, hc'⟩ := hrow' j z hq
                simp only [Option.some.injEq, Addr.mk.injEq, and_true] at hb'
                obtain ⟨rfl, rfl⟩ := hb'
                simpa using hj ▸ hc'
            have hone : Hid (∀ u ∈ (y :: r).map Value.string, u.oneCell' = true) := by
              intro u hu
              obtain ⟨z, -, rfl⟩ := List.mem_map.1 hu
              rfl
            obtain ⟨m, hm⟩ : ∃ m, (y :: r).length = m := ⟨_, rfl⟩
            obtain ⟨news, hnews⟩ : ∃ news, (y :: r).map Value.string = news := ⟨_, rfl⟩
            have hnl : news.length = m * 1 := by rw [← hnews, List.length_map, hm, Nat.mul_one]
            have hm0 : 0 < m := by rw [← hm]; simp
            have hfin : ((l0 ++ y :: r).map Value.string) = l0.map Value.string ++ news := by rw [List.map_append, hnews]
            rw [hm] at d0 hst
            rw [hnews] at hnewH hone
            clear hrow' hnews hm
            go_wp2_with (at_builtin; refine wpList_append_back _ rfl _ _ 24 rfl w.heap.size 9 i0 _ 1 16 Tryz.underlying24 hi0 hz0 hz1 hz2 rfl (by decide) v s0 (l0.map Value.string) rfl hA.out ⟨b, o, none⟩ m c news rfl hnl hnewH.out hone.out (by unfold maxLen; omega) (by omega) (by omega) hm0 ?_; intro v' w4 hown' hback)
            all_goals first | (exfalso; omega) | skip
            refine ⟨⟨k + 1, by go_num, by omega, ?_, ?_⟩, by simp [intOf]; omega⟩
            · rw [hct, hst, hfin]
              exact hown'
            · refine hB.trans (hback.kept.below (by omega) (fun j hj => ?_))
              rcases hj with hj | hj
              · exact (hA.out.lt j hj).1
              · exact (hown'.lt j hj).1
        · have he : k = i := by omega
          subst he
          go_wp2_with fail
          all_goals first | (exfalso; omega) | skip
          go_returns
          have h := hA.out
          rw [List.take_of_length_le (by omega)] at h
          exact ⟨v, rfl, h, hB⟩
end Go.Proofs.YtcbfgidkjhfgmaaGreatDoor
