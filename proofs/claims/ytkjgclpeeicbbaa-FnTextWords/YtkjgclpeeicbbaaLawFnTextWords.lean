/-
  For every two slices of bytes: the words of the two drawn texts with a space and a new line between are those of the one and then those of the other, and none of them is empty or has a space or a new line, as the law's Go text says; no condition.
-/
import Derived.Test.YtkjgclpeeicbbaaWordA
import Derived.Test.YtkjgclpeeicbbaaKitB
import Derived.Test.YtkjgclpeeicbbaaKitR
import Derived.Test.YtkjgclpeeicbbaaRows
import Derived.OpenShut
import Derived.ChangeOld
import Derived.Lib.SmallJoins
namespace Go.Proofs.Ytkjgclpeeicbbaa
open Go.ChangeShapes Go.WideShapes Go.ChangeAt Go.RowKit Go.Joins
set_option linter.unusedSimpArgs false
set_option linter.unusedVariables false

namespace FnTextWords
theorem own_cellsW {w : World} {base : Nat} {v : Value} {l : List ByteArray} (h : w.ownsRow base 9 1 v l.length (strs l)) :
    ∃ a c, v = .slice a l.length c ∧ ∀ (i : Nat) (x : ByteArray), l[i]? = some x → ∃ b, a = some ⟨b, 0, none⟩ ∧ b < w.heap.size ∧ w.cell? ⟨b, i, none⟩ = some (.string x) := by
  rcases h.2 with ⟨rfl, h0⟩ | ⟨g, cap, cur, rfl, hb, hg, h3⟩
  · refine ⟨none, 0, by rw [h0], fun i x hx => ?_⟩
    have := (List.getElem?_eq_some_iff.1 hx).1
    omega
  · refine ⟨_, cap, rfl, fun i x hx => ⟨g, rfl, (Array.getElem?_eq_some_iff.1 hg).1, ?_⟩⟩
    have hi := (List.getElem?_eq_some_iff.1 hx).1
    rw [h.cellAt i (by omega)]
    simp [strs, hx]
theorem rowMore {w w' : World} {sa : Option Addr} {len : Nat} (h : Row w.heap.size w sa len) (hb : Below w.heap.size w w') : Row w'.heap.size w' sa len := by
  rcases h with h | ⟨sb, so, rfl, hs, hr⟩
  · exact .inl h
  · refine .inr ⟨sb, so, rfl, Nat.lt_of_lt_of_le hs hb.size, fun i hi => ?_⟩
    obtain ⟨v, hv, h0, h1⟩ := hr i hi
    exact ⟨v, (hb.cell (p := ⟨sb, so + i, none⟩) hs).trans hv, h0, h1⟩
theorem wst_small (s : ByteArray) : ∀ k, k ≤ s.size → ∀ x ∈ (wst s k).1, x.size ≤ s.size
  | 0, _ => by rw [wst]; exact fun x h => by simp at h
  | k + 1, hk => by
    have h1 := wst_small s k (by omega)
    have hle := (wst_le s k).2
    rw [wst]
    split
    · dsimp only
      split
      · intro x hx
        rcases List.mem_append.1 hx with hx | hx
        · exact h1 x hx
        · rw [List.mem_singleton] at hx
          rw [hx, ext_size s (by omega)]
          omega
      · exact h1
    · exact h1
theorem wds_le (s : ByteArray) : ∀ x ∈ wds s, x.size ≤ s.size := by
  intro x hx
  unfold wds wcut at hx
  split at hx
  · rcases List.mem_append.1 hx with hx | hx
    · exact wst_small s s.size (Nat.le_refl _) x hx
    · rw [List.mem_singleton] at hx
      rw [hx, ext_size s (Nat.le_refl _)]
      omega
  · exact wst_small s s.size (Nat.le_refl _) x hx
/-- A list of words as it lies: nobody writes it any more. -/
def Ws (w : World) (a : Option Addr) (l : List ByteArray) : Prop := ∀ (i : Nat) (x : ByteArray), l[i]? = some x → ∃ b, a = some ⟨b, 0, none⟩ ∧ b < w.heap.size ∧ w.cell? ⟨b, i, none⟩ = some (.string x)
theorem Ws.below {A B : World} {a : Option Addr} {l : List ByteArray} (h : Ws A a l) (hb : Below A.heap.size A B) : Ws B a l := by
  intro i x hx
  obtain ⟨b, h1, h2, h3⟩ := h i x hx
  exact ⟨b, h1, Nat.lt_of_lt_of_le h2 hb.size, (hb.cell (p := ⟨b, i, none⟩) h2).trans h3⟩
theorem ofS (B g : Nat) (sa : Option Addr) (len cap : Nat) (k : Int) (w : World) (R : Rd B g sa len cap k w) (hk : k ≤ 100000) (L : Nat) (hL : L ≠ g) (HC : Hid (∀ i, i < 7 → ∃ x : ByteArray, x.size ≤ 2 ∧ w.cell? ⟨L, i, none⟩ = some (.string x))) :
    Calls Try.prog 9 #[.pointer (some ⟨g, 0, none⟩), .slice (some ⟨L, 0, none⟩) 7 7] w fun e w' => ∃ x : ByteArray, x.size ≤ 2 ∧ e = .returned (.string x) ∧ Adv g w w' ∧ Rd B g sa len cap (k + 1) w' := by
  go_enter Try.func9, Try.ntmps9
  go_wp2_with fail
  go_at_call 8
  refine (pick B g sa len cap k 7 w R (by omega) (by omega) (by omega)).mono ?_
  rintro e w1 ⟨v, rfl, hv0, hv1, hA, hR⟩
  obtain ⟨x, hx0, hx⟩ := HC.out v.toNat (by omega)
  have hx' := hA.cell (p := ⟨L, v.toNat, none⟩) hL hx
  go_wp2
  go_returns
  exact ⟨x, hx0, rfl, hA, hR⟩
set_option maxHeartbeats 1000000 in
theorem drawn (sa : Option Addr) (len cap : Nat) (w : World) (hrow : Row w.heap.size w sa len) (hc : len ≤ cap) (hm : cap ≤ maxLen) :
    Calls Try.prog 4 #[.slice sa len cap] w fun e w' => ∃ x : ByteArray, x.size ≤ 16 ∧ e = .returned (.string x) ∧ Below w.heap.size w w' := by
  have HR : Hid (Row w.heap.size w sa len) := hrow
  clear hrow
  go_enter Try.func4, Try.ntmps4
  go_wp2_with fail
  go_at_call 7
  refine (l19Open sa len cap w HR.out hc hm).mono ?_
  rintro e w1 ⟨len', rfl, hB1, hR1⟩
  go_wp2_with fail
  go_at_call 8
  refine (pick _ _ sa len' cap 0 9 w1 hR1 (by omega) (by omega) (by omega)).mono ?_
  rintro e w2 ⟨m, rfl, hm0, hm1, hA2, hR2⟩
  have hB2 : Below w.heap.size w w2 := Adv.onto hB1 (Nat.le_refl _) hB1.size hA2
  clear hA2 hR1
  go_wp2_with fail
  go_loopw [4, 5] (fun v4 v5 wr => ∃ (n : Nat) (x : ByteArray) (k : Int), v5 = .int .i64 n ∧ v4 = .string x ∧ x.size + 2 * n ≤ 16 ∧ k + n ≤ 100 ∧ Hid (Rd w.heap.size w.heap.size sa len' cap k wr) ∧ Below w.heap.size w wr) (fun _ v5 _ => (intOf v5).toNat)
  case atStart => exact ⟨m.toNat, ⟨#[]⟩, 0 + 1, by congr 1; omega, rfl, by simp [ByteArray.size]; omega, by omega, hR2, hB2⟩
  case round =>
    obtain ⟨n, x, k, rfl, rfl, hx, hk, hR, hB⟩ := hrel
    by_cases hn : n = 0
    · subst hn
      go_wp2
      go_returns
      exact ⟨x, by omega, rfl, hB⟩
    · have hz := hR.out.lt
      rename World => wo
      go_wp2_with fail
      all_goals first | (exfalso; omega) | skip
      go_at_call 9
      refine (ofS _ _ sa len' cap k _ (hR.out.alloc _) (by omega) wo.heap.size (by omega) ?_).mono ?_
      · intro i hi
        have h : i = 0 ∨ i = 1 ∨ i = 2 ∨ i = 3 ∨ i = 4 ∨ i = 5 ∨ i = 6 := by omega
        rcases h with rfl | rfl | rfl | rfl | rfl | rfl | rfl <;> exact ⟨_, by decide, (World.cell?_alloc_new wo _ _ _).trans rfl⟩
      rintro e w4 ⟨y, hy, rfl, hA4, hR4⟩
      have hB4 : Below w.heap.size w w4 := Adv.onto (hB.alloc hB.size _) (Nat.le_refl _) (by have := hB.size; simp; omega) hA4
      go_wp2
      all_goals first | (exfalso; omega) | skip
      refine ⟨⟨n - 1, x ++ y, k + 1, by go_num, rfl, by rw [ByteArray.size_append]; omega, by omega, hR4, hB4⟩, by simp [intOf]; omega⟩
theorem early0 (s0 s1 : Option Addr) (len0 cap0 len1 cap1 : Nat) (w : World) (h : 1048576 < len0 ∨ 1048576 < len1) :
    Calls Try.prog 3 #[.slice s0 len0 cap0, .slice s1 len1 cap1] w fun e w' => e = .returned (.bool true) ∧ Below w.heap.size w w' := by
  by_cases h0 : (1048576 : Int) < (len0 : Int)
  · go_enter Try.func3, Try.ntmps3
    go_wp2
    go_returns
    exact ⟨rfl, Below.refl _ _⟩
  · have h1 : (1048576 : Int) < (len1 : Int) := by omega
    go_enter Try.func3, Try.ntmps3
    go_wp2
    all_goals first | (exfalso; omega) | skip
    go_returns
    exact ⟨rfl, Below.refl _ _⟩
set_option maxRecDepth 10000 in
set_option maxHeartbeats 4000000 in
theorem walk (s0 : Option Addr) (len0 cap0 : Nat) (s1 : Option Addr) (len1 cap1 : Nat) (w : World) (r0 : Row w.heap.size w s0 len0) (c0 : len0 ≤ cap0) (m0 : cap0 ≤ maxLen) (r1 : Row w.heap.size w s1 len1) (c1 : len1 ≤ cap1) (m1 : cap1 ≤ maxLen) :
    Calls Try.prog 3 #[.slice s0 len0 cap0, .slice s1 len1 cap1] w fun e w' => e = .returned (.bool true) ∧ Below w.heap.size w w' := by
  by_cases hsz : 1048576 < len0 ∨ 1048576 < len1
  · exact early0 s0 s1 len0 cap0 len1 cap1 w hsz
  have R0 : Hid (Row w.heap.size w s0 len0) := r0
  have R1 : Hid (Row w.heap.size w s1 len1) := r1
  clear r0 r1
  have g0 : ¬ (1048576 : Int) < (len0 : Int) := by omega
  have g1 : ¬ (1048576 : Int) < (len1 : Int) := by omega
  clear hsz
  go_enter Try.func3, Try.ntmps3
  go_wp2_with fail
  all_goals first | (exfalso; omega) | skip
  go_at_call 4
  refine (drawn s0 len0 cap0 w R0.out c0 m0).mono ?_
  rintro e w1 ⟨a, ha, rfl, hB1⟩
  have hz1 := hB1.size
  have R1' : Row w1.heap.size w1 s1 len1 := rowMore R1.out hB1
  go_wp2_with fail
  go_at_call 4
  refine (drawn s1 len1 cap1 w1 R1' c1 m1).mono ?_
  rintro e w2 ⟨b, hb, rfl, hB2⟩
  have hz2 := hB2.size
  clear R0 R1 R1'
  go_wp2_with fail
  go_at_call 5
  refine (implWords a w2 (by omega)).mono ?_
  rintro e w3 ⟨v1, rfl, hO1, hB3⟩
  have hz3 := hB3.size
  obtain ⟨a1, q1, rfl, hX⟩ := own_cellsW hO1
  replace hX : Ws w3 a1 (wds a) := hX
  clear hO1
  go_wp2_with fail
  go_at_call 5
  refine (implWords b w3 (by omega)).mono ?_
  rintro e w4 ⟨v2, rfl, hO2, hB4⟩
  have hz4 := hB4.size
  obtain ⟨a2, q2, rfl, hY⟩ := own_cellsW hO2
  replace hY : Ws w4 a2 (wds b) := hY
  replace hX := hX.below hB4
  clear hO2
  have hw := implWords (a ++ gap ++ b) w4 (by rw [ByteArray.size_append, ByteArray.size_append, show gap.size = 2 from rfl]; omega)
  rw [wds_gap] at hw
  have hsg : (a ++ gap).size = a.size + 2 := ByteArray.size_append
  go_wp2_with fail
  all_goals first | (exfalso; omega) | skip
  go_at_call 5
  refine hw.mono ?_
  clear hw
  rintro e w5 ⟨v3, rfl, hO3, hB5⟩
  have hz5 := hB5.size
  obtain ⟨a3, q3, rfl, hZ⟩ := own_cellsW hO3
  replace hZ : Ws w5 a3 (wds a ++ wds b) := hZ
  replace hX := hX.below hB5
  replace hY := hY.below hB5
  clear hO3
  go_wp2_with fail
  go_at_call 6
  refine (specWords a w5 (by omega)).mono ?_
  rintro e w6 ⟨g4, q4, rfl, -, hB6⟩
  replace hX := hX.below hB6
  replace hY := hY.below hB6
  replace hZ := hZ.below hB6
  have hBl : Below w.heap.size w w6 := ((((hB1.trans (hB2.mono (by omega))).trans (hB3.mono (by omega))).trans (hB4.mono (by omega))).trans (hB5.mono (by omega))).trans (hB6.mono (by omega))
  have hok := wds_ok a
  have hsmall : Hid (∀ x ∈ wds a ++ wds b, x.size ≤ 1048576) := fun x hx => by
    rcases List.mem_append.1 hx with h | h
    · exact Nat.le_trans (wds_le a x h) (by omega)
    · exact Nat.le_trans (wds_le b x h) (by omega)
  have hok' := wds_ok b
  obtain ⟨X, hXe⟩ : ∃ X, wds a = X := ⟨_, rfl⟩
  obtain ⟨Y, hYe⟩ : ∃ Y, wds b = Y := ⟨_, rfl⟩
  have hXl : X.length ≤ 16 := by rw [← hXe]; exact Nat.le_trans (wcut_le a a.size) ha
  have hYl : Y.length ≤ 16 := by rw [← hYe]; exact Nat.le_trans (wcut_le b b.size) hb
  rw [hXe] at hX hZ hok hsmall ⊢
  rw [hYe] at hY hZ hok' hsmall
  rw [hYe]
  clear hXe hYe
  have hXH : Hid (Ws w6 a1 X) := hX
  have hYH : Hid (Ws w6 a2 Y) := hY
  have hZH : Hid (Ws w6 a3 (X ++ Y)) := hZ
  have hokH : Hid (∀ x ∈ X, wordOkB x) := hok
  have hokH' : Hid (∀ x ∈ Y, wordOkB x) := hok'
  clear hX hY hZ hok hok' hB1 hB2 hB3 hB4 hB5 hB6
  obtain ⟨nx, hnx⟩ : ∃ n, X.length = n := ⟨_, rfl⟩
  obtain ⟨ny, hny⟩ : ∃ n, Y.length = n := ⟨_, rfl⟩
  rw [hnx] at hXl ⊢
  rw [hny] at hYl ⊢
  go_wp2_with fail
  all_goals first | (exfalso; omega) | skip
  go_loop [11] (fun v11 => ∃ i : Nat, v11 = .int .i64 i ∧ i ≤ nx + ny) (fun v11 => nx + ny - (intOf v11).toNat)
  case atStart => exact ⟨0, rfl, by omega⟩
  case round =>
    obtain ⟨i, rfl, hi⟩ := hrel
    by_cases hlt : i < nx
    · obtain ⟨x, hx⟩ : ∃ x, X[i]? = some x := ⟨_, List.getElem?_eq_getElem (by omega)⟩
      obtain ⟨b1, e1, -, q1⟩ := hXH.out i x hx
      obtain ⟨b3, e3, -, q3⟩ := hZH.out i x (by rw [List.getElem?_append_left (by omega)]; exact hx)
      have hwx := hokH.out x (List.mem_of_getElem? hx)
      have hsz : x.size ≤ 1048576 := hsmall x (List.mem_append_left _ (List.mem_of_getElem? hx))
      subst e1
      subst e3
      have hxn : x.toList.isEmpty = false := by rw [empty_iff]; exact decide_eq_false (by have := hwx.1; omega)
      have hxn' : ¬ x.toList = [] := fun e => by rw [e] at hxn; simp at hxn
      have hxn2 : (x.toList == []) = false := by cases hb : x.toList == [] with
        | false => rfl
        | true => exact absurd (by simpa using hb) hxn'
      have hwH : Hid (∀ (i : Nat) (h : i < x.size), sepB x[i] = false) := hwx.2
      obtain ⟨xs, hxs⟩ : ∃ n, x.size = n := ⟨_, rfl⟩
      have hx16 : xs ≤ 1048576 := by rw [← hxs]; exact hsz
      clear hwx hsz
      go_wp2_with fail
      all_goals first | (exfalso; omega) | skip
      go_loop [13] (fun v13 => ∃ k : Nat, v13 = .int .i64 k ∧ k ≤ xs) (fun v13 => xs - (intOf v13).toNat)
      case atStart => exact ⟨0, rfl, by omega⟩
      case round =>
        obtain ⟨k, rfl, hk⟩ := hrel
        by_cases hkl : k < xs
        · have hkx : k < x.size := by omega
          have hsp := hwH.out k hkx
          have h32 : ¬ (x[k].toNat : Int) = 32 := fun e => by simp only [sepB, decide_eq_false_iff_not] at hsp; omega
          have h10 : ¬ (x[k].toNat : Int) = 10 := fun e => by simp only [sepB, decide_eq_false_iff_not] at hsp; omega
          have h32b : ((x[k].toNat : Int) == 32) = false := by simpa using h32
          have h10b : ((x[k].toNat : Int) == 10) = false := by simpa using h10
          go_wp2
          all_goals first | (exfalso; omega) | skip
          go_round
          case rel => exact ⟨k + 1, by go_num, by omega⟩
          case measure => simp [intOf]; omega
        · go_wp2
          all_goals first | (exfalso; omega) | skip
          refine ⟨⟨i + 1, by go_num, by omega⟩, by simp [intOf]; omega⟩
    · by_cases hlt2 : i < nx + ny
      · obtain ⟨x, hx⟩ : ∃ x, Y[i - nx]? = some x := ⟨_, List.getElem?_eq_getElem (by omega)⟩
        obtain ⟨b2, e2, -, q2⟩ := hYH.out (i - nx) x hx
        obtain ⟨b3, e3, -, q3⟩ := hZH.out i x (by rw [List.getElem?_append_right (by omega), hnx]; exact hx)
        have hwx := hokH'.out x (List.mem_of_getElem? hx)
        have hsz : x.size ≤ 1048576 := hsmall x (List.mem_append_right _ (List.mem_of_getElem? hx))
        have hin : ((i : Int) - (nx : Int)) = ((i - nx : Nat) : Int) := by omega
        subst e2
        subst e3
        have hxn : x.toList.isEmpty = false := by rw [empty_iff]; exact decide_eq_false (by have := hwx.1; omega)
        have hxn' : ¬ x.toList = [] := fun e => by rw [e] at hxn; simp at hxn
        have hxn2 : (x.toList == []) = false := by cases hb : x.toList == [] with
          | false => rfl
          | true => exact absurd (by simpa using hb) hxn'
        have hwH : Hid (∀ (i : Nat) (h : i < x.size), sepB x[i] = false) := hwx.2
        obtain ⟨xs, hxs⟩ : ∃ n, x.size = n := ⟨_, rfl⟩
        have hx16 : xs ≤ 1048576 := by rw [← hxs]; exact hsz
        clear hwx hsz
        go_wp2_with fail
        all_goals first | (exfalso; omega) | skip
        go_loop [13] (fun v13 => ∃ k : Nat, v13 = .int .i64 k ∧ k ≤ xs) (fun v13 => xs - (intOf v13).toNat)
        case atStart => exact ⟨0, rfl, by omega⟩
        case round =>
          obtain ⟨k, rfl, hk⟩ := hrel
          by_cases hkl : k < xs
          · have hkx : k < x.size := by omega
            have hsp := hwH.out k hkx
            have h32 : ¬ (x[k].toNat : Int) = 32 := fun e => by simp only [sepB, decide_eq_false_iff_not] at hsp; omega
            have h10 : ¬ (x[k].toNat : Int) = 10 := fun e => by simp only [sepB, decide_eq_false_iff_not] at hsp; omega
            have h32b : ((x[k].toNat : Int) == 32) = false := by simpa using h32
            have h10b : ((x[k].toNat : Int) == 10) = false := by simpa using h10
            go_wp2
            all_goals first | (exfalso; omega) | skip
            go_round
            case rel => exact ⟨k + 1, by go_num, by omega⟩
            case measure => simp [intOf]; omega
          · go_wp2
            all_goals first | (exfalso; omega) | skip
            refine ⟨⟨i + 1, by go_num, by omega⟩, by simp [intOf]; omega⟩
      · go_wp2
        all_goals first | (exfalso; omega) | skip
        go_returns
        exact ⟨rfl, hBl⟩
theorem own : ownKnob Try.prog.godebug = none := by kernel_rfl
theorem laidOut : laidOutB Try.prog = true := by kernel_rfl
set_option maxRecDepth 100000 in
theorem lifted (os : Os) (started : os.Started) (H : Type) (enc : TypeId × Value → H) :
    ReturnsInHanded {} Try.checked os 3 .any (Rows.fnTextWordsSpec.pre6 enc Try.prog Try.f3 Rows.fnTextWordsRow.domain false) (Rows.fnTextWordsSpec.post enc Try.prog Try.f3 false true false false) := by
  refine returnsInHanded_of_change (C := Try.checked) own started (by kernel_rfl) Try.func3
    (ChangeSpec.witness6 (enc := enc) (C := Try.checked) false ⟨#[], #[.slice none 0 0, .slice none 0 0], []⟩ 8 (by kernel_rfl) (by kernel_rfl) (by kernel_rfl) (by kernel_rfl)) ?_
  intro W base args ds gs before hval0 hW hcnd _
  have hval : ∀ (j : Nat) t v, Try.f3.params[j]? = some t → args[j]? = some v → Value.okWide Try.prog W .any base t v := hval0
  have hW' := hW
  obtain ⟨p, q, hA0, hV, rfl, hfz, hnd⟩ := hW
  have hA : DataW.TrodAll enc Try.prog W 0 (fun _ => true) true Try.f3.params.toList args.toList ds p := hA0
  rw [Try.params3] at hA hval
  obtain ⟨v0, vs0, d0, ds0, p0, q0, hargs, rfl, rfl, h0, r0⟩ := trodAll_cons hA
  obtain ⟨v1, vs1, d1, ds1, p1, q1, rfl, rfl, rfl, h1, r1⟩ := trodAll_cons r0
  obtain ⟨rfl, rfl, rfl⟩ := trodAll_nil r1
  obtain rfl : args = #[v0, v1] := by cases args; simp_all
  obtain ⟨rfl, rfl⟩ := trodVars_none hV
  have k0 := h0
  have lt0 : ∀ x ∈ p0, x.block < W.heap.size := by obtain ⟨m, hm⟩ := k0; exact DataW.trod_lt m _ _ _ hm
  obtain ⟨a0, len0, cap0, rfl⟩ := okWide_slice Try.underlying22 (hval 0 22 v0 rfl rfl)
  have w0 := rowOf (elemT := 5) Try.underlying22 Try.underlying5 (by kernel_rfl) h0
  have k1 := h1
  have lt1 : ∀ x ∈ p1, x.block < W.heap.size := by obtain ⟨m, hm⟩ := k1; exact DataW.trod_lt m _ _ _ hm
  obtain ⟨a1, len1, cap1, rfl⟩ := okWide_slice Try.underlying22 (hval 1 22 v1 rfl rfl)
  have w1 := rowOf (elemT := 5) Try.underlying22 Try.underlying5 (by kernel_rfl) h1
  clear hA0 hval0
  refine (walk a0 len0 cap0 a1 len1 cap1 W w0.1 w0.2.1 w0.2.2 w1.1 w1.2.1 w1.2.2).mono fun e W' ⟨he, bel⟩ => ?_
  subst he
  exact ⟨_, rfl, _, _, _, [], _, [], hW', trodAll_mk1 (shut_bool Try.underlying4 _), (trodAll_cons_mk (Below.trod laidOut (by kernel_rfl) (of_decide_eq_true (by kernel_rfl)) k0 bel lt0) (trodAll_cons_mk (Below.trod laidOut (by kernel_rfl) (of_decide_eq_true (by kernel_rfl)) k1 bel lt1) trodAll_mk0)), rfl, bel.frame _, fun h => by cases h⟩
theorem over : Rows.fnTextWordsRow.holds Try.pinned (OpenSpec.ofChange Rows.fnTextWordsSpec) :=
  OpenClaim.holds_of_wide 3 Try.f3 rfl rfl rfl rfl rfl rfl rfl ⟨rfl, rfl, rfl, rfl, rfl⟩ rfl rfl rfl rfl rfl (by kernel_rfl) Try.func3 (by kernel_rfl)
    (of_decide_eq_true (by kernel_rfl)) (by unfold Func.isWrapper; first | (rw [if_pos (by decide +kernel)]; kernel_rfl) | (rw [if_neg (by decide +kernel)]; exact ⟨rfl, rfl⟩))
    (fun os started H enc _ => lifted os started H enc)
end FnTextWords
theorem fnTextWords_holds : Rows.FnTextWordsSaid := FnTextWords.over
#print axioms fnTextWords_holds
end Go.Proofs.Ytkjgclpeeicbbaa
