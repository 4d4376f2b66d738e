/-
  Whether code is right, and where one is, jumps being gone along: what the specification answers.
-/
import Derived.Test.YtimfdfeleoaehaaFlatB
import Derived.Test.YtimfdfeleoaehaaInstE
namespace Go.Proofs.Ytimfdfeleoaehaa
open Go.RowKit Go.Shelf
set_option linter.unusedSimpArgs false
set_option linter.unusedVariables false

theorem along_out {code : List IX} {p : Int} (f : Nat) (h : p < 0 ∨ (code.length : Int) ≤ p) : alongN code (f + 1) p = -1 := by
  rw [alongN, if_pos h]
theorem along_stay {code : List IX} {q : Nat} {x : IX} (f : Nat) (hx : code[q]? = some x) (hn : ¬ x.op = 3) : alongN code (f + 1) (q : Int) = q := by
  have hlt := (List.getElem?_eq_some_iff.1 hx).1
  have h1 : ((q : Int)).toNat = q := by omega
  rw [alongN, if_neg (by omega), h1, hx]
  exact if_neg hn
theorem along_step {code : List IX} {q : Nat} {x : IX} (f : Nat) (hx : code[q]? = some x) (hj : x.op = 3) : alongN code (f + 1) (q : Int) = alongN code f x.dst := by
  have hlt := (List.getElem?_eq_some_iff.1 hx).1
  have h1 : ((q : Int)).toNat = q := by omega
  rw [alongN, if_neg (by omega), h1, hx]
  exact if_pos hj
def OKs (code : List IX) (n : Nat) : Prop := (1 ≤ n ∧ n ≤ 121) ∧ (∀ x, code[n - 1]? = some x → x.op = 4) ∧ ∀ (i : Nat) (x : IX), code[i]? = some x → x.fitB n = true ∧ ¬ (i + 1 < n ∧ x.op = 4) ∧ 0 ≤ alongN code (n + 1) (i : Int)
theorem ok_both (code : List IX) (n : Nat) (hn : code.length = n) : OKs code n ↔ OKn code n := by
  have hlt' : ∀ k x, code[k]? = some x → k < n := fun k x hx => by have := (List.getElem?_eq_some_iff.1 hx).1; omega
  have hget : ∀ k, k < n → ∃ x, code[k]? = some x := fun k hk => ⟨_, List.getElem?_eq_getElem (by omega)⟩
  constructor
  · rintro ⟨h1, h2, h3⟩
    have hr : ∀ (i : Nat) (x : IX), code[i]? = some x → x.op = 3 → 0 ≤ x.dst ∧ x.dst < (code.length : Int) := fun i x hx hj => by rw [hn]; exact fit_range (h3 i x hx).1 hj
    have hlast : isJ code (n - 1) = false := by
      obtain ⟨x, hx⟩ := hget (n - 1) (by omega)
      simp [isJ, hx, h2 x hx]
    refine ⟨h1, fun i x hx => ⟨(h3 i x hx).1, fun h4 => ?_, fun h4 => ?_⟩, fun i hi => ?_⟩
    · have := (h3 i x hx).2.1
      have := hlt' i x hx
      omega
    · have e : i = n - 1 := by omega
      subst e
      exact h2 x hx
    · obtain ⟨x, hx⟩ := hget i hi
      have h5 := (h3 i x hx).2.2
      rw [along_go code hr (n + 1) i (by omega), goJ_same code n hn h1.1 hlast] at h5
      cases hg : goJ code n i with
      | some m => exact ⟨m, rfl⟩
      | none => rw [hg] at h5; simp [toI] at h5
  · rintro ⟨h1, h2, h3⟩
    have hr : ∀ (i : Nat) (x : IX), code[i]? = some x → x.op = 3 → 0 ≤ x.dst ∧ x.dst < (code.length : Int) := fun i x hx hj => by rw [hn]; exact fit_range (h2 i x hx).1 hj
    have hl4 : ∀ x, code[n - 1]? = some x → x.op = 4 := fun x hx => (h2 (n - 1) x hx).2.2 (by omega)
    have hlast : isJ code (n - 1) = false := by
      obtain ⟨x, hx⟩ := hget (n - 1) (by omega)
      simp [isJ, hx, hl4 x hx]
    refine ⟨h1, hl4, fun i x hx => ⟨(h2 i x hx).1, fun h4 => ?_, ?_⟩⟩
    · have := (h2 i x hx).2.1 h4.2
      omega
    · have hi := hlt' i x hx
      rw [along_go code hr (n + 1) i (by omega), goJ_same code n hn h1.1 hlast]
      obtain ⟨m, hm⟩ := h3 i hi
      rw [hm]
      simp [toI]
set_option maxRecDepth 10000 in
set_option maxHeartbeats 2000000 in
theorem specAlong (code : List IX) (a : Option Addr) (c : Nat) (p : Int) (ok : Nat → Prop) (w : World) (hok : ∀ b, ok b → b < w.heap.size) (hR : IX.Row ok w a code) (hlen : code.length ≤ 1048576) :
    Calls Try.prog 40 #[.slice a code.length c, .int .i64 p] w fun e w' => e = .returned (.int .i64 (alongN code (code.length + 1) p)) ∧ Below w.heap.size w w' := by
  obtain ⟨n, hn⟩ : ∃ n, code.length = n := ⟨_, rfl⟩
  have hget : Hid (∀ k, k < n → ∃ x, code[k]? = some x) := fun k hk => ⟨_, List.getElem?_eq_getElem (by omega)⟩
  have hout : Hid (∀ f p, (p < 0 ∨ (n : Int) ≤ p) → alongN code (f + 1) p = -1) := fun f p h => along_out f (by rw [hn]; exact h)
  rw [hn] at hlen ⊢
  obtain ⟨r, hres⟩ : ∃ r, alongN code (n + 1) p = r := ⟨_, rfl⟩
  rw [hres]
  have hres' : Hid (alongN code (n + 1) p = r) := hres
  clear hn hres
  go_enter Try.func40, Try.ntmps40
  go_wp2
  go_loopw [1, 5] (fun v1 v5 wr => ∃ (k : Nat) (q : Int), v5 = .int .i64 k ∧ v1 = .int .i64 q ∧ k ≤ n + 1 ∧ Hid (alongN code (n + 1 - k) q = r) ∧ wr = w) (fun _ v5 _ => n + 1 - (intOf v5).toNat)
  case atStart => exact ⟨0, p, rfl, rfl, by omega, hres', rfl⟩
  case round =>
    obtain ⟨k, q, rfl, rfl, hk, hg, rfl⟩ := hrel
    by_cases hk2 : k ≤ n
    · obtain ⟨f, hf⟩ : ∃ f, n + 1 - k = f + 1 := ⟨n - k, by omega⟩
      rw [hf] at hg
      have hf' : Hid (n + 1 - k = f + 1) := hf
      clear hf
      by_cases hq : q < 0 ∨ (n : Int) ≤ q
      · have hr1 : Hid (-1 = r) := by rw [← hg.out]; exact (hout.out f q hq).symm
        rcases hq with hq | hq
        · go_wp2
          all_goals first | (exfalso; omega) | skip
          go_returns
          exact ⟨ret_int hr1.out, Below.refl _ _⟩
        · go_wp2
          all_goals first | (exfalso; omega) | skip
          go_returns
          exact ⟨ret_int hr1.out, Below.refl _ _⟩
      · obtain ⟨m, rfl⟩ : ∃ m : Nat, q = m := ⟨q.toNat, by omega⟩
        have hm : m < n := by omega
        clear hq
        obtain ⟨x, hx⟩ := hget.out m hm
        obtain ⟨b1, o1, hbase1, hok1, hd⟩ := hR m x hx
        have d0 := hd.c0
        have d13 := hd.c13
        clear hd
        subst hbase1
        by_cases hj : x.op = 3
        · have hst : Hid (alongN code f x.dst = r) := (along_step f hx hj).symm.trans hg.out
          obtain ⟨d, hd⟩ : ∃ d, x.dst = d := ⟨_, rfl⟩
          rw [hd] at d13 hst
          rw [hj] at d0
          clear hj hd hx
          go_wp2
          all_goals first | (exfalso; omega) | skip
          go_roundw
          case rel => exact ⟨k + 1, d, by go_num, rfl, by omega, by rw [show n + 1 - (k + 1) = f by have := hf'.out; omega]; exact hst, by first | rfl | trivial⟩
          case measure => simp [intOf]; omega
        · have hst : Hid ((m : Int) = r) := (along_stay f hx hj).symm.trans hg.out
          go_wp2
          all_goals first | (exfalso; omega) | skip
          go_returns
          exact ⟨ret_int hst.out, Below.refl _ _⟩
    · have hr1 : Hid (-1 = r) := by
        have h := hg.out
        rw [show n + 1 - k = 0 by omega] at h
        exact h
      go_wp2
      all_goals first | (exfalso; omega) | skip
      go_returns
      exact ⟨ret_int hr1.out, Below.refl _ _⟩
set_option maxRecDepth 10000 in
set_option maxHeartbeats 2000000 in
theorem specFlatOk (code : List IX) (a : Option Addr) (c : Nat) (ok : Nat → Prop) (w : World) (hok : ∀ b, ok b → b < w.heap.size) (hR : IX.Row ok w a code) (hlen : code.length ≤ 1048576)
    (hm : ∀ (i : Nat) (x : IX), code[i]? = some x → SmallS x.s ∧ LiesS ok w x.s) :
    Calls Try.prog 16 #[.slice a code.length c] w fun e w' => RetB (OKn code code.length) e ∧ Below w.heap.size w w' := by
  have HF : Hid (∀ (i : Nat) (x : IX), code[i]? = some x → ∀ W : World, Below w.heap.size w W → Calls Try.prog 39 #[x.val, .int .i64 (code.length : Int)] W fun e w' => e = .returned (.bool (x.fitB code.length)) ∧ Below W.heap.size W w') := fun i x hx W hW =>
    IX.specFits x _ (by have := (List.getElem?_eq_some_iff.1 hx).1; omega) (hm i x hx).1 ok W (fun b hb => Nat.lt_of_lt_of_le (hok b hb) hW.size) ((hm i x hx).2.under hW hok)
  have HL : Hid (∀ p : Int, ∀ W : World, Below w.heap.size w W → Calls Try.prog 40 #[.slice a code.length c, .int .i64 p] W fun e w' => e = .returned (.int .i64 (alongN code (code.length + 1) p)) ∧ Below W.heap.size W w') := fun p W hW =>
    specAlong code a c p ok W (fun b hb => Nat.lt_of_lt_of_le (hok b hb) hW.size) (hR.under hW hok) hlen
  clear hm
  have hboth := ok_both code _ rfl
  obtain ⟨n, hn⟩ : ∃ n, code.length = n := ⟨_, rfl⟩
  have hget : Hid (∀ k, k < n → ∃ x, code[k]? = some x) := fun k hk => ⟨_, List.getElem?_eq_getElem (by omega)⟩
  have hlt' : Hid (∀ k x, code[k]? = some x → k < n) := fun k x hx => by have := (List.getElem?_eq_some_iff.1 hx).1; omega
  rw [hn] at hlen HF HL hboth ⊢
  clear hn
  obtain ⟨P, hP⟩ : ∃ P, OKn code n = P := ⟨_, rfl⟩
  rw [hP] at hboth ⊢
  clear hP
  have hboth' : Hid (OKs code n ↔ P) := hboth
  clear hboth
  by_cases hn : n < 1 ∨ 121 < n
  · have hno : Hid (¬ P) := fun h => by have := (hboth'.out.2 h).1; omega
    rcases hn with hn | hn
    · go_enter Try.func16, Try.ntmps16
      go_wp2
      all_goals first | (exfalso; omega) | skip
      go_returns
      exact ⟨retNo hno.out, Below.refl _ _⟩
    · go_enter Try.func16, Try.ntmps16
      go_wp2
      all_goals first | (exfalso; omega) | skip
      go_returns
      exact ⟨retNo hno.out, Below.refl _ _⟩
  · have h1 : ¬ n < 1 := by omega
    have h2 : ¬ 121 < n := by omega
    clear hn
    obtain ⟨z, hz1⟩ := hget.out (n - 1) (by omega)
    obtain ⟨b0, o0, hbase0, hok0, hz2⟩ := hR (n - 1) z hz1
    have z0 := hz2.c0
    clear hz2
    subst hbase0
    obtain ⟨n1, hn1⟩ : ∃ n1 : Nat, n - 1 = n1 := ⟨_, rfl⟩
    rw [hn1] at z0 hz1
    have hni : (n : Int) - 1 = n1 := by omega
    have hn1' : Hid (n - 1 = n1) := hn1
    clear hn1
    by_cases hz4 : z.op = 4
    · have hz4' : Hid (∀ x, code[n - 1]? = some x → x.op = 4) := fun x hx => by
        rw [hn1'.out, hz1] at hx
        cases hx
        exact hz4
      rw [hz4] at z0
      have hn1lt : n1 < n := by have := hn1'.out; omega
      clear hz1 hz4
      go_enter Try.func16, Try.ntmps16
      go_wp2
      all_goals first | (exfalso; omega) | skip
      clear z0
      go_loopw [4] (fun v4 wr => ∃ (i : Nat), v4 = .int .i64 i ∧ i ≤ n ∧ Hid (∀ (j : Nat) (x : IX), j < i → code[j]? = some x → x.fitB n = true ∧ ¬ (j + 1 < n ∧ x.op = 4) ∧ 0 ≤ alongN code (n + 1) (j : Int)) ∧ Below w.heap.size w wr) (fun v4 _ => n - (intOf v4).toNat)
      case atStart => exact ⟨0, rfl, by omega, fun j x hj => absurd hj (by omega), Below.refl _ _⟩
      case round =>
        obtain ⟨i, rfl, hi, hall, hB⟩ := hrel
        have hz := hB.size
        by_cases hlt : i < n
        · obtain ⟨x, hx⟩ := hget.out i hlt
          obtain ⟨b1, o1, hbase1, hok1, hc1⟩ := hR i x hx
          cases hbase1
          have hd := hc1.below hB (hok b0 hok1)
          obtain ⟨c0, c1, c2, c3, c4, c5, c6, c7, c8, c9, c10, c11, c12, c13⟩ := hd
          clear hc1
          have hc2 := HF.out i x hx wr hB
          have hgood : Hid (x.fitB n = true → ¬ (i + 1 < n ∧ x.op = 4) → 0 ≤ alongN code (n + 1) (i : Int) → ∀ (j : Nat) (y : IX), j < i + 1 → code[j]? = some y → y.fitB n = true ∧ ¬ (j + 1 < n ∧ y.op = 4) ∧ 0 ≤ alongN code (n + 1) (j : Int)) := fun g1 g2 g3 j y hj hy => by
            by_cases e : j = i
            · subst e
              rw [hx] at hy
              cases hy
              exact ⟨g1, g2, g3⟩
            · exact hall.out j y (by omega) hy
          have hbad : Hid (¬ (x.fitB n = true ∧ ¬ (i + 1 < n ∧ x.op = 4) ∧ 0 ≤ alongN code (n + 1) (i : Int)) → ¬ P) := fun h3 h4 => h3 ((hboth'.out.2 h4).2.2 i x hx)
          clear hx
          obtain ⟨r, hr⟩ : ∃ r, alongN code (n + 1) (i : Int) = r := ⟨_, rfl⟩
          rw [hr] at hgood hbad
          have HA : Hid (∀ W : World, Below w.heap.size w W → Calls Try.prog 40 #[.slice (some ⟨b0, o0, none⟩) n c, .int .i64 (i : Int)] W fun e w' => e = .returned (.int .i64 r) ∧ Below W.heap.size W w') := fun W hW => by
            have h := HL.out (i : Int) W hW
            rw [hr] at h
            exact h
          clear hr
          have d0 := c0
          cases hf : x.fitB n
          · rw [hf] at hc2 hbad
            go_wp2_with (go_at_call 39; refine hc2.mono ?_; rintro e w5 ⟨rfl, hb5⟩)
            go_returns
            exact ⟨retNo (hbad.out (by simp)), hB.trans (hb5.mono hB.size)⟩
          · rw [hf] at hc2 hbad
            replace hgood := hgood.out hf
            clear hf
            by_cases hb : i + 1 < n ∧ x.op = 4
            · have hno : Hid (¬ P) := hbad.out (fun h => h.2.1 hb)
              have f1 : i < n1 := by have := hn1'.out; omega
              have f2 : (x.op == 4) = true := by simp [hb.2]
              clear hb
              go_wp2_with (go_at_call 39; refine hc2.mono ?_; rintro e w5 ⟨rfl, hb5⟩; (have k1 := below_cell hb5 d0 (by have := hok b0 hok0; dsimp only; omega)))
              go_returns
              exact ⟨retNo hno.out, hB.trans (hb5.mono hB.size)⟩
            · replace hgood := hgood hb
              have hbad2 : Hid (¬ 0 ≤ r → ¬ P) := fun h => hbad.out (fun h2 => h h2.2.2)
              clear hbad
              by_cases hin : i + 1 < n
              · have hx4 : ¬ x.op = 4 := fun h => hb ⟨hin, h⟩
                have f1 : i < n1 := by have := hn1'.out; omega
                have f2 : (x.op == 4) = false := by simp [hx4]
                clear hb hin hx4
                by_cases hr0 : r < 0
                · have hno : Hid (¬ P) := hbad2.out (by omega)
                  clear hgood hbad2
                  go_wp2_with (first | (go_at_call 39; refine hc2.mono ?_; rintro e w5 ⟨rfl, hb5⟩; (have k1 := below_cell hb5 d0 (by have := hok b0 hok0; dsimp only; omega))) | (go_at_call 40; refine (HA.out _ (hB.trans (hb5.mono hB.size))).mono ?_; rintro e w6 ⟨rfl, hb6⟩))
                  go_returns
                  exact ⟨retNo hno.out, (hB.trans (hb5.mono hB.size)).trans (hb6.mono (by have := hb5.size; omega))⟩
                · have hgg : Hid (∀ (j : Nat) (y : IX), j < i + 1 → code[j]? = some y → y.fitB n = true ∧ ¬ (j + 1 < n ∧ y.op = 4) ∧ 0 ≤ alongN code (n + 1) (j : Int)) := hgood (by omega)
                  clear hgood hbad2
                  go_wp2_with (first | (go_at_call 39; refine hc2.mono ?_; rintro e w5 ⟨rfl, hb5⟩; (have k1 := below_cell hb5 d0 (by have := hok b0 hok0; dsimp only; omega))) | (go_at_call 40; refine (HA.out _ (hB.trans (hb5.mono hB.size))).mono ?_; rintro e w6 ⟨rfl, hb6⟩))
                  go_roundw
                  case rel => exact ⟨i + 1, by go_num, by omega, hgg, (hB.trans (hb5.mono hB.size)).trans (hb6.mono (by have := hb5.size; omega))⟩
                  case measure => simp [intOf]; omega
              · have f1 : ¬ i < n1 := by have := hn1'.out; omega
                clear hb hin
                by_cases hr0 : r < 0
                · have hno : Hid (¬ P) := hbad2.out (by omega)
                  clear hgood hbad2
                  go_wp2_with (first | (go_at_call 39; refine hc2.mono ?_; rintro e w5 ⟨rfl, hb5⟩; (have k1 := below_cell hb5 d0 (by have := hok b0 hok0; dsimp only; omega))) | (go_at_call 40; refine (HA.out _ (hB.trans (hb5.mono hB.size))).mono ?_; rintro e w6 ⟨rfl, hb6⟩))
                  go_returns
                  exact ⟨retNo hno.out, (hB.trans (hb5.mono hB.size)).trans (hb6.mono (by have := hb5.size; omega))⟩
                · have hgg : Hid (∀ (j : Nat) (y : IX), j < i + 1 → code[j]? = some y → y.fitB n = true ∧ ¬ (j + 1 < n ∧ y.op = 4) ∧ 0 ≤ alongN code (n + 1) (j : Int)) := hgood (by omega)
                  clear hgood hbad2
                  go_wp2_with (first | (go_at_call 39; refine hc2.mono ?_; rintro e w5 ⟨rfl, hb5⟩; (have k1 := below_cell hb5 d0 (by have := hok b0 hok0; dsimp only; omega))) | (go_at_call 40; refine (HA.out _ (hB.trans (hb5.mono hB.size))).mono ?_; rintro e w6 ⟨rfl, hb6⟩))
                  go_roundw
                  case rel => exact ⟨i + 1, by go_num, by omega, hgg, (hB.trans (hb5.mono hB.size)).trans (hb6.mono (by have := hb5.size; omega))⟩
                  case measure => simp [intOf]; omega
        · have hyes : Hid P := hboth'.out.1 ⟨by omega, hz4'.out, fun j x hx => hall.out j x (by have := hlt'.out j x hx; omega) hx⟩
          go_wp2
          all_goals first | (exfalso; omega) | skip
          go_returns
          exact ⟨retYes hyes.out, hB⟩
    · have hno : Hid (¬ P) := fun h => hz4 ((hboth'.out.2 h).2.1 z (by rw [hn1'.out]; exact hz1))
      have f4 : (z.op != 4) = true := by simp [hz4]
      have hn1lt : n1 < n := by have := hn1'.out; omega
      clear hz4 hz1
      go_enter Try.func16, Try.ntmps16
      go_wp2
      all_goals first | (exfalso; omega) | skip
      go_returns
      exact ⟨retNo hno.out, Below.refl _ _⟩
set_option maxRecDepth 10000 in
set_option maxHeartbeats 2000000 in
theorem specFlatAt (code : List IX) (a : Option Addr) (c : Nat) (p : Int) (ok : Nat → Prop) (w : World) (hok : ∀ b, ok b → b < w.heap.size) (hR : IX.Row ok w a code) (hlen : code.length ≤ 1048576)
    (hm : ∀ (i : Nat) (x : IX), code[i]? = some x → SmallS x.s ∧ LiesS ok w x.s) :
    Calls Try.prog 19 #[.slice a code.length c, .int .i64 p] w fun e w' => RetAt code code.length p e ∧ Below w.heap.size w w' := by
  have HF := specFlatOk code a c ok w hok hR hlen hm
  have HL : Hid (∀ W : World, Below w.heap.size w W → Calls Try.prog 40 #[.slice a code.length c, .int .i64 p] W fun e w' => e = .returned (.int .i64 (alongN code (code.length + 1) p)) ∧ Below W.heap.size W w') := fun W hW =>
    specAlong code a c p ok W (fun b hb => Nat.lt_of_lt_of_le (hok b hb) hW.size) (hR.under hW hok) hlen
  have hend : Hid (OKn code code.length → RetAt code code.length p (.returned (.int .i64 (alongN code (code.length + 1) p)))) := fun h => by
    by_cases hp : p < 0 ∨ (code.length : Int) ≤ p
    · rw [along_out _ hp]
      exact atNone (.inr hp)
    · obtain ⟨k, rfl⟩ : ∃ k : Nat, p = k := ⟨p.toNat, by omega⟩
      have hk : k < code.length := by omega
      obtain ⟨m, hg⟩ := h.2.2 k hk
      have hlast : isJ code (code.length - 1) = false := by
        obtain ⟨x, hx⟩ : ∃ x, code[code.length - 1]? = some x := ⟨_, List.getElem?_eq_getElem (by omega)⟩
        have h4 := (h.2.1 _ x hx).2.2 (by omega)
        simp [isJ, hx, h4]
      rw [along_go code h.range _ k hk, goJ_same code _ rfl (by omega) hlast, hg]
      exact atSome h hk hg
  clear hm hR hok
  obtain ⟨n, hn⟩ : ∃ n, code.length = n := ⟨_, rfl⟩
  rw [hn] at hlen HF HL hend ⊢
  clear hn
  obtain ⟨r, hr⟩ : ∃ r, alongN code (n + 1) p = r := ⟨_, rfl⟩
  rw [hr] at HL hend
  clear hr
  go_enter Try.func19, Try.ntmps19
  go_wp2_with fail
  go_at_call 16
  refine HF.mono ?_
  clear HF
  rintro e w2 ⟨⟨b, rfl, hb⟩, hb2⟩
  cases b
  · have hno : Hid (¬ OKn code n) := fun h => by have := hb.2 h; simp at this
    clear hb
    go_wp2
    go_returns
    exact ⟨atNone (.inl hno.out), hb2⟩
  · have hyes : Hid (OKn code n) := hb.1 rfl
    have hc2 := HL.out w2 hb2
    clear hb HL
    go_wp2_with fail
    go_at_call 40
    refine hc2.mono ?_
    clear hc2
    rintro e w3 ⟨rfl, hb3⟩
    go_wp2
    go_returns
    exact ⟨hend.out hyes.out, hb2.trans (hb3.mono hb2.size)⟩
end Go.Proofs.Ytimfdfeleoaehaa
