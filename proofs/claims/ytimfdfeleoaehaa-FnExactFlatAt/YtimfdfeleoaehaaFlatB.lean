/-
  Whether code is right, and where one is, jumps being gone along: what the program answers.
-/
import Derived.Test.YtimfdfeleoaehaaFlatA
import Derived.Test.YtimfdfeleoaehaaInstD
namespace Go.Proofs.Ytimfdfeleoaehaa
open Go.RowKit Go.Shelf
set_option linter.unusedSimpArgs false
set_option linter.unusedVariables false

def OKn (code : List IX) (n : Nat) : Prop := (1 ≤ n ∧ n ≤ 121) ∧ (∀ (i : Nat) (x : IX), code[i]? = some x → x.fitB n = true ∧ (x.op = 4 ↔ i + 1 = n)) ∧ ∀ i, i < n → ∃ m, goJ code n i = some m
def OKc (code : List IX) : Prop := OKn code code.length
/-- a function answers where one is -/
def RetAt (code : List IX) (n : Nat) (p : Int) (e : Ending) : Prop := ∃ r : Int, e = .returned (.int .i64 r) ∧ ((OKn code n ∧ ∃ k m : Nat, p = k ∧ k < n ∧ goJ code n k = some m ∧ r = m) ∨ ((¬ OKn code n ∨ p < 0 ∨ (n : Int) ≤ p) ∧ r = -1))
theorem atNone {code : List IX} {n : Nat} {p : Int} (h : ¬ OKn code n ∨ p < 0 ∨ (n : Int) ≤ p) : RetAt code n p (.returned (.int .i64 (-1))) := ⟨_, rfl, .inr ⟨h, rfl⟩⟩
theorem atSome {code : List IX} {n k m : Nat} (h : OKn code n) (hk : k < n) (hg : goJ code n k = some m) : RetAt code n k (.returned (.int .i64 (m : Int))) := ⟨_, rfl, .inl ⟨h, k, m, rfl, hk, hg, rfl⟩⟩
/-- a function answers whether something is so -/
def RetB (P : Prop) (e : Ending) : Prop := ∃ b, e = .returned (.bool b) ∧ (b = true ↔ P)
theorem retYes {P : Prop} (h : P) : RetB P (.returned (.bool true)) := ⟨true, rfl, ⟨fun _ => h, fun _ => rfl⟩⟩
theorem retNo {P : Prop} (h : ¬ P) : RetB P (.returned (.bool false)) := ⟨false, rfl, ⟨fun h2 => Bool.noConfusion h2, fun h2 => absurd h2 h⟩⟩
theorem fit_range {x : IX} {n : Int} (h : x.fitB n = true) (hj : x.op = 3) : 0 ≤ x.dst ∧ x.dst < n := by
  unfold IX.fitB at h
  rw [if_neg (by omega), if_neg (by omega), if_pos hj] at h
  simp at h
  exact h.1
theorem OKn.range {code : List IX} {n : Nat} (h : OKn code n) : ∀ (i : Nat) (x : IX), code[i]? = some x → x.op = 3 → 0 ≤ x.dst ∧ x.dst < (n : Int) := fun i x hx hj => fit_range (h.2.1 i x hx).1 hj
set_option maxRecDepth 10000 in
set_option maxHeartbeats 2000000 in
theorem implFlatOk (code : List IX) (a : Option Addr) (c : Nat) (ok : Nat → Prop) (w : World) (hok : ∀ b, ok b → b < w.heap.size) (hR : IX.Row ok w a code) (hlen : code.length ≤ 1048576)
    (hm : ∀ (i : Nat) (x : IX), code[i]? = some x → SmallS x.s ∧ LiesS ok w x.s) :
    Calls Try.prog 18 #[.slice a code.length c] w fun e w' => RetB (OKc code) e ∧ Below w.heap.size w w' := by
  have HF : Hid (∀ (i : Nat) (x : IX), code[i]? = some x → ∀ W : World, Below w.heap.size w W → Calls Try.prog 42 #[x.val, .int .i64 (code.length : Int)] W fun e w' => e = .returned (.bool (x.fitB code.length)) ∧ Below W.heap.size W w') := fun i x hx W hW =>
    IX.implFits x _ (hm i x hx).1 ok W (fun b hb => Nat.lt_of_lt_of_le (hok b hb) hW.size) ((hm i x hx).2.under hW hok)
  have HL : Hid ((∀ (i : Nat) (x : IX), code[i]? = some x → x.op = 3 → 0 ≤ x.dst ∧ x.dst < (code.length : Int)) → ∀ W : World, Below w.heap.size w W → Calls Try.prog 43 #[.slice a code.length c] W fun e w' => ∃ v, e = .returned v ∧ Landed code v W.heap.size w' ∧ Below W.heap.size W w') := fun hr W hW =>
    implLandings code a c ok W (fun b hb => Nat.lt_of_lt_of_le (hok b hb) hW.size) (hR.under hW hok) hlen hr
  clear hm
  obtain ⟨n, hn⟩ : ∃ n, code.length = n := ⟨_, rfl⟩
  have hget : Hid (∀ k, k < n → ∃ x, code[k]? = some x) := fun k hk => ⟨_, List.getElem?_eq_getElem (by omega)⟩
  have hlt' : Hid (∀ k x, code[k]? = some x → k < n) := fun k x hx => by have := (List.getElem?_eq_some_iff.1 hx).1; omega
  unfold OKc
  unfold Landed at HL
  rw [hn] at hlen HF HL ⊢
  clear hn
  by_cases hn : n < 1 ∨ 121 < n
  · have hno : Hid (¬ OKn code n) := fun h => by have := h.1; omega
    rcases hn with hn | hn
    · go_enter Try.func18, Try.ntmps18
      go_wp2
      all_goals first | (exfalso; omega) | skip
      go_returns
      exact ⟨retNo hno.out, Below.refl _ _⟩
    · go_enter Try.func18, Try.ntmps18
      go_wp2
      all_goals first | (exfalso; omega) | skip
      go_returns
      exact ⟨retNo hno.out, Below.refl _ _⟩
  · have h1 : ¬ n < 1 := by omega
    have h2 : ¬ 121 < n := by omega
    clear hn
    go_enter Try.func18, Try.ntmps18
    go_wp2
    all_goals first | (exfalso; omega) | skip
    go_loopw [16] (fun v16 wr => ∃ (i : Nat), v16 = .int .i64 i ∧ i ≤ n ∧ Hid (∀ (j : Nat) (x : IX), j < i → code[j]? = some x → x.fitB n = true ∧ (x.op = 4 ↔ j + 1 = n)) ∧ Below w.heap.size w wr) (fun v16 _ => n - (intOf v16).toNat)
    case atStart => exact ⟨0, rfl, by omega, fun j x hj => absurd hj (by omega), Below.refl _ _⟩
    case round =>
      obtain ⟨i, rfl, hi, hall, hB⟩ := hrel
      have hz := hB.size
      by_cases hlt : i < n
      · obtain ⟨x, hx⟩ := hget.out i hlt
        obtain ⟨b1, o1, hbase1, hok1, hc1⟩ := hR i x hx
        obtain ⟨c0, c1, c2, c3, c4, c5, c6, c7, c8, c9, c10, c11, c12, c13⟩ := hc1.below hB (hok b1 hok1)
        clear hc1
        have hcall := HF.out i x hx
        subst hbase1
        obtain ⟨W4, hW4⟩ : ∃ W4, wr.alloc (.cells #[.int .i64 x.op, .int .i64 x.s.kind, .string x.s.name, .int .i64 x.s.e.kind, .int .i64 x.s.e.num, .string x.s.e.name, .slice x.s.e.base x.s.e.kids.length x.s.e.cap, .int .i64 x.s.f.kind, .int .i64 x.s.f.num, .string x.s.f.name, .slice x.s.f.base x.s.f.kids.length x.s.f.cap, .slice x.s.abase x.s.la.length x.s.acap, .slice x.s.bbase x.s.lb.length x.s.bcap, .int .i64 x.dst] 52) = W4 := ⟨_, rfl⟩
        have hB4 : Below w.heap.size w W4 := by rw [← hW4]; exact balloc hB _
        have hz4 : W4.heap.size = wr.heap.size + 1 := by rw [← hW4]; simp
        have hC4 : Cells14 W4 wr.heap.size 0 x := by rw [← hW4]; exact Cells14.new wr x _
        obtain ⟨k0, k1, k2, k3, k4, k5, k6, k7, k8, k9, k10, k11, k12, k13⟩ := hC4
        have hc2 := hcall W4 hB4
        clear hcall
        have hgood : Hid (x.fitB n = true → (x.op = 4 ↔ i + 1 = n) → ∀ (j : Nat) (y : IX), j < i + 1 → code[j]? = some y → y.fitB n = true ∧ (y.op = 4 ↔ j + 1 = n)) := fun g1 g2 j y hj hy => by
          by_cases e : j = i
          · subst e
            rw [hx] at hy
            cases hy
            exact ⟨g1, g2⟩
          · exact hall.out j y (by omega) hy
        have hbad : Hid (¬ (x.fitB n = true ∧ (x.op = 4 ↔ i + 1 = n)) → ¬ OKn code n) := fun h3 h4 => h3 (h4.2.1 i x hx)
        clear hx
        cases hf : x.fitB n
        · rw [hf] at hc2 hbad
          go_wp2_with (go_at_call 42; refine hc2.mono ?_; rintro e w5 ⟨rfl, hb5⟩)
          go_returns
          exact ⟨retNo (hbad.out (by simp)), hB4.trans (hb5.mono hB4.size)⟩
        · rw [hf] at hc2 hbad
          replace hgood := hgood.out hf
          clear hf
          by_cases h4 : x.op = 4
          · by_cases hl : i + 1 = n
            · have hl2 : Hid (i + 1 = n) := hl
              have h42 : Hid (x.op = 4) := h4
              have f1 : ((i : Int) == (n : Int) - 1) = true := by simp; omega
              have f2 : (x.op == 4) = true := by simp [h4]
              clear hl h4
              go_wp2_with (go_at_call 42; refine hc2.mono ?_; rintro e w5 ⟨rfl, hb5⟩; (have k1 := below_cell hb5 k0 (by dsimp only; omega)))
              all_goals have hl := hl2.out
              all_goals have h4 := h42.out
              all_goals first | (exfalso; omega) | skip
              have hgg : Hid (∀ (j : Nat) (y : IX), j < i + 1 → code[j]? = some y → y.fitB n = true ∧ (y.op = 4 ↔ j + 1 = n)) := hgood (by simp [h4, hl])
              clear h4 hl f1 f2
              go_roundw
              case rel => exact ⟨i + 1, by go_num, by omega, hgg, hB4.trans (hb5.mono hB4.size)⟩
              case measure => simp [intOf]; omega
            · have hl2 : Hid (¬ i + 1 = n) := hl
              have h42 : Hid (x.op = 4) := h4
              have f1 : ((i : Int) == (n : Int) - 1) = false := by simp; omega
              have f2 : (x.op == 4) = true := by simp [h4]
              clear hl h4
              go_wp2_with (go_at_call 42; refine hc2.mono ?_; rintro e w5 ⟨rfl, hb5⟩; (have k1 := below_cell hb5 k0 (by dsimp only; omega)))
              all_goals have hl := hl2.out
              all_goals have h4 := h42.out
              all_goals first | (exfalso; omega) | skip
              go_returns
              exact ⟨retNo (hbad.out (by simp [h4, hl])), hB4.trans (hb5.mono hB4.size)⟩
          · by_cases hl : i + 1 = n
            · have hl2 : Hid (i + 1 = n) := hl
              have h42 : Hid (¬ x.op = 4) := h4
              have f1 : ((i : Int) == (n : Int) - 1) = true := by simp; omega
              have f2 : (x.op == 4) = false := by simp [h4]
              clear hl h4
              go_wp2_with (go_at_call 42; refine hc2.mono ?_; rintro e w5 ⟨rfl, hb5⟩; (have k1 := below_cell hb5 k0 (by dsimp only; omega)))
              all_goals have hl := hl2.out
              all_goals have h4 := h42.out
              all_goals first | (exfalso; omega) | skip
              go_returns
              exact ⟨retNo (hbad.out (by simp [h4, hl])), hB4.trans (hb5.mono hB4.size)⟩
            · have hl2 : Hid (¬ i + 1 = n) := hl
              have h42 : Hid (¬ x.op = 4) := h4
              have f1 : ((i : Int) == (n : Int) - 1) = false := by simp; omega
              have f2 : (x.op == 4) = false := by simp [h4]
              clear hl h4
              go_wp2_with (go_at_call 42; refine hc2.mono ?_; rintro e w5 ⟨rfl, hb5⟩; (have k1 := below_cell hb5 k0 (by dsimp only; omega)))
              all_goals have hl := hl2.out
              all_goals have h4 := h42.out
              all_goals first | (exfalso; omega) | skip
              have hgg : Hid (∀ (j : Nat) (y : IX), j < i + 1 → code[j]? = some y → y.fitB n = true ∧ (y.op = 4 ↔ j + 1 = n)) := hgood (by simp [h4, hl])
              clear h4 hl f1 f2
              go_roundw
              case rel => exact ⟨i + 1, by go_num, by omega, hgg, hB4.trans (hb5.mono hB4.size)⟩
              case measure => simp [intOf]; omega
      · have he : i = n := by omega
        have hr : ∀ (i : Nat) (x : IX), code[i]? = some x → x.op = 3 → 0 ≤ x.dst ∧ x.dst < (n : Int) := fun j x hx hj => fit_range (hall.out j x (by have := hlt'.out j x hx; omega) hx).1 hj
        have hc2 := HL.out hr wr hB
        have hyes : Hid ((∀ k, k < n → ∃ m, goJ code n k = some m) → OKn code n) := fun h => ⟨by omega, fun j x hx => hall.out j x (by have := hlt'.out j x hx; omega) hx, h⟩
        clear hr HL HF
        go_wp2_with fail
        all_goals first | (exfalso; omega) | skip
        go_at_call 43
        refine hc2.mono ?_
        clear hc2
        rintro e w5 ⟨v, rfl, hv, hb5⟩
        rcases hv with ⟨rfl, i2, hi2, hnone⟩ | ⟨l, hl, hall2, hown⟩
        · have hno : Hid (¬ OKn code n) := fun h => by
            obtain ⟨m, hm⟩ := h.2.2 i2 hi2
            rw [hnone] at hm
            cases hm
          clear hnone
          go_wp2
          go_returns
          exact ⟨retNo hno.out, hB.trans (hb5.mono hB.size)⟩
        · have hyes2 : Hid (OKn code n) := hyes.out (fun k hk => by obtain ⟨m, h1, -⟩ := hall2 k hk; exact ⟨m, h1⟩)
          rcases hown.2 with ⟨-, h0⟩ | ⟨g, cap, cur, rfl, -⟩
          · omega
          · clear hall2 hown hl
            go_wp2
            go_returns
            exact ⟨retYes hyes2.out, hB.trans (hb5.mono hB.size)⟩
set_option maxRecDepth 10000 in
set_option maxHeartbeats 2000000 in
theorem implFlatAt (code : List IX) (a : Option Addr) (c : Nat) (p : Int) (ok : Nat → Prop) (w : World) (hok : ∀ b, ok b → b < w.heap.size) (hR : IX.Row ok w a code) (hlen : code.length ≤ 1048576)
    (hm : ∀ (i : Nat) (x : IX), code[i]? = some x → SmallS x.s ∧ LiesS ok w x.s) :
    Calls Try.prog 20 #[.slice a code.length c, .int .i64 p] w fun e w' => RetAt code code.length p e ∧ Below w.heap.size w w' := by
  have HF := implFlatOk code a c ok w hok hR hlen hm
  have HL : Hid (OKc code → ∀ W : World, Below w.heap.size w W → Calls Try.prog 43 #[.slice a code.length c] W fun e w' => ∃ v, e = .returned v ∧ Landed code v W.heap.size w' ∧ Below W.heap.size W w') := fun hr W hW =>
    implLandings code a c ok W (fun b hb => Nat.lt_of_lt_of_le (hok b hb) hW.size) (hR.under hW hok) hlen (OKn.range hr)
  clear hm hR hok
  unfold OKc at HF HL
  unfold Landed at HL
  obtain ⟨n, hn⟩ : ∃ n, code.length = n := ⟨_, rfl⟩
  rw [hn] at hlen HF HL ⊢
  clear hn
  by_cases h0 : p < 0
  · go_enter Try.func20, Try.ntmps20
    go_wp2
    all_goals first | (exfalso; omega) | skip
    go_returns
    exact ⟨atNone (.inr (.inl h0)), Below.refl _ _⟩
  · by_cases h1 : (n : Int) ≤ p
    · go_enter Try.func20, Try.ntmps20
      go_wp2
      all_goals first | (exfalso; omega) | skip
      go_returns
      exact ⟨atNone (.inr (.inr h1)), Below.refl _ _⟩
    · obtain ⟨k, hk⟩ : ∃ k : Nat, p = k := ⟨p.toNat, by omega⟩
      subst hk
      have hkn : k < n := by omega
      go_enter Try.func20, Try.ntmps20
      go_wp2_with fail
      all_goals first | (exfalso; omega) | skip
      go_at_call 18
      refine HF.mono ?_
      clear HF
      rintro e w2 ⟨⟨b, rfl, hb⟩, hb2⟩
      cases b
      · have hno : Hid (¬ OKn code n) := fun h => by have := hb.2 h; simp at this
        clear hb
        go_wp2
        go_returns
        exact ⟨atNone (.inl hno.out), hb2⟩
      · have hyes : Hid (OKn code n) := hb.1 rfl
        have hc2 := HL.out hyes.out w2 hb2
        clear hb HL
        go_wp2_with fail
        go_at_call 43
        refine hc2.mono ?_
        clear hc2
        rintro e w3 ⟨v, rfl, hv, hb3⟩
        rcases hv with ⟨rfl, i2, hi2, hnone⟩ | ⟨l, hl, hall2, hown⟩
        · obtain ⟨m, hm⟩ := hyes.out.2.2 i2 hi2
          rw [hnone] at hm
          cases hm
        · obtain ⟨m, h3, h4⟩ := hall2 k hkn
          obtain ⟨va, vc, rfl, hcell⟩ := ints_cell hown
          obtain ⟨g, rfl, hcg⟩ := hcell k _ h4
          have hres : Hid (goJ code n k = some m) := h3
          clear hcell hown hall2 h3 h4
          rw [hl]
          go_wp2
          all_goals first | (exfalso; omega) | skip
          go_returns
          exact ⟨atSome hyes.out hkn hres.out, hb2.trans (hb3.mono hb2.size)⟩
end Go.Proofs.Ytimfdfeleoaehaa
