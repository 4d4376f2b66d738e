/-
  Where one comes from each place of code, going along jumps, as the program lists it.
  Whether code is right, and where one is, jumps being gone along: what the program answers.
  Whether code is right, and where one is, jumps being gone along: what the specification answers.
  Code that is the same is answered alike; the law's copies of code.
-/
import Derived.Test.YtimfdfeleoaehaaInstA
import Derived.Deep.AppendLies
import Derived.Deep.LoopGhost
import Derived.Test.YtimfdfeleoaehaaTextD
import Derived.Test.YtimfdfeleoaehaaInstD
import Derived.Test.YtimfdfeleoaehaaInstE
import Derived.Test.YtimfdfeleoaehaaInstB
import Derived.Test.YtimfdfeleoaehaaOkQ
namespace Go.Proofs.Ytimfdfeleoaehaa
open Go.RowKit Go.Shelf
set_option linter.unusedSimpArgs false
set_option linter.unusedVariables false

theorem goJ_stay {code : List IX} {k : Nat} {x : IX} (f : Nat) (hx : code[k]? = some x) (hn : ¬ x.op = 3) : goJ code (f + 1) k = some k := by
  have h2 : isJ code k = false := by simp [isJ, hx, hn]
  rw [goJ, h2]
  rfl
theorem goJ_step {code : List IX} {k : Nat} {x : IX} (f : Nat) (hx : code[k]? = some x) (hj : x.op = 3) : goJ code (f + 1) k = goJ code f x.dst.toNat := by
  have h2 : isJ code k = true := by simp [isJ, hx, hj]
  have h3 : nxt code k = x.dst.toNat := by simp [nxt, hx]
  rw [goJ, if_pos h2, h3]
def ints (l : List Int) : List Value := l.map (fun z => .int .i64 z)
theorem ints_snoc (l : List Int) (z : Int) : ints (l ++ [z]) = ints l ++ [.int .i64 z] := by simp [ints]
theorem infoN3 : (Try.prog.info? 3).map (fun i => (i.zero, i.size, i.bytes)) = some (some (.int .i64 0), 1, 8) := by kernel_rfl
theorem ints_cell {w : World} {base : Nat} {v : Value} {l : List Int} (h : w.ownsRow base 3 1 v l.length (ints l)) :
    ∃ a c, v = .slice a l.length c ∧ (∀ (i : Nat) (x : Int), l[i]? = some x → ∃ b, a = some ⟨b, 0, none⟩ ∧ w.cell? ⟨b, i, none⟩ = some (.int .i64 x)) := by
  rcases h.2 with ⟨rfl, h0⟩ | ⟨g, cap, cur, rfl, hb, hg, h3⟩
  · refine ⟨none, 0, by rw [h0], fun i x hx => ?_⟩
    have := (List.getElem?_eq_some_iff.1 hx).1
    omega
  · refine ⟨_, cap, rfl, fun i x hx => ⟨g, rfl, ?_⟩⟩
    have hi := (List.getElem?_eq_some_iff.1 hx).1
    rw [h.cellAt i (by omega)]
    simp [ints, hx]
def Landed (code : List IX) (v : Value) (base : Nat) (w : World) : Prop :=
  (v = .slice none 0 0 ∧ ∃ i, i < code.length ∧ goJ code code.length i = none) ∨
  (∃ l : List Int, l.length = code.length ∧ (∀ i, i < code.length → ∃ m : Nat, goJ code code.length i = some m ∧ l[i]? = some (m : Int)) ∧ w.ownsRow base 3 1 v l.length (ints l))
set_option maxRecDepth 10000 in
set_option maxHeartbeats 2000000 in
theorem implLandings (code : List IX) (a : Option Addr) (c : Nat) (ok : Nat → Prop) (w : World) (hok : ∀ b, ok b → b < w.heap.size) (hR : IX.Row ok w a code) (hlen : code.length ≤ 1048576)
    (hr : ∀ (i : Nat) (x : IX), code[i]? = some x → x.op = 3 → 0 ≤ x.dst ∧ x.dst < (code.length : Int)) :
    Calls Try.prog 43 #[.slice a code.length c] w fun e w' => ∃ v, e = .returned v ∧ Landed code v w.heap.size w' ∧ Below w.heap.size w w' := by
  obtain ⟨i0, hi0, hz0, hz1, hz2⟩ := info_parts infoN3
  obtain ⟨n, hn⟩ : ∃ n, code.length = n := ⟨_, rfl⟩
  have hq : Hid (∀ v w', Landed code v w.heap.size w' ↔ ((v = .slice none 0 0 ∧ ∃ i, i < n ∧ goJ code n i = none) ∨ (∃ l : List Int, l.length = n ∧ (∀ i, i < n → ∃ m : Nat, goJ code n i = some m ∧ l[i]? = some (m : Int)) ∧ w'.ownsRow w.heap.size 3 1 v l.length (ints l)))) := fun v w' => by
    unfold Landed
    rw [hn]
  rw [hn] at hlen hr ⊢
  have hr' : Hid (∀ (i : Nat) (x : IX), code[i]? = some x → x.op = 3 → 0 ≤ x.dst ∧ x.dst < (n : Int)) := hr
  have hget : Hid (∀ k, k < n → ∃ x, code[k]? = some x) := fun k hk => ⟨_, List.getElem?_eq_getElem (by omega)⟩
  clear hr hn
  go_enter Try.func43, Try.ntmps43
  go_wp2
  go_step3
  go_wp2
  go_step3
  go_wp2
  go_loopg [3, 8] n (fun gg v3 v8 wr => ∃ (i : Nat) (l : List Int), i + gg = n ∧ v8 = .int .i64 i ∧ Hid (l.length = i) ∧ wr.ownsRow w.heap.size 3 1 v3 l.length (ints l) ∧ Hid (∀ j, j < i → ∃ m : Nat, goJ code n j = some m ∧ l[j]? = some (m : Int)) ∧ Below w.heap.size w wr)
  case atStart => exact ⟨0, [], by omega, rfl, rfl, ⟨by simp [ints], .inl ⟨rfl, rfl⟩⟩, fun j hj => absurd hj (by omega), Below.refl _ _⟩
  case round =>
    rename World => wo
    obtain ⟨i, l, hig, rfl, hl, hown, hall, hB⟩ := hrel
    have hz := hB.size
    cases gk with
    | zero =>
      have hlt : ¬ (i : Int) < (n : Int) := by omega
      go_wp2
      (try rw [Exit.noGoto_ret])
      go_ret
      exact ⟨_, rfl, (hq.out _ _).2 (.inr ⟨l, by have := hl.out; omega, fun j hj => hall.out j (by omega), hown⟩), hB⟩
    | succ g =>
      have hlt : (i : Int) < (n : Int) := by omega
      have hll : l.length ≤ 1048576 := by have := hl.out; omega
      go_wp2
      obtain ⟨vv, hvv⟩ : ∃ vv, u3 = vv := ⟨_, rfl⟩
      rw [hvv] at hown
      go_loopg [3, 5, 14] n (fun g2 v3 v5 v14 wy => ∃ (q k : Nat), k + g2 = n ∧ v5 = .int .i64 q ∧ v14 = .int .i64 k ∧ q < n ∧ Hid (goJ code g2 q = goJ code n i) ∧ wo = wy ∧ v3 = vv)
      case atStart => exact ⟨i, 0, by omega, rfl, rfl, by omega, rfl, rfl, by first | exact hvv | rfl⟩
      case round =>
        clear hvv
        obtain ⟨q, k, hkg, rfl, rfl, hq2, hg, rfl, rfl⟩ := hrel
        cases gk with
        | zero =>
          have hk2 : ¬ (k : Int) < (n : Int) := by omega
          go_wp2
          (try rw [Exit.noGoto_ret])
          go_ret
          exact ⟨_, rfl, (hq.out _ _).2 (.inl ⟨rfl, i, by omega, by rw [← hg.out]; rfl⟩), hB⟩
        | succ g2 =>
          have hk2 : (k : Int) < (n : Int) := by omega
          obtain ⟨x, hx⟩ := hget.out q hq2
          obtain ⟨b1, o1, hbase1, hok1, hc1⟩ := hR q x hx
          have hd := hc1.below hB (hok b1 hok1)
          have d0 := hd.c0
          have d13 := hd.c13
          clear hd hc1
          subst hbase1
          by_cases hj : x.op = 3
          · obtain ⟨r1, r2⟩ := hr'.out q x hx hj
            have hst : Hid (goJ code g2 x.dst.toNat = goJ code n i) := (goJ_step g2 hx hj).symm.trans hg.out
            obtain ⟨d, hd⟩ : ∃ d : Nat, x.dst = d := ⟨x.dst.toNat, by omega⟩
            rw [hd] at d13 hst r2
            rw [hj] at d0
            clear hj hd hx
            go_wp2
            go_roundg g2
            case measure => omega
            case rel => exact ⟨d, k + 1, by omega, rfl, by go_num, by omega, hst, rfl, rfl⟩
          · have hst : goJ code n i = some q := hg.out.symm.trans (goJ_stay g2 hx hj)
            have hlq : Hid (∀ j, j < i + 1 → ∃ m : Nat, goJ code n j = some m ∧ (l ++ [(q : Int)])[j]? = some (m : Int)) := fun j hj2 => by
              by_cases e : j = i
              · subst e
                exact ⟨q, hst, by rw [← hl.out]; simp⟩
              · obtain ⟨m, h1, h2⟩ := hall.out j (by omega)
                exact ⟨m, h1, by rw [List.getElem?_append_left (by have := (List.getElem?_eq_some_iff.1 h2).1; omega)]; exact h2⟩
            have hsnoc : Hid (ints (l ++ [(q : Int)]) = ints l ++ [.int .i64 q]) := ints_snoc l q
            clear hst
            have hzo : w.heap.size ≤ wo.heap.size := hz
            go_wp2_with (at_builtin; go_loud (refine wpList_append_own _ rfl _ _ 79 rfl w.heap.size 3 i0 _ 1 8 Try.underlying79 hi0 hz0 hz1 hz2 rfl (by decide) _ l.length (ints l) rfl (hown.alloc _) ⟨wo.heap.size, 0, none⟩ 1 1 [.int .i64 q] rfl rfl (cell_one_new _ _ _) (by simp [Value.oneCell']) (by unfold maxLen; omega) (by omega) (by rw [World.size_alloc]; omega) ?_); intro v' w1 hown' hgrow hnn; (have hB1 : Below w.heap.size w w1 := (balloc hB _).grown hgrow (by rw [World.size_alloc]; omega) (fun q' hq' => (hown.lt q' hq').1)); clear hgrow hnn)
            go_roundg g
            case measure => omega
            case rel => exact ⟨i + 1, l ++ [(q : Int)], by omega, by go_num, by show (l ++ [(q : Int)]).length = i + 1; rw [List.length_append, hl.out]; rfl, by rw [hsnoc.out, List.length_append]; exact hown', hlq, hB1⟩
end Go.Proofs.Ytimfdfeleoaehaa
namespace Go.Proofs.Ytimfdfeleoaehaa
open Go.RowKit Go.Shelf
set_option linter.unusedSimpArgs false
set_option linter.unusedVariables false

def OKn (code : List IX) (n : Nat) : Prop := (1 ≤ n ∧ n ≤ 121) ∧ (∀ (i : Nat) (x : IX), code[i]? = some x → x.fitB n = true ∧ (x.op = 4 ↔ i + 1 = n)) ∧ ∀ i, i < n → ∃ m, goJ code n i = some m
def OKc (code : List IX) : Prop := OKn code code.length
/-- a function answers where one is -/
def RetAt (code : List IX) (n : Nat) (p : Int) (e : Ending) : Prop := ∃ r : Int, e = .returned (.int .i64 r) ∧ ((OKn code n ∧ ∃ k m : Nat, p = k ∧ k < n ∧ goJ code n k = some m ∧ r = m) ∨ ((¬ OKn code n ∨ p < 0 ∨ (n : Int) ≤ p) ∧ r = -1))
theorem atNone {code : List IX} {n : Nat} {p : Int} (h : ¬ OKn code n ∨ p < 0 ∨ (n : Int) ≤ p) : RetAt code n p (.returned (.int .i64 (-1))) := ⟨_, rfl, .inr ⟨h, rfl⟩⟩
theorem atSome {code : List IX} {n k m : Nat} (h : OKn code n) (hk : k < n) (hg : goJ code n k = some m) : RetAt code n k (.returned (.int .i64 (m : Int))) := ⟨_, rfl, .inl ⟨h, k, m, rfl, hk, hg, rfl⟩⟩
/-- a function answers whether something is so -/
def RetB (P : Prop) (e : Ending) : Prop := ∃ b, e = .returned (.bool b) ∧ (b = true ↔ P)
theorem retYes {P : Prop} (h : P) : RetB P (.returned (.bool true)) := ⟨true, rfl, ⟨fun _ => h, fun _ => rfl⟩⟩
theorem retNo {P : Prop} (h : ¬ P) : RetB P (.returned (.bool false)) := ⟨false, rfl, ⟨fun h2 => Bool.noConfusion h2, fun h2 => absurd h2 h⟩⟩
theorem fit_range {x : IX} {n : Int} (h : x.fitB n = true) (hj : x.op = 3) : 0 ≤ x.dst ∧ x.dst < n := by
  unfold IX.fitB at h
  rw [if_neg (by omega), if_neg (by omega), if_pos hj] at h
  simp at h
  exact h.1
theorem OKn.range {code : List IX} {n : Nat} (h : OKn code n) : ∀ (i : Nat) (x : IX), code[i]? = some x → x.op = 3 → 0 ≤ x.dst ∧ x.dst < (n : Int) := fun i x hx hj => fit_range (h.2.1 i x hx).1 hj
set_option maxRecDepth 10000 in
set_option maxHeartbeats 2000000 in
theorem implFlatOk (code : List IX) (a : Option Addr) (c : Nat) (ok : Nat → Prop) (w : World) (hok : ∀ b, ok b → b < w.heap.size) (hR : IX.Row ok w a code) (hlen : code.length ≤ 1048576)
    (hm : ∀ (i : Nat) (x : IX), code[i]? = some x → SmallS x.s ∧ LiesS ok w x.s) :
    Calls Try.prog 18 #[.slice a code.length c] w fun e w' => RetB (OKc code) e ∧ Below w.heap.size w w' := by
  have HF : Hid (∀ (i : Nat) (x : IX), code[i]? = some x → ∀ W : World, Below w.heap.size w W → Calls Try.prog 42 #[x.val, .int .i64 (code.length : Int)] W fun e w' => e = .returned (.bool (x.fitB code.length)) ∧ Below W.heap.size W w') := fun i x hx W hW =>
    IX.implFits x _ (hm i x hx).1 ok W (fun b hb => Nat.lt_of_lt_of_le (hok b hb) hW.size) ((hm i x hx).2.under hW hok)
  have HL : Hid ((∀ (i : Nat) (x : IX), code[i]? = some x → x.op = 3 → 0 ≤ x.dst ∧ x.dst < (code.length : Int)) → ∀ W : World, Below w.heap.size w W → Calls Try.prog 43 #[.slice a code.length c] W fun e w' => ∃ v, e = .returned v ∧ Landed code v W.heap.size w' ∧ Below W.heap.size W w') := fun hr W hW =>
    implLandings code a c ok W (fun b hb => Nat.lt_of_lt_of_le (hok b hb) hW.size) (hR.under hW hok) hlen hr
  clear hm
  obtain ⟨n, hn⟩ : ∃ n, code.length = n := ⟨_, rfl⟩
  have hget : Hid (∀ k, k < n → ∃ x, code[k]? = some x) := fun k hk => ⟨_, List.getElem?_eq_getElem (by omega)⟩
  have hlt' : Hid (∀ k x, code[k]? = some x → k < n) := fun k x hx => by have := (List.getElem?_eq_some_iff.1 hx).1; omega
  unfold OKc
  unfold Landed at HL
  rw [hn] at hlen HF HL ⊢
  clear hn
  by_cases hn : n < 1 ∨ 121 < n
  · have hno : Hid (¬ OKn code n) := fun h => by have := h.1; omega
    rcases hn with hn | hn
    · go_enter Try.func18, Try.ntmps18
      go_wp2
      all_goals first | (exfalso; omega) | skip
      go_returns
      exact ⟨retNo hno.out, Below.refl _ _⟩
    · go_enter Try.func18, Try.ntmps18
      go_wp2
      all_goals first | (exfalso; omega) | skip
      go_returns
      exact ⟨retNo hno.out, Below.refl _ _⟩
  · have h1 : ¬ n < 1 := by omega
    have h2 : ¬ 121 < n := by omega
    clear hn
    go_enter Try.func18, Try.ntmps18
    go_wp2
    all_goals first | (exfalso; omega) | skip
    go_loopw [16] (fun v16 wr => ∃ (i : Nat), v16 = .int .i64 i ∧ i ≤ n ∧ Hid (∀ (j : Nat) (x : IX), j < i → code[j]? = some x → x.fitB n = true ∧ (x.op = 4 ↔ j + 1 = n)) ∧ Below w.heap.size w wr) (fun v16 _ => n - (intOf v16).toNat)
    case atStart => exact ⟨0, rfl, by omega, fun j x hj => absurd hj (by omega), Below.refl _ _⟩
    case round =>
      obtain ⟨i, rfl, hi, hall, hB⟩ := hrel
      have hz := hB.size
      by_cases hlt : i < n
      · obtain ⟨x, hx⟩ := hget.out i hlt
        obtain ⟨b1, o1, hbase1, hok1, hc1⟩ := hR i x hx
        obtain ⟨c0, c1, c2, c3, c4, c5, c6, c7, c8, c9, c10, c11, c12, c13⟩ := hc1.below hB (hok b1 hok1)
        clear hc1
        have hcall := HF.out i x hx
        subst hbase1
        obtain ⟨W4, hW4⟩ : ∃ W4, wr.alloc (.cells #[.int .i64 x.op, .int .i64 x.s.kind, .string x.s.name, .int .i64 x.s.e.kind, .int .i64 x.s.e.num, .string x.s.e.name, .slice x.s.e.base x.s.e.kids.length x.s.e.cap, .int .i64 x.s.f.kind, .int .i64 x.s.f.num, .string x.s.f.name, .slice x.s.f.base x.s.f.kids.length x.s.f.cap, .slice x.s.abase x.s.la.length x.s.acap, .slice x.s.bbase x.s.lb.length x.s.bcap, .int .i64 x.dst] 52) = W4 := ⟨_, rfl⟩
        have hB4 : Below w.heap.size w W4 := by rw [← hW4]; exact balloc hB _
        have hz4 : W4.heap.size = wr.heap.size + 1 := by rw [← hW4]; simp
        have hC4 : Cells14 W4 wr.heap.size 0 x := by rw [← hW4]; exact Cells14.new wr x _
        obtain ⟨k0, k1, k2, k3, k4, k5, k6, k7, k8, k9, k10, k11, k12, k13⟩ := hC4
        have hc2 := hcall W4 hB4
        clear hcall
        have hgood : Hid (x.fitB n = true → (x.op = 4 ↔ i + 1 = n) → ∀ (j : Nat) (y : IX), j < i + 1 → code[j]? = some y → y.fitB n = true ∧ (y.op = 4 ↔ j + 1 = n)) := fun g1 g2 j y hj hy => by
          by_cases e : j = i
          · subst e
            rw [hx] at hy
            cases hy
            exact ⟨g1, g2⟩
          · exact hall.out j y (by omega) hy
        have hbad : Hid (¬ (x.fitB n = true ∧ (x.op = 4 ↔ i + 1 = n)) → ¬ OKn code n) := fun h3 h4 => h3 (h4.2.1 i x hx)
        clear hx
        cases hf : x.fitB n
        · rw [hf] at hc2 hbad
          go_wp2_with (go_at_call 42; refine hc2.mono ?_; rintro e w5 ⟨rfl, hb5⟩)
          go_returns
          exact ⟨retNo (hbad.out (by simp)), hB4.trans (hb5.mono hB4.size)⟩
        · rw [hf] at hc2 hbad
          replace hgood := hgood.out hf
          clear hf
          by_cases h4 : x.op = 4
          · by_cases hl : i + 1 = n
            · have hl2 : Hid (i + 1 = n) := hl
              have h42 : Hid (x.op = 4) := h4
              have f1 : ((i : Int) == (n : Int) - 1) = true := by simp; omega
              have f2 : (x.op == 4) = true := by simp [h4]
              clear hl h4
              go_wp2_with (go_at_call 42; refine hc2.mono ?_; rintro e w5 ⟨rfl, hb5⟩; (have k1 := below_cell hb5 k0 (by dsimp only; omega)))
              all_goals have hl := hl2.out
              all_goals have h4 := h42.out
              all_goals first | (exfalso; omega) | skip
              have hgg : Hid (∀ (j : Nat) (y : IX), j < i + 1 → code[j]? = some y → y.fitB n = true ∧ (y.op = 4 ↔ j + 1 = n)) := hgood (by simp [h4, hl])
              clear h4 hl f1 f2
              go_roundw
              case rel => exact ⟨i + 1, by go_num, by omega, hgg, hB4.trans (hb5.mono hB4.size)⟩
              case measure => simp [intOf]; omega
            · have hl2 : Hid (¬ i + 1 = n) := hl
              have h42 : Hid (x.op = 4) := h4
              have f1 : ((i : Int) == (n : Int) - 1) = false := by simp; omega
              have f2 : (x.op == 4) = true := by simp [h4]
              clear hl h4
              go_wp2_with (go_at_call 42; refine hc2.mono ?_; rintro e w5 ⟨rfl, hb5⟩; (have k1 := below_cell hb5 k0 (by dsimp only; omega)))
              all_goals have hl := hl2.out
              all_goals have h4 := h42.out
              all_goals first | (exfalso; omega) | skip
              go_returns
              exact ⟨retNo (hbad.out (by simp [h4, hl])), hB4.trans (hb5.mono hB4.size)⟩
          · by_cases hl : i + 1 = n
            · have hl2 : Hid (i + 1 = n) := hl
              have h42 : Hid (¬ x.op = 4) := h4
              have f1 : ((i : Int) == (n : Int) - 1) = true := by simp; omega
              have f2 : (x.op == 4) = false := by simp [h4]
              clear hl h4
              go_wp2_with (go_at_call 42; refine hc2.mono ?_; rintro e w5 ⟨rfl, hb5⟩; (have k1 := below_cell hb5 k0 (by dsimp only; omega)))
              all_goals have hl := hl2.out
              all_goals have h4 := h42.out
              all_goals first | (exfalso; omega) | skip
              go_returns
              exact ⟨retNo (hbad.out (by simp [h4, hl])), hB4.trans (hb5.mono hB4.size)⟩
            · have hl2 : Hid (¬ i + 1 = n) := hl
              have h42 : Hid (¬ x.op = 4) := h4
              have f1 : ((i : Int) == (n : Int) - 1) = false := by simp; omega
              have f2 : (x.op == 4) = false := by simp [h4]
              clear hl h4
              go_wp2_with (go_at_call 42; refine hc2.mono ?_; rintro e w5 ⟨rfl, hb5⟩; (have k1 := below_cell hb5 k0 (by dsimp only; omega)))
              all_goals have hl := hl2.out
              all_goals have h4 := h42.out
              all_goals first | (exfalso; omega) | skip
              have hgg : Hid (∀ (j : Nat) (y : IX), j < i + 1 → code[j]? = some y → y.fitB n = true ∧ (y.op = 4 ↔ j + 1 = n)) := hgood (by simp [h4, hl])
              clear h4 hl f1 f2
              go_roundw
              case rel => exact ⟨i + 1, by go_num, by omega, hgg, hB4.trans (hb5.mono hB4.size)⟩
              case measure => simp [intOf]; omega
      · have he : i = n := by omega
        have hr : ∀ (i : Nat) (x : IX), code[i]? = some x → x.op = 3 → 0 ≤ x.dst ∧ x.dst < (n : Int) := fun j x hx hj => fit_range (hall.out j x (by have := hlt'.out j x hx; omega) hx).1 hj
        have hc2 := HL.out hr wr hB
        have hyes : Hid ((∀ k, k < n → ∃ m, goJ code n k = some m) → OKn code n) := fun h => ⟨by omega, fun j x hx => hall.out j x (by have := hlt'.out j x hx; omega) hx, h⟩
        clear hr HL HF
        go_wp2_with fail
        all_goals first | (exfalso; omega) | skip
        go_at_call 43
        refine hc2.mono ?_
        clear hc2
        rintro e w5 ⟨v, rfl, hv, hb5⟩
        rcases hv with ⟨rfl, i2, hi2, hnone⟩ | ⟨l, hl, hall2, hown⟩
        · have hno : Hid (¬ OKn code n) := fun h => by
            obtain ⟨m, hm⟩ := h.2.2 i2 hi2
            rw [hnone] at hm
            cases hm
          clear hnone
          go_wp2
          go_returns
          exact ⟨retNo hno.out, hB.trans (hb5.mono hB.size)⟩
        · have hyes2 : Hid (OKn code n) := hyes.out (fun k hk => by obtain ⟨m, h1, -⟩ := hall2 k hk; exact ⟨m, h1⟩)
          rcases hown.2 with ⟨-, h0⟩ | ⟨g, cap, cur, rfl, -⟩
          · omega
          · clear hall2 hown hl
            go_wp2
            go_returns
            exact ⟨retYes hyes2.out, hB.trans (hb5.mono hB.size)⟩
set_option maxRecDepth 10000 in
set_option maxHeartbeats 2000000 in
theorem implFlatAt (code : List IX) (a : Option Addr) (c : Nat) (p : Int) (ok : Nat → Prop) (w : World) (hok : ∀ b, ok b → b < w.heap.size) (hR : IX.Row ok w a code) (hlen : code.length ≤ 1048576)
    (hm : ∀ (i : Nat) (x : IX), code[i]? = some x → SmallS x.s ∧ LiesS ok w x.s) :
    Calls Try.prog 20 #[.slice a code.length c, .int .i64 p] w fun e w' => RetAt code code.length p e ∧ Below w.heap.size w w' := by
  have HF := implFlatOk code a c ok w hok hR hlen hm
  have HL : Hid (OKc code → ∀ W : World, Below w.heap.size w W → Calls Try.prog 43 #[.slice a code.length c] W fun e w' => ∃ v, e = .returned v ∧ Landed code v W.heap.size w' ∧ Below W.heap.size W w') := fun hr W hW =>
    implLandings code a c ok W (fun b hb => Nat.lt_of_lt_of_le (hok b hb) hW.size) (hR.under hW hok) hlen (OKn.range hr)
  clear hm hR hok
  unfold OKc at HF HL
  unfold Landed at HL
  obtain ⟨n, hn⟩ : ∃ n, code.length = n := ⟨_, rfl⟩
  rw [hn] at hlen HF HL ⊢
  clear hn
  by_cases h0 : p < 0
  · go_enter Try.func20, Try.ntmps20
    go_wp2
    all_goals first | (exfalso; omega) | skip
    go_returns
    exact ⟨atNone (.inr (.inl h0)), Below.refl _ _⟩
  · by_cases h1 : (n : Int) ≤ p
    · go_enter Try.func20, Try.ntmps20
      go_wp2
      all_goals first | (exfalso; omega) | skip
      go_returns
      exact ⟨atNone (.inr (.inr h1)), Below.refl _ _⟩
    · obtain ⟨k, hk⟩ : ∃ k : Nat, p = k := ⟨p.toNat, by omega⟩
      subst hk
      have hkn : k < n := by omega
      go_enter Try.func20, Try.ntmps20
      go_wp2_with fail
      all_goals first | (exfalso; omega) | skip
      go_at_call 18
      refine HF.mono ?_
      clear HF
      rintro e w2 ⟨⟨b, rfl, hb⟩, hb2⟩
      cases b
      · have hno : Hid (¬ OKn code n) := fun h => by have := hb.2 h; simp at this
        clear hb
        go_wp2
        go_returns
        exact ⟨atNone (.inl hno.out), hb2⟩
      · have hyes : Hid (OKn code n) := hb.1 rfl
        have hc2 := HL.out hyes.out w2 hb2
        clear hb HL
        go_wp2_with fail
        go_at_call 43
        refine hc2.mono ?_
        clear hc2
        rintro e w3 ⟨v, rfl, hv, hb3⟩
        rcases hv with ⟨rfl, i2, hi2, hnone⟩ | ⟨l, hl, hall2, hown⟩
        · obtain ⟨m, hm⟩ := hyes.out.2.2 i2 hi2
          rw [hnone] at hm
          cases hm
        · obtain ⟨m, h3, h4⟩ := hall2 k hkn
          obtain ⟨va, vc, rfl, hcell⟩ := ints_cell hown
          obtain ⟨g, rfl, hcg⟩ := hcell k _ h4
          have hres : Hid (goJ code n k = some m) := h3
          clear hcell hown hall2 h3 h4
          rw [hl]
          go_wp2
          all_goals first | (exfalso; omega) | skip
          go_returns
          exact ⟨atSome hyes.out hkn hres.out, hb2.trans (hb3.mono hb2.size)⟩
end Go.Proofs.Ytimfdfeleoaehaa
namespace Go.Proofs.Ytimfdfeleoaehaa
open Go.RowKit Go.Shelf
set_option linter.unusedSimpArgs false
set_option linter.unusedVariables false

theorem along_out {code : List IX} {p : Int} (f : Nat) (h : p < 0 ∨ (code.length : Int) ≤ p) : alongN code (f + 1) p = -1 := by
  rw [alongN, if_pos h]
theorem along_stay {code : List IX} {q : Nat} {x : IX} (f : Nat) (hx : code[q]? = some x) (hn : ¬ x.op = 3) : alongN code (f + 1) (q : Int) = q := by
  have hlt := (List.getElem?_eq_some_iff.1 hx).1
  have h1 : ((q : Int)).toNat = q := by omega
  rw [alongN, if_neg (by omega), h1, hx]
  exact if_neg hn
theorem along_step {code : List IX} {q : Nat} {x : IX} (f : Nat) (hx : code[q]? = some x) (hj : x.op = 3) : alongN code (f + 1) (q : Int) = alongN code f x.dst := by
  have hlt := (List.getElem?_eq_some_iff.1 hx).1
  have h1 : ((q : Int)).toNat = q := by omega
  rw [alongN, if_neg (by omega), h1, hx]
  exact if_pos hj
def OKs (code : List IX) (n : Nat) : Prop := (1 ≤ n ∧ n ≤ 121) ∧ (∀ x, code[n - 1]? = some x → x.op = 4) ∧ ∀ (i : Nat) (x : IX), code[i]? = some x → x.fitB n = true ∧ ¬ (i + 1 < n ∧ x.op = 4) ∧ 0 ≤ alongN code (n + 1) (i : Int)
theorem ok_both (code : List IX) (n : Nat) (hn : code.length = n) : OKs code n ↔ OKn code n := by
  have hlt' : ∀ k x, code[k]? = some x → k < n := fun k x hx => by have := (List.getElem?_eq_some_iff.1 hx).1; omega
  have hget : ∀ k, k < n → ∃ x, code[k]? = some x := fun k hk => ⟨_, List.getElem?_eq_getElem (by omega)⟩
  constructor
  · rintro ⟨h1, h2, h3⟩
    have hr : ∀ (i : Nat) (x : IX), code[i]? = some x → x.op = 3 → 0 ≤ x.dst ∧ x.dst < (code.length : Int) := fun i x hx hj => by rw [hn]; exact fit_range (h3 i x hx).1 hj
    have hlast : isJ code (n - 1) = false := by
      obtain ⟨x, hx⟩ := hget (n - 1) (by omega)
      simp [isJ, hx, h2 x hx]
    refine ⟨h1, fun i x hx => ⟨(h3 i x hx).1, fun h4 => ?_, fun h4 => ?_⟩, fun i hi => ?_⟩
    · have := (h3 i x hx).2.1
      have := hlt' i x hx
      omega
    · have e : i = n - 1 := by omega
      subst e
      exact h2 x hx
    · obtain ⟨x, hx⟩ := hget i hi
      have h5 := (h3 i x hx).2.2
      rw [along_go code hr (n + 1) i (by omega), goJ_same code n hn h1.1 hlast] at h5
      cases hg : goJ code n i with
      | some m => exact ⟨m, rfl⟩
      | none => rw [hg] at h5; simp [toI] at h5
  · rintro ⟨h1, h2, h3⟩
    have hr : ∀ (i : Nat) (x : IX), code[i]? = some x → x.op = 3 → 0 ≤ x.dst ∧ x.dst < (code.length : Int) := fun i x hx hj => by rw [hn]; exact fit_range (h2 i x hx).1 hj
    have hl4 : ∀ x, code[n - 1]? = some x → x.op = 4 := fun x hx => (h2 (n - 1) x hx).2.2 (by omega)
    have hlast : isJ code (n - 1) = false := by
      obtain ⟨x, hx⟩ := hget (n - 1) (by omega)
      simp [isJ, hx, hl4 x hx]
    refine ⟨h1, hl4, fun i x hx => ⟨(h2 i x hx).1, fun h4 => ?_, ?_⟩⟩
    · have := (h2 i x hx).2.1 h4.2
      omega
    · have hi := hlt' i x hx
      rw [along_go code hr (n + 1) i (by omega), goJ_same code n hn h1.1 hlast]
      obtain ⟨m, hm⟩ := h3 i hi
      rw [hm]
      simp [toI]
set_option maxRecDepth 10000 in
set_option maxHeartbeats 2000000 in
theorem specAlong (code : List IX) (a : Option Addr) (c : Nat) (p : Int) (ok : Nat → Prop) (w : World) (hok : ∀ b, ok b → b < w.heap.size) (hR : IX.Row ok w a code) (hlen : code.length ≤ 1048576) :
    Calls Try.prog 40 #[.slice a code.length c, .int .i64 p] w fun e w' => e = .returned (.int .i64 (alongN code (code.length + 1) p)) ∧ Below w.heap.size w w' := by
  obtain ⟨n, hn⟩ : ∃ n, code.length = n := ⟨_, rfl⟩
  have hget : Hid (∀ k, k < n → ∃ x, code[k]? = some x) := fun k hk => ⟨_, List.getElem?_eq_getElem (by omega)⟩
  have hout : Hid (∀ f p, (p < 0 ∨ (n : Int) ≤ p) → alongN code (f + 1) p = -1) := fun f p h => along_out f (by rw [hn]; exact h)
  rw [hn] at hlen ⊢
  obtain ⟨r, hres⟩ : ∃ r, alongN code (n + 1) p = r := ⟨_, rfl⟩
  rw [hres]
  have hres' : Hid (alongN code (n + 1) p = r) := hres
  clear hn hres
  go_enter Try.func40, Try.ntmps40
  go_wp2
  go_loopw [1, 5] (fun v1 v5 wr => ∃ (k : Nat) (q : Int), v5 = .int .i64 k ∧ v1 = .int .i64 q ∧ k ≤ n + 1 ∧ Hid (alongN code (n + 1 - k) q = r) ∧ wr = w) (fun _ v5 _ => n + 1 - (intOf v5).toNat)
  case atStart => exact ⟨0, p, rfl, rfl, by omega, hres', rfl⟩
  case round =>
    obtain ⟨k, q, rfl, rfl, hk, hg, rfl⟩ := hrel
    by_cases hk2 : k ≤ n
    · obtain ⟨f, hf⟩ : ∃ f, n + 1 - k = f + 1 := ⟨n - k, by omega⟩
      rw [hf] at hg
      have hf' : Hid (n + 1 - k = f + 1) := hf
      clear hf
      by_cases hq : q < 0 ∨ (n : Int) ≤ q
      · have hr1 : Hid (-1 = r) := by rw [← hg.out]; exact (hout.out f q hq).symm
        rcases hq with hq | hq
        · go_wp2
          all_goals first | (exfalso; omega) | skip
          go_returns
          exact ⟨ret_int hr1.out, Below.refl _ _⟩
        · go_wp2
          all_goals first | (exfalso; omega) | skip
          go_returns
          exact ⟨ret_int hr1.out, Below.refl _ _⟩
      · obtain ⟨m, rfl⟩ : ∃ m : Nat, q = m := ⟨q.toNat, by omega⟩
        have hm : m < n := by omega
        clear hq
        obtain ⟨x, hx⟩ := hget.out m hm
        obtain ⟨b1, o1, hbase1, hok1, hd⟩ := hR m x hx
        have d0 := hd.c0
        have d13 := hd.c13
        clear hd
        subst hbase1
        by_cases hj : x.op = 3
        · have hst : Hid (alongN code f x.dst = r) := (along_step f hx hj).symm.trans hg.out
          obtain ⟨d, hd⟩ : ∃ d, x.dst = d := ⟨_, rfl⟩
          rw [hd] at d13 hst
          rw [hj] at d0
          clear hj hd hx
          go_wp2
          all_goals first | (exfalso; omega) | skip
          go_roundw
          case rel => exact ⟨k + 1, d, by go_num, rfl, by omega, by rw [show n + 1 - (k + 1) = f by have := hf'.out; omega]; exact hst, by first | rfl | trivial⟩
          case measure => simp [intOf]; omega
        · have hst : Hid ((m : Int) = r) := (along_stay f hx hj).symm.trans hg.out
          go_wp2
          all_goals first | (exfalso; omega) | skip
          go_returns
          exact ⟨ret_int hst.out, Below.refl _ _⟩
    · have hr1 : Hid (-1 = r) := by
        have h := hg.out
        rw [show n + 1 - k = 0 by omega] at h
        exact h
      go_wp2
      all_goals first | (exfalso; omega) | skip
      go_returns
      exact ⟨ret_int hr1.out, Below.refl _ _⟩
set_option maxRecDepth 10000 in
set_option maxHeartbeats 2000000 in
theorem specFlatOk (code : List IX) (a : Option Addr) (c : Nat) (ok : Nat → Prop) (w : World) (hok : ∀ b, ok b → b < w.heap.size) (hR : IX.Row ok w a code) (hlen : code.length ≤ 1048576)
    (hm : ∀ (i : Nat) (x : IX), code[i]? = some x → SmallS x.s ∧ LiesS ok w x.s) :
    Calls Try.prog 16 #[.slice a code.length c] w fun e w' => RetB (OKn code code.length) e ∧ Below w.heap.size w w' := by
  have HF : Hid (∀ (i : Nat) (x : IX), code[i]? = some x → ∀ W : World, Below w.heap.size w W → Calls Try.prog 39 #[x.val, .int .i64 (code.length : Int)] W fun e w' => e = .returned (.bool (x.fitB code.length)) ∧ Below W.heap.size W w') := fun i x hx W hW =>
    IX.specFits x _ (by have := (List.getElem?_eq_some_iff.1 hx).1; omega) (hm i x hx).1 ok W (fun b hb => Nat.lt_of_lt_of_le (hok b hb) hW.size) ((hm i x hx).2.under hW hok)
  have HL : Hid (∀ p : Int, ∀ W : World, Below w.heap.size w W → Calls Try.prog 40 #[.slice a code.length c, .int .i64 p] W fun e w' => e = .returned (.int .i64 (alongN code (code.length + 1) p)) ∧ Below W.heap.size W w') := fun p W hW =>
    specAlong code a c p ok W (fun b hb => Nat.lt_of_lt_of_le (hok b hb) hW.size) (hR.under hW hok) hlen
  clear hm
  have hboth := ok_both code _ rfl
  obtain ⟨n, hn⟩ : ∃ n, code.length = n := ⟨_, rfl⟩
  have hget : Hid (∀ k, k < n → ∃ x, code[k]? = some x) := fun k hk => ⟨_, List.getElem?_eq_getElem (by omega)⟩
  have hlt' : Hid (∀ k x, code[k]? = some x → k < n) := fun k x hx => by have := (List.getElem?_eq_some_iff.1 hx).1; omega
  rw [hn] at hlen HF HL hboth ⊢
  clear hn
  obtain ⟨P, hP⟩ : ∃ P, OKn code n = P := ⟨_, rfl⟩
  rw [hP] at hboth ⊢
  clear hP
  have hboth' : Hid (OKs code n ↔ P) := hboth
  clear hboth
  by_cases hn : n < 1 ∨ 121 < n
  · have hno : Hid (¬ P) := fun h => by have := (hboth'.out.2 h).1; omega
    rcases hn with hn | hn
    · go_enter Try.func16, Try.ntmps16
      go_wp2
      all_goals first | (exfalso; omega) | skip
      go_returns
      exact ⟨retNo hno.out, Below.refl _ _⟩
    · go_enter Try.func16, Try.ntmps16
      go_wp2
      all_goals first | (exfalso; omega) | skip
      go_returns
      exact ⟨retNo hno.out, Below.refl _ _⟩
  · have h1 : ¬ n < 1 := by omega
    have h2 : ¬ 121 < n := by omega
    clear hn
    obtain ⟨z, hz1⟩ := hget.out (n - 1) (by omega)
    obtain ⟨b0, o0, hbase0, hok0, hz2⟩ := hR (n - 1) z hz1
    have z0 := hz2.c0
    clear hz2
    subst hbase0
    obtain ⟨n1, hn1⟩ : ∃ n1 : Nat, n - 1 = n1 := ⟨_, rfl⟩
    rw [hn1] at z0 hz1
    have hni : (n : Int) - 1 = n1 := by omega
    have hn1' : Hid (n - 1 = n1) := hn1
    clear hn1
    by_cases hz4 : z.op = 4
    · have hz4' : Hid (∀ x, code[n - 1]? = some x → x.op = 4) := fun x hx => by
        rw [hn1'.out, hz1] at hx
        cases hx
        exact hz4
      rw [hz4] at z0
      have hn1lt : n1 < n := by have := hn1'.out; omega
      clear hz1 hz4
      go_enter Try.func16, Try.ntmps16
      go_wp2
      all_goals first | (exfalso; omega) | skip
      clear z0
      go_loopw [4] (fun v4 wr => ∃ (i : Nat), v4 = .int .i64 i ∧ i ≤ n ∧ Hid (∀ (j : Nat) (x : IX), j < i → code[j]? = some x → x.fitB n = true ∧ ¬ (j + 1 < n ∧ x.op = 4) ∧ 0 ≤ alongN code (n + 1) (j : Int)) ∧ Below w.heap.size w wr) (fun v4 _ => n - (intOf v4).toNat)
      case atStart => exact ⟨0, rfl, by omega, fun j x hj => absurd hj (by omega), Below.refl _ _⟩
      case round =>
        obtain ⟨i, rfl, hi, hall, hB⟩ := hrel
        have hz := hB.size
        by_cases hlt : i < n
        · obtain ⟨x, hx⟩ := hget.out i hlt
          obtain ⟨b1, o1, hbase1, hok1, hc1⟩ := hR i x hx
          cases hbase1
          have hd := hc1.below hB (hok b0 hok1)
          obtain ⟨c0, c1, c2, c3, c4, c5, c6, c7, c8, c9, c10, c11, c12, c13⟩ := hd
          clear hc1
          have hc2 := HF.out i x hx wr hB
          have hgood : Hid (x.fitB n = true → ¬ (i + 1 < n ∧ x.op = 4) → 0 ≤ alongN code (n + 1) (i : Int) → ∀ (j : Nat) (y : IX), j < i + 1 → code[j]? = some y → y.fitB n = true ∧ ¬ (j + 1 < n ∧ y.op = 4) ∧ 0 ≤ alongN code (n + 1) (j : Int)) := fun g1 g2 g3 j y hj hy => by
            by_cases e : j = i
            · subst e
              rw [hx] at hy
              cases hy
              exact ⟨g1, g2, g3⟩
            · exact hall.out j y (by omega) hy
          have hbad : Hid (¬ (x.fitB n = true ∧ ¬ (i + 1 < n ∧ x.op = 4) ∧ 0 ≤ alongN code (n + 1) (i : Int)) → ¬ P) := fun h3 h4 => h3 ((hboth'.out.2 h4).2.2 i x hx)
          clear hx
          obtain ⟨r, hr⟩ : ∃ r, alongN code (n + 1) (i : Int) = r := ⟨_, rfl⟩
          rw [hr] at hgood hbad
          have HA : Hid (∀ W : World, Below w.heap.size w W → Calls Try.prog 40 #[.slice (some ⟨b0, o0, none⟩) n c, .int .i64 (i : Int)] W fun e w' => e = .returned (.int .i64 r) ∧ Below W.heap.size W w') := fun W hW => by
            have h := HL.out (i : Int) W hW
            rw [hr] at h
            exact h
          clear hr
          have d0 := c0
          cases hf : x.fitB n
          · rw [hf] at hc2 hbad
            go_wp2_with (go_at_call 39; refine hc2.mono ?_; rintro e w5 ⟨rfl, hb5⟩)
            go_returns
            exact ⟨retNo (hbad.out (by simp)), hB.trans (hb5.mono hB.size)⟩
          · rw [hf] at hc2 hbad
            replace hgood := hgood.out hf
            clear hf
            by_cases hb : i + 1 < n ∧ x.op = 4
            · have hno : Hid (¬ P) := hbad.out (fun h => h.2.1 hb)
              have f1 : i < n1 := by have := hn1'.out; omega
              have f2 : (x.op == 4) = true := by simp [hb.2]
              clear hb
              go_wp2_with (go_at_call 39; refine hc2.mono ?_; rintro e w5 ⟨rfl, hb5⟩; (have k1 := below_cell hb5 d0 (by have := hok b0 hok0; dsimp only; omega)))
              go_returns
              exact ⟨retNo hno.out, hB.trans (hb5.mono hB.size)⟩
            · replace hgood := hgood hb
              have hbad2 : Hid (¬ 0 ≤ r → ¬ P) := fun h => hbad.out (fun h2 => h h2.2.2)
              clear hbad
              by_cases hin : i + 1 < n
              · have hx4 : ¬ x.op = 4 := fun h => hb ⟨hin, h⟩
                have f1 : i < n1 := by have := hn1'.out; omega
                have f2 : (x.op == 4) = false := by simp [hx4]
                clear hb hin hx4
                by_cases hr0 : r < 0
                · have hno : Hid (¬ P) := hbad2.out (by omega)
                  clear hgood hbad2
                  go_wp2_with (first | (go_at_call 39; refine hc2.mono ?_; rintro e w5 ⟨rfl, hb5⟩; (have k1 := below_cell hb5 d0 (by have := hok b0 hok0; dsimp only; omega))) | (go_at_call 40; refine (HA.out _ (hB.trans (hb5.mono hB.size))).mono ?_; rintro e w6 ⟨rfl, hb6⟩))
                  go_returns
                  exact ⟨retNo hno.out, (hB.trans (hb5.mono hB.size)).trans (hb6.mono (by have := hb5.size; omega))⟩
                · have hgg : Hid (∀ (j : Nat) (y : IX), j < i + 1 → code[j]? = some y → y.fitB n = true ∧ ¬ (j + 1 < n ∧ y.op = 4) ∧ 0 ≤ alongN code (n + 1) (j : Int)) := hgood (by omega)
                  clear hgood hbad2
                  go_wp2_with (first | (go_at_call 39; refine hc2.mono ?_; rintro e w5 ⟨rfl, hb5⟩; (have k1 := below_cell hb5 d0 (by have := hok b0 hok0; dsimp only; omega))) | (go_at_call 40; refine (HA.out _ (hB.trans (hb5.mono hB.size))).mono ?_; rintro e w6 ⟨rfl, hb6⟩))
                  go_roundw
                  case rel => exact ⟨i + 1, by go_num, by omega, hgg, (hB.trans (hb5.mono hB.size)).trans (hb6.mono (by have := hb5.size; omega))⟩
                  case measure => simp [intOf]; omega
              · have f1 : ¬ i < n1 := by have := hn1'.out; omega
                clear hb hin
                by_cases hr0 : r < 0
                · have hno : Hid (¬ P) := hbad2.out (by omega)
                  clear hgood hbad2
                  go_wp2_with (first | (go_at_call 39; refine hc2.mono ?_; rintro e w5 ⟨rfl, hb5⟩; (have k1 := below_cell hb5 d0 (by have := hok b0 hok0; dsimp only; omega))) | (go_at_call 40; refine (HA.out _ (hB.trans (hb5.mono hB.size))).mono ?_; rintro e w6 ⟨rfl, hb6⟩))
                  go_returns
                  exact ⟨retNo hno.out, (hB.trans (hb5.mono hB.size)).trans (hb6.mono (by have := hb5.size; omega))⟩
                · have hgg : Hid (∀ (j : Nat) (y : IX), j < i + 1 → code[j]? = some y → y.fitB n = true ∧ ¬ (j + 1 < n ∧ y.op = 4) ∧ 0 ≤ alongN code (n + 1) (j : Int)) := hgood (by omega)
                  clear hgood hbad2
                  go_wp2_with (first | (go_at_call 39; refine hc2.mono ?_; rintro e w5 ⟨rfl, hb5⟩; (have k1 := below_cell hb5 d0 (by have := hok b0 hok0; dsimp only; omega))) | (go_at_call 40; refine (HA.out _ (hB.trans (hb5.mono hB.size))).mono ?_; rintro e w6 ⟨rfl, hb6⟩))
                  go_roundw
                  case rel => exact ⟨i + 1, by go_num, by omega, hgg, (hB.trans (hb5.mono hB.size)).trans (hb6.mono (by have := hb5.size; omega))⟩
                  case measure => simp [intOf]; omega
        · have hyes : Hid P := hboth'.out.1 ⟨by omega, hz4'.out, fun j x hx => hall.out j x (by have := hlt'.out j x hx; omega) hx⟩
          go_wp2
          all_goals first | (exfalso; omega) | skip
          go_returns
          exact ⟨retYes hyes.out, hB⟩
    · have hno : Hid (¬ P) := fun h => hz4 ((hboth'.out.2 h).2.1 z (by rw [hn1'.out]; exact hz1))
      have f4 : (z.op != 4) = true := by simp [hz4]
      have hn1lt : n1 < n := by have := hn1'.out; omega
      clear hz4 hz1
      go_enter Try.func16, Try.ntmps16
      go_wp2
      all_goals first | (exfalso; omega) | skip
      go_returns
      exact ⟨retNo hno.out, Below.refl _ _⟩
set_option maxRecDepth 10000 in
set_option maxHeartbeats 2000000 in
theorem specFlatAt (code : List IX) (a : Option Addr) (c : Nat) (p : Int) (ok : Nat → Prop) (w : World) (hok : ∀ b, ok b → b < w.heap.size) (hR : IX.Row ok w a code) (hlen : code.length ≤ 1048576)
    (hm : ∀ (i : Nat) (x : IX), code[i]? = some x → SmallS x.s ∧ LiesS ok w x.s) :
    Calls Try.prog 19 #[.slice a code.length c, .int .i64 p] w fun e w' => RetAt code code.length p e ∧ Below w.heap.size w w' := by
  have HF := specFlatOk code a c ok w hok hR hlen hm
  have HL : Hid (∀ W : World, Below w.heap.size w W → Calls Try.prog 40 #[.slice a code.length c, .int .i64 p] W fun e w' => e = .returned (.int .i64 (alongN code (code.length + 1) p)) ∧ Below W.heap.size W w') := fun W hW =>
    specAlong code a c p ok W (fun b hb => Nat.lt_of_lt_of_le (hok b hb) hW.size) (hR.under hW hok) hlen
  have hend : Hid (OKn code code.length → RetAt code code.length p (.returned (.int .i64 (alongN code (code.length + 1) p)))) := fun h => by
    by_cases hp : p < 0 ∨ (code.length : Int) ≤ p
    · rw [along_out _ hp]
      exact atNone (.inr hp)
    · obtain ⟨k, rfl⟩ : ∃ k : Nat, p = k := ⟨p.toNat, by omega⟩
      have hk : k < code.length := by omega
      obtain ⟨m, hg⟩ := h.2.2 k hk
      have hlast : isJ code (code.length - 1) = false := by
        obtain ⟨x, hx⟩ : ∃ x, code[code.length - 1]? = some x := ⟨_, List.getElem?_eq_getElem (by omega)⟩
        have h4 := (h.2.1 _ x hx).2.2 (by omega)
        simp [isJ, hx, h4]
      rw [along_go code h.range _ k hk, goJ_same code _ rfl (by omega) hlast, hg]
      exact atSome h hk hg
  clear hm hR hok
  obtain ⟨n, hn⟩ : ∃ n, code.length = n := ⟨_, rfl⟩
  rw [hn] at hlen HF HL hend ⊢
  clear hn
  obtain ⟨r, hr⟩ : ∃ r, alongN code (n + 1) p = r := ⟨_, rfl⟩
  rw [hr] at HL hend
  clear hr
  go_enter Try.func19, Try.ntmps19
  go_wp2_with fail
  go_at_call 16
  refine HF.mono ?_
  clear HF
  rintro e w2 ⟨⟨b, rfl, hb⟩, hb2⟩
  cases b
  · have hno : Hid (¬ OKn code n) := fun h => by have := hb.2 h; simp at this
    clear hb
    go_wp2
    go_returns
    exact ⟨atNone (.inl hno.out), hb2⟩
  · have hyes : Hid (OKn code n) := hb.1 rfl
    have hc2 := HL.out w2 hb2
    clear hb HL
    go_wp2_with fail
    go_at_call 40
    refine hc2.mono ?_
    clear hc2
    rintro e w3 ⟨rfl, hb3⟩
    go_wp2
    go_returns
    exact ⟨hend.out hyes.out, hb2.trans (hb3.mono hb2.size)⟩
end Go.Proofs.Ytimfdfeleoaehaa
namespace Go.Proofs.Ytimfdfeleoaehaa
open Go.RowKit Go.Shelf
set_option linter.unusedSimpArgs false
set_option linter.unusedVariables false

def SameI (xs us : List IX) : Prop := us.length = xs.length ∧ ∀ (i : Nat) (x y : IX), xs[i]? = some x → us[i]? = some y → IX.Same x y
theorem IX.fitB_same {x y : IX} (h : IX.Same x y) (hm : SmallS x.s) (n : Int) : y.fitB n = x.fitB n := by
  obtain ⟨h1, h2, h3⟩ := h
  obtain ⟨k1, k2, k3, k4, k5, k6, -, -⟩ := h2.parts
  unfold IX.fitB SX.noneS SX.noL
  rw [h1, h3, Go.Proofs.Ytimfdfeleoaehaa.fitB_same h2 hm, k1, k2, k5, k6, none_same k3, none_same k4]
theorem SameI.get {xs us : List IX} (h : SameI xs us) (k : Nat) : (xs[k]? = none ∧ us[k]? = none) ∨ ∃ x y, xs[k]? = some x ∧ us[k]? = some y ∧ IX.Same x y := by
  by_cases hk : k < xs.length
  · have h1 : xs[k]? = some xs[k] := List.getElem?_eq_getElem hk
    have h2 : us[k]? = some (us[k]'(by rw [h.1]; exact hk)) := List.getElem?_eq_getElem _
    exact .inr ⟨_, _, h1, h2, h.2 k _ _ h1 h2⟩
  · have h0 := h.1
    exact .inl ⟨List.getElem?_eq_none (by omega), List.getElem?_eq_none (by omega)⟩
theorem goJ_alike {xs us : List IX} (h : SameI xs us) : ∀ (f k : Nat), goJ us f k = goJ xs f k
  | 0, k => rfl
  | f + 1, k => by
    rw [goJ, goJ, goJ_alike h f]
    rcases h.get k with ⟨h1, h2⟩ | ⟨x, y, h1, h2, h3⟩
    · have e1 : isJ us k = isJ xs k := by simp [isJ, h1, h2]
      have e2 : nxt us k = nxt xs k := by simp [nxt, h1, h2]
      rw [e1, e2]
    · have e1 : isJ us k = isJ xs k := by simp [isJ, h1, h2, h3.op]
      have e2 : nxt us k = nxt xs k := by simp [nxt, h1, h2, h3.dst]
      rw [e1, e2]
theorem okn_alike {xs us : List IX} (h : SameI xs us) (hm : ∀ (i : Nat) (x : IX), xs[i]? = some x → SmallS x.s) (n : Nat) : OKn us n ↔ OKn xs n := by
  unfold OKn
  constructor
  · rintro ⟨h1, h2, h3⟩
    refine ⟨h1, fun i x hx => ?_, fun i hi => ?_⟩
    · rcases h.get i with ⟨k1, -⟩ | ⟨x', y, k1, k2, k3⟩
      · rw [hx] at k1; cases k1
      · rw [hx] at k1
        cases k1
        obtain ⟨q1, q2⟩ := h2 i y k2
        rw [IX.fitB_same k3 (hm i x hx)] at q1
        rw [k3.op] at q2
        exact ⟨q1, q2⟩
    · obtain ⟨m, hg⟩ := h3 i hi
      exact ⟨m, by rw [← goJ_alike h]; exact hg⟩
  · rintro ⟨h1, h2, h3⟩
    refine ⟨h1, fun i y hy => ?_, fun i hi => ?_⟩
    · rcases h.get i with ⟨-, k1⟩ | ⟨x, y', k1, k2, k3⟩
      · rw [hy] at k1; cases k1
      · rw [hy] at k2
        cases k2
        obtain ⟨q1, q2⟩ := h2 i x k1
        rw [IX.fitB_same k3 (hm i x k1), k3.op]
        exact ⟨q1, q2⟩
    · obtain ⟨m, hg⟩ := h3 i hi
      exact ⟨m, by rw [goJ_alike h]; exact hg⟩
theorem retAt_alike {xs us : List IX} (h : SameI xs us) (hm : ∀ (i : Nat) (x : IX), xs[i]? = some x → SmallS x.s) (n : Nat) (p : Int) (e : Ending) (hr : RetAt us n p e) : RetAt xs n p e := by
  obtain ⟨r, rfl, hr⟩ := hr
  refine ⟨r, rfl, ?_⟩
  rw [okn_alike h hm] at hr
  simpa only [goJ_alike h] using hr
theorem RetAt.one {xs : List IX} {n : Nat} {p r r' : Int} (h : RetAt xs n p (.returned (.int .i64 r))) (h' : RetAt xs n p (.returned (.int .i64 r'))) : r = r' := by
  obtain ⟨q, e, hq⟩ := h
  obtain ⟨q', e', hq'⟩ := h'
  cases e
  cases e'
  rcases hq with ⟨k1, k, m, rfl, k2, k3, rfl⟩ | ⟨k1, rfl⟩
  · rcases hq' with ⟨-, k', m', e, -, k4, rfl⟩ | ⟨k4, -⟩
    · have : k = k' := by omega
      subst this
      rw [k3] at k4
      cases k4
      rfl
    · rcases k4 with k4 | k4 | k4
      · exact absurd k1 k4
      · omega
      · omega
  · rcases hq' with ⟨k4, k', m', e, k5, k6, -⟩ | ⟨-, rfl⟩
    · rcases k1 with k1 | k1 | k1
      · exact absurd k4 k1
      · omega
      · omega
    · rfl
theorem copiedI {ks : List IX} {a : Option Addr} {c : Nat} {w : World} (hT : ks.length + sumI ks ≤ 1048576) (hR : IX.Row (fun b => b < w.heap.size) w a ks) (hL : ∀ (i : Nat) (k : IX), ks[i]? = some k → LiesS (fun b => b < w.heap.size) w k.s) (W : World) (hW : Below w.heap.size w W) :
    Calls Try.prog 17 #[.slice a ks.length c] W fun e w' => ∃ us : List IX, e = .returned (.slice (some ⟨W.heap.size, 0, none⟩) us.length us.length) ∧ SameI ks us ∧ IX.Row (fun b => b < w'.heap.size) w' (some ⟨W.heap.size, 0, none⟩) us ∧ (∀ (i : Nat) (k : IX), us[i]? = some k → SmallS k.s ∧ LiesS (fun b => b < w'.heap.size) w' k.s) ∧ us.length ≤ 1048576 ∧ Below W.heap.size W w' := by
  have hz := hW.size
  have hsm : ∀ (i : Nat) (k : IX), ks[i]? = some k → SmallS k.s := fun i k hk => SX.small _ k.s (Nat.le_refl _) (by have := sumI_get hk; omega)
  refine (IX.tos ks a c (fun b => b < w.heap.size) W (fun b hb => by omega) (hR.under hW (fun b hb => hb)) (by omega) (fun i k hk => ⟨hsm i k hk, (hL i k hk).under hW (fun b hb => hb)⟩)).mono ?_
  rintro e w' ⟨us, rfl, h1, h2, h3, h4⟩
  have hlt := h3.lt
  have hg : ∀ (i : Nat) (y : IX), us[i]? = some y → ∃ x, ks[i]? = some x := fun i y hy => ⟨_, List.getElem?_eq_getElem (by have := (List.getElem?_eq_some_iff.1 hy).1; omega)⟩
  refine ⟨us, by rw [h1], ⟨h1, fun i x y hx hy => (h2 i x y hx hy).1⟩, fun i y hy => ?_, fun i y hy => ?_, by omega, h4⟩
  · obtain ⟨x, hx⟩ := hg i y hy
    exact ⟨_, 0, rfl, hlt, (h2 i x y hx hy).2.1⟩
  · obtain ⟨x, hx⟩ := hg i y hy
    obtain ⟨k1, -, k3⟩ := h2 i x y hx hy
    have ht := (SameS.spec _ x.s (Nat.le_refl _) (hsm i x hx) y.s k1.s).1
    exact ⟨SX.small _ y.s (Nat.le_refl _) (by have := sumI_get hx; omega), k3.bound⟩
theorem SameI.join {xs us vs : List IX} (h : SameI xs us) (k : SameI xs vs) : SameI us vs := by
  refine ⟨by rw [k.1, h.1], fun i x y hx hy => ?_⟩
  rcases h.get i with ⟨-, k1⟩ | ⟨z, x', k1, k2, k3⟩
  · rw [hx] at k1; cases k1
  · rw [hx] at k2
    cases k2
    have q := k.2 i z y k1 hy
    exact ⟨by rw [q.op, k3.op], k3.s.join _ _ (Nat.le_refl _) _ _ q.s, by rw [q.dst, k3.dst]⟩
theorem equalI {xs ys : List IX} {a a' : Option Addr} {c c' : Nat} {w : World} (hR : IX.Row (fun b => b < w.heap.size) w a xs) (hR' : IX.Row (fun b => b < w.heap.size) w a' ys) (hlen : xs.length ≤ 1048576)
    (hL : ∀ (i : Nat) (k : IX), xs[i]? = some k → SmallS k.s ∧ LiesS (fun b => b < w.heap.size) w k.s) (hL' : ∀ (i : Nat) (k : IX), ys[i]? = some k → SmallS k.s ∧ LiesS (fun b => b < w.heap.size) w k.s) (hS : SameI xs ys) :
    Calls Try.prog 10 #[.slice a xs.length c, .slice a' ys.length c'] w fun e w' => e = .returned (.bool true) ∧ Below w.heap.size w w' :=
  IX.eqs xs ys a a' c c' (fun b => b < w.heap.size) w (fun b hb => hb) hR hR' (by omega) hS.1 hL (fun i k hk => (hL' i k hk).2) hS.2
/-- code that lies in memory -/
structure InMem (w : World) (a : Option Addr) (xs : List IX) : Prop where
  row : IX.Row (fun b => b < w.heap.size) w a xs
  kid : ∀ (i : Nat) (k : IX), xs[i]? = some k → SmallS k.s ∧ LiesS (fun b => b < w.heap.size) w k.s
theorem InMem.on {A B : World} {a : Option Addr} {xs : List IX} (h : InMem A a xs) (hb : Below A.heap.size A B) : InMem B a xs :=
  ⟨h.row.mono (fun b hb2 h3 => ⟨Nat.lt_of_lt_of_le h3 hb.size, hb.block b h3⟩), fun i k hk => ⟨(h.kid i k hk).1, (h.kid i k hk).2.mono (fun b hb2 h3 => ⟨Nat.lt_of_lt_of_le h3 hb.size, hb.block b h3⟩)⟩⟩
end Go.Proofs.Ytimfdfeleoaehaa
