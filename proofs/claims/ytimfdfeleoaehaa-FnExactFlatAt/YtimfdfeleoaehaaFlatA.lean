/-
  Where one comes from each place of code, going along jumps, as the program lists it.
-/
import Derived.Test.YtimfdfeleoaehaaInstA
import Derived.Deep.AppendLies
import Derived.Deep.LoopGhost
import Derived.Test.YtimfdfeleoaehaaTextB
namespace Go.Proofs.Ytimfdfeleoaehaa
open Go.RowKit Go.Shelf
set_option linter.unusedSimpArgs false
set_option linter.unusedVariables false

theorem goJ_stay {code : List IX} {k : Nat} {x : IX} (f : Nat) (hx : code[k]? = some x) (hn : ¬ x.op = 3) : goJ code (f + 1) k = some k := by
  have h2 : isJ code k = false := by simp [isJ, hx, hn]
  rw [goJ, h2]
  rfl
theorem goJ_step {code : List IX} {k : Nat} {x : IX} (f : Nat) (hx : code[k]? = some x) (hj : x.op = 3) : goJ code (f + 1) k = goJ code f x.dst.toNat := by
  have h2 : isJ code k = true := by simp [isJ, hx, hj]
  have h3 : nxt code k = x.dst.toNat := by simp [nxt, hx]
  rw [goJ, if_pos h2, h3]
def ints (l : List Int) : List Value := l.map (fun z => .int .i64 z)
theorem ints_snoc (l : List Int) (z : Int) : ints (l ++ [z]) = ints l ++ [.int .i64 z] := by simp [ints]
theorem infoN3 : (Try.prog.info? 3).map (fun i => (i.zero, i.size, i.bytes)) = some (some (.int .i64 0), 1, 8) := by kernel_rfl
theorem ints_cell {w : World} {base : Nat} {v : Value} {l : List Int} (h : w.ownsRow base 3 1 v l.length (ints l)) :
    ∃ a c, v = .slice a l.length c ∧ (∀ (i : Nat) (x : Int), l[i]? = some x → ∃ b, a = some ⟨b, 0, none⟩ ∧ w.cell? ⟨b, i, none⟩ = some (.int .i64 x)) := by
  rcases h.2 with ⟨rfl, h0⟩ | ⟨g, cap, cur, rfl, hb, hg, h3⟩
  · refine ⟨none, 0, by rw [h0], fun i x hx => ?_⟩
    have := (List.getElem?_eq_some_iff.1 hx).1
    omega
  · refine ⟨_, cap, rfl, fun i x hx => ⟨g, rfl, ?_⟩⟩
    have hi := (List.getElem?_eq_some_iff.1 hx).1
    rw [h.cellAt i (by omega)]
    simp [ints, hx]
def Landed (code : List IX) (v : Value) (base : Nat) (w : World) : Prop :=
  (v = .slice none 0 0 ∧ ∃ i, i < code.length ∧ goJ code code.length i = none) ∨
  (∃ l : List Int, l.length = code.length ∧ (∀ i, i < code.length → ∃ m : Nat, goJ code code.length i = some m ∧ l[i]? = some (m : Int)) ∧ w.ownsRow base 3 1 v l.length (ints l))
set_option maxRecDepth 10000 in
set_option maxHeartbeats 2000000 in
theorem implLandings (code : List IX) (a : Option Addr) (c : Nat) (ok : Nat → Prop) (w : World) (hok : ∀ b, ok b → b < w.heap.size) (hR : IX.Row ok w a code) (hlen : code.length ≤ 1048576)
    (hr : ∀ (i : Nat) (x : IX), code[i]? = some x → x.op = 3 → 0 ≤ x.dst ∧ x.dst < (code.length : Int)) :
    Calls Try.prog 43 #[.slice a code.length c] w fun e w' => ∃ v, e = .returned v ∧ Landed code v w.heap.size w' ∧ Below w.heap.size w w' := by
  obtain ⟨i0, hi0, hz0, hz1, hz2⟩ := info_parts infoN3
  obtain ⟨n, hn⟩ : ∃ n, code.length = n := ⟨_, rfl⟩
  have hq : Hid (∀ v w', Landed code v w.heap.size w' ↔ ((v = .slice none 0 0 ∧ ∃ i, i < n ∧ goJ code n i = none) ∨ (∃ l : List Int, l.length = n ∧ (∀ i, i < n → ∃ m : Nat, goJ code n i = some m ∧ l[i]? = some (m : Int)) ∧ w'.ownsRow w.heap.size 3 1 v l.length (ints l)))) := fun v w' => by
    unfold Landed
    rw [hn]
  rw [hn] at hlen hr ⊢
  have hr' : Hid (∀ (i : Nat) (x : IX), code[i]? = some x → x.op = 3 → 0 ≤ x.dst ∧ x.dst < (n : Int)) := hr
  have hget : Hid (∀ k, k < n → ∃ x, code[k]? = some x) := fun k hk => ⟨_, List.getElem?_eq_getElem (by omega)⟩
  clear hr hn
  go_enter Try.func43, Try.ntmps43
  go_wp2
  go_step3
  go_wp2
  go_step3
  go_wp2
  go_loopg [3, 8] n (fun gg v3 v8 wr => ∃ (i : Nat) (l : List Int), i + gg = n ∧ v8 = .int .i64 i ∧ Hid (l.length = i) ∧ wr.ownsRow w.heap.size 3 1 v3 l.length (ints l) ∧ Hid (∀ j, j < i → ∃ m : Nat, goJ code n j = some m ∧ l[j]? = some (m : Int)) ∧ Below w.heap.size w wr)
  case atStart => exact ⟨0, [], by omega, rfl, rfl, ⟨by simp [ints], .inl ⟨rfl, rfl⟩⟩, fun j hj => absurd hj (by omega), Below.refl _ _⟩
  case round =>
    rename World => wo
    obtain ⟨i, l, hig, rfl, hl, hown, hall, hB⟩ := hrel
    have hz := hB.size
    cases gk with
    | zero =>
      have hlt : ¬ (i : Int) < (n : Int) := by omega
      go_wp2
      (try rw [Exit.noGoto_ret])
      go_ret
      exact ⟨_, rfl, (hq.out _ _).2 (.inr ⟨l, by have := hl.out; omega, fun j hj => hall.out j (by omega), hown⟩), hB⟩
    | succ g =>
      have hlt : (i : Int) < (n : Int) := by omega
      have hll : l.length ≤ 1048576 := by have := hl.out; omega
      go_wp2
      obtain ⟨vv, hvv⟩ : ∃ vv, u3 = vv := ⟨_, rfl⟩
      rw [hvv] at hown
      go_loopg [3, 5, 14] n (fun g2 v3 v5 v14 wy => ∃ (q k : Nat), k + g2 = n ∧ v5 = .int .i64 q ∧ v14 = .int .i64 k ∧ q < n ∧ Hid (goJ code g2 q = goJ code n i) ∧ wo = wy ∧ v3 = vv)
      case atStart => exact ⟨i, 0, by omega, rfl, rfl, by omega, rfl, rfl, by first | exact hvv | rfl⟩
      case round =>
        clear hvv
        obtain ⟨q, k, hkg, rfl, rfl, hq2, hg, rfl, rfl⟩ := hrel
        cases gk with
        | zero =>
          have hk2 : ¬ (k : Int) < (n : Int) := by omega
          go_wp2
          (try rw [Exit.noGoto_ret])
          go_ret
          exact ⟨_, rfl, (hq.out _ _).2 (.inl ⟨rfl, i, by omega, by rw [← hg.out]; rfl⟩), hB⟩
        | succ g2 =>
          have hk2 : (k : Int) < (n : Int) := by omega
          obtain ⟨x, hx⟩ := hget.out q hq2
          obtain ⟨b1, o1, hbase1, hok1, hc1⟩ := hR q x hx
          have hd := hc1.below hB (hok b1 hok1)
          have d0 := hd.c0
          have d13 := hd.c13
          clear hd hc1
          subst hbase1
          by_cases hj : x.op = 3
          · obtain ⟨r1, r2⟩ := hr'.out q x hx hj
            have hst : Hid (goJ code g2 x.dst.toNat = goJ code n i) := (goJ_step g2 hx hj).symm.trans hg.out
            obtain ⟨d, hd⟩ : ∃ d : Nat, x.dst = d := ⟨x.dst.toNat, by omega⟩
            rw [hd] at d13 hst r2
            rw [hj] at d0
            clear hj hd hx
            go_wp2
            go_roundg g2
            case measure => omega
            case rel => exact ⟨d, k + 1, by omega, rfl, by go_num, by omega, hst, rfl, rfl⟩
          · have hst : goJ code n i = some q := hg.out.symm.trans (goJ_stay g2 hx hj)
            have hlq : Hid (∀ j, j < i + 1 → ∃ m : Nat, goJ code n j = some m ∧ (l ++ [(q : Int)])[j]? = some (m : Int)) := fun j hj2 => by
              by_cases e : j = i
              · subst e
                exact ⟨q, hst, by rw [← hl.out]; simp⟩
              · obtain ⟨m, h1, h2⟩ := hall.out j (by omega)
                exact ⟨m, h1, by rw [List.getElem?_append_left (by have := (List.getElem?_eq_some_iff.1 h2).1; omega)]; exact h2⟩
            have hsnoc : Hid (ints (l ++ [(q : Int)]) = ints l ++ [.int .i64 q]) := ints_snoc l q
            clear hst
            have hzo : w.heap.size ≤ wo.heap.size := hz
            go_wp2_with (at_builtin; go_loud (refine wpList_append_own _ rfl _ _ 79 rfl w.heap.size 3 i0 _ 1 8 Try.underlying79 hi0 hz0 hz1 hz2 rfl (by decide) _ l.length (ints l) rfl (hown.alloc _) ⟨wo.heap.size, 0, none⟩ 1 1 [.int .i64 q] rfl rfl (cell_one_new _ _ _) (by simp [Value.oneCell']) (by unfold maxLen; omega) (by omega) (by rw [World.size_alloc]; omega) ?_); intro v' w1 hown' hgrow hnn; (have hB1 : Below w.heap.size w w1 := (balloc hB _).grown hgrow (by rw [World.size_alloc]; omega) (fun q' hq' => (hown.lt q' hq').1)); clear hgrow hnn)
            go_roundg g
            case measure => omega
            case rel => exact ⟨i + 1, l ++ [(q : Int)], by omega, by go_num, by show (l ++ [(q : Int)]).length = i + 1; rw [List.length_append, hl.out]; rfl, by rw [hsnoc.out, List.length_append]; exact hown', hlq, hB1⟩
end Go.Proofs.Ytimfdfeleoaehaa
