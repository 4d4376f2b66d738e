/-
  What the program and the specification answer of whether a variable may be touched by who holds locks, at every program of at most 1048576 names and the like: one contract a function.
-/
import Derived.Test.YthkmibibedehhaaScopeB
namespace Go.Proofs.Ythkmibibedehhaa
open Go.RowKit Go.Shelf Go.Maps
set_option linter.unusedSimpArgs false
set_option linter.unusedVariables false
attribute [local go_sem] Oper.semAt_some

def hasN (l : List ByteArray) (s : ByteArray) : Bool := (findOf l s).isSome
theorem hasN_hit {l : List ByteArray} {i : Nat} {x s : ByteArray} (h : l[i]? = some x) (hn : findOf (l.take i) s = none) (hx : isIt s x = true) : hasN l s = true := by
  unfold hasN
  rw [find_hit h hn hx]
  rfl
theorem hasN_none {l : List ByteArray} {i : Nat} {s : ByteArray} (hi : l.length ≤ i) (hn : findOf (l.take i) s = none) : hasN l s = false := by
  rw [List.take_of_length_le hi] at hn
  unfold hasN
  rw [hn]
  rfl
theorem hasN_first (l : List ByteArray) (s : ByteArray) : decide (0 ≤ firstOf l s) = hasN l s := by
  unfold hasN firstOf
  cases findOf l s <;> simp
def PX.bareB (p : PX) (v : Int) (ks : List ByteArray) : Bool := decide (0 ≤ v ∧ v < p.vars.length) && (match p.vars[v.toNat]? with
  | some x => x.lock.toList.isEmpty || hasN ks x.lock
  | none => false)
theorem PX.bareB_out {p : PX} {v : Int} {ks : List ByteArray} (h : ¬ (0 ≤ v ∧ v < p.vars.length)) : p.bareB v ks = false := by
  unfold PX.bareB
  rw [decide_eq_false h, Bool.false_and]
theorem PX.bareB_in {p : PX} {n : Nat} {x : VX} {ks : List ByteArray} (h : p.vars[n]? = some x) : p.bareB n ks = (x.lock.toList.isEmpty || hasN ks x.lock) := by
  have h1 := (List.getElem?_eq_some_iff.1 h).1
  unfold PX.bareB
  rw [decide_eq_true (by omega)]
  simp [h]
set_option maxHeartbeats 2000000 in
theorem indexN (ks : List ByteArray) (s : ByteArray) (a : Option Addr) (c : Nat) (ok : Nat → Prop) (w : World) (hcl : NRow ok w a ks) (hlen : ks.length ≤ 1048577) :
    Calls Try.prog 29 #[.slice a ks.length c, .string s] w fun e w' => e = .returned (.int .i64 (firstOf ks s)) ∧ w' = w := by
  obtain ⟨len, hl⟩ : ∃ len, ks.length = len := ⟨_, rfl⟩
  rw [hl] at hlen ⊢
  go_enter Try.func29, Try.ntmps29
  go_wp2
  go_loop [8] (fun v8 => ∃ i : Nat, v8 = .int .i64 i ∧ i ≤ len ∧ findOf (ks.take i) s = none) (fun v8 => len - (intOf v8).toNat)
  case atStart => exact ⟨0, rfl, by omega, by rw [List.take_zero]; rfl⟩
  case round =>
    obtain ⟨i, rfl, hi, hn⟩ := hrel
    by_cases hlt : i < len
    · obtain ⟨x, hx⟩ : ∃ x, ks[i]? = some x := ⟨_, List.getElem?_eq_getElem (by omega)⟩
      obtain ⟨b1, o1, hbase1, hok1, hc1⟩ := hcl i x hx
      subst hbase1
      cases he : isIt s x
      · have he' : (s.toList == x.toList) = false := (BEq.comm).trans he
        go_wp2
        go_round
        case rel => exact ⟨i + 1, by go_num, by omega, find_step hx hn he⟩
        case measure => simp [intOf]; omega
      · have he' : (s.toList == x.toList) = true := (BEq.comm).trans he
        go_wp2
        go_returns
        exact ⟨ret_int (first_hit hx hn he).symm, rfl⟩
    · go_wp2
      go_returns
      exact ⟨ret_int (first_none (by omega) hn).symm, rfl⟩
set_option maxHeartbeats 2000000 in
theorem containsN (ks : List ByteArray) (s : ByteArray) (a : Option Addr) (c : Nat) (ok : Nat → Prop) (w : World) (hcl : NRow ok w a ks) (hlen : ks.length ≤ 1048577) :
    Calls Try.prog 19 #[.slice a ks.length c, .string s] w fun e w' => e = .returned (.bool (hasN ks s)) ∧ w' = w := by
  have H := indexN ks s a c ok w hcl hlen
  clear hcl
  rw [← hasN_first]
  go_enter Try.func19, Try.ntmps19
  go_wp2_with (go_at_call 29; refine H.mono ?_; rintro e w5 ⟨rfl, hw⟩; subst w5)
  go_returns
  exact ⟨ret_bool (by simp), rfl⟩
set_option maxHeartbeats 2000000 in
theorem l5InN (ks : List ByteArray) (s : ByteArray) (a : Option Addr) (c : Nat) (ok : Nat → Prop) (w : World) (hcl : NRow ok w a ks) (hlen : ks.length ≤ 1048577) :
    Calls Try.prog 15 #[.slice a ks.length c, .string s] w fun e w' => e = .returned (.bool (hasN ks s)) ∧ w' = w := by
  obtain ⟨len, hl⟩ : ∃ len, ks.length = len := ⟨_, rfl⟩
  rw [hl] at hlen ⊢
  go_enter Try.func15, Try.ntmps15
  go_wp2
  go_loop [5] (fun v8 => ∃ i : Nat, v8 = .int .i64 i ∧ i ≤ len ∧ findOf (ks.take i) s = none) (fun v8 => len - (intOf v8).toNat)
  case atStart => exact ⟨0, rfl, by omega, by rw [List.take_zero]; rfl⟩
  case round =>
    obtain ⟨i, rfl, hi, hn⟩ := hrel
    by_cases hlt : i < len
    · obtain ⟨x, hx⟩ : ∃ x, ks[i]? = some x := ⟨_, List.getElem?_eq_getElem (by omega)⟩
      obtain ⟨b1, o1, hbase1, hok1, hc1⟩ := hcl i x hx
      subst hbase1
      cases he : isIt s x
      · have he' : (x.toList == s.toList) = false := he
        go_wp2
        go_round
        case rel => exact ⟨i + 1, by go_num, by omega, find_step hx hn he⟩
        case measure => simp [intOf]; omega
      · have he' : (x.toList == s.toList) = true := he
        go_wp2
        go_returns
        exact ⟨ret_bool (hasN_hit hx hn he).symm, rfl⟩
    · go_wp2
      go_returns
      exact ⟨ret_bool (hasN_none (by omega) hn).symm, rfl⟩
set_option maxHeartbeats 2000000 in
theorem PX.implBare (p : PX) (v : Int) (ks : List ByteArray) (a : Option Addr) (c : Nat) (ok : Nat → Prop) (w : World) (hok : ∀ b, ok b → b < w.heap.size) (hm : p.vars.length ≤ 1048577) (hR : VX.Row ok w p.vbase p.vars) (hcl : NRow ok w a ks) (hlen : ks.length ≤ 1048577) :
    Calls Try.prog 9 #[p.val, .int .i64 v, .slice a ks.length c] w fun e w' => e = .returned (.bool (p.bareB v ks)) ∧ Below w.heap.size w w' := by
  obtain ⟨W1, hW1⟩ : ∃ W1, w.alloc (.cells #[.slice p.vbase p.vars.length p.vcap, .slice p.cbase p.chans.length p.ccap, .slice p.nbase p.locks.length p.ncap, .slice p.tbase p.tasks.length p.tcap] 35) = W1 := ⟨_, rfl⟩
  have hB1 : Below w.heap.size w W1 := by rw [← hW1]; exact (Below.refl _ w).alloc (Nat.le_refl _) _
  have hA1 : PX.At W1 w.heap.size p := by rw [← hW1]; exact PX.At.new w p _
  by_cases hv : 0 ≤ v ∧ v < p.vars.length
  · obtain ⟨n, rfl⟩ : ∃ n : Nat, v = n := ⟨v.toNat, by omega⟩
    obtain ⟨x, hx⟩ : ∃ x, p.vars[n]? = some x := ⟨_, List.getElem?_eq_getElem (by omega)⟩
    rw [PX.bareB_in hx]
    obtain ⟨b, o, hb, hkb, hc⟩ := hR n x hx
    obtain ⟨c0, c1, c2, c3, c4', c5, c6⟩ := hc.below hB1 (hok b hkb)
    have H := containsN ks x.lock a c ok W1 (hcl.under hB1 hok) hlen
    obtain ⟨a0, a1, a2, a3⟩ := hA1
    obtain ⟨vb, vc, vars, cb, cc, chans, nb, nc, locks, tb, tc, tasks⟩ := p
    dsimp only at hb hm hx hv hB1 hW1 a0 a1 a2 a3 c0 c1 c2 c3 c4' c5 c6 ⊢
    subst hb
    cases hl : x.lock.toList.isEmpty
    all_goals
      go_enter Try.func9, Try.ntmps9
      go_wp2_with fail
      all_goals first | (exfalso; omega) | skip
    · go_at_call 19
      refine H.mono ?_
      rintro e w5 ⟨rfl, hw⟩
      subst w5
      go_wp2
      go_returns
      exact ⟨ret_bool (by simp_all), hB1⟩
    · go_returns
      exact ⟨ret_bool (by simp_all), hB1⟩
  · rw [PX.bareB_out hv]
    obtain ⟨a0, a1, a2, a3⟩ := hA1
    go_enter Try.func9, Try.ntmps9
    go_wp2_with fail
    all_goals first | (exfalso; omega) | skip
    all_goals (go_returns; exact ⟨rfl, hB1⟩)
set_option maxHeartbeats 2000000 in
theorem PX.specBare (p : PX) (v : Int) (ks : List ByteArray) (a : Option Addr) (c : Nat) (ok : Nat → Prop) (w : World) (hok : ∀ b, ok b → b < w.heap.size) (hm : p.vars.length ≤ 1048577) (hR : VX.Row ok w p.vbase p.vars) (hcl : NRow ok w a ks) (hlen : ks.length ≤ 1048577) :
    Calls Try.prog 6 #[p.val, .int .i64 v, .slice a ks.length c] w fun e w' => e = .returned (.bool (p.bareB v ks)) ∧ Below w.heap.size w w' := by
  obtain ⟨W1, hW1⟩ : ∃ W1, w.alloc (.cells #[.slice p.vbase p.vars.length p.vcap, .slice p.cbase p.chans.length p.ccap, .slice p.nbase p.locks.length p.ncap, .slice p.tbase p.tasks.length p.tcap] 35) = W1 := ⟨_, rfl⟩
  have hB1 : Below w.heap.size w W1 := by rw [← hW1]; exact (Below.refl _ w).alloc (Nat.le_refl _) _
  have hA1 : PX.At W1 w.heap.size p := by rw [← hW1]; exact PX.At.new w p _
  by_cases hv : 0 ≤ v ∧ v < p.vars.length
  · obtain ⟨n, rfl⟩ : ∃ n : Nat, v = n := ⟨v.toNat, by omega⟩
    obtain ⟨x, hx⟩ : ∃ x, p.vars[n]? = some x := ⟨_, List.getElem?_eq_getElem (by omega)⟩
    rw [PX.bareB_in hx]
    obtain ⟨b, o, hb, hkb, hc⟩ := hR n x hx
    obtain ⟨c0, c1, c2, c3, c4', c5, c6⟩ := hc.below hB1 (hok b hkb)
    have H := l5InN ks x.lock a c ok W1 (hcl.under hB1 hok) hlen
    obtain ⟨a0, a1, a2, a3⟩ := hA1
    obtain ⟨vb, vc, vars, cb, cc, chans, nb, nc, locks, tb, tc, tasks⟩ := p
    dsimp only at hb hm hx hv hB1 hW1 a0 a1 a2 a3 c0 c1 c2 c3 c4' c5 c6 ⊢
    subst hb
    cases hl : x.lock.toList.isEmpty
    all_goals
      go_enter Try.func6, Try.ntmps6
      go_wp2_with fail
      all_goals first | (exfalso; omega) | skip
    · go_at_call 15
      refine H.mono ?_
      rintro e w5 ⟨rfl, hw⟩
      subst w5
      go_wp2
      go_returns
      exact ⟨ret_bool (by simp_all), hB1⟩
    · go_returns
      exact ⟨ret_bool (by simp_all), hB1⟩
  · rw [PX.bareB_out hv]
    obtain ⟨a0, a1, a2, a3⟩ := hA1
    go_enter Try.func6, Try.ntmps6
    go_wp2_with fail
    all_goals first | (exfalso; omega) | skip
    all_goals (go_returns; exact ⟨rfl, hB1⟩)
end Go.Proofs.Ythkmibibedehhaa
