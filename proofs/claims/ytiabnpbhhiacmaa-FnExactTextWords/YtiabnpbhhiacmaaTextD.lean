/-
  What the law writes into an answer, and reads again: marks, a text a number.
-/
import Derived.Test.YtiabnpbhhiacmaaTextC
import Derived.Test.YtiabnpbhhiacmaaTreeS
import Derived.Laws.IdiomStrings
namespace Go.Proofs.Ytiabnpbhhiacmaa
open Go.RowKit Go.Shelf
set_option linter.unusedSimpArgs false
set_option linter.unusedVariables false

def digit (n : Nat) : ByteArray := ⟨#[UInt8.ofNat (48 + n % 10)]⟩
def digs (n : Nat) (acc : ByteArray) : ByteArray := if h : n = 0 then acc else digs (n / 10) (digit n ++ acc)
termination_by n
decreasing_by omega
def markB (k : Nat) : ByteArray := if k = 0 then ⟨#[109, 48]⟩ else ⟨#[109]⟩ ++ digs k ⟨#[]⟩

theorem digs_step (n : Nat) (x : ByteArray) (h : 0 < n) : digs n x = digs (n / 10) (digit n ++ x) := by
  rw [digs, dif_neg (by omega)]
theorem digs_none (x : ByteArray) : digs 0 x = x := by
  rw [digs, dif_pos rfl]
theorem conv_digit (n : Nat) (W : World) :
    (convert 22 9 (.slice (some ⟨W.heap.size, 0, none⟩) 1 1)).run Try.prog (W.alloc (.cells #[.int .u8 (48 + (n : Int) % 10)] 5)) = .ok (.string (digit n)) (W.alloc (.cells #[.int .u8 (48 + (n : Int) % 10)] 5)) := by
  refine (run_convert_bytes_back (W.alloc (.cells #[.int .u8 (48 + (n : Int) % 10)] 5)) 22 9 5 ⟨W.heap.size, 0, none⟩ 1 [UInt8.ofNat (48 + n % 10)] Try.underlying22 Try.underlying5 Try.underlying9 ?_).trans ?_
  · intro j hj
    have hj0 : j = 0 := by simpa using hj
    subst hj0
    have h1 : UInt8.toNat (UInt8.ofNat (48 + n % 10)) = 48 + n % 10 := by
      rw [UInt8.toNat_ofNat']
      omega
    have h2 : ([UInt8.ofNat (48 + n % 10)][0].toNat : Int) = 48 + (n : Int) % 10 := by
      show ((UInt8.ofNat (48 + n % 10)).toNat : Int) = _
      rw [h1]
      omega
    rw [h2]
    exact World.cell?_alloc_new W _ _ 0
  · rfl

set_option maxRecDepth 10000 in
set_option maxHeartbeats 1000000 in
theorem markText (k : Nat) (w : World) (hk : k ≤ 4294967296) :
    Calls Try.prog 77 #[.int .i64 k] w fun e w' => e = .returned (.string (markB k)) ∧ Below w.heap.size w w' := by
  go_enter Try.func77, Try.ntmps77
  go_wp2_with fail
  · go_returns
    refine ⟨?_, Below.refl _ _⟩
    have h0 : k = 0 := by omega
    simp [markB, h0]
  · go_loopw [0, 3] (fun v0 v3 wr => ∃ (n : Nat) (x : ByteArray), v0 = .int .i64 n ∧ v3 = .string x ∧ x.size + n ≤ k ∧ Hid (digs n x = digs k ⟨#[]⟩) ∧ Below w.heap.size w wr) (fun v0 _ _ => (intOf v0).toNat)
    case atStart => exact ⟨k, ⟨#[]⟩, rfl, rfl, by simp [ByteArray.size], rfl, Below.refl _ _⟩
    case round =>
      obtain ⟨n, x, rfl, rfl, hx, hH, hB⟩ := hrel
      have hcv := conv_digit n wr
      have hz := hB.size
      have hd : (digit n).size = 1 := rfl
      go_wp2_with fail
      all_goals try (exfalso; omega)
      · have hn : 0 < n := by assumption
        refine ⟨⟨n / 10, digit n ++ x, by go_num, rfl, ?_, ?_, balloc hB _⟩, ?_⟩
        · rw [ByteArray.size_append, hd]
          omega
        · show _ = _
          rw [← digs_step n x hn]
          exact hH.out
        · simp [intOf]
          omega
      · have hn : n = 0 := by omega
        subst hn
        have h1 := hH.out
        rw [digs_none] at h1
        go_returns
        refine ⟨?_, hB⟩
        rw [markB, if_neg (by assumption), ← h1]
        rfl
theorem own_cells {w : World} {base : Nat} {v : Value} {l : List ByteArray} (h : w.ownsRow base 9 1 v l.length (strs l)) :
    ∃ a c, v = .slice a l.length c ∧ ∀ (i : Nat) (x : ByteArray), l[i]? = some x → ∃ b, a = some ⟨b, 0, none⟩ ∧ v.ownBlock = some b ∧ base ≤ b ∧ b < w.heap.size ∧ w.cell? ⟨b, i, none⟩ = some (.string x) := by
  rcases h.2 with ⟨rfl, h0⟩ | ⟨g, cap, cur, rfl, hb, hg, h3⟩
  · refine ⟨none, 0, by rw [h0], fun i x hx => ?_⟩
    have := (List.getElem?_eq_some_iff.1 hx).1
    omega
  · refine ⟨_, cap, rfl, fun i x hx => ⟨g, rfl, rfl, hb, (Array.getElem?_eq_some_iff.1 hg).1, ?_⟩⟩
    have hi := (List.getElem?_eq_some_iff.1 hx).1
    rw [h.cellAt i (by omega)]
    simp [strs, hx]
set_option maxHeartbeats 2000000 in
theorem eqStr (l : List ByteArray) (v v' : Value) (base base' : Nat) (w : World) (ha : w.ownsRow base 9 1 v l.length (strs l)) (hb : w.ownsRow base' 9 1 v' l.length (strs l)) (hlen : l.length ≤ 1048577) :
    Calls Try.prog 34 #[v, v'] w fun e w' => e = .returned (.bool true) ∧ Below w.heap.size w w' := by
  obtain ⟨a, c, rfl, hcl⟩ := own_cells ha
  obtain ⟨a', c', rfl, hcl'⟩ := own_cells hb
  clear ha hb
  obtain ⟨len, hl⟩ : ∃ len, l.length = len := ⟨_, rfl⟩
  rw [hl] at hlen ⊢
  go_enter Try.func34, Try.ntmps34
  go_wp2
  go_loopw [5] (fun v5 wr => ∃ (i : Nat), v5 = .int .i64 i ∧ i ≤ len ∧ Below w.heap.size w wr) (fun v5 _ => len - (intOf v5).toNat)
  case atStart => exact ⟨0, rfl, by omega, Below.refl _ _⟩
  case round =>
    obtain ⟨i, rfl, hi, hB⟩ := hrel
    by_cases hlt : i < len
    · obtain ⟨x, hx⟩ : ∃ x, l[i]? = some x := ⟨_, List.getElem?_eq_getElem (by omega)⟩
      obtain ⟨b1, hbase1, -, -, hok1, hc1⟩ := hcl i x hx
      obtain ⟨b2, hbase2, -, -, hok2, hc2⟩ := hcl' i x hx
      have e0 := below_cell hB hc1 hok1
      have g0 := below_cell hB hc2 hok2
      subst hbase1
      subst hbase2
      haveI : Nonempty (Later wr) := ⟨⟨wr, Below.refl _ _⟩⟩
      have e1 := Later.cell e0
      have g1 := Later.cell g0
      go_wp2_with fail
      refine region_class (fun w' => ∃ z : Later wr, w' = z.at) (by kernel_rfl) (by kernel_rfl) ⟨⟨_, (Below.refl _ _).drew⟩, rfl⟩ ?_
      repeat (go_big_quiet_step (fail))
      refine wpQuiet_nil ?_
      rintro w' ⟨z, rfl⟩
      go_wp2
      go_roundw
      case rel => exact ⟨i + 1, by go_num, by omega, hB.trans ((Later.below z).mono hB.size)⟩
      case measure => simp [intOf]; omega
    · go_wp2
      go_returns
      exact ⟨rfl, hB⟩

def marks (k n : Nat) : List ByteArray := (List.range n).map (fun i => markB (k + i))
theorem marks_length (k n : Nat) : (marks k n).length = n := by simp [marks]
theorem marks_get {k n i : Nat} (h : i < n) : (marks k n)[i]? = some (markB (k + i)) := by simp [marks, h]

theorem marks_store {k i : Nat} {l : List ByteArray} (h : i < l.length) : (strs (marks k i ++ l.drop i)).set i (.string (markB (k + i))) = strs (marks k (i + 1) ++ l.drop (i + 1)) := by
  have h1 : l.drop i = l[i] :: l.drop (i + 1) := List.drop_eq_getElem_cons h
  have h2 : marks k (i + 1) = marks k i ++ [markB (k + i)] := by simp [marks, List.range_succ]
  rw [h1, h2, strs, List.map_append, List.map_cons, List.set_append_right _ _ (by simp [marks_length])]
  simp [marks_length, strs]

set_option maxRecDepth 10000 in
set_option maxHeartbeats 2000000 in
theorem heldStr (n k : Nat) (v : Value) (base : Nat) (w : World) (ha : w.ownsRow base 9 1 v (marks k n).length (strs (marks k n))) (hn : n ≤ 1048577) (hk : k ≤ 1048577) :
    Calls Try.prog 36 #[v, .int .i64 k] w fun e w' => e = .returned (.int .i64 ((k + n : Nat) : Int)) ∧ Below w.heap.size w w' := by
  obtain ⟨a, c, rfl, hcl⟩ := own_cells ha
  clear ha
  rw [marks_length]
  go_enter Try.func36, Try.ntmps36
  go_wp2
  go_loopw [1, 5] (fun v1 v5 wr => ∃ (i : Nat), v5 = .int .i64 i ∧ v1 = .int .i64 ((k + i : Nat) : Int) ∧ i ≤ n ∧ Below w.heap.size w wr) (fun _ v5 _ => n - (intOf v5).toNat)
  case atStart => exact ⟨0, rfl, rfl, by omega, Below.refl _ _⟩
  case round =>
    obtain ⟨i, rfl, rfl, hi, hB⟩ := hrel
    by_cases hlt : i < n
    · obtain ⟨b1, hbase1, -, -, hok1, hc1⟩ := hcl i _ (marks_get hlt)
      have e0 := below_cell hB hc1 hok1
      subst hbase1
      haveI : Nonempty (Later wr) := ⟨⟨wr, Below.refl _ _⟩⟩
      have e1 := Later.cell e0
      clear hcl hc1
      go_wp2_with fail
      refine region_class (fun w' => ∃ z : Later wr, w' = z.at) (by kernel_rfl) (by kernel_rfl) ⟨⟨_, (Below.refl _ _).drew⟩, rfl⟩ ?_
      repeat (go_big_quiet_step (first | (go_at_call 77; refine (markText (k + i) _ (by omega)).mono ?_; rintro e w2 ⟨rfl, hb⟩; exact ⟨rfl, ⟨_, bstep (Subtype.property _) hb⟩, rfl⟩)))
      refine wpQuiet_nil ?_
      rintro w' ⟨z, rfl⟩
      go_wp2
      go_roundw
      case rel => exact ⟨i + 1, by go_num, by go_num, by omega, hB.trans ((Later.below z).mono hB.size)⟩
      case measure => simp [intOf]; omega
    · have he : i = n := by omega
      subst he
      go_wp2
      go_returns
      exact ⟨rfl, hB⟩
set_option maxRecDepth 10000 in
set_option maxHeartbeats 2000000 in
theorem markStr (l : List ByteArray) (k : Nat) (v : Value) (base : Nat) (w : World) (ha : w.ownsRow base 9 1 v l.length (strs l)) (hn : l.length ≤ 1048577) (hk : k ≤ 1048577) :
    Calls Try.prog 35 #[v, .int .i64 k] w fun e w' => e = .returned (.int .i64 ((k + l.length : Nat) : Int)) ∧ w'.ownsRow base 9 1 v (marks k l.length).length (strs (marks k l.length)) ∧ Kept (fun b => v.ownBlock = some b) w w' := by
  obtain ⟨a, c, hv, -⟩ := own_cells ha
  obtain ⟨n, hl⟩ : ∃ n, l.length = n := ⟨_, rfl⟩
  have hvn : v.ownBlock = some (a.getD ⟨0, 0, none⟩).block ∨ n = 0 := by
    rcases ha.2 with ⟨-, h0⟩ | ⟨g, cap, cur, hv', -⟩
    · right; omega
    · left
      rw [hv] at hv' ⊢
      cases hv'
      rfl
  rw [hl] at ha hn hv ⊢
  subst hv
  go_enter Try.func35, Try.ntmps35
  go_wp2
  go_loopw [1, 5] (fun v1 v5 wr => ∃ (i : Nat), v5 = .int .i64 i ∧ v1 = .int .i64 ((k + i : Nat) : Int) ∧ i ≤ n ∧ wr.ownsRow base 9 1 (.slice a n c) n (strs (marks k i ++ l.drop i)) ∧ Kept (fun b => (Value.slice a n c).ownBlock = some b) w wr) (fun _ v5 _ => n - (intOf v5).toNat)
  case atStart => exact ⟨0, rfl, rfl, by omega, by simpa [marks] using ha, Kept.refl _ _⟩
  case round =>
    obtain ⟨i, rfl, rfl, hi, hown, hK⟩ := hrel
    by_cases hlt : i < n
    · obtain ⟨g, cap, hv, hbg, hgl⟩ := hown.form (by omega)
      cases hv
      have hce : wr.cell? ⟨g, i, none⟩ = (strs (marks k i ++ l.drop i))[i]? := hown.cellAt i (by omega)
      have hfz := hown.frozenAt i
      obtain ⟨u, hu⟩ : ∃ u, (strs (marks k i ++ l.drop i))[i]? = some u := ⟨_, List.getElem?_eq_getElem (by simp [strs, marks_length]; omega)⟩
      rw [hu] at hce
      go_wp2_with (go_at_call 77; refine (markText (k + i) _ (by omega)).mono ?_; rintro e w2 ⟨rfl, hb⟩; (have hown2 := own_kept (C := w2) hown (fun q hq => hb.block q (hown.lt q hq).2)); (have hce2 := below_cell hb hce hgl); (have hfz2 := hown2.frozenAt i))
      go_roundw
      case rel =>
        refine ⟨i + 1, by go_num, by go_num, by omega, ?_, (hK.trans (Kept.of_new _ hb)).setCell (p := ⟨g, i, none⟩) rfl _⟩
        have h1 := (hown2.stored i (.string (markB (k + i)))).1
        rw [marks_store (by omega)] at h1
        exact h1
      case measure => simp [intOf]; omega
    · have he : i = n := by omega
      subst he
      go_wp2
      go_returns
      refine ⟨rfl, ?_, hK⟩
      rw [← hl, List.drop_length, List.append_nil] at hown
      rw [marks_length, ← hl]
      exact hown
end Go.Proofs.Ytiabnpbhhiacmaa
