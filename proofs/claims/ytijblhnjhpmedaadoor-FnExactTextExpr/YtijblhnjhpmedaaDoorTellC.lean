/-
  What the specification writes of an expression.
-/
import Derived.Test.YtijblhnjhpmedaaDoorTellA
import Derived.Test.YtijblhnjhpmedaaDoorTreeI
import Derived.Deep.RegionHeld3
namespace Go.Proofs.YtijblhnjhpmedaaDoor
open Go.RowKit Go.Shelf
set_option linter.unusedSimpArgs false
set_option linter.unusedVariables false
attribute [local go_sem] Oper.semAt_some

def wX : List (List UInt8) := [[97, 116], [97, 100, 100], [115, 117, 98], [109, 117, 108], [100, 105, 118], [108, 101, 115, 115], [101, 113, 117, 97, 108], [97, 110, 100], [111, 114], [110, 111, 116]]
def wordX (k : Int) : List UInt8 := wX.getD (k - 3).toNat []
mutual
def XT.text : XT → List UInt8
  | .mk k n s _ _ ks => if k = 1 then Lib.itoa n else if k = 2 then s.data.toList else if k < 3 ∨ 12 < k then [110, 111, 110, 101] else wordX k ++ ((if k = 3 then 32 :: s.data.toList else []) ++ XT.textAll ks)
def XT.textAll : List XT → List UInt8
  | [] => []
  | t :: ts => 32 :: (XT.text t ++ XT.textAll ts)
end
theorem XT.text_eq (t : XT) : t.text = if t.kind = 1 then Lib.itoa t.num else if t.kind = 2 then t.name.data.toList else if t.kind < 3 ∨ 12 < t.kind then [110, 111, 110, 101] else wordX t.kind ++ ((if t.kind = 3 then 32 :: t.name.data.toList else []) ++ XT.textAll t.kids) := by cases t; rw [XT.text]; rfl
theorem XT.text_mk (k n : Int) (s : ByteArray) (a : Option Addr) (c : Nat) (ks : List XT) : (XT.mk k n s a c ks).text = if k = 1 then Lib.itoa n else if k = 2 then s.data.toList else if k < 3 ∨ 12 < k then [110, 111, 110, 101] else wordX k ++ ((if k = 3 then 32 :: s.data.toList else []) ++ XT.textAll ks) := by rw [XT.text]
theorem XT.textAll_append (us bs : List XT) : XT.textAll (us ++ bs) = XT.textAll us ++ XT.textAll bs := by
  induction us with
  | nil => simp [XT.textAll]
  | cons x xs ih => simp [XT.textAll, ih]
theorem XT.textAll_take {ks : List XT} {i : Nat} {t : XT} (h : ks[i]? = some t) : XT.textAll (ks.take (i + 1)) = XT.textAll (ks.take i) ++ 32 :: t.text := by
  rw [List.take_add_one, h, XT.textAll_append]
  simp [XT.textAll]
theorem XT.textAll_take_le (ks : List XT) (i : Nat) : (XT.textAll (ks.take i)).length ≤ (XT.textAll ks).length := by
  have h : XT.textAll ks = XT.textAll (ks.take i) ++ XT.textAll (ks.drop i) := by rw [← XT.textAll_append, List.take_append_drop]
  rw [h, List.length_append]
  omega
theorem XT.tot_get {ks : List XT} {i : Nat} {t : XT} (h : ks[i]? = some t) : t.tot ≤ XT.totAll ks := by
  have h1 := XT.totAll_take h
  have h2 := XT.totAll_le ks (i + 1)
  omega
/-- All numbers are Go's. -/
inductive Nums : XT → Prop
  | mk (t : XT) (h0 : -9223372036854775808 ≤ t.num ∧ t.num ≤ 9223372036854775807) (hk : ∀ (i : Nat) (k : XT), t.kids[i]? = some k → Nums k) : Nums t
theorem Nums.num {t : XT} (h : Nums t) : -9223372036854775808 ≤ t.num ∧ t.num ≤ 9223372036854775807 := by cases h; assumption
theorem Nums.kid {t : XT} (h : Nums t) : ∀ (i : Nat) (k : XT), t.kids[i]? = some k → Nums k := by cases h; assumption
theorem itoa_length (n : Int) (h : -9223372036854775808 ≤ n ∧ n ≤ 9223372036854775807) : (Lib.itoa n).length ≤ 21 := by
  unfold Lib.itoa
  split
  · have := Lib.nDigits_le20 n.natAbs (by omega)
    rw [List.length_cons, Lib.decDigits_length]
    omega
  · have := Lib.nDigits_le20 n.toNat (by omega)
    rw [Lib.decDigits_length]
    omega
theorem wordX_length (k : Int) : (wordX k).length ≤ 5 := by
  unfold wordX
  rcases (k - 3).toNat with _ | _ | _ | _ | _ | _ | _ | _ | _ | _ | n <;> simp [wX]
/-- A text is not much longer than what came in. -/
theorem XT.text_le (sz : Nat) : ∀ t : XT, t.size ≤ sz → Nums t → t.text.length ≤ 32 * t.size + t.tot := by
  induction sz with
  | zero => intro t h; rw [XT.size_eq] at h; omega
  | succ sz ih =>
    have hl : ∀ ks : List XT, XT.sizeAll ks ≤ sz → (∀ (i : Nat) (k : XT), ks[i]? = some k → Nums k) → (XT.textAll ks).length ≤ 32 * XT.sizeAll ks + XT.totAll ks + ks.length := by
      intro ks
      induction ks with
      | nil => intro _ _; simp [XT.textAll]
      | cons x xs ihx =>
        intro hz hn
        simp only [XT.sizeAll] at hz
        have h1 := ih x (by omega) (hn 0 x rfl)
        have h2 := ihx (by omega) (fun i k hk => hn (i + 1) k (by simpa using hk))
        have h3 := x.size_eq
        simp only [XT.textAll, XT.sizeAll, XT.totAll, List.length_cons, List.length_append]
        omega
    intro t hs hn
    have hs' := t.size_eq
    have h1 := hl t.kids (by omega) hn.kid
    have h2 := wordX_length t.kind
    have h3 := itoa_length t.num hn.num
    have h4 := t.tot_eq
    rw [XT.text_eq]
    split
    · omega
    · split
      · have hnm : t.name.data.toList.length = t.name.size := Array.length_toList
        omega
      · split
        · simp; omega
        · have hnm : t.name.data.toList.length = t.name.size := Array.length_toList
          simp only [List.length_append]
          split
          · simp only [List.length_cons]
            omega
          · simp only [List.length_nil]
            omega
theorem l3E (w : World) :
    Calls Tryd.prog 11 #[] w fun e w' => e = .returned (.slice (some ⟨w.heap.size, 0, none⟩) 10 10) ∧ Below w.heap.size w w' ∧ ∀ i x, wX[i]? = some x → w'.cell? ⟨w.heap.size, i, none⟩ = some (.string (ba x)) := by
  go_enter Tryd.func11, Tryd.ntmps11
  go_wp2
  go_returns
  refine ⟨rfl, by go_grown, fun i x h => ?_⟩
  rcases i with _ | _ | _ | _ | _ | _ | _ | _ | _ | _ | i
  all_goals (simp only [wX, List.getElem?_cons_succ, List.getElem?_cons_zero, List.getElem?_nil, Option.some.injEq, reduceCtorEq, Nat.zero_add, Nat.reduceAdd] at h)
  all_goals (subst h; simp [go_sem, ba])
theorem wordX_get {k : Int} (h : 3 ≤ k ∧ k ≤ 12) : wX[(k - 3).toNat]? = some (wordX k) := by
  unfold wordX
  have : (k - 3).toNat < wX.length := by simp only [wX, List.length_cons, List.length_nil]; omega
  rw [List.getD_eq_getElem?_getD, List.getElem?_eq_getElem this]
  rfl
set_option maxRecDepth 10000 in
set_option maxHeartbeats 4000000 in
theorem specText (sz : Nat) : ∀ t : XT, t.size ≤ sz → 32 * t.size + t.tot ≤ 1099511627776 → Nums t → ∀ (ok : Nat → Prop) (w : World), (∀ b, ok b → b < w.heap.size) → Lies ok w t →
    Calls Tryd.prog 5 #[t.val] w fun e w' => e = .returned (.string (ba t.text)) ∧ Below w.heap.size w w' := by
  induction sz with
  | zero => intro t h; rw [XT.size_eq] at h; omega
  | succ sz ih =>
  intro t hsz hlim hn ok w hok hL
  have hle := XT.text_le _ t (Nat.le_refl _) hn
  have hnum := hn.num
  have hnk := hn.kid
  have hse := t.size_eq
  have hto := t.tot_eq
  have hcl := hL.cells
  have hlk := hL.kid
  clear hn hL
  obtain ⟨k, n, s, a, c, ks⟩ := t
  simp only [XT.kind, XT.num, XT.name, XT.kids, XT.base, XT.cap] at hnum hnk hse hto hcl hlk
  have hte := XT.text_mk k n s a c ks
  show Calls Tryd.prog 5 #[.agg #[.int .i64 k, .int .i64 n, .string s, .slice a ks.length c]] w fun e w' => e = .returned (.string (ba (XT.mk k n s a c ks).text)) ∧ Below w.heap.size w w'
  obtain ⟨T, hT⟩ : ∃ T, (XT.mk k n s a c ks).text = T := ⟨_, rfl⟩
  rw [hT] at hte hle ⊢
  obtain ⟨Z, hZ⟩ : ∃ Z, (XT.mk k n s a c ks).size = Z := ⟨_, rfl⟩
  rw [hZ] at hsz hlim hle hse
  obtain ⟨O, hO⟩ : ∃ O, (XT.mk k n s a c ks).tot = O := ⟨_, rfl⟩
  rw [hO] at hlim hle hto
  clear hT hZ hO
  by_cases hk1 : k = 1
  · rw [if_pos hk1] at hte
    subst hte
    subst hk1
    go_enter Tryd.func5, Tryd.ntmps5
    go_wp2_with fail
    go_at_call 10
    refine (decInt n _ hnum.1 hnum.2).mono ?_
    rintro e w2 ⟨rfl, hB2⟩
    go_wp2
    go_returns
    exact ⟨rfl, bstep ((Below.refl _ w).alloc (Nat.le_refl _) _) hB2⟩
  rw [if_neg hk1] at hte
  by_cases hk2 : k = 2
  · rw [if_pos hk2] at hte
    subst hte
    subst hk2
    go_enter Tryd.func5, Tryd.ntmps5
    go_wp2_with fail
    go_returns
    exact ⟨by rw [ba_of]; rfl, (Below.refl _ w).alloc (Nat.le_refl _) _⟩
  rw [if_neg hk2] at hte
  by_cases hk3 : k < 3 ∨ 12 < k
  · rw [if_pos hk3] at hte
    subst hte
    go_enter Tryd.func5, Tryd.ntmps5
    go_wp2_with fail
    all_goals first | (exfalso; omega) | skip
    all_goals (go_returns; exact ⟨rfl, (Below.refl _ w).alloc (Nat.le_refl _) _⟩)
  rw [if_neg hk3] at hte
  have hwk := wordX_get (k := k) (by omega)
  have hwl := wordX_length k
  obtain ⟨W1, hW1⟩ : ∃ W1, w.alloc (.cells #[.int .i64 k, .int .i64 n, .string s, .slice a ks.length c] 29) = W1 := ⟨_, rfl⟩
  have hB1 : Below w.heap.size w W1 := by rw [← hW1]; exact (Below.refl _ w).alloc (Nat.le_refl _) _
  have s1 : w.heap.size + 1 = W1.heap.size := by rw [← hW1]; simp
  have hC : Cells4 W1 w.heap.size 0 (.mk k n s a c ks) := by rw [← hW1]; exact Cells4.new w (.mk k n s a c ks)
  have c0 : W1.cell? ⟨w.heap.size, 0, none⟩ = some (.int .i64 k) := hC.c0
  have c1 : W1.cell? ⟨w.heap.size, 1, none⟩ = some (.int .i64 n) := hC.c1
  have c2 : W1.cell? ⟨w.heap.size, 2, none⟩ = some (.string s) := hC.c2
  have c3 : W1.cell? ⟨w.heap.size, 3, none⟩ = some (.slice a ks.length c) := hC.c3
  have HW : ∀ W : World, Calls Tryd.prog 11 #[] W fun e w' => e = .returned (.slice (some ⟨W.heap.size, 0, none⟩) 10 10) ∧ Below W.heap.size W w' ∧ w'.cell? ⟨W.heap.size, (k - 3).toNat, none⟩ = some (.string (ba (wordX k))) := fun W => (l3E W).mono fun e w' ⟨h1, h2, h3⟩ => ⟨h1, h2, h3 _ _ hwk⟩
  obtain ⟨len, hlen⟩ : ∃ len, ks.length = len := ⟨_, rfl⟩
  rw [hlen] at c3 ⊢
  have hsl : s.data.toList.length = s.size := Array.length_toList
  have g1 : (0 : Int) ≤ k - 3 := by omega
  have g2 : k - 3 < (10 : Int) := by omega
  have g3 : (3 : Int) ≤ k := by omega
  have g4 : k < (13 : Int) := by omega
  have g5 : IntKind.i64.wrap (k - 3) = k - 3 := by rw [IntKind.wrap_i64]; omega
  have g6 : ¬ k - 3 < (0 : Int) := by omega
  go_enter Tryd.func5, Tryd.ntmps5
  rw [hlen] at hW1
  go_wp2_with fail
  all_goals first | (exfalso; omega) | skip
  refine wp_region_held_drew (S := fun w' => w'.cell? ⟨w.heap.size, 0, none⟩ = some (.int .i64 k)) (by kernel_rfl) c0 (fun hHeld => ?_)
  refine wpAnyH_take (i := 1) (oi := _) (v := ?_) rfl (by kernel_rfl) (by kernel_rfl) (by kernel_rfl) (fun _ _ _ h => h) (Or.inl ⟨by rfl, ?_⟩) (by assumption) ?_
  rotate_left
  · (intro w hSw; go_simp; (try with_reducible rfl))
  try simp only [Act.put, List.setIfInBounds_toArray, List.set_cons_zero, List.set_cons_succ]
  refine wpAnyH_take (i := 2) (oi := _) (v := ?_) rfl (by kernel_rfl) (by kernel_rfl) (by kernel_rfl) (fun _ _ _ h => h) (Or.inl ⟨by rfl, ?_⟩) (by assumption) ?_
  rotate_left
  · (intro w hSw; go_simp; (try with_reducible rfl))
  try simp only [Act.put, List.setIfInBounds_toArray, List.set_cons_zero, List.set_cons_succ]
  refine wpAnyH_take (i := 3) (oi := _) (v := ?_) rfl (by kernel_rfl) (by kernel_rfl) (by kernel_rfl) (fun _ _ _ h => h) (Or.inl ⟨by rfl, ?_⟩) (by assumption) ?_
  rotate_left
  · (intro w hSw; go_simp; (try with_reducible rfl))
  try simp only [Act.put, List.setIfInBounds_toArray, List.set_cons_zero, List.set_cons_succ]
  refine wpAnyH_ready (rs := [0]) (by kernel_rfl) (by simp) ?_
  refine AllReadyH.cons (o := _) rfl (fun K hK => ?_) AllReadyH.nil
  go_simp
  go_at_call 11
  refine (HW _).mono ?_
  rintro e x1 ⟨rfl, hb, hcw⟩
  have hcw' : x1.cell? ⟨W1.heap.size, (k - 3).toNat, none⟩ = some (.string (ba (wordX k))) := hcw
  have k0 : x1.cell? ⟨w.heap.size, 0, none⟩ = some (.int .i64 k) := below_cell hb (show W1.drew.cell? ⟨w.heap.size, 0, none⟩ = _ from c0) (by show w.heap.size < W1.heap.size; omega)
  have k2 : x1.cell? ⟨w.heap.size, 2, none⟩ = some (.string s) := below_cell hb (show W1.drew.cell? ⟨w.heap.size, 2, none⟩ = _ from c2) (by show w.heap.size < W1.heap.size; omega)
  have k3 : x1.cell? ⟨w.heap.size, 3, none⟩ = some (.slice a len c) := below_cell hb (show W1.drew.cell? ⟨w.heap.size, 3, none⟩ = _ from c3) (by show w.heap.size < W1.heap.size; omega)
  try go_wp2_with fail
  refine hK.out _ _ k0 (fun hHeld => ?_)
  clear hK K
  try simp only [Act.put, List.setIfInBounds_toArray, List.set_cons_zero, List.set_cons_succ]
  refine wpAnyH_take (i := 4) (oi := _) (v := .pointer (some ⟨W1.heap.size, (k - 3).toNat, none⟩)) rfl (by kernel_rfl) (by kernel_rfl) (by kernel_rfl) (fun _ _ _ h => h) (Or.inl ⟨by rfl, ?_⟩) (by assumption) ?_
  · (intro w hSw; go_simp; (try with_reducible rfl))
  try simp only [Act.put, List.setIfInBounds_toArray, List.set_cons_zero, List.set_cons_succ]
  refine wpAnyH_ready (rs := [5]) (by kernel_rfl) (by simp) ?_
  refine AllReadyH.cons (o := _) rfl (fun K hK => ?_) AllReadyH.nil
  go_simp
  refine hK.out _ _ k0 (fun hHeld => ?_)
  clear hK K
  try simp only [Act.put, List.setIfInBounds_toArray, List.set_cons_zero, List.set_cons_succ]
  refine wpAnyH_take (i := 6) (oi := _) (v := ?_) rfl (by kernel_rfl) (by kernel_rfl) (by kernel_rfl) (fun _ _ _ h => h) (Or.inl ⟨by rfl, ?_⟩) (by assumption) ?_
  rotate_left
  · (intro w hSw; go_simp; (try with_reducible rfl))
  try simp only [Act.put, List.setIfInBounds_toArray, List.set_cons_zero, List.set_cons_succ]
  refine wpAnyH_done (by kernel_rfl) ?_ _
  have hbz : W1.heap.size ≤ x1.heap.size := hb.size
  have hbd : Below W1.heap.size W1 x1 := (Below.drew (Below.refl W1.heap.size W1)).trans hb
  have hBx : Below w.heap.size w x1 := hB1.trans (hbd.mono (by omega))
  clear c0 c1 c2 c3 hcw hcw' hW1 hB1 HW hb hC hbd
  by_cases h3 : k = 3
  · rw [if_pos h3] at hte
    subst h3
    have hte' : T.length = (wordX 3).length + (1 + s.size + (XT.textAll ks).length) := by rw [hte]; simp only [List.length_append, List.length_cons, hsl]; omega
    obtain ⟨P, hPe⟩ : ∃ P, ba (wordX 3 ++ 32 :: s.data.toList) = P := ⟨_, rfl⟩
    have hPl : P.size = (wordX 3).length + (1 + s.size) := by rw [← hPe, ba_size, List.length_append, List.length_cons, hsl]; omega
    have hPx : Hid (ba (wordX 3) ++ ⟨#[32]⟩ ++ s = P) := by
      show _ = _
      rw [← hPe, show (⟨#[32]⟩ : ByteArray) = ba [32] from rfl, ba_append]
      conv => lhs; rw [← ba_of s]
      rw [ba_append, List.append_assoc]
      rfl
    have hw3 : (ba (wordX 3)).size = (wordX 3).length := ba_size _
    have h32 : (⟨#[32]⟩ : ByteArray).size = 1 := rfl
    have hw4 : (ba (wordX 3) ++ ⟨#[32]⟩).size = (wordX 3).length + 1 := by rw [ByteArray.size_append, hw3, h32]
    have hPeH : Hid (ba (wordX 3 ++ 32 :: s.data.toList) = P) := hPe
    clear hPe
    go_wp2_with fail
    all_goals first | (exfalso; omega) | skip
    rw [hPx.out]
    clear hPx
    have hP : P.size + (XT.textAll ks).length ≤ 1099511627776 + 64 := by omega
    clear hte' hPl
    go_loopw [3, 4] (fun v3 v4 wr => ∃ (i : Nat) (x : ByteArray), v4 = .int .i64 i ∧ i ≤ len ∧ v3 = .string x ∧ x.size ≤ 1099511627776 + 128 ∧ Hid (x = P ++ ba (XT.textAll (ks.take i))) ∧ Below x1.heap.size x1 wr) (fun _ v4 _ => len - (intOf v4).toNat)
    case atStart => exact ⟨0, P, rfl, by omega, rfl, by omega, (show P = P ++ ba (XT.textAll (ks.take 0)) by apply ByteArray.ext; simp [XT.textAll]), Below.refl _ _⟩
    case round =>
      obtain ⟨i, x, rfl, hi, rfl, hxs, hH, hBr⟩ := hrel
      have r3 := below_cell hBr k3 (by dsimp only; omega)
      have hzr := hBr.size
      have hBw : Below w.heap.size w wr := (hBx.trans (hBr.mono (by omega)))
      by_cases hlt : i < len
      · obtain ⟨q, hq⟩ : ∃ q, ks[i]? = some q := ⟨_, List.getElem?_eq_getElem (by omega)⟩
        obtain ⟨b1, o1, hb1, hok1, hc1⟩ := hcl i q hq
        obtain ⟨e0, e1, e2, e3⟩ := hc1.below hBw (hok b1 hok1)
        have hqs := XT.size_get hq
        have hqt : q.tot ≤ XT.totAll ks := XT.tot_get hq
        have hcall := ih q (by omega) (by omega) (hnk i q hq) ok wr (fun b hb => Nat.lt_of_lt_of_le (hok b hb) hBw.size) ((hlk i q hq).under hBw hok)
        have hql := XT.text_le _ q (Nat.le_refl _) (hnk i q hq)
        have htk := XT.textAll_take hq
        have htl := XT.textAll_take_le ks (i + 1)
        rw [htk, List.length_append, List.length_cons] at htl
        have hxz : x.size = P.size + (XT.textAll (ks.take i)).length := by
          have h8 := congrArg ByteArray.size hH.out
          rw [ByteArray.size_append] at h8
          rw [h8]
          exact congrArg _ (ba_size _)
        obtain ⟨y, hy⟩ : ∃ y, ba q.text = y := ⟨_, rfl⟩
        have hyz : y.size = q.text.length := by rw [← hy, ba_size]
        have hcall2 : Hid (Calls Tryd.prog 5 #[.agg #[.int .i64 q.kind, .int .i64 q.num, .string q.name, .slice q.base q.kids.length q.cap]] wr fun e w' => e = .returned (.string y) ∧ Below wr.heap.size wr w') := by rw [← hy]; exact hcall
        have h32 : (⟨#[32]⟩ : ByteArray).size = 1 := rfl
        have hx2 : (x ++ ⟨#[32]⟩).size = x.size + 1 := by rw [ByteArray.size_append, h32]
        clear hcall hql
        subst hb1
        go_wp2_with fail
        all_goals first | (exfalso; omega) | skip
        go_at_call 5
        refine hcall2.out.mono ?_
        rintro e x2 ⟨rfl, hb2⟩
        clear e0 e1 e2 e3 hcall2
        go_wp2_with fail
        all_goals first | (exfalso; omega) | skip
        refine ⟨⟨i + 1, x ++ ⟨#[32]⟩ ++ y, by go_num, by omega, rfl, ?_, ?_, bstep hBr hb2⟩, by simp [intOf]; omega⟩
        · rw [ByteArray.size_append, hx2]
          omega
        · show _ = _
          rw [hH.out, htk, ← hy, ByteArray.append_assoc, ByteArray.append_assoc, show (⟨#[32]⟩ : ByteArray) = ba [32] from rfl, ba_append, ba_append]
          rfl
      · have he : i = len := by omega
        go_wp2_with fail
        all_goals first | (exfalso; omega) | skip
        go_returns
        refine ⟨?_, hBw⟩
        have h9 := hH.out
        rw [he, ← hlen, List.take_length] at h9
        rw [h9, ← hPeH.out, ba_append]
        rw [hte, List.append_assoc]; rfl
  · rw [if_neg h3] at hte
    have hte' : T.length = (wordX k).length + (XT.textAll ks).length := by rw [hte]; simp only [List.length_append, List.nil_append]
    obtain ⟨P, hPe⟩ : ∃ P, ba (wordX k) = P := ⟨_, rfl⟩
    have hPl : P.size = (wordX k).length := by rw [← hPe, ba_size]
    rw [hPe]
    have hPeH : Hid (ba (wordX k) = P) := hPe
    clear hPe
    go_wp2_with fail
    all_goals first | (exfalso; omega) | skip
    have hP : P.size + (XT.textAll ks).length ≤ 1099511627776 + 64 := by omega
    clear hte' hPl h3 hk1 hk2 hk3 g1 g2 g3 g4 g5 g6 hwk
    generalize (decide (k < 3) || decide (12 < k)) = d0
    generalize decide (k < 3) = d1
    generalize decide (12 < k) = d2
    generalize IntKind.i64.wrap (k - 3) = d3
    generalize (k - 3).toNat = d4
    generalize k - 3 = d5
    generalize (k == 3) = d6
    go_loopw [3, 4] (fun v3 v4 wr => ∃ (i : Nat) (x : ByteArray), v4 = .int .i64 i ∧ i ≤ len ∧ v3 = .string x ∧ x.size ≤ 1099511627776 + 128 ∧ Hid (x = P ++ ba (XT.textAll (ks.take i))) ∧ Below x1.heap.size x1 wr) (fun _ v4 _ => len - (intOf v4).toNat)
    case atStart => exact ⟨0, P, rfl, by omega, rfl, by omega, (show P = P ++ ba (XT.textAll (ks.take 0)) by apply ByteArray.ext; simp [XT.textAll]), Below.refl _ _⟩
    case round =>
      obtain ⟨i, x, rfl, hi, rfl, hxs, hH, hBr⟩ := hrel
      have r3 := below_cell hBr k3 (by dsimp only; omega)
      have hzr := hBr.size
      have hBw : Below w.heap.size w wr := (hBx.trans (hBr.mono (by omega)))
      by_cases hlt : i < len
      · obtain ⟨q, hq⟩ : ∃ q, ks[i]? = some q := ⟨_, List.getElem?_eq_getElem (by omega)⟩
        obtain ⟨b1, o1, hb1, hok1, hc1⟩ := hcl i q hq
        obtain ⟨e0, e1, e2, e3⟩ := hc1.below hBw (hok b1 hok1)
        have hqs := XT.size_get hq
        have hqt : q.tot ≤ XT.totAll ks := XT.tot_get hq
        have hcall := ih q (by omega) (by omega) (hnk i q hq) ok wr (fun b hb => Nat.lt_of_lt_of_le (hok b hb) hBw.size) ((hlk i q hq).under hBw hok)
        have hql := XT.text_le _ q (Nat.le_refl _) (hnk i q hq)
        have htk := XT.textAll_take hq
        have htl := XT.textAll_take_le ks (i + 1)
        rw [htk, List.length_append, List.length_cons] at htl
        have hxz : x.size = P.size + (XT.textAll (ks.take i)).length := by
          have h8 := congrArg ByteArray.size hH.out
          rw [ByteArray.size_append] at h8
          rw [h8]
          exact congrArg _ (ba_size _)
        obtain ⟨y, hy⟩ : ∃ y, ba q.text = y := ⟨_, rfl⟩
        have hyz : y.size = q.text.length := by rw [← hy, ba_size]
        have hcall2 : Hid (Calls Tryd.prog 5 #[.agg #[.int .i64 q.kind, .int .i64 q.num, .string q.name, .slice q.base q.kids.length q.cap]] wr fun e w' => e = .returned (.string y) ∧ Below wr.heap.size wr w') := by rw [← hy]; exact hcall
        have h32 : (⟨#[32]⟩ : ByteArray).size = 1 := rfl
        have hx2 : (x ++ ⟨#[32]⟩).size = x.size + 1 := by rw [ByteArray.size_append, h32]
        clear hcall hql
        subst hb1
        go_wp2_with fail
        all_goals first | (exfalso; omega) | skip
        go_at_call 5
        refine hcall2.out.mono ?_
        rintro e x2 ⟨rfl, hb2⟩
        clear e0 e1 e2 e3 hcall2
        go_wp2_with fail
        all_goals first | (exfalso; omega) | skip
        refine ⟨⟨i + 1, x ++ ⟨#[32]⟩ ++ y, by go_num, by omega, rfl, ?_, ?_, bstep hBr hb2⟩, by simp [intOf]; omega⟩
        · rw [ByteArray.size_append, hx2]
          omega
        · show _ = _
          rw [hH.out, htk, ← hy, ByteArray.append_assoc, ByteArray.append_assoc, show (⟨#[32]⟩ : ByteArray) = ba [32] from rfl, ba_append, ba_append]
          rfl
      · have he : i = len := by omega
        go_wp2_with fail
        all_goals first | (exfalso; omega) | skip
        go_returns
        refine ⟨?_, hBw⟩
        have h9 := hH.out
        rw [he, ← hlen, List.take_length] at h9
        rw [h9, ← hPeH.out, ba_append]
        rw [hte]; rfl
end Go.Proofs.YtijblhnjhpmedaaDoor
