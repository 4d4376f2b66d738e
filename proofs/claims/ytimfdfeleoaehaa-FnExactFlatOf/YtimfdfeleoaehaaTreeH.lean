/-
  What the laws' own helpers on expressions answer: how much is left of a bound, a copy in new memory, and whether two expressions are the same.
-/
import Derived.Test.YtimfdfeleoaehaaTreeG
namespace Go.Proofs.Ytimfdfeleoaehaa
open Go.RowKit
set_option linter.unusedSimpArgs false
set_option linter.unusedVariables false

mutual
def XT.tot : XT → Nat
  | .mk _ _ s _ _ ks => s.size + (ks.length + XT.totAll ks)
def XT.totAll : List XT → Nat
  | [] => 0
  | t :: ts => XT.tot t + XT.totAll ts
end
theorem XT.tot_eq (t : XT) : t.tot = t.name.size + (t.kids.length + XT.totAll t.kids) := by cases t; simp [XT.tot, XT.kids, XT.name]
theorem XT.totAll_append (us bs : List XT) : XT.totAll (us ++ bs) = XT.totAll us + XT.totAll bs := by
  induction us with
  | nil => simp [XT.totAll]
  | cons x xs ih => simp [XT.totAll, ih]; omega
theorem XT.totAll_take {ks : List XT} {i : Nat} {t : XT} (h : ks[i]? = some t) : XT.totAll (ks.take (i + 1)) = XT.totAll (ks.take i) + t.tot := by
  rw [List.take_add_one, h, XT.totAll_append]
  simp [XT.totAll]
theorem XT.totAll_le (ks : List XT) (i : Nat) : XT.totAll (ks.take i) ≤ XT.totAll ks := by
  have h := XT.totAll_append (ks.take i) (ks.drop i)
  rw [List.take_append_drop] at h
  omega
def subI (l : Int) (n : Nat) : Int := if (n : Int) ≤ l then l - n else -1
theorem subI_yes {l : Int} {n : Nat} (h : (n : Int) ≤ l) : subI l n = l - n := by simp [subI, h]
theorem subI_no {l : Int} {n : Nat} (h : l < (n : Int)) : subI l n = -1 := by
  unfold subI
  rw [if_neg (by omega)]

set_option maxHeartbeats 2000000 in
theorem szS (ks : List XT) (a : Option Addr) (c : Nat) (ok : Nat → Prop) (w : World) (hok : ∀ b, ok b → b < w.heap.size) (hcl : ∀ (i : Nat) (k : XT), ks[i]? = some k → ∃ b o, a = some ⟨b, o, none⟩ ∧ ok b ∧ Cells4 w b (o + i * 4) k) (hlen : ks.length ≤ maxLen)
    (H : ∀ (i : Nat) (k : XT), ks[i]? = some k → ∀ (left : Int) (w' : World), 0 ≤ left → left ≤ 1048576 → Below w.heap.size w w' →
      Calls Try.prog 44 #[k.val, .int .i64 left] w' fun e w'' => e = .returned (.int .i64 (subI left k.tot)) ∧ Below w'.heap.size w' w'')
    (left : Int) (h0 : 0 ≤ left) (h1 : left ≤ 1048576) :
    Calls Try.prog 60 #[.slice a ks.length c, .int .i64 left] w fun e w' => e = .returned (.int .i64 (subI left (ks.length + XT.totAll ks))) ∧ Below w.heap.size w w' := by
  unfold maxLen at hlen
  obtain ⟨len, hl⟩ : ∃ len, ks.length = len := ⟨_, rfl⟩
  rw [hl] at hlen ⊢
  go_enter Try.func60, Try.ntmps60
  by_cases hs : left < len
  · go_wp2
    all_goals
      first
        | (exfalso; omega)
        | (go_returns; exact ⟨ret_int (subI_no (by omega)).symm, Below.refl _ _⟩)
        | skip
  · go_wp2
    go_loopw [1, 5] (fun v1 v5 wr => ∃ (i : Nat) (l : Int), v5 = .int .i64 i ∧ v1 = .int .i64 l ∧ i ≤ len ∧ 0 ≤ l ∧ l + len + XT.totAll (ks.take i) = left ∧ Below w.heap.size w wr) (fun _ v5 _ => len - (intOf v5).toNat)
    case atStart => exact ⟨0, left - len, rfl, rfl, by omega, by omega, by simp [XT.totAll], Below.refl _ _⟩
    case round =>
      obtain ⟨i, l, rfl, rfl, hi, hl0, hle, hB⟩ := hrel
      by_cases hlt : i < len
      · obtain ⟨kid, hkid⟩ : ∃ kid, ks[i]? = some kid := ⟨_, List.getElem?_eq_getElem (by omega)⟩
        obtain ⟨bb, o, hbase, hokb, hc⟩ := hcl i kid hkid
        have hc' := hc.below hB (hok bb hokb)
        have c0 := hc'.c0
        have c1 := hc'.c1
        have c2 := hc'.c2
        have c3 := hc'.c3
        have hcall := H i kid hkid l wr hl0 (by omega) hB
        have htk := XT.totAll_take hkid
        have htl := XT.totAll_le ks (i + 1)
        subst hbase
        by_cases hk : (kid.tot : Int) ≤ l
        · rw [subI_yes hk] at hcall
          go_wp2_with (go_at_call 44; refine hcall.mono ?_; rintro e w4 ⟨rfl, hB4⟩)
          all_goals
            first
              | (exfalso; omega)
              | skip
          refine ⟨⟨i + 1, l - kid.tot, by go_num, rfl, by omega, by omega, by omega, hB.trans (hB4.mono hB.size)⟩, ?_⟩
          simp [intOf]
          omega
        · rw [subI_no (by omega)] at hcall
          go_wp2_with (go_at_call 44; refine hcall.mono ?_; rintro e w4 ⟨rfl, hB4⟩)
          go_returns
          exact ⟨ret_int (subI_no (by omega)).symm, hB.trans (hB4.mono hB.size)⟩
      · have he : i = len := by omega
        have hall : ks.take i = ks := List.take_of_length_le (by omega)
        rw [hall] at hle
        go_wp2
        go_returns
        exact ⟨ret_int (by rw [subI_yes (by omega)]; omega), hB⟩
inductive Wide : XT → Prop
  | mk (t : XT) (hn : t.name.size ≤ maxLen) (hl : t.kids.length ≤ maxLen) (hk : ∀ (i : Nat) (k : XT), t.kids[i]? = some k → Wide k) : Wide t
theorem Wide.name {t : XT} (h : Wide t) : t.name.size ≤ maxLen := by cases h; assumption
theorem Wide.len {t : XT} (h : Wide t) : t.kids.length ≤ maxLen := by cases h; assumption
theorem Wide.kid {t : XT} (h : Wide t) : ∀ (i : Nat) (k : XT), t.kids[i]? = some k → Wide k := by cases h; assumption

set_option maxHeartbeats 2000000 in
theorem sz1 (sz : Nat) : ∀ (t : XT), t.size ≤ sz → Wide t → ∀ (ok : Nat → Prop) (w : World), (∀ b, ok b → b < w.heap.size) → Lies ok w t → ∀ (left : Int), 0 ≤ left → left ≤ 1048576 →
    Calls Try.prog 44 #[t.val, .int .i64 left] w fun e w' => e = .returned (.int .i64 (subI left t.tot)) ∧ Below w.heap.size w w' := by
  induction sz with
  | zero => intro t h; rw [XT.size_eq] at h; omega
  | succ sz ih =>
  intro t hsz hW ok w hok hL left h0 h1
  have hnm := hW.name
  unfold maxLen at hnm
  have htot := t.tot_eq
  have hB1 : Below w.heap.size w (w.alloc (.cells #[.int .i64 t.kind, .int .i64 t.num, .string t.name, .slice t.base t.kids.length t.cap] 42)) := (Below.refl _ w).alloc (Nat.le_refl _) _
  have hL1 := hL.under hB1 hok
  have hS := szS t.kids t.base t.cap ok _ (fun b hb => Nat.lt_of_lt_of_le (hok b hb) hB1.size) hL1.cells hW.len
    (fun i k hk l w' g0 g1 hBw => ih k (by have h2 := XT.size_get hk; have h3 := t.size_eq; omega) (hW.kid i k hk) ok w' (fun b hb => by have := hok b hb; have := hBw.size; have := hB1.size; omega) ((hL1.kid i k hk).under hBw (fun b hb => Nat.lt_of_lt_of_le (hok b hb) hB1.size)) l g0 g1)
  go_enter Try.func44, Try.ntmps44
  by_cases hn : (t.name.size : Int) ≤ left
  · have hcall := hS (left - t.name.size) (by omega) (by omega)
    by_cases hk : ((t.kids.length + XT.totAll t.kids : Nat) : Int) ≤ left - t.name.size
    · rw [subI_yes hk] at hcall
      go_wp2_with (go_at_call 60; refine hcall.mono ?_; rintro e w4 ⟨rfl, hB4⟩)
      all_goals
        first
          | (exfalso; omega)
          | (go_returns; exact ⟨ret_int (by rw [subI_yes (by omega)]; omega), hB1.trans (hB4.mono hB1.size)⟩)
    · rw [subI_no (by omega)] at hcall
      go_wp2_with (go_at_call 60; refine hcall.mono ?_; rintro e w4 ⟨rfl, hB4⟩)
      all_goals
        first
          | (exfalso; omega)
          | (go_returns; exact ⟨ret_int (by rw [subI_no (by omega)]), hB1.trans (hB4.mono hB1.size)⟩)
  · go_wp2
    all_goals
      first
        | (exfalso; omega)
        | (go_returns; exact ⟨ret_int (by rw [subI_no (by omega)]), hB1⟩)

theorem XT.tot_bounds (sz : Nat) : ∀ t : XT, t.size ≤ sz → t.tot ≤ 1048576 → t.size ≤ 1 + t.tot ∧ Good t := by
  induction sz with
  | zero => intro t h; rw [XT.size_eq] at h; omega
  | succ sz ih =>
    have hl : ∀ ks : List XT, XT.sizeAll ks ≤ sz → XT.totAll ks ≤ 1048576 → XT.sizeAll ks ≤ ks.length + XT.totAll ks ∧ (∀ (i : Nat) (k : XT), ks[i]? = some k → Good k) := by
      intro ks
      induction ks with
      | nil => intro _ _; simp [XT.sizeAll]
      | cons x xs ihx =>
        intro h ht
        simp only [XT.sizeAll, XT.totAll] at h ht
        obtain ⟨h1, h2⟩ := ih x (by omega) (by omega)
        obtain ⟨h3, h4⟩ := ihx (by omega) (by omega)
        refine ⟨by simp only [XT.sizeAll, XT.totAll, List.length_cons]; omega, ?_⟩
        intro i k hk
        cases i with
        | zero => simp at hk; exact hk ▸ h2
        | succ i => exact h4 i k (by simpa using hk)
    intro t h ht
    have h1 := t.size_eq
    have h2 := t.tot_eq
    obtain ⟨h3, h4⟩ := hl t.kids (by omega) (by omega)
    exact ⟨by omega, .mk t (by omega) h4⟩

/-- The same in all parts but where they lie. -/
inductive Same : XT → XT → Prop
  | mk (t t' : XT) (h1 : t'.kind = t.kind) (h2 : t'.num = t.num) (h3 : t'.name = t.name) (h4 : t'.kids.length = t.kids.length) (hk : ∀ (i : Nat) (a b : XT), t.kids[i]? = some a → t'.kids[i]? = some b → Same a b) : Same t t'
theorem Same.heads {t t' : XT} (h : Same t t') : t'.kind = t.kind ∧ t'.num = t.num ∧ t'.name = t.name ∧ t'.kids.length = t.kids.length := by
  cases h; exact ⟨‹_›, ‹_›, ‹_›, ‹_›⟩
theorem Same.kid {t t' : XT} (h : Same t t') : ∀ (i : Nat) (a b : XT), t.kids[i]? = some a → t'.kids[i]? = some b → Same a b := by cases h; assumption
theorem Same.join (sz : Nat) : ∀ t : XT, t.size ≤ sz → ∀ u v : XT, Same t u → Same t v → Same u v := by
  induction sz with
  | zero => intro t h; rw [XT.size_eq] at h; omega
  | succ sz ih =>
    intro t h u v hu hv
    obtain ⟨a1, a2, a3, a4⟩ := hu.heads
    obtain ⟨b1, b2, b3, b4⟩ := hv.heads
    refine .mk u v (by rw [a1, b1]) (by rw [a2, b2]) (by rw [a3, b3]) (by omega) ?_
    intro i a b ha hb
    have hi : i < t.kids.length := by have := (List.getElem?_eq_some_iff.1 ha).1; omega
    have hc := List.getElem?_eq_getElem hi
    have h2 := XT.size_get hc
    have h3 := t.size_eq
    exact ih _ (by omega) a b (hu.kid i _ a hc ha) (hv.kid i _ b hc hb)
theorem Same.spec (sz : Nat) : ∀ t : XT, t.size ≤ sz → ∀ u : XT, Same t u → u.specR = t.specR ∧ u.size = t.size ∧ u.tot = t.tot := by
  induction sz with
  | zero => intro t h; rw [XT.size_eq] at h; omega
  | succ sz ih =>
    have hl : ∀ ks us : List XT, XT.sizeAll ks ≤ sz → us.length = ks.length → (∀ (i : Nat) (a b : XT), ks[i]? = some a → us[i]? = some b → Same a b) →
        (∀ r, XT.specL us r = XT.specL ks r) ∧ XT.sizeAll us = XT.sizeAll ks ∧ XT.totAll us = XT.totAll ks := by
      intro ks
      induction ks with
      | nil => intro us _ hlen _; cases us with
        | nil => exact ⟨fun _ => rfl, rfl, rfl⟩
        | cons y ys => simp at hlen
      | cons x xs ihx =>
        intro us h hlen hs
        cases us with
        | nil => simp at hlen
        | cons y ys =>
          simp only [XT.sizeAll] at h
          obtain ⟨h1, h2, h3⟩ := ih x (by omega) y (hs 0 x y rfl rfl)
          obtain ⟨g1, g2, g3⟩ := ihx ys (by omega) (by simpa using hlen) (fun i a b ha hb => hs (i + 1) a b (by simpa using ha) (by simpa using hb))
          refine ⟨fun r => ?_, by simp only [XT.sizeAll, h2, g2], by simp only [XT.totAll, h3, g3]⟩
          simp only [XT.specL, h1, g1]
    intro t h u hu
    obtain ⟨a1, a2, a3, a4⟩ := hu.heads
    have hk := hu.kid
    have hsz := t.size_eq
    obtain ⟨g1, g2, g3⟩ := hl t.kids u.kids (by omega) a4 hk
    obtain ⟨k, n, s, a, c, ks⟩ := t
    obtain ⟨k', n', s', a', c', ks'⟩ := u
    simp only [XT.kind, XT.num, XT.name, XT.kids] at a1 a2 a3 a4 g1 g2 g3
    subst a1 a2 a3
    simp [XT.specR, XT.size, XT.tot, a4, g1, g2, g3]
end Go.Proofs.Ytimfdfeleoaehaa
