/-
  Lists of expressions that own their memory; what the law writes into them.
-/
import Derived.Test.YtomdbaokidphjaaTextD
import Derived.Test.YtomdbaokidphjaaSameA
namespace Go.Proofs.Ytomdbaokidphjaa
open Go.RowKit Go.Shelf
set_option linter.unusedSimpArgs false
set_option linter.unusedVariables false
attribute [local go_sem] Oper.semAt_some

mutual
def XT.mark : XT → Nat → XT
  | .mk _ _ _ a c ks, k => .mk ((k : Nat) : Int) ((k + 1 : Nat) : Int) (markB (k + 2)) a c (XT.markL ks (k + 3))
def XT.markL : List XT → Nat → List XT
  | [], _ => []
  | t :: ts, k => XT.mark t k :: XT.markL ts (k + 3 * XT.size t)
end
theorem XT.mark_eq (t : XT) (k : Nat) : t.mark k = .mk ((k : Nat) : Int) ((k + 1 : Nat) : Int) (markB (k + 2)) t.base t.cap (XT.markL t.kids (k + 3)) := by cases t; rw [XT.mark]; rfl
theorem XT.markL_length : ∀ (ks : List XT) (k : Nat), (XT.markL ks k).length = ks.length
  | [], _ => by rw [XT.markL]
  | t :: ts, k => by rw [XT.markL, List.length_cons, List.length_cons, XT.markL_length ts]
theorem XT.markL_get : ∀ (ks : List XT) (k i : Nat) (x : XT), ks[i]? = some x → (XT.markL ks k)[i]? = some (x.mark (k + 3 * XT.sizeAll (ks.take i)))
  | [], _, _, _, h => by simp at h
  | t :: ts, k, 0, x, h => by
    simp at h
    subst h
    simp [XT.markL, XT.sizeAll]
  | t :: ts, k, i + 1, x, h => by
    have h1 := XT.markL_get ts (k + 3 * t.size) i x (by simpa using h)
    rw [XT.markL, List.getElem?_cons_succ, h1, List.take_succ_cons, XT.sizeAll]
    congr 2
    omega
theorem XT.markL_back {ks : List XT} {k i : Nat} {y : XT} (h : (XT.markL ks k)[i]? = some y) : ∃ x, ks[i]? = some x ∧ y = x.mark (k + 3 * XT.sizeAll (ks.take i)) := by
  have hi : i < ks.length := by have := (List.getElem?_eq_some_iff.1 h).1; rw [XT.markL_length] at this; exact this
  refine ⟨_, List.getElem?_eq_getElem hi, ?_⟩
  rw [XT.markL_get ks k i _ (List.getElem?_eq_getElem hi)] at h
  exact (Option.some.inj h).symm
theorem XT.sizeAll_snoc {ks : List XT} {i : Nat} {t : XT} (h : ks[i]? = some t) : XT.sizeAll (ks.take (i + 1)) = XT.sizeAll (ks.take i) + t.size := by
  have ha : ∀ us bs : List XT, XT.sizeAll (us ++ bs) = XT.sizeAll us + XT.sizeAll bs := by
    intro us bs
    induction us with
    | nil => simp [XT.sizeAll]
    | cons x xs ih => simp [XT.sizeAll, ih]; omega
  rw [List.take_add_one, h, ha]
  simp [XT.sizeAll]
theorem XT.sizeAll_le (ks : List XT) (i : Nat) : XT.sizeAll (ks.take i) ≤ XT.sizeAll ks := by
  induction ks generalizing i with
  | nil => simp
  | cons x xs ih =>
    cases i with
    | zero => simp [XT.sizeAll]
    | succ i => have := ih i; simp [XT.sizeAll]; omega

theorem XT.len_le (ks : List XT) : ks.length ≤ XT.sizeAll ks := by
  induction ks with
  | nil => simp
  | cons x xs ih => have := XT.size_eq x; simp [XT.sizeAll]; omega
/-- A list of expressions in a block of its own, what is within each in an interval of blocks of its own. -/
inductive OwnR (W : World) : Nat → Nat → Option Addr → List XT → Prop
  | mk (lo hi : Nat) (a : Option Addr) (ks : List XT) (g N : Nat) (l h : Nat → Nat)
      (row : ∀ (i : Nat) (k : XT), ks[i]? = some k → a = some ⟨g, 0, none⟩ ∧ lo ≤ g ∧ g < hi ∧ RowAt W g N 38 ∧ ks.length * 4 ≤ N)
      (cell : ∀ (i : Nat) (k : XT), ks[i]? = some k → Cells4 W g (0 + i * 4) k)
      (box : ∀ (i : Nat), i < ks.length → lo ≤ l i ∧ h i ≤ hi ∧ (g < l i ∨ h i ≤ g))
      (apart : ∀ (i j : Nat), i < ks.length → j < ks.length → i ≠ j → h i ≤ l j ∨ h j ≤ l i)
      (kid : ∀ (i : Nat) (k : XT), ks[i]? = some k → OwnR W (l i) (h i) k.base k.kids) : OwnR W lo hi a ks
theorem OwnR.mono {A B : World} {lo hi : Nat} {a : Option Addr} {ks : List XT} (h : OwnR A lo hi a ks) : (∀ b, lo ≤ b → b < hi → B.heap[b]? = A.heap[b]?) → OwnR B lo hi a ks := by
  induction h with
  | mk lo hi a ks g N l h row cell box apart kid ih =>
    intro hb
    refine .mk lo hi a ks g N l h (fun i k hk => ?_) (fun i k hk => ?_) box apart (fun i k hk => ih i k hk (fun b h1 h2 => hb b ?_ ?_))
    · obtain ⟨r1, r2, r3, r4, r5⟩ := row i k hk
      exact ⟨r1, r2, r3, r4.of_block (hb g r2 r3), r5⟩
    · obtain ⟨r1, r2, r3, r4, r5⟩ := row i k hk
      have hc := cell i k hk
      have he := hb g r2 r3
      exact ⟨(cell_of_block (a := ⟨g, _, none⟩) he).trans hc.c0, (cell_of_block (a := ⟨g, _, none⟩) he).trans hc.c1, (cell_of_block (a := ⟨g, _, none⟩) he).trans hc.c2, (cell_of_block (a := ⟨g, _, none⟩) he).trans hc.c3⟩
    · have := (box i (List.getElem?_eq_some_iff.1 hk).1).1; omega
    · have := (box i (List.getElem?_eq_some_iff.1 hk).1).2.1; omega
theorem OwnR.parts {W : World} {lo hi : Nat} {a : Option Addr} {ks : List XT} (h : OwnR W lo hi a ks) : ∃ (g N : Nat) (l h : Nat → Nat), (∀ (i : Nat) (k : XT), ks[i]? = some k → a = some ⟨g, 0, none⟩ ∧ lo ≤ g ∧ g < hi ∧ RowAt W g N 38 ∧ ks.length * 4 ≤ N) ∧
    (∀ (i : Nat) (k : XT), ks[i]? = some k → Cells4 W g (0 + i * 4) k) ∧ (∀ (i : Nat), i < ks.length → lo ≤ l i ∧ h i ≤ hi ∧ (g < l i ∨ h i ≤ g)) ∧ (∀ (i j : Nat), i < ks.length → j < ks.length → i ≠ j → h i ≤ l j ∨ h j ≤ l i) ∧ (∀ (i : Nat) (k : XT), ks[i]? = some k → OwnR W (l i) (h i) k.base k.kids) := by
  cases h with
  | mk _ _ _ _ g N l h row cell box apart kid => exact ⟨g, N, l, h, row, cell, box, apart, kid⟩
theorem OwnR.wide {W : World} {lo hi lo' hi' : Nat} {a : Option Addr} {ks : List XT} (h : OwnR W lo hi a ks) (h1 : lo' ≤ lo) (h2 : hi ≤ hi') : OwnR W lo' hi' a ks := by
  cases h with
  | mk _ _ _ _ g N l h row cell box apart kid =>
    refine .mk lo' hi' a ks g N l h (fun i k hk => ?_) cell (fun i hi => ?_) apart kid
    · obtain ⟨r1, r2, r3, r4, r5⟩ := row i k hk
      exact ⟨r1, by omega, by omega, r4, r5⟩
    · obtain ⟨b1, b2, b3⟩ := box i hi
      exact ⟨by omega, by omega, b3⟩
theorem OwnR.lies {W : World} {lo hi : Nat} {a : Option Addr} {ks : List XT} (h : OwnR W lo hi a ks) : ERow (fun b => lo ≤ b ∧ b < hi) W a ks ∧ ∀ (i : Nat) (k : XT), ks[i]? = some k → Lies (fun b => lo ≤ b ∧ b < hi) W k := by
  induction h with
  | mk lo hi a ks g N l h row cell box apart kid ih =>
    refine ⟨fun i k hk => ?_, fun i k hk => ?_⟩
    · obtain ⟨r1, r2, r3, r4, r5⟩ := row i k hk
      exact ⟨g, 0, r1, ⟨r2, r3⟩, cell i k hk⟩
    · obtain ⟨b1, b2, b3⟩ := box i (List.getElem?_eq_some_iff.1 hk).1
      obtain ⟨q1, q2⟩ := ih i k hk
      refine .mk k (fun j y hy => ?_) (fun j y hy => ?_)
      · obtain ⟨b, o, e1, e2, e3⟩ := q1 j y hy
        exact ⟨b, o, e1, ⟨by omega, by omega⟩, e3⟩
      · exact (q2 j y hy).mono (fun b hb _ => ⟨⟨by omega, by omega⟩, rfl⟩)
def XT.cur (ks : List XT) (k i j : Nat) (x : XT) : XT := if j < i then x.mark (k + 3 * XT.sizeAll (ks.take j)) else x
theorem XT.cur_heads (ks : List XT) (k i j : Nat) (x : XT) : (XT.cur ks k i j x).base = x.base ∧ (XT.cur ks k i j x).cap = x.cap ∧ (XT.cur ks k i j x).kids.length = x.kids.length := by
  unfold XT.cur
  split
  · rw [XT.mark_eq]
    exact ⟨rfl, rfl, XT.markL_length _ _⟩
  · exact ⟨rfl, rfl, rfl⟩
structure MSt (ks : List XT) (g N : Nat) (l h : Nat → Nat) (k i : Nat) (W : World) : Prop where
  row : ∀ (j : Nat) (x : XT), ks[j]? = some x → RowAt W g N 38
  cell : ∀ (j : Nat) (x : XT), ks[j]? = some x → Cells4 W g (0 + j * 4) (XT.cur ks k i j x)
  kid : ∀ (j : Nat) (x : XT), ks[j]? = some x → OwnR W (l j) (h j) (XT.cur ks k i j x).base (XT.cur ks k i j x).kids

set_option maxRecDepth 10000 in
set_option maxHeartbeats 4000000 in
theorem markE (sz : Nat) : ∀ ks : List XT, XT.sizeAll ks ≤ sz → XT.sizeAll ks ≤ 1152921504606846976 → ∀ (lo hi : Nat) (a : Option Addr) (c k : Nat) (w : World), OwnR w lo hi a ks → hi ≤ w.heap.size → k + 3 * XT.sizeAll ks ≤ 1152921504606846976 →
    Calls Try.prog 19 #[.slice a ks.length c, .int .i64 k] w fun e w' => e = .returned (.int .i64 ((k + 3 * XT.sizeAll ks : Nat) : Int)) ∧ OwnR w' lo hi a (XT.markL ks k) ∧ Kept (fun b => lo ≤ b ∧ b < hi) w w' := by
  induction sz using Nat.strongRecOn with
  | _ sz ih =>
  intro ks hsz hlim lo hi a c k w hO hhi hk
  have hlen : ks.length ≤ 1152921504606846976 := Nat.le_trans (XT.len_le ks) hlim
  have ih' : Hid (∀ m < sz, ∀ ks : List XT, XT.sizeAll ks ≤ m → XT.sizeAll ks ≤ 1152921504606846976 → ∀ (lo hi : Nat) (a : Option Addr) (c k : Nat) (w : World), OwnR w lo hi a ks → hi ≤ w.heap.size → k + 3 * XT.sizeAll ks ≤ 1152921504606846976 →
    Calls Try.prog 19 #[.slice a ks.length c, .int .i64 k] w fun e w' => e = .returned (.int .i64 ((k + 3 * XT.sizeAll ks : Nat) : Int)) ∧ OwnR w' lo hi a (XT.markL ks k) ∧ Kept (fun b => lo ≤ b ∧ b < hi) w w') := ih
  clear ih
  obtain ⟨g, N, l, h, row, cell, box, apart, kid⟩ := hO.parts
  clear hO
  obtain ⟨len, hl⟩ : ∃ len, ks.length = len := ⟨_, rfl⟩
  have hS0 : MSt ks g N l h k 0 w := ⟨fun j x hx => (row j x hx).2.2.2.1, fun j x hx => by simpa [XT.cur] using cell j x hx, fun j x hx => by simpa [XT.cur] using kid j x hx⟩
  have hrowH : Hid (∀ (i : Nat) (k : XT), ks[i]? = some k → a = some ⟨g, 0, none⟩ ∧ lo ≤ g ∧ g < hi ∧ RowAt w g N 38 ∧ ks.length * 4 ≤ N) := row
  have hboxH : Hid (∀ (i : Nat), i < ks.length → lo ≤ l i ∧ h i ≤ hi ∧ (g < l i ∨ h i ≤ g)) := box
  have hapH : Hid (∀ (i j : Nat), i < ks.length → j < ks.length → i ≠ j → h i ≤ l j ∨ h j ≤ l i) := apart
  clear row cell box apart kid
  rw [hl] at hlen ⊢
  go_enter Try.func19, Try.ntmps19
  go_wp2_with fail
  go_loopw [1, 5] (fun v1 v5 wr => ∃ (i : Nat), v5 = .int .i64 i ∧ v1 = .int .i64 ((k + 3 * XT.sizeAll (ks.take i) : Nat) : Int) ∧ i ≤ len ∧ Hid (MSt ks g N l h k i wr) ∧ Kept (fun b => lo ≤ b ∧ b < hi) w wr) (fun _ v5 _ => len - (intOf v5).toNat)
  case atStart => exact ⟨0, rfl, by simp [XT.sizeAll], by omega, hS0, Kept.refl _ _⟩
  case round =>
    obtain ⟨i, rfl, rfl, hi', hS, hK⟩ := hrel
    by_cases hlt : i < len
    · obtain ⟨x, hx⟩ : ∃ x, ks[i]? = some x := ⟨_, List.getElem?_eq_getElem (by omega)⟩
      obtain ⟨ha, hg1, hg2', -, hN⟩ := hrowH.out i x hx
      obtain ⟨b1, b2, b3⟩ := hboxH.out i (by omega)
      have hR := hS.out.row i x hx
      have hc := hS.out.cell i x hx
      have hO := hS.out.kid i x hx
      have hcur : XT.cur ks k i i x = x := by simp [XT.cur]
      rw [hcur] at hc hO
      rw [Nat.zero_add] at hc
      have hsn := XT.sizeAll_snoc hx
      have hsl := XT.sizeAll_le ks (i + 1)
      have hse := x.size_eq
      have hxl := x.length_le
      obtain ⟨kk, hkk⟩ : ∃ n, k + 3 * XT.sizeAll (ks.take i) = n := ⟨_, rfl⟩
      have hsg := XT.size_get hx
      rw [hkk]
      have hgw : g < wr.heap.size := hR.lt
      -- the three stores
      obtain ⟨v0, r0⟩ := hR.cell (o := i * 4) (by omega)
      have f0 := hR.frozen (i * 4)
      obtain ⟨W1, hW1⟩ : ∃ W1, wr.setCell ⟨g, i * 4, none⟩ (.int .i64 ((kk : Nat) : Int)) = W1 := ⟨_, rfl⟩
      have hR1 : RowAt W1 g N 38 := by rw [← hW1]; exact hR.set _ _
      obtain ⟨v1, r1⟩ := hR1.cell (o := i * 4 + 1) (by omega)
      have f1 := hR1.frozen (i * 4 + 1)
      obtain ⟨W2, hW2⟩ : ∃ W2, W1.setCell ⟨g, i * 4 + 1, none⟩ (.int .i64 ((kk : Int) + 1)) = W2 := ⟨_, rfl⟩
      have hR2 : RowAt W2 g N 38 := by rw [← hW2]; exact hR1.set _ _
      have hK2 : Kept (fun b => b = g) wr W2 := by rw [← hW2, ← hW1]; exact ((Kept.refl (fun b => b = g) wr).setCell (p := ⟨g, i * 4, none⟩) rfl _).setCell (p := ⟨g, i * 4 + 1, none⟩) rfl _
      have hmt : Hid (Calls Try.prog 18 #[.int .i64 ((kk : Int) + 1 + 1)] W2 fun e w' => e = .returned (.string (markB (kk + 2))) ∧ Below W2.heap.size W2 w') := by
        have h := markText (kk + 2) W2 (by omega)
        exact h
      -- the cells of the row behind the two stores
      have e0 : W2.cell? ⟨g, i * 4, none⟩ = some (.int .i64 ((kk : Nat) : Int)) := by rw [← hW2, set_far (by omega), ← hW1]; exact hR.put (by omega) _
      have e1 : W2.cell? ⟨g, i * 4 + 1, none⟩ = some (.int .i64 ((kk : Int) + 1)) := by rw [← hW2]; exact hR1.put (by omega) _
      have e3 : W2.cell? ⟨g, i * 4 + 3, none⟩ = some (.slice x.base x.kids.length x.cap) := by rw [← hW2, set_far (by omega), ← hW1, set_far (by omega)]; exact hc.c3
      have hoth : ∀ (o : Nat), (o < i * 4 ∨ i * 4 + 3 ≤ o) → W2.cell? ⟨g, o, none⟩ = wr.cell? ⟨g, o, none⟩ := by
        intro o ho
        rw [← hW2, set_far (by omega), ← hW1, set_far (by omega)]
      subst ha
      go_wp2_with fail
      go_at_call 18
      refine hmt.out.mono ?_
      rintro e w3 ⟨rfl, hB3⟩
      clear r0 f0 r1 f1 hW1 hW2 hmt
      have hg2 : g < W2.heap.size := hR2.lt
      have hR3 := hR2.of_block (hB3.block _ hR2.lt)
      obtain ⟨v2, r2⟩ := hR3.cell (o := i * 4 + 2) (by omega)
      have f2 := hR3.frozen (i * 4 + 2)
      obtain ⟨W4, hW4⟩ : ∃ W4, w3.setCell ⟨g, i * 4 + 2, none⟩ (.string (markB (kk + 2))) = W4 := ⟨_, rfl⟩
      have hR4 : RowAt W4 g N 38 := by rw [← hW4]; exact hR3.set _ _
      have hK4 : Kept (fun b => b = g) wr W4 := by rw [← hW4]; exact (hK2.trans (Kept.of_new _ hB3)).setCell (p := ⟨g, i * 4 + 2, none⟩) rfl _
      have m0 : W4.cell? ⟨g, i * 4, none⟩ = some (.int .i64 ((kk : Nat) : Int)) := by rw [← hW4, set_far (by omega)]; exact below_cell hB3 e0 hg2
      have m1 : W4.cell? ⟨g, i * 4 + 1, none⟩ = some (.int .i64 ((kk : Int) + 1)) := by rw [← hW4, set_far (by omega)]; exact below_cell hB3 e1 hg2
      have m2 : W4.cell? ⟨g, i * 4 + 2, none⟩ = some (.string (markB (kk + 2))) := by rw [← hW4]; exact hR3.put (by omega) _
      have m3 : W4.cell? ⟨g, i * 4 + 3, none⟩ = some (.slice x.base x.kids.length x.cap) := by rw [← hW4, set_far (by omega)]; exact below_cell hB3 e3 hg2
      have hoth4 : ∀ (o : Nat), (o < i * 4 ∨ i * 4 + 3 ≤ o) → W4.cell? ⟨g, o, none⟩ = wr.cell? ⟨g, o, none⟩ := by
        intro o ho
        rw [← hW4, set_far (by omega), hB3.cell (by dsimp only; omega)]
        exact hoth o ho
      have hzr := hK.size
      have hz4 := hK4.size
      have hO4 : OwnR W4 (l i) (h i) x.base x.kids := hO.mono (fun b q1 q2 => hK4.block b (by omega) (fun e => by omega))
      have hcall := ih'.out (XT.sizeAll x.kids) (by omega) x.kids (Nat.le_refl _) (by omega) (l i) (h i) x.base x.cap (kk + 3) W4 hO4 (by omega) (by omega)
      have hcallH : Hid (Calls Try.prog 19 #[.slice x.base x.kids.length x.cap, .int .i64 ((kk : Int) + 1 + 1 + 1)] W4 fun e w' => e = .returned (.int .i64 ((kk + 3 + 3 * XT.sizeAll x.kids : Nat) : Int)) ∧ OwnR w' (l i) (h i) x.base (XT.markL x.kids (kk + 3)) ∧ Kept (fun b => l i ≤ b ∧ b < h i) W4 w') := hcall
      clear hcall
      go_wp2_with fail
      go_at_call 19
      refine hcallH.out.mono ?_
      rintro e w5 ⟨rfl, hO5, hK5⟩
      have hgk : ¬ (l i ≤ g ∧ g < h i) := fun hh => by omega
      have hR5 : RowAt w5 g N 38 := hR4.of_block (hK5.block g hR4.lt hgk)
      have hS5 : Hid (MSt ks g N l h k (i + 1) w5) := by
        have hS1 := hS.out
        refine ⟨fun j y hy => hR5, fun j y hy => ?_, fun j y hy => ?_⟩
        · by_cases hji : j = i
          · subst hji
            rw [hx] at hy
            cases hy
            have hcu : XT.cur ks k (j + 1) j x = x.mark kk := by unfold XT.cur; rw [if_pos (by omega), hkk]
            rw [hcu, XT.mark_eq, Nat.zero_add]
            refine ⟨hK5.cell m0 hgk, hK5.cell m1 hgk, hK5.cell m2 hgk, ?_⟩
            have m3' := hK5.cell m3 hgk
            simpa [XT.kids, XT.base, XT.cap, XT.markL_length] using m3'
          · have hcu : XT.cur ks k (i + 1) j y = XT.cur ks k i j y := by
              unfold XT.cur
              by_cases h1 : j < i
              · rw [if_pos h1, if_pos (by omega)]
              · rw [if_neg h1, if_neg (by omega)]
            rw [hcu]
            have hcj := hS1.cell j y hy
            rw [Nat.zero_add] at hcj ⊢
            exact ⟨hK5.cell ((hoth4 _ (by omega)).trans hcj.c0) hgk, hK5.cell ((hoth4 _ (by omega)).trans hcj.c1) hgk, hK5.cell ((hoth4 _ (by omega)).trans hcj.c2) hgk, hK5.cell ((hoth4 _ (by omega)).trans hcj.c3) hgk⟩
        · by_cases hji : j = i
          · subst hji
            rw [hx] at hy
            cases hy
            have hcu : XT.cur ks k (j + 1) j x = x.mark kk := by unfold XT.cur; rw [if_pos (by omega), hkk]
            rw [hcu, XT.mark_eq]
            exact hO5
          · have hcu : XT.cur ks k (i + 1) j y = XT.cur ks k i j y := by
              unfold XT.cur
              by_cases h1 : j < i
              · rw [if_pos h1, if_pos (by omega)]
              · rw [if_neg h1, if_neg (by omega)]
            rw [hcu]
            have hjl : j < ks.length := (List.getElem?_eq_some_iff.1 hy).1
            have hbj := hboxH.out j hjl
            have hap := hapH.out j i hjl (by omega) hji
            refine (hS1.kid j y hy).mono (fun b q1 q2 => ?_)
            rw [hK5.block b (by omega) (fun hh => by omega)]
            exact hK4.block b (by omega) (fun e => by omega)
      go_wp2
      refine ⟨⟨i + 1, by go_num, congrArg (Value.int IntKind.i64) (by omega), by omega, hS5, ?_⟩, by simp [intOf]; omega⟩
      exact (hK.trans (hK4.mono (fun b _ e => by subst e; exact ⟨hg1, hg2'⟩))).trans (hK5.mono (fun b _ hh => ⟨by omega, by omega⟩))
    · have he : i = len := by omega
      have htk : ks.take i = ks := List.take_of_length_le (by omega)
      rw [htk]
      go_wp2
      go_returns
      refine ⟨rfl, ?_, hK⟩
      have hS1 := hS.out
      refine .mk lo hi a _ g N l h (fun j y hy => ?_) (fun j y hy => ?_) (fun j hj => hboxH.out j (by rw [XT.markL_length] at hj; exact hj)) (fun j j' hj hj' => hapH.out j j' (by rw [XT.markL_length] at hj; exact hj) (by rw [XT.markL_length] at hj'; exact hj')) (fun j y hy => ?_)
      · obtain ⟨x, hx, rfl⟩ := XT.markL_back hy
        obtain ⟨q1, q2, q3, q4, q5⟩ := hrowH.out j x hx
        exact ⟨q1, q2, q3, hS1.row j x hx, by rw [XT.markL_length]; exact q5⟩
      · obtain ⟨x, hx, rfl⟩ := XT.markL_back hy
        have hc := hS1.cell j x hx
        have hj : j < ks.length := (List.getElem?_eq_some_iff.1 hx).1
        unfold XT.cur at hc
        rw [if_pos (by omega)] at hc
        exact hc
      · obtain ⟨x, hx, rfl⟩ := XT.markL_back hy
        have hc := hS1.kid j x hx
        have hj : j < ks.length := (List.getElem?_eq_some_iff.1 hx).1
        unfold XT.cur at hc
        rw [if_pos (by omega)] at hc
        exact hc
set_option maxRecDepth 10000 in
set_option maxHeartbeats 4000000 in
theorem heldE (sz : Nat) : ∀ ks : List XT, XT.sizeAll ks ≤ sz → XT.sizeAll ks ≤ 1152921504606846976 → ∀ (a : Option Addr) (c k : Nat) (ok : Nat → Prop) (w : World), (∀ b, ok b → b < w.heap.size) → ERow ok w a (XT.markL ks k) → (∀ (i : Nat) (y : XT), (XT.markL ks k)[i]? = some y → Lies ok w y) → k + 3 * XT.sizeAll ks ≤ 1152921504606846976 →
    Calls Try.prog 20 #[.slice a ks.length c, .int .i64 k] w fun e w' => e = .returned (.int .i64 ((k + 3 * XT.sizeAll ks : Nat) : Int)) ∧ Below w.heap.size w w' := by
  induction sz using Nat.strongRecOn with
  | _ sz ih =>
  intro ks hsz hlim a c k ok w hok hR hL hk
  have hlen : ks.length ≤ 1152921504606846976 := Nat.le_trans (XT.len_le ks) hlim
  have ih' : Hid (∀ m < sz, ∀ ks : List XT, XT.sizeAll ks ≤ m → XT.sizeAll ks ≤ 1152921504606846976 → ∀ (a : Option Addr) (c k : Nat) (ok : Nat → Prop) (w : World), (∀ b, ok b → b < w.heap.size) → ERow ok w a (XT.markL ks k) → (∀ (i : Nat) (y : XT), (XT.markL ks k)[i]? = some y → Lies ok w y) → k + 3 * XT.sizeAll ks ≤ 1152921504606846976 →
    Calls Try.prog 20 #[.slice a ks.length c, .int .i64 k] w fun e w' => e = .returned (.int .i64 ((k + 3 * XT.sizeAll ks : Nat) : Int)) ∧ Below w.heap.size w w') := ih
  clear ih
  obtain ⟨len, hl⟩ : ∃ len, ks.length = len := ⟨_, rfl⟩
  rw [hl] at hlen ⊢
  have hRH : Hid (ERow ok w a (XT.markL ks k)) := hR
  have hLH : Hid (∀ (i : Nat) (y : XT), (XT.markL ks k)[i]? = some y → Lies ok w y) := hL
  clear hR hL
  go_enter Try.func20, Try.ntmps20
  go_wp2_with fail
  go_loopw [1, 5] (fun v1 v5 wr => ∃ (i : Nat), v5 = .int .i64 i ∧ v1 = .int .i64 ((k + 3 * XT.sizeAll (ks.take i) : Nat) : Int) ∧ i ≤ len ∧ Below w.heap.size w wr) (fun _ v5 _ => len - (intOf v5).toNat)
  case atStart => exact ⟨0, rfl, by simp [XT.sizeAll], by omega, Below.refl _ _⟩
  case round =>
    obtain ⟨i, rfl, rfl, hi', hB⟩ := hrel
    by_cases hlt : i < len
    · obtain ⟨x, hx⟩ : ∃ x, ks[i]? = some x := ⟨_, List.getElem?_eq_getElem (by omega)⟩
      have hy := XT.markL_get ks k i x hx
      have hsn := XT.sizeAll_snoc hx
      have hsl := XT.sizeAll_le ks (i + 1)
      have hse := x.size_eq
      have hsg := XT.size_get hx
      obtain ⟨kk, hkk⟩ : ∃ n, k + 3 * XT.sizeAll (ks.take i) = n := ⟨_, rfl⟩
      rw [hkk] at hy ⊢
      obtain ⟨b, o, ha, hob, hc⟩ := hRH.out i _ hy
      have hd := hc.below hB (hok b hob)
      rw [XT.mark_eq] at hd
      have m0 : wr.cell? ⟨b, o + i * 4, none⟩ = some (.int .i64 ((kk : Nat) : Int)) := hd.c0
      have m1 : wr.cell? ⟨b, o + i * 4 + 1, none⟩ = some (.int .i64 ((kk : Int) + 1)) := hd.c1
      have m2 : wr.cell? ⟨b, o + i * 4 + 2, none⟩ = some (.string (markB (kk + 2))) := hd.c2
      have m3 : wr.cell? ⟨b, o + i * 4 + 3, none⟩ = some (.slice x.base x.kids.length x.cap) := by
        have h3 := hd.c3
        simpa [XT.kids, XT.base, XT.cap, XT.markL_length] using h3
      have hLx := (hLH.out i _ hy).under hB hok
      rw [XT.mark_eq] at hLx
      have hokr : ∀ b, ok b → b < wr.heap.size := fun b hb => Nat.lt_of_lt_of_le (hok b hb) hB.size
      subst ha
      haveI : Nonempty (Later wr) := ⟨⟨wr, Below.refl _ _⟩⟩
      have e2 := Later.cell m2
      have hmt : Hid (∀ z : World, Calls Try.prog 18 #[.int .i64 ((kk : Int) + 1 + 1)] z fun e w' => e = .returned (.string (markB (kk + 2))) ∧ Below z.heap.size z w') := fun z => markText (kk + 2) z (by omega)
      have hcall : Hid (∀ z, Below wr.heap.size wr z → Calls Try.prog 20 #[.slice x.base x.kids.length x.cap, .int .i64 ((kk : Int) + 1 + 1 + 1)] z fun e w' => e = .returned (.int .i64 ((kk + 3 + 3 * XT.sizeAll x.kids : Nat) : Int)) ∧ Below z.heap.size z w') := fun z hz =>
        ih'.out (XT.sizeAll x.kids) (by omega) x.kids (Nat.le_refl _) (by omega) x.base x.cap (kk + 3) ok z (fun b hb => Nat.lt_of_lt_of_le (hokr b hb) hz.size) (fun j y hj => by
          obtain ⟨b', o', q1, q2, q3⟩ := hLx.cells j y hj
          exact ⟨b', o', q1, q2, q3.below hz (hokr b' q2)⟩) (fun j y hj => (hLx.kid j y hj).under hz hokr) (by omega)
      go_wp2_with fail
      go_cut [37] (fun v wx => v = .bool false ∧ Below wr.heap.size wr wx)
      case first =>
        refine region_class (fun w' => ∃ z : Later wr, w' = z.at) (by kernel_rfl) (by kernel_rfl) ⟨⟨_, (Below.refl _ _).drew⟩, rfl⟩ ?_
        repeat (go_big_quiet_step ((go_at_call 18; refine (hmt.out _).mono ?_; rintro e w2 ⟨rfl, hb⟩; exact ⟨rfl, ⟨_, bstep (Later.below _) hb⟩, rfl⟩)))
        refine wpQuiet_nil ?_
        rintro w' ⟨z, rfl⟩
        go_wp2_with fail
        go_meet
        case rel => exact ⟨rfl, Later.below z⟩
      case rest =>
        obtain ⟨hv, hbx⟩ := hcut
        subst hv
        have n3 := below_cell hbx m3 (World.block_lt_of_cell? wr _ m3)
        clear m0 m1 m2 m3
        go_wp2_with fail
        go_at_call 20
        refine (hcall.out _ hbx).mono ?_
        rintro e w5 ⟨rfl, hb5⟩
        go_wp2
        all_goals first | (exfalso; omega) | skip
        refine ⟨⟨i + 1, by go_num, congrArg (Value.int IntKind.i64) (by omega), by omega, bstep (hB.trans (hbx.mono hB.size)) hb5⟩, by simp [intOf]; omega⟩
    · have he : i = len := by omega
      have htk : ks.take i = ks := List.take_of_length_le (by omega)
      rw [htk]
      go_wp2
      go_returns
      exact ⟨rfl, hB⟩
end Go.Proofs.Ytomdbaokidphjaa
