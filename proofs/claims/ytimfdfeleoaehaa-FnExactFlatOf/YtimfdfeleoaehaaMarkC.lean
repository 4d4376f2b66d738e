/-
  Lists of expressions that own their memory; what the law writes into them.
  Lists of statements that own their memory, and one of them while it is written.
  What the law writes into a list of statements that owns its memory.
-/
import Derived.Test.YtimfdfeleoaehaaTextD
import Derived.Test.YtimfdfeleoaehaaHoldA
import Derived.Test.YtimfdfeleoaehaaStmtC
namespace Go.Proofs.Ytimfdfeleoaehaa
open Go.RowKit Go.Shelf
set_option linter.unusedSimpArgs false
set_option linter.unusedVariables false
attribute [local go_sem] Oper.semAt_some

mutual
def XT.mark : XT → Nat → XT
  | .mk _ _ _ a c ks, k => .mk ((k : Nat) : Int) ((k + 1 : Nat) : Int) (markB (k + 2)) a c (XT.markL ks (k + 3))
def XT.markL : List XT → Nat → List XT
  | [], _ => []
  | t :: ts, k => XT.mark t k :: XT.markL ts (k + 3 * XT.size t)
end
theorem XT.mark_eq (t : XT) (k : Nat) : t.mark k = .mk ((k : Nat) : Int) ((k + 1 : Nat) : Int) (markB (k + 2)) t.base t.cap (XT.markL t.kids (k + 3)) := by cases t; rw [XT.mark]; rfl
theorem XT.markL_length : ∀ (ks : List XT) (k : Nat), (XT.markL ks k).length = ks.length
  | [], _ => by rw [XT.markL]
  | t :: ts, k => by rw [XT.markL, List.length_cons, List.length_cons, XT.markL_length ts]
theorem XT.markL_get : ∀ (ks : List XT) (k i : Nat) (x : XT), ks[i]? = some x → (XT.markL ks k)[i]? = some (x.mark (k + 3 * XT.sizeAll (ks.take i)))
  | [], _, _, _, h => by simp at h
  | t :: ts, k, 0, x, h => by
    simp at h
    subst h
    simp [XT.markL, XT.sizeAll]
  | t :: ts, k, i + 1, x, h => by
    have h1 := XT.markL_get ts (k + 3 * t.size) i x (by simpa using h)
    rw [XT.markL, List.getElem?_cons_succ, h1, List.take_succ_cons, XT.sizeAll]
    congr 2
    omega
theorem XT.markL_back {ks : List XT} {k i : Nat} {y : XT} (h : (XT.markL ks k)[i]? = some y) : ∃ x, ks[i]? = some x ∧ y = x.mark (k + 3 * XT.sizeAll (ks.take i)) := by
  have hi : i < ks.length := by have := (List.getElem?_eq_some_iff.1 h).1; rw [XT.markL_length] at this; exact this
  refine ⟨_, List.getElem?_eq_getElem hi, ?_⟩
  rw [XT.markL_get ks k i _ (List.getElem?_eq_getElem hi)] at h
  exact (Option.some.inj h).symm
theorem XT.sizeAll_snoc {ks : List XT} {i : Nat} {t : XT} (h : ks[i]? = some t) : XT.sizeAll (ks.take (i + 1)) = XT.sizeAll (ks.take i) + t.size := by
  have ha : ∀ us bs : List XT, XT.sizeAll (us ++ bs) = XT.sizeAll us + XT.sizeAll bs := by
    intro us bs
    induction us with
    | nil => simp [XT.sizeAll]
    | cons x xs ih => simp [XT.sizeAll, ih]; omega
  rw [List.take_add_one, h, ha]
  simp [XT.sizeAll]
theorem XT.sizeAll_le (ks : List XT) (i : Nat) : XT.sizeAll (ks.take i) ≤ XT.sizeAll ks := by
  induction ks generalizing i with
  | nil => simp
  | cons x xs ih =>
    cases i with
    | zero => simp [XT.sizeAll]
    | succ i => have := ih i; simp [XT.sizeAll]; omega

theorem XT.len_le (ks : List XT) : ks.length ≤ XT.sizeAll ks := by
  induction ks with
  | nil => simp
  | cons x xs ih => have := XT.size_eq x; simp [XT.sizeAll]; omega
/-- A list of expressions in a block of its own, what is within each in an interval of blocks of its own. -/
inductive OwnR (W : World) : Nat → Nat → Option Addr → List XT → Prop
  | mk (lo hi : Nat) (a : Option Addr) (ks : List XT) (g N : Nat) (l h : Nat → Nat)
      (row : ∀ (i : Nat) (k : XT), ks[i]? = some k → a = some ⟨g, 0, none⟩ ∧ lo ≤ g ∧ g < hi ∧ RowAt W g N 48 ∧ ks.length * 4 ≤ N)
      (cell : ∀ (i : Nat) (k : XT), ks[i]? = some k → Cells4 W g (0 + i * 4) k)
      (box : ∀ (i : Nat), i < ks.length → lo ≤ l i ∧ h i ≤ hi ∧ (g < l i ∨ h i ≤ g))
      (apart : ∀ (i j : Nat), i < ks.length → j < ks.length → i ≠ j → h i ≤ l j ∨ h j ≤ l i)
      (kid : ∀ (i : Nat) (k : XT), ks[i]? = some k → OwnR W (l i) (h i) k.base k.kids) : OwnR W lo hi a ks
theorem OwnR.mono {A B : World} {lo hi : Nat} {a : Option Addr} {ks : List XT} (h : OwnR A lo hi a ks) : (∀ b, lo ≤ b → b < hi → B.heap[b]? = A.heap[b]?) → OwnR B lo hi a ks := by
  induction h with
  | mk lo hi a ks g N l h row cell box apart kid ih =>
    intro hb
    refine .mk lo hi a ks g N l h (fun i k hk => ?_) (fun i k hk => ?_) box apart (fun i k hk => ih i k hk (fun b h1 h2 => hb b ?_ ?_))
    · obtain ⟨r1, r2, r3, r4, r5⟩ := row i k hk
      exact ⟨r1, r2, r3, r4.of_block (hb g r2 r3), r5⟩
    · obtain ⟨r1, r2, r3, r4, r5⟩ := row i k hk
      have hc := cell i k hk
      have he := hb g r2 r3
      exact ⟨(cell_of_block (a := ⟨g, _, none⟩) he).trans hc.c0, (cell_of_block (a := ⟨g, _, none⟩) he).trans hc.c1, (cell_of_block (a := ⟨g, _, none⟩) he).trans hc.c2, (cell_of_block (a := ⟨g, _, none⟩) he).trans hc.c3⟩
    · have := (box i (List.getElem?_eq_some_iff.1 hk).1).1; omega
    · have := (box i (List.getElem?_eq_some_iff.1 hk).1).2.1; omega
theorem OwnR.parts {W : World} {lo hi : Nat} {a : Option Addr} {ks : List XT} (h : OwnR W lo hi a ks) : ∃ (g N : Nat) (l h : Nat → Nat), (∀ (i : Nat) (k : XT), ks[i]? = some k → a = some ⟨g, 0, none⟩ ∧ lo ≤ g ∧ g < hi ∧ RowAt W g N 48 ∧ ks.length * 4 ≤ N) ∧
    (∀ (i : Nat) (k : XT), ks[i]? = some k → Cells4 W g (0 + i * 4) k) ∧ (∀ (i : Nat), i < ks.length → lo ≤ l i ∧ h i ≤ hi ∧ (g < l i ∨ h i ≤ g)) ∧ (∀ (i j : Nat), i < ks.length → j < ks.length → i ≠ j → h i ≤ l j ∨ h j ≤ l i) ∧ (∀ (i : Nat) (k : XT), ks[i]? = some k → OwnR W (l i) (h i) k.base k.kids) := by
  cases h with
  | mk _ _ _ _ g N l h row cell box apart kid => exact ⟨g, N, l, h, row, cell, box, apart, kid⟩
theorem OwnR.wide {W : World} {lo hi lo' hi' : Nat} {a : Option Addr} {ks : List XT} (h : OwnR W lo hi a ks) (h1 : lo' ≤ lo) (h2 : hi ≤ hi') : OwnR W lo' hi' a ks := by
  cases h with
  | mk _ _ _ _ g N l h row cell box apart kid =>
    refine .mk lo' hi' a ks g N l h (fun i k hk => ?_) cell (fun i hi => ?_) apart kid
    · obtain ⟨r1, r2, r3, r4, r5⟩ := row i k hk
      exact ⟨r1, by omega, by omega, r4, r5⟩
    · obtain ⟨b1, b2, b3⟩ := box i hi
      exact ⟨by omega, by omega, b3⟩
theorem OwnR.lies {W : World} {lo hi : Nat} {a : Option Addr} {ks : List XT} (h : OwnR W lo hi a ks) : ERow (fun b => lo ≤ b ∧ b < hi) W a ks ∧ ∀ (i : Nat) (k : XT), ks[i]? = some k → Lies (fun b => lo ≤ b ∧ b < hi) W k := by
  induction h with
  | mk lo hi a ks g N l h row cell box apart kid ih =>
    refine ⟨fun i k hk => ?_, fun i k hk => ?_⟩
    · obtain ⟨r1, r2, r3, r4, r5⟩ := row i k hk
      exact ⟨g, 0, r1, ⟨r2, r3⟩, cell i k hk⟩
    · obtain ⟨b1, b2, b3⟩ := box i (List.getElem?_eq_some_iff.1 hk).1
      obtain ⟨q1, q2⟩ := ih i k hk
      refine .mk k (fun j y hy => ?_) (fun j y hy => ?_)
      · obtain ⟨b, o, e1, e2, e3⟩ := q1 j y hy
        exact ⟨b, o, e1, ⟨by omega, by omega⟩, e3⟩
      · exact (q2 j y hy).mono (fun b hb _ => ⟨⟨by omega, by omega⟩, rfl⟩)
def XT.cur (ks : List XT) (k i j : Nat) (x : XT) : XT := if j < i then x.mark (k + 3 * XT.sizeAll (ks.take j)) else x
theorem XT.cur_heads (ks : List XT) (k i j : Nat) (x : XT) : (XT.cur ks k i j x).base = x.base ∧ (XT.cur ks k i j x).cap = x.cap ∧ (XT.cur ks k i j x).kids.length = x.kids.length := by
  unfold XT.cur
  split
  · rw [XT.mark_eq]
    exact ⟨rfl, rfl, XT.markL_length _ _⟩
  · exact ⟨rfl, rfl, rfl⟩
structure MSt (ks : List XT) (g N : Nat) (l h : Nat → Nat) (k i : Nat) (W : World) : Prop where
  row : ∀ (j : Nat) (x : XT), ks[j]? = some x → RowAt W g N 48
  cell : ∀ (j : Nat) (x : XT), ks[j]? = some x → Cells4 W g (0 + j * 4) (XT.cur ks k i j x)
  kid : ∀ (j : Nat) (x : XT), ks[j]? = some x → OwnR W (l j) (h j) (XT.cur ks k i j x).base (XT.cur ks k i j x).kids

set_option maxRecDepth 10000 in
set_option maxHeartbeats 4000000 in
theorem markE (sz : Nat) : ∀ ks : List XT, XT.sizeAll ks ≤ sz → XT.sizeAll ks ≤ 1152921504606846976 → ∀ (lo hi : Nat) (a : Option Addr) (c k : Nat) (w : World), OwnR w lo hi a ks → hi ≤ w.heap.size → k + 3 * XT.sizeAll ks ≤ 1152921504606846976 →
    Calls Try.prog 35 #[.slice a ks.length c, .int .i64 k] w fun e w' => e = .returned (.int .i64 ((k + 3 * XT.sizeAll ks : Nat) : Int)) ∧ OwnR w' lo hi a (XT.markL ks k) ∧ Kept (fun b => lo ≤ b ∧ b < hi) w w' := by
  induction sz using Nat.strongRecOn with
  | _ sz ih =>
  intro ks hsz hlim lo hi a c k w hO hhi hk
  have hlen : ks.length ≤ 1152921504606846976 := Nat.le_trans (XT.len_le ks) hlim
  have ih' : Hid (∀ m < sz, ∀ ks : List XT, XT.sizeAll ks ≤ m → XT.sizeAll ks ≤ 1152921504606846976 → ∀ (lo hi : Nat) (a : Option Addr) (c k : Nat) (w : World), OwnR w lo hi a ks → hi ≤ w.heap.size → k + 3 * XT.sizeAll ks ≤ 1152921504606846976 →
    Calls Try.prog 35 #[.slice a ks.length c, .int .i64 k] w fun e w' => e = .returned (.int .i64 ((k + 3 * XT.sizeAll ks : Nat) : Int)) ∧ OwnR w' lo hi a (XT.markL ks k) ∧ Kept (fun b => lo ≤ b ∧ b < hi) w w') := ih
  clear ih
  obtain ⟨g, N, l, h, row, cell, box, apart, kid⟩ := hO.parts
  clear hO
  obtain ⟨len, hl⟩ : ∃ len, ks.length = len := ⟨_, rfl⟩
  have hS0 : MSt ks g N l h k 0 w := ⟨fun j x hx => (row j x hx).2.2.2.1, fun j x hx => by simpa [XT.cur] using cell j x hx, fun j x hx => by simpa [XT.cur] using kid j x hx⟩
  have hrowH : Hid (∀ (i : Nat) (k : XT), ks[i]? = some k → a = some ⟨g, 0, none⟩ ∧ lo ≤ g ∧ g < hi ∧ RowAt w g N 48 ∧ ks.length * 4 ≤ N) := row
  have hboxH : Hid (∀ (i : Nat), i < ks.length → lo ≤ l i ∧ h i ≤ hi ∧ (g < l i ∨ h i ≤ g)) := box
  have hapH : Hid (∀ (i j : Nat), i < ks.length → j < ks.length → i ≠ j → h i ≤ l j ∨ h j ≤ l i) := apart
  clear row cell box apart kid
  rw [hl] at hlen ⊢
  go_enter Try.func35, Try.ntmps35
  go_wp2_with fail
  go_loopw [1, 5] (fun v1 v5 wr => ∃ (i : Nat), v5 = .int .i64 i ∧ v1 = .int .i64 ((k + 3 * XT.sizeAll (ks.take i) : Nat) : Int) ∧ i ≤ len ∧ Hid (MSt ks g N l h k i wr) ∧ Kept (fun b => lo ≤ b ∧ b < hi) w wr) (fun _ v5 _ => len - (intOf v5).toNat)
  case atStart => exact ⟨0, rfl, by simp [XT.sizeAll], by omega, hS0, Kept.refl _ _⟩
  case round =>
    obtain ⟨i, rfl, rfl, hi', hS, hK⟩ := hrel
    by_cases hlt : i < len
    · obtain ⟨x, hx⟩ : ∃ x, ks[i]? = some x := ⟨_, List.getElem?_eq_getElem (by omega)⟩
      obtain ⟨ha, hg1, hg2', -, hN⟩ := hrowH.out i x hx
      obtain ⟨b1, b2, b3⟩ := hboxH.out i (by omega)
      have hR := hS.out.row i x hx
      have hc := hS.out.cell i x hx
      have hO := hS.out.kid i x hx
      have hcur : XT.cur ks k i i x = x := by simp [XT.cur]
      rw [hcur] at hc hO
      rw [Nat.zero_add] at hc
      have hsn := XT.sizeAll_snoc hx
      have hsl := XT.sizeAll_le ks (i + 1)
      have hse := x.size_eq
      have hxl := x.length_le
      obtain ⟨kk, hkk⟩ : ∃ n, k + 3 * XT.sizeAll (ks.take i) = n := ⟨_, rfl⟩
      have hsg := XT.size_get hx
      rw [hkk]
      have hgw : g < wr.heap.size := hR.lt
      -- the three stores
      obtain ⟨v0, r0⟩ := hR.cell (o := i * 4) (by omega)
      have f0 := hR.frozen (i * 4)
      obtain ⟨W1, hW1⟩ : ∃ W1, wr.setCell ⟨g, i * 4, none⟩ (.int .i64 ((kk : Nat) : Int)) = W1 := ⟨_, rfl⟩
      have hR1 : RowAt W1 g N 48 := by rw [← hW1]; exact hR.set _ _
      obtain ⟨v1, r1⟩ := hR1.cell (o := i * 4 + 1) (by omega)
      have f1 := hR1.frozen (i * 4 + 1)
      obtain ⟨W2, hW2⟩ : ∃ W2, W1.setCell ⟨g, i * 4 + 1, none⟩ (.int .i64 ((kk : Int) + 1)) = W2 := ⟨_, rfl⟩
      have hR2 : RowAt W2 g N 48 := by rw [← hW2]; exact hR1.set _ _
      have hK2 : Kept (fun b => b = g) wr W2 := by rw [← hW2, ← hW1]; exact ((Kept.refl (fun b => b = g) wr).setCell (p := ⟨g, i * 4, none⟩) rfl _).setCell (p := ⟨g, i * 4 + 1, none⟩) rfl _
      have hmt : Hid (Calls Try.prog 34 #[.int .i64 ((kk : Int) + 1 + 1)] W2 fun e w' => e = .returned (.string (markB (kk + 2))) ∧ Below W2.heap.size W2 w') := by
        have h := markText (kk + 2) W2 (by omega)
        exact h
      -- the cells of the row behind the two stores
      have e0 : W2.cell? ⟨g, i * 4, none⟩ = some (.int .i64 ((kk : Nat) : Int)) := by rw [← hW2, set_far (by omega), ← hW1]; exact hR.put (by omega) _
      have e1 : W2.cell? ⟨g, i * 4 + 1, none⟩ = some (.int .i64 ((kk : Int) + 1)) := by rw [← hW2]; exact hR1.put (by omega) _
      have e3 : W2.cell? ⟨g, i * 4 + 3, none⟩ = some (.slice x.base x.kids.length x.cap) := by rw [← hW2, set_far (by omega), ← hW1, set_far (by omega)]; exact hc.c3
      have hoth : ∀ (o : Nat), (o < i * 4 ∨ i * 4 + 3 ≤ o) → W2.cell? ⟨g, o, none⟩ = wr.cell? ⟨g, o, none⟩ := by
        intro o ho
        rw [← hW2, set_far (by omega), ← hW1, set_far (by omega)]
      subst ha
      go_wp2_with fail
      go_at_call 34
      refine hmt.out.mono ?_
      rintro e w3 ⟨rfl, hB3⟩
      clear r0 f0 r1 f1 hW1 hW2 hmt
      have hg2 : g < W2.heap.size := hR2.lt
      have hR3 := hR2.of_block (hB3.block _ hR2.lt)
      obtain ⟨v2, r2⟩ := hR3.cell (o := i * 4 + 2) (by omega)
      have f2 := hR3.frozen (i * 4 + 2)
      obtain ⟨W4, hW4⟩ : ∃ W4, w3.setCell ⟨g, i * 4 + 2, none⟩ (.string (markB (kk + 2))) = W4 := ⟨_, rfl⟩
      have hR4 : RowAt W4 g N 48 := by rw [← hW4]; exact hR3.set _ _
      have hK4 : Kept (fun b => b = g) wr W4 := by rw [← hW4]; exact (hK2.trans (Kept.of_new _ hB3)).setCell (p := ⟨g, i * 4 + 2, none⟩) rfl _
      have m0 : W4.cell? ⟨g, i * 4, none⟩ = some (.int .i64 ((kk : Nat) : Int)) := by rw [← hW4, set_far (by omega)]; exact below_cell hB3 e0 hg2
      have m1 : W4.cell? ⟨g, i * 4 + 1, none⟩ = some (.int .i64 ((kk : Int) + 1)) := by rw [← hW4, set_far (by omega)]; exact below_cell hB3 e1 hg2
      have m2 : W4.cell? ⟨g, i * 4 + 2, none⟩ = some (.string (markB (kk + 2))) := by rw [← hW4]; exact hR3.put (by omega) _
      have m3 : W4.cell? ⟨g, i * 4 + 3, none⟩ = some (.slice x.base x.kids.length x.cap) := by rw [← hW4, set_far (by omega)]; exact below_cell hB3 e3 hg2
      have hoth4 : ∀ (o : Nat), (o < i * 4 ∨ i * 4 + 3 ≤ o) → W4.cell? ⟨g, o, none⟩ = wr.cell? ⟨g, o, none⟩ := by
        intro o ho
        rw [← hW4, set_far (by omega), hB3.cell (by dsimp only; omega)]
        exact hoth o ho
      have hzr := hK.size
      have hz4 := hK4.size
      have hO4 : OwnR W4 (l i) (h i) x.base x.kids := hO.mono (fun b q1 q2 => hK4.block b (by omega) (fun e => by omega))
      have hcall := ih'.out (XT.sizeAll x.kids) (by omega) x.kids (Nat.le_refl _) (by omega) (l i) (h i) x.base x.cap (kk + 3) W4 hO4 (by omega) (by omega)
      have hcallH : Hid (Calls Try.prog 35 #[.slice x.base x.kids.length x.cap, .int .i64 ((kk : Int) + 1 + 1 + 1)] W4 fun e w' => e = .returned (.int .i64 ((kk + 3 + 3 * XT.sizeAll x.kids : Nat) : Int)) ∧ OwnR w' (l i) (h i) x.base (XT.markL x.kids (kk + 3)) ∧ Kept (fun b => l i ≤ b ∧ b < h i) W4 w') := hcall
      clear hcall
      go_wp2_with fail
      go_at_call 35
      refine hcallH.out.mono ?_
      rintro e w5 ⟨rfl, hO5, hK5⟩
      have hgk : ¬ (l i ≤ g ∧ g < h i) := fun hh => by omega
      have hR5 : RowAt w5 g N 48 := hR4.of_block (hK5.block g hR4.lt hgk)
      have hS5 : Hid (MSt ks g N l h k (i + 1) w5) := by
        have hS1 := hS.out
        refine ⟨fun j y hy => hR5, fun j y hy => ?_, fun j y hy => ?_⟩
        · by_cases hji : j = i
          · subst hji
            rw [hx] at hy
            cases hy
            have hcu : XT.cur ks k (j + 1) j x = x.mark kk := by unfold XT.cur; rw [if_pos (by omega), hkk]
            rw [hcu, XT.mark_eq, Nat.zero_add]
            refine ⟨hK5.cell m0 hgk, hK5.cell m1 hgk, hK5.cell m2 hgk, ?_⟩
            have m3' := hK5.cell m3 hgk
            simpa [XT.kids, XT.base, XT.cap, XT.markL_length] using m3'
          · have hcu : XT.cur ks k (i + 1) j y = XT.cur ks k i j y := by
              unfold XT.cur
              by_cases h1 : j < i
              · rw [if_pos h1, if_pos (by omega)]
              · rw [if_neg h1, if_neg (by omega)]
            rw [hcu]
            have hcj := hS1.cell j y hy
            rw [Nat.zero_add] at hcj ⊢
            exact ⟨hK5.cell ((hoth4 _ (by omega)).trans hcj.c0) hgk, hK5.cell ((hoth4 _ (by omega)).trans hcj.c1) hgk, hK5.cell ((hoth4 _ (by omega)).trans hcj.c2) hgk, hK5.cell ((hoth4 _ (by omega)).trans hcj.c3) hgk⟩
        · by_cases hji : j = i
          · subst hji
            rw [hx] at hy
            cases hy
            have hcu : XT.cur ks k (j + 1) j x = x.mark kk := by unfold XT.cur; rw [if_pos (by omega), hkk]
            rw [hcu, XT.mark_eq]
            exact hO5
          · have hcu : XT.cur ks k (i + 1) j y = XT.cur ks k i j y := by
              unfold XT.cur
              by_cases h1 : j < i
              · rw [if_pos h1, if_pos (by omega)]
              · rw [if_neg h1, if_neg (by omega)]
            rw [hcu]
            have hjl : j < ks.length := (List.getElem?_eq_some_iff.1 hy).1
            have hbj := hboxH.out j hjl
            have hap := hapH.out j i hjl (by omega) hji
            refine (hS1.kid j y hy).mono (fun b q1 q2 => ?_)
            rw [hK5.block b (by omega) (fun hh => by omega)]
            exact hK4.block b (by omega) (fun e => by omega)
      go_wp2
      refine ⟨⟨i + 1, by go_num, congrArg (Value.int IntKind.i64) (by omega), by omega, hS5, ?_⟩, by simp [intOf]; omega⟩
      exact (hK.trans (hK4.mono (fun b _ e => by subst e; exact ⟨hg1, hg2'⟩))).trans (hK5.mono (fun b _ hh => ⟨by omega, by omega⟩))
    · have he : i = len := by omega
      have htk : ks.take i = ks := List.take_of_length_le (by omega)
      rw [htk]
      go_wp2
      go_returns
      refine ⟨rfl, ?_, hK⟩
      have hS1 := hS.out
      refine .mk lo hi a _ g N l h (fun j y hy => ?_) (fun j y hy => ?_) (fun j hj => hboxH.out j (by rw [XT.markL_length] at hj; exact hj)) (fun j j' hj hj' => hapH.out j j' (by rw [XT.markL_length] at hj; exact hj) (by rw [XT.markL_length] at hj'; exact hj')) (fun j y hy => ?_)
      · obtain ⟨x, hx, rfl⟩ := XT.markL_back hy
        obtain ⟨q1, q2, q3, q4, q5⟩ := hrowH.out j x hx
        exact ⟨q1, q2, q3, hS1.row j x hx, by rw [XT.markL_length]; exact q5⟩
      · obtain ⟨x, hx, rfl⟩ := XT.markL_back hy
        have hc := hS1.cell j x hx
        have hj : j < ks.length := (List.getElem?_eq_some_iff.1 hx).1
        unfold XT.cur at hc
        rw [if_pos (by omega)] at hc
        exact hc
      · obtain ⟨x, hx, rfl⟩ := XT.markL_back hy
        have hc := hS1.kid j x hx
        have hj : j < ks.length := (List.getElem?_eq_some_iff.1 hx).1
        unfold XT.cur at hc
        rw [if_pos (by omega)] at hc
        exact hc
set_option maxRecDepth 10000 in
set_option maxHeartbeats 4000000 in
theorem heldE (sz : Nat) : ∀ ks : List XT, XT.sizeAll ks ≤ sz → XT.sizeAll ks ≤ 1152921504606846976 → ∀ (a : Option Addr) (c k : Nat) (ok : Nat → Prop) (w : World), (∀ b, ok b → b < w.heap.size) → ERow ok w a (XT.markL ks k) → (∀ (i : Nat) (y : XT), (XT.markL ks k)[i]? = some y → Lies ok w y) → k + 3 * XT.sizeAll ks ≤ 1152921504606846976 →
    Calls Try.prog 36 #[.slice a ks.length c, .int .i64 k] w fun e w' => e = .returned (.int .i64 ((k + 3 * XT.sizeAll ks : Nat) : Int)) ∧ Below w.heap.size w w' := by
  induction sz using Nat.strongRecOn with
  | _ sz ih =>
  intro ks hsz hlim a c k ok w hok hR hL hk
  have hlen : ks.length ≤ 1152921504606846976 := Nat.le_trans (XT.len_le ks) hlim
  have ih' : Hid (∀ m < sz, ∀ ks : List XT, XT.sizeAll ks ≤ m → XT.sizeAll ks ≤ 1152921504606846976 → ∀ (a : Option Addr) (c k : Nat) (ok : Nat → Prop) (w : World), (∀ b, ok b → b < w.heap.size) → ERow ok w a (XT.markL ks k) → (∀ (i : Nat) (y : XT), (XT.markL ks k)[i]? = some y → Lies ok w y) → k + 3 * XT.sizeAll ks ≤ 1152921504606846976 →
    Calls Try.prog 36 #[.slice a ks.length c, .int .i64 k] w fun e w' => e = .returned (.int .i64 ((k + 3 * XT.sizeAll ks : Nat) : Int)) ∧ Below w.heap.size w w') := ih
  clear ih
  obtain ⟨len, hl⟩ : ∃ len, ks.length = len := ⟨_, rfl⟩
  rw [hl] at hlen ⊢
  have hRH : Hid (ERow ok w a (XT.markL ks k)) := hR
  have hLH : Hid (∀ (i : Nat) (y : XT), (XT.markL ks k)[i]? = some y → Lies ok w y) := hL
  clear hR hL
  go_enter Try.func36, Try.ntmps36
  go_wp2_with fail
  go_loopw [1, 5] (fun v1 v5 wr => ∃ (i : Nat), v5 = .int .i64 i ∧ v1 = .int .i64 ((k + 3 * XT.sizeAll (ks.take i) : Nat) : Int) ∧ i ≤ len ∧ Below w.heap.size w wr) (fun _ v5 _ => len - (intOf v5).toNat)
  case atStart => exact ⟨0, rfl, by simp [XT.sizeAll], by omega, Below.refl _ _⟩
  case round =>
    obtain ⟨i, rfl, rfl, hi', hB⟩ := hrel
    by_cases hlt : i < len
    · obtain ⟨x, hx⟩ : ∃ x, ks[i]? = some x := ⟨_, List.getElem?_eq_getElem (by omega)⟩
      have hy := XT.markL_get ks k i x hx
      have hsn := XT.sizeAll_snoc hx
      have hsl := XT.sizeAll_le ks (i + 1)
      have hse := x.size_eq
      have hsg := XT.size_get hx
      obtain ⟨kk, hkk⟩ : ∃ n, k + 3 * XT.sizeAll (ks.take i) = n := ⟨_, rfl⟩
      rw [hkk] at hy ⊢
      obtain ⟨b, o, ha, hob, hc⟩ := hRH.out i _ hy
      have hd := hc.below hB (hok b hob)
      rw [XT.mark_eq] at hd
      have m0 : wr.cell? ⟨b, o + i * 4, none⟩ = some (.int .i64 ((kk : Nat) : Int)) := hd.c0
      have m1 : wr.cell? ⟨b, o + i * 4 + 1, none⟩ = some (.int .i64 ((kk : Int) + 1)) := hd.c1
      have m2 : wr.cell? ⟨b, o + i * 4 + 2, none⟩ = some (.string (markB (kk + 2))) := hd.c2
      have m3 : wr.cell? ⟨b, o + i * 4 + 3, none⟩ = some (.slice x.base x.kids.length x.cap) := by
        have h3 := hd.c3
        simpa [XT.kids, XT.base, XT.cap, XT.markL_length] using h3
      have hLx := (hLH.out i _ hy).under hB hok
      rw [XT.mark_eq] at hLx
      have hokr : ∀ b, ok b → b < wr.heap.size := fun b hb => Nat.lt_of_lt_of_le (hok b hb) hB.size
      subst ha
      haveI : Nonempty (Later wr) := ⟨⟨wr, Below.refl _ _⟩⟩
      have e2 := Later.cell m2
      have hmt : Hid (∀ z : World, Calls Try.prog 34 #[.int .i64 ((kk : Int) + 1 + 1)] z fun e w' => e = .returned (.string (markB (kk + 2))) ∧ Below z.heap.size z w') := fun z => markText (kk + 2) z (by omega)
      have hcall : Hid (∀ z, Below wr.heap.size wr z → Calls Try.prog 36 #[.slice x.base x.kids.length x.cap, .int .i64 ((kk : Int) + 1 + 1 + 1)] z fun e w' => e = .returned (.int .i64 ((kk + 3 + 3 * XT.sizeAll x.kids : Nat) : Int)) ∧ Below z.heap.size z w') := fun z hz =>
        ih'.out (XT.sizeAll x.kids) (by omega) x.kids (Nat.le_refl _) (by omega) x.base x.cap (kk + 3) ok z (fun b hb => Nat.lt_of_lt_of_le (hokr b hb) hz.size) (fun j y hj => by
          obtain ⟨b', o', q1, q2, q3⟩ := hLx.cells j y hj
          exact ⟨b', o', q1, q2, q3.below hz (hokr b' q2)⟩) (fun j y hj => (hLx.kid j y hj).under hz hokr) (by omega)
      go_wp2_with fail
      go_cut [37] (fun v wx => v = .bool false ∧ Below wr.heap.size wr wx)
      case first =>
        refine region_class (fun w' => ∃ z : Later wr, w' = z.at) (by kernel_rfl) (by kernel_rfl) ⟨⟨_, (Below.refl _ _).drew⟩, rfl⟩ ?_
        repeat (go_big_quiet_step ((go_at_call 34; refine (hmt.out _).mono ?_; rintro e w2 ⟨rfl, hb⟩; exact ⟨rfl, ⟨_, bstep (Later.below _) hb⟩, rfl⟩)))
        refine wpQuiet_nil ?_
        rintro w' ⟨z, rfl⟩
        go_wp2_with fail
        go_meet
        case rel => exact ⟨rfl, Later.below z⟩
      case rest =>
        obtain ⟨hv, hbx⟩ := hcut
        subst hv
        have n3 := below_cell hbx m3 (World.block_lt_of_cell? wr _ m3)
        clear m0 m1 m2 m3
        go_wp2_with fail
        go_at_call 36
        refine (hcall.out _ hbx).mono ?_
        rintro e w5 ⟨rfl, hb5⟩
        go_wp2
        all_goals first | (exfalso; omega) | skip
        refine ⟨⟨i + 1, by go_num, congrArg (Value.int IntKind.i64) (by omega), by omega, bstep (hB.trans (hbx.mono hB.size)) hb5⟩, by simp [intOf]; omega⟩
    · have he : i = len := by omega
      have htk : ks.take i = ks := List.take_of_length_le (by omega)
      rw [htk]
      go_wp2
      go_returns
      exact ⟨rfl, hB⟩
end Go.Proofs.Ytimfdfeleoaehaa
namespace Go.Proofs.Ytimfdfeleoaehaa
open Go.RowKit Go.Shelf
set_option linter.unusedSimpArgs false
set_option linter.unusedVariables false

mutual
def SX.cnt : SX → Nat
  | .mk _ _ e f _ _ la _ _ lb => 8 + 3 * XT.sizeAll e.kids + 3 * XT.sizeAll f.kids + SX.cntL la + SX.cntL lb
def SX.cntL : List SX → Nat
  | [] => 0
  | t :: ts => SX.cnt t + SX.cntL ts
end
theorem SX.cnt_eq (s : SX) : s.cnt = 8 + 3 * XT.sizeAll s.e.kids + 3 * XT.sizeAll s.f.kids + SX.cntL s.la + SX.cntL s.lb := by cases s; rw [SX.cnt]; rfl
mutual
def SX.mark : SX → Nat → SX
  | .mk _ _ e f ab ac la bb bc lb, k => .mk ((k : Nat) : Int) (markB (k + 1)) (.mk ((k + 2 : Nat) : Int) ((k + 3 : Nat) : Int) (markB (k + 4)) e.base e.cap (XT.markL e.kids (k + 5)))
      (.mk ((k + 5 + 3 * XT.sizeAll e.kids : Nat) : Int) ((k + 6 + 3 * XT.sizeAll e.kids : Nat) : Int) (markB (k + 7 + 3 * XT.sizeAll e.kids)) f.base f.cap (XT.markL f.kids (k + 8 + 3 * XT.sizeAll e.kids)))
      ab ac (SX.markL la (k + 8 + 3 * XT.sizeAll e.kids + 3 * XT.sizeAll f.kids)) bb bc (SX.markL lb (k + 8 + 3 * XT.sizeAll e.kids + 3 * XT.sizeAll f.kids + SX.cntL la))
def SX.markL : List SX → Nat → List SX
  | [], _ => []
  | t :: ts, k => SX.mark t k :: SX.markL ts (k + SX.cnt t)
end
theorem SX.mark_eq (s : SX) (k : Nat) : s.mark k = .mk ((k : Nat) : Int) (markB (k + 1)) (.mk ((k + 2 : Nat) : Int) ((k + 3 : Nat) : Int) (markB (k + 4)) s.e.base s.e.cap (XT.markL s.e.kids (k + 5)))
      (.mk ((k + 5 + 3 * XT.sizeAll s.e.kids : Nat) : Int) ((k + 6 + 3 * XT.sizeAll s.e.kids : Nat) : Int) (markB (k + 7 + 3 * XT.sizeAll s.e.kids)) s.f.base s.f.cap (XT.markL s.f.kids (k + 8 + 3 * XT.sizeAll s.e.kids)))
      s.abase s.acap (SX.markL s.la (k + 8 + 3 * XT.sizeAll s.e.kids + 3 * XT.sizeAll s.f.kids)) s.bbase s.bcap (SX.markL s.lb (k + 8 + 3 * XT.sizeAll s.e.kids + 3 * XT.sizeAll s.f.kids + SX.cntL s.la)) := by
  cases s; rw [SX.mark]; rfl
theorem SX.markL_length : ∀ (ks : List SX) (k : Nat), (SX.markL ks k).length = ks.length
  | [], _ => by rw [SX.markL]
  | t :: ts, k => by rw [SX.markL, List.length_cons, List.length_cons, SX.markL_length ts]
theorem SX.markL_get : ∀ (ks : List SX) (k i : Nat) (x : SX), ks[i]? = some x → (SX.markL ks k)[i]? = some (x.mark (k + SX.cntL (ks.take i)))
  | [], _, _, _, h => by simp at h
  | t :: ts, k, 0, x, h => by
    simp at h
    subst h
    simp [SX.markL, SX.cntL]
  | t :: ts, k, i + 1, x, h => by
    have h1 := SX.markL_get ts (k + t.cnt) i x (by simpa using h)
    rw [SX.markL, List.getElem?_cons_succ, h1, List.take_succ_cons, SX.cntL]
    congr 2
    omega
theorem SX.markL_back {ks : List SX} {k i : Nat} {y : SX} (h : (SX.markL ks k)[i]? = some y) : ∃ x, ks[i]? = some x ∧ y = x.mark (k + SX.cntL (ks.take i)) := by
  have hi : i < ks.length := by have := (List.getElem?_eq_some_iff.1 h).1; rw [SX.markL_length] at this; exact this
  refine ⟨_, List.getElem?_eq_getElem hi, ?_⟩
  rw [SX.markL_get ks k i _ (List.getElem?_eq_getElem hi)] at h
  exact (Option.some.inj h).symm
theorem SX.cntL_append (us bs : List SX) : SX.cntL (us ++ bs) = SX.cntL us + SX.cntL bs := by
  induction us with
  | nil => simp [SX.cntL]
  | cons x xs ih => simp [SX.cntL, ih]; omega
theorem SX.cntL_snoc {ks : List SX} {i : Nat} {t : SX} (h : ks[i]? = some t) : SX.cntL (ks.take (i + 1)) = SX.cntL (ks.take i) + t.cnt := by
  rw [List.take_add_one, h, SX.cntL_append]
  simp [SX.cntL]
theorem SX.cntL_le (ks : List SX) (i : Nat) : SX.cntL (ks.take i) ≤ SX.cntL ks := by
  have h := SX.cntL_append (ks.take i) (ks.drop i)
  rw [List.take_append_drop] at h
  omega
theorem SX.cnt_get {ks : List SX} {i : Nat} {t : SX} (h : ks[i]? = some t) : t.cnt ≤ SX.cntL ks := by
  have h1 := SX.cntL_snoc h
  have h2 := SX.cntL_le ks (i + 1)
  omega
theorem SX.len_cnt (ks : List SX) : ks.length * 8 ≤ SX.cntL ks := by
  induction ks with
  | nil => simp [SX.cntL]
  | cons x xs ih => have := SX.cnt_eq x; simp [SX.cntL]; omega

/-- A list of statements in a block of its own, each list within each in an interval of blocks of its own. -/
inductive OwnSR (W : World) : Nat → Nat → Option Addr → List SX → Prop
  | mk (lo hi : Nat) (a : Option Addr) (ks : List SX) (g N : Nat) (l h : Nat → Nat)
      (row : ∀ (i : Nat) (k : SX), ks[i]? = some k → a = some ⟨g, 0, none⟩ ∧ lo ≤ g ∧ g < hi ∧ RowAt W g N 50 ∧ ks.length * 12 ≤ N)
      (cell : ∀ (i : Nat) (k : SX), ks[i]? = some k → Cells12 W g (0 + i * 12) k)
      (box : ∀ (m : Nat), m < 4 * ks.length → lo ≤ l m ∧ h m ≤ hi ∧ (g < l m ∨ h m ≤ g))
      (apart : ∀ (m n : Nat), m < 4 * ks.length → n < 4 * ks.length → m ≠ n → h m ≤ l n ∨ h n ≤ l m)
      (ke : ∀ (i : Nat) (k : SX), ks[i]? = some k → OwnR W (l (4 * i)) (h (4 * i)) k.e.base k.e.kids)
      (kf : ∀ (i : Nat) (k : SX), ks[i]? = some k → OwnR W (l (4 * i + 1)) (h (4 * i + 1)) k.f.base k.f.kids)
      (ka : ∀ (i : Nat) (k : SX), ks[i]? = some k → OwnSR W (l (4 * i + 2)) (h (4 * i + 2)) k.abase k.la)
      (kb : ∀ (i : Nat) (k : SX), ks[i]? = some k → OwnSR W (l (4 * i + 3)) (h (4 * i + 3)) k.bbase k.lb) : OwnSR W lo hi a ks
theorem OwnSR.mono {A B : World} {lo hi : Nat} {a : Option Addr} {ks : List SX} (h : OwnSR A lo hi a ks) : (∀ b, lo ≤ b → b < hi → B.heap[b]? = A.heap[b]?) → OwnSR B lo hi a ks := by
  induction h with
  | mk lo hi a ks g N l h row cell box apart ke kf ka kb iha ihb =>
    intro hb
    have hin : ∀ (m : Nat), m < 4 * ks.length → ∀ b, l m ≤ b → b < h m → B.heap[b]? = A.heap[b]? := fun m hm b h1 h2 => by
      obtain ⟨q1, q2, q3⟩ := box m hm
      exact hb b (by omega) (by omega)
    have hlt : ∀ (i : Nat) (k : SX), ks[i]? = some k → i < ks.length := fun i k hk => (List.getElem?_eq_some_iff.1 hk).1
    refine .mk lo hi a ks g N l h (fun i k hk => ?_) (fun i k hk => ?_) box apart (fun i k hk => (ke i k hk).mono (hin _ (by have := hlt i k hk; omega))) (fun i k hk => (kf i k hk).mono (hin _ (by have := hlt i k hk; omega))) (fun i k hk => iha i k hk (hin _ (by have := hlt i k hk; omega))) (fun i k hk => ihb i k hk (hin _ (by have := hlt i k hk; omega)))
    · obtain ⟨r1, r2, r3, r4, r5⟩ := row i k hk
      exact ⟨r1, r2, r3, r4.of_block (hb g r2 r3), r5⟩
    · obtain ⟨r1, r2, r3, r4, r5⟩ := row i k hk
      exact (cell i k hk).of_block (hb g r2 r3)
theorem OwnSR.parts {W : World} {lo hi : Nat} {a : Option Addr} {ks : List SX} (h : OwnSR W lo hi a ks) : ∃ (g N : Nat) (l h : Nat → Nat), (∀ (i : Nat) (k : SX), ks[i]? = some k → a = some ⟨g, 0, none⟩ ∧ lo ≤ g ∧ g < hi ∧ RowAt W g N 50 ∧ ks.length * 12 ≤ N) ∧
    (∀ (i : Nat) (k : SX), ks[i]? = some k → Cells12 W g (0 + i * 12) k) ∧ (∀ (m : Nat), m < 4 * ks.length → lo ≤ l m ∧ h m ≤ hi ∧ (g < l m ∨ h m ≤ g)) ∧ (∀ (m n : Nat), m < 4 * ks.length → n < 4 * ks.length → m ≠ n → h m ≤ l n ∨ h n ≤ l m) ∧
    (∀ (i : Nat) (k : SX), ks[i]? = some k → OwnR W (l (4 * i)) (h (4 * i)) k.e.base k.e.kids) ∧ (∀ (i : Nat) (k : SX), ks[i]? = some k → OwnR W (l (4 * i + 1)) (h (4 * i + 1)) k.f.base k.f.kids) ∧
    (∀ (i : Nat) (k : SX), ks[i]? = some k → OwnSR W (l (4 * i + 2)) (h (4 * i + 2)) k.abase k.la) ∧ (∀ (i : Nat) (k : SX), ks[i]? = some k → OwnSR W (l (4 * i + 3)) (h (4 * i + 3)) k.bbase k.lb) := by
  cases h with
  | mk _ _ _ _ g N l h row cell box apart ke kf ka kb => exact ⟨g, N, l, h, row, cell, box, apart, ke, kf, ka, kb⟩
theorem OwnSR.wide {W : World} {lo hi lo' hi' : Nat} {a : Option Addr} {ks : List SX} (h : OwnSR W lo hi a ks) (h1 : lo' ≤ lo) (h2 : hi ≤ hi') : OwnSR W lo' hi' a ks := by
  obtain ⟨g, N, l, h, row, cell, box, apart, ke, kf, ka, kb⟩ := h.parts
  refine .mk lo' hi' a ks g N l h (fun i k hk => ?_) cell (fun i hi => ?_) apart ke kf ka kb
  · obtain ⟨r1, r2, r3, r4, r5⟩ := row i k hk
    exact ⟨r1, by omega, by omega, r4, r5⟩
  · obtain ⟨b1, b2, b3⟩ := box i hi
    exact ⟨by omega, by omega, b3⟩
theorem OwnR.all {W : World} {lo hi : Nat} {t : XT} (h : OwnR W lo hi t.base t.kids) : Lies (fun b => lo ≤ b ∧ b < hi) W t := .mk t h.lies.1 h.lies.2
theorem OwnSR.lies {W : World} {lo hi : Nat} {a : Option Addr} {ks : List SX} (h : OwnSR W lo hi a ks) : SRow (fun b => lo ≤ b ∧ b < hi) W a ks ∧ ∀ (i : Nat) (k : SX), ks[i]? = some k → LiesS (fun b => lo ≤ b ∧ b < hi) W k := by
  induction h with
  | mk lo hi a ks g N l h row cell box apart ke kf ka kb iha ihb =>
    have hlt : ∀ (i : Nat) (k : SX), ks[i]? = some k → i < ks.length := fun i k hk => (List.getElem?_eq_some_iff.1 hk).1
    refine ⟨fun i k hk => ?_, fun i k hk => ?_⟩
    · obtain ⟨r1, r2, r3, r4, r5⟩ := row i k hk
      exact ⟨g, 0, r1, ⟨r2, r3⟩, cell i k hk⟩
    · have hi := hlt i k hk
      have b0 := box (4 * i) (by omega)
      have b1 := box (4 * i + 1) (by omega)
      have b2 := box (4 * i + 2) (by omega)
      have b3 := box (4 * i + 3) (by omega)
      obtain ⟨qa1, qa2⟩ := iha i k hk
      obtain ⟨qb1, qb2⟩ := ihb i k hk
      refine .mk k ((ke i k hk).all.mono (fun b hb _ => ⟨⟨by omega, by omega⟩, rfl⟩)) ((kf i k hk).all.mono (fun b hb _ => ⟨⟨by omega, by omega⟩, rfl⟩)) (qa1.mono (fun b hb _ => ⟨⟨by omega, by omega⟩, rfl⟩)) (qb1.mono (fun b hb _ => ⟨⟨by omega, by omega⟩, rfl⟩)) (fun j y hy => (qa2 j y hy).mono (fun b hb _ => ⟨⟨by omega, by omega⟩, rfl⟩)) (fun j y hy => (qb2 j y hy).mono (fun b hb _ => ⟨⟨by omega, by omega⟩, rfl⟩))

/-- The cells of the i-th statement of a row while it is written: cs; all else of the row as in A. -/
structure Rw (g N i : Nat) (A W : World) (cs : List Value) : Prop where
  row : RowAt W g N 50
  out : ∀ (o : Nat), (o < i * 12 ∨ i * 12 + 12 ≤ o) → W.cell? ⟨g, o, none⟩ = A.cell? ⟨g, o, none⟩
  at_ : ∀ (j : Nat) (v : Value), cs[j]? = some v → W.cell? ⟨g, i * 12 + j, none⟩ = some v
theorem Rw.set {g N i : Nat} {A W : World} {cs : List Value} (h : Rw g N i A W cs) (hN : i * 12 + 12 ≤ N) (j : Nat) (hj : j < 12) (v : Value) : Rw g N i A (W.setCell ⟨g, i * 12 + j, none⟩ v) (cs.set j v) := by
  refine ⟨h.row.set _ _, fun o ho => ?_, fun m u hm => ?_⟩
  · rw [set_far (by omega)]
    exact h.out o ho
  · by_cases e : m = j
    · subst e
      have hl : m < cs.length := by have := (List.getElem?_eq_some_iff.1 hm).1; simpa using this
      rw [List.getElem?_set_self hl] at hm
      cases hm
      exact h.row.put (by omega) _
    · rw [List.getElem?_set_ne (fun q => e q.symm)] at hm
      rw [set_far (by omega)]
      exact h.at_ m u hm
theorem Rw.on {g N i : Nat} {A W W' : World} {cs : List Value} (h : Rw g N i A W cs) (hb : W'.heap[g]? = W.heap[g]?) : Rw g N i A W' cs :=
  ⟨h.row.of_block hb, fun o ho => (cell_of_block (a := ⟨g, o, none⟩) hb).trans (h.out o ho), fun j v hj => (cell_of_block (a := ⟨g, _, none⟩) hb).trans (h.at_ j v hj)⟩
/-- A statement of a list while it is written, with the four lists within it. -/
structure StM (lo hi g N i len : Nat) (l h : Nat → Nat) (x : SX) (A W : World) (cs : List Value) (E F : List XT) (la lb : List SX) : Prop where
  rw : Rw g N i A W cs
  e : OwnR W (l (4 * i)) (h (4 * i)) x.e.base E
  f : OwnR W (l (4 * i + 1)) (h (4 * i + 1)) x.f.base F
  a : OwnSR W (l (4 * i + 2)) (h (4 * i + 2)) x.abase la
  b : OwnSR W (l (4 * i + 3)) (h (4 * i + 3)) x.bbase lb
  oth : ∀ (m : Nat), m < 4 * len → (m < 4 * i ∨ 4 * i + 4 ≤ m) → ∀ b, l m ≤ b → b < h m → W.heap[b]? = A.heap[b]?
  kept : Kept (fun b => lo ≤ b ∧ b < hi) A W
structure Bx (lo hi g i len : Nat) (l h : Nat → Nat) (A : World) : Prop where
  box : ∀ (m : Nat), m < 4 * len → lo ≤ l m ∧ h m ≤ hi ∧ (g < l m ∨ h m ≤ g)
  apart : ∀ (m n : Nat), m < 4 * len → n < 4 * len → m ≠ n → h m ≤ l n ∨ h n ≤ l m
  hsz : hi ≤ A.heap.size
  hil : i < len
  hgb : lo ≤ g ∧ g < hi
/-- A step that leaves the intervals alone. -/
theorem StM.step {lo hi g N i len : Nat} {l h : Nat → Nat} {x : SX} {A W W' : World} {cs cs' : List Value} {E F : List XT} {la lb : List SX} (hS : StM lo hi g N i len l h x A W cs E F la lb) (hX : Bx lo hi g i len l h A) (hR : Rw g N i A W' cs') (hk : Kept (fun b => b = g) W W') : StM lo hi g N i len l h x A W' cs' E F la lb := by
  have hz := hS.kept.size
  have hin : ∀ (m : Nat), m < 4 * len → ∀ b, l m ≤ b → b < h m → W'.heap[b]? = W.heap[b]? := fun m hm b h1 h2 => by
    obtain ⟨q1, q2, q3⟩ := hX.box m hm
    have := hX.hsz
    exact hk.block b (by omega) (fun e => by omega)
  have hi' := hX.hil
  exact ⟨hR, hS.e.mono (hin _ (by omega)), hS.f.mono (hin _ (by omega)), hS.a.mono (hin _ (by omega)), hS.b.mono (hin _ (by omega)), fun m hm hn b h1 h2 => (hin m hm b h1 h2).trans (hS.oth m hm hn b h1 h2), hS.kept.trans (hk.mono (fun b _ e => by subst e; exact hX.hgb))⟩
theorem StM.set {lo hi g N i len : Nat} {l h : Nat → Nat} {x : SX} {A W : World} {cs : List Value} {E F : List XT} {la lb : List SX} (hS : StM lo hi g N i len l h x A W cs E F la lb) (hX : Bx lo hi g i len l h A) (hN : i * 12 + 12 ≤ N) (j : Nat) (hj : j < 12) (v : Value) : StM lo hi g N i len l h x A (W.setCell ⟨g, i * 12 + j, none⟩ v) (cs.set j v) E F la lb :=
  hS.step hX (hS.rw.set hN j hj v) ((Kept.refl (fun b => b = g) W).setCell (p := ⟨g, i * 12 + j, none⟩) rfl _)
theorem StM.below {lo hi g N i len : Nat} {l h : Nat → Nat} {x : SX} {A W W' : World} {cs : List Value} {E F : List XT} {la lb : List SX} (hS : StM lo hi g N i len l h x A W cs E F la lb) (hX : Bx lo hi g i len l h A) (hb : Below W.heap.size W W') : StM lo hi g N i len l h x A W' cs E F la lb :=
  hS.step hX (hS.rw.on (hb.block g hS.rw.row.lt)) (Kept.of_new _ hb)
/-- A step within one interval. -/
theorem StM.sub {lo hi g N i len : Nat} {l h : Nat → Nat} {x : SX} {A W W' : World} {cs : List Value} {E F : List XT} {la lb : List SX} (hS : StM lo hi g N i len l h x A W cs E F la lb) (hX : Bx lo hi g i len l h A) (m : Nat) (hm : 4 * i ≤ m ∧ m < 4 * i + 4) (hk : Kept (fun b => l m ≤ b ∧ b < h m) W W') :
    Rw g N i A W' cs ∧ (∀ n, n < 4 * len → n ≠ m → ∀ b, l n ≤ b → b < h n → W'.heap[b]? = W.heap[b]?) ∧ Kept (fun b => lo ≤ b ∧ b < hi) A W' := by
  have hz := hS.kept.size
  have hh := hX.hsz
  have hi' := hX.hil
  obtain ⟨q1, q2, q3⟩ := hX.box m (by omega)
  refine ⟨hS.rw.on (hk.block g hS.rw.row.lt (fun e => by omega)), fun n hn hnm b h1 h2 => ?_, hS.kept.trans (hk.mono (fun b _ e => ⟨by omega, by omega⟩))⟩
  obtain ⟨p1, p2, p3⟩ := hX.box n hn
  have := hX.apart n m hn (by omega) hnm
  exact hk.block b (by omega) (fun e => by omega)
theorem StM.subE {lo hi g N i len : Nat} {l h : Nat → Nat} {x : SX} {A W W' : World} {cs : List Value} {E E' F : List XT} {la lb : List SX} (hS : StM lo hi g N i len l h x A W cs E F la lb) (hX : Bx lo hi g i len l h A) (hO : OwnR W' (l (4 * i)) (h (4 * i)) x.e.base E') (hk : Kept (fun b => l (4 * i) ≤ b ∧ b < h (4 * i)) W W') : StM lo hi g N i len l h x A W' cs E' F la lb := by
  obtain ⟨h1, h2, h3⟩ := hS.sub hX (4 * i) ⟨by omega, by omega⟩ hk
  have hi' := hX.hil
  exact ⟨h1, hO, hS.f.mono (h2 _ (by omega) (by omega)), hS.a.mono (h2 _ (by omega) (by omega)), hS.b.mono (h2 _ (by omega) (by omega)), fun m hm hn b q1 q2 => (h2 m hm (by omega) b q1 q2).trans (hS.oth m hm hn b q1 q2), h3⟩
theorem StM.subF {lo hi g N i len : Nat} {l h : Nat → Nat} {x : SX} {A W W' : World} {cs : List Value} {E F F' : List XT} {la lb : List SX} (hS : StM lo hi g N i len l h x A W cs E F la lb) (hX : Bx lo hi g i len l h A) (hO : OwnR W' (l (4 * i + 1)) (h (4 * i + 1)) x.f.base F') (hk : Kept (fun b => l (4 * i + 1) ≤ b ∧ b < h (4 * i + 1)) W W') : StM lo hi g N i len l h x A W' cs E F' la lb := by
  obtain ⟨h1, h2, h3⟩ := hS.sub hX (4 * i + 1) ⟨by omega, by omega⟩ hk
  have hi' := hX.hil
  exact ⟨h1, hS.e.mono (h2 _ (by omega) (by omega)), hO, hS.a.mono (h2 _ (by omega) (by omega)), hS.b.mono (h2 _ (by omega) (by omega)), fun m hm hn b q1 q2 => (h2 m hm (by omega) b q1 q2).trans (hS.oth m hm hn b q1 q2), h3⟩
theorem StM.subA {lo hi g N i len : Nat} {l h : Nat → Nat} {x : SX} {A W W' : World} {cs : List Value} {E F : List XT} {la la' lb : List SX} (hS : StM lo hi g N i len l h x A W cs E F la lb) (hX : Bx lo hi g i len l h A) (hO : OwnSR W' (l (4 * i + 2)) (h (4 * i + 2)) x.abase la') (hk : Kept (fun b => l (4 * i + 2) ≤ b ∧ b < h (4 * i + 2)) W W') : StM lo hi g N i len l h x A W' cs E F la' lb := by
  obtain ⟨h1, h2, h3⟩ := hS.sub hX (4 * i + 2) ⟨by omega, by omega⟩ hk
  have hi' := hX.hil
  exact ⟨h1, hS.e.mono (h2 _ (by omega) (by omega)), hS.f.mono (h2 _ (by omega) (by omega)), hO, hS.b.mono (h2 _ (by omega) (by omega)), fun m hm hn b q1 q2 => (h2 m hm (by omega) b q1 q2).trans (hS.oth m hm hn b q1 q2), h3⟩
theorem StM.subB {lo hi g N i len : Nat} {l h : Nat → Nat} {x : SX} {A W W' : World} {cs : List Value} {E F : List XT} {la lb lb' : List SX} (hS : StM lo hi g N i len l h x A W cs E F la lb) (hX : Bx lo hi g i len l h A) (hO : OwnSR W' (l (4 * i + 3)) (h (4 * i + 3)) x.bbase lb') (hk : Kept (fun b => l (4 * i + 3) ≤ b ∧ b < h (4 * i + 3)) W W') : StM lo hi g N i len l h x A W' cs E F la lb' := by
  obtain ⟨h1, h2, h3⟩ := hS.sub hX (4 * i + 3) ⟨by omega, by omega⟩ hk
  have hi' := hX.hil
  exact ⟨h1, hS.e.mono (h2 _ (by omega) (by omega)), hS.f.mono (h2 _ (by omega) (by omega)), hS.a.mono (h2 _ (by omega) (by omega)), hO, fun m hm hn b q1 q2 => (h2 m hm (by omega) b q1 q2).trans (hS.oth m hm hn b q1 q2), h3⟩
end Go.Proofs.Ytimfdfeleoaehaa
namespace Go.Proofs.Ytimfdfeleoaehaa
open Go.RowKit Go.Shelf
set_option linter.unusedSimpArgs false
set_option linter.unusedVariables false
attribute [local go_sem] Oper.semAt_some

def SX.cur (ks : List SX) (k i j : Nat) (x : SX) : SX := if j < i then x.mark (k + SX.cntL (ks.take j)) else x
structure MStS (ks : List SX) (g N : Nat) (l h : Nat → Nat) (k i : Nat) (W : World) : Prop where
  row : ∀ (j : Nat) (x : SX), ks[j]? = some x → RowAt W g N 50
  cell : ∀ (j : Nat) (x : SX), ks[j]? = some x → Cells12 W g (0 + j * 12) (SX.cur ks k i j x)
  ke : ∀ (j : Nat) (x : SX), ks[j]? = some x → OwnR W (l (4 * j)) (h (4 * j)) (SX.cur ks k i j x).e.base (SX.cur ks k i j x).e.kids
  kf : ∀ (j : Nat) (x : SX), ks[j]? = some x → OwnR W (l (4 * j + 1)) (h (4 * j + 1)) (SX.cur ks k i j x).f.base (SX.cur ks k i j x).f.kids
  ka : ∀ (j : Nat) (x : SX), ks[j]? = some x → OwnSR W (l (4 * j + 2)) (h (4 * j + 2)) (SX.cur ks k i j x).abase (SX.cur ks k i j x).la
  kb : ∀ (j : Nat) (x : SX), ks[j]? = some x → OwnSR W (l (4 * j + 3)) (h (4 * j + 3)) (SX.cur ks k i j x).bbase (SX.cur ks k i j x).lb
abbrev SX.vals (x : SX) : List Value := [.int .i64 x.kind, .string x.name, .int .i64 x.e.kind, .int .i64 x.e.num, .string x.e.name, .slice x.e.base x.e.kids.length x.e.cap, .int .i64 x.f.kind, .int .i64 x.f.num, .string x.f.name, .slice x.f.base x.f.kids.length x.f.cap, .slice x.abase x.la.length x.acap, .slice x.bbase x.lb.length x.bcap]
theorem Cells12.vals {W : World} {b o : Nat} {x : SX} (h : Cells12 W b o x) : ∀ (j : Nat) (v : Value), x.vals[j]? = some v → W.cell? ⟨b, o + j, none⟩ = some v := by
  intro j v hj
  match j, hj with
  | 0, hj => cases hj; exact h.c0
  | 1, hj => cases hj; exact h.c1
  | 2, hj => cases hj; exact h.c2
  | 3, hj => cases hj; exact h.c3
  | 4, hj => cases hj; exact h.c4
  | 5, hj => cases hj; exact h.c5
  | 6, hj => cases hj; exact h.c6
  | 7, hj => cases hj; exact h.c7
  | 8, hj => cases hj; exact h.c8
  | 9, hj => cases hj; exact h.c9
  | 10, hj => cases hj; exact h.c10
  | 11, hj => cases hj; exact h.c11
  | n + 12, hj => simp at hj
/-- Behind the round: the i-th is written, the others are as they were. -/
theorem MStS.next {ks : List SX} {lo hi g N i len k kk : Nat} {l h : Nat → Nat} {x : SX} {A W : World} {cs : List Value} (hl : ks.length = len) (hx : ks[i]? = some x) (hkk : k + SX.cntL (ks.take i) = kk) (hS : MStS ks g N l h k i A) (hX : Bx lo hi g i len l h A)
    (hM : StM lo hi g N i len l h x A W cs (x.mark kk).e.kids (x.mark kk).f.kids (x.mark kk).la (x.mark kk).lb) (hc : Cells12 W g (0 + i * 12) (x.mark kk)) : MStS ks g N l h k (i + 1) W := by
  have hlt : ∀ (j : Nat) (y : SX), ks[j]? = some y → j < len := fun j y hy => by rw [← hl]; exact (List.getElem?_eq_some_iff.1 hy).1
  have hme : SX.cur ks k (i + 1) i x = x.mark kk := by unfold SX.cur; rw [if_pos (by omega), hkk]
  have hot : ∀ (j : Nat) (y : SX), j ≠ i → SX.cur ks k (i + 1) j y = SX.cur ks k i j y := by
    intro j y hj
    unfold SX.cur
    by_cases h1 : j < i
    · rw [if_pos h1, if_pos (by omega)]
    · rw [if_neg h1, if_neg (by omega)]
  have hmk := x.mark_eq kk
  refine ⟨fun j y hy => hM.rw.row, fun j y hy => ?_, fun j y hy => ?_, fun j y hy => ?_, fun j y hy => ?_, fun j y hy => ?_⟩
  all_goals
    by_cases hji : j = i
    · subst hji
      rw [hx] at hy
      cases hy
      rw [hme]
      first | exact hc | (have hq := hM.e; rw [hmk] at hq ⊢; exact hq) | (have hq := hM.f; rw [hmk] at hq ⊢; exact hq) | (have hq := hM.a; rw [hmk] at hq ⊢; exact hq) | (have hq := hM.b; rw [hmk] at hq ⊢; exact hq)
    · rw [hot j y hji]
      have hjl := hlt j y hy
      have hil := hX.hil
      first
        | (have hcj := hS.cell j y hy
           rw [Nat.zero_add] at hcj ⊢
           exact ⟨(hM.rw.out _ (by omega)).trans hcj.c0, (hM.rw.out _ (by omega)).trans hcj.c1, (hM.rw.out _ (by omega)).trans hcj.c2, (hM.rw.out _ (by omega)).trans hcj.c3, (hM.rw.out _ (by omega)).trans hcj.c4, (hM.rw.out _ (by omega)).trans hcj.c5, (hM.rw.out _ (by omega)).trans hcj.c6, (hM.rw.out _ (by omega)).trans hcj.c7, (hM.rw.out _ (by omega)).trans hcj.c8, (hM.rw.out _ (by omega)).trans hcj.c9, (hM.rw.out _ (by omega)).trans hcj.c10, (hM.rw.out _ (by omega)).trans hcj.c11⟩)
        | exact (hS.ke j y hy).mono (hM.oth _ (by omega) (by omega))
        | exact (hS.kf j y hy).mono (hM.oth _ (by omega) (by omega))
        | exact (hS.ka j y hy).mono (hM.oth _ (by omega) (by omega))
        | exact (hS.kb j y hy).mono (hM.oth _ (by omega) (by omega))
set_option maxRecDepth 10000 in
set_option maxHeartbeats 8000000 in
theorem markS (sz : Nat) : ∀ ks : List SX, SX.cntL ks ≤ sz → ∀ (lo hi : Nat) (a : Option Addr) (c k : Nat) (w : World), OwnSR w lo hi a ks → hi ≤ w.heap.size → k + SX.cntL ks ≤ 1152921504606846976 →
    Calls Try.prog 12 #[.slice a ks.length c, .int .i64 k] w fun e w' => e = .returned (.int .i64 ((k + SX.cntL ks : Nat) : Int)) ∧ OwnSR w' lo hi a (SX.markL ks k) ∧ Kept (fun b => lo ≤ b ∧ b < hi) w w' := by
  induction sz using Nat.strongRecOn with
  | _ sz ih =>
  intro ks hsz lo hi a c k w hO hhi hk
  have ih' : Hid (∀ m < sz, ∀ ks : List SX, SX.cntL ks ≤ m → ∀ (lo hi : Nat) (a : Option Addr) (c k : Nat) (w : World), OwnSR w lo hi a ks → hi ≤ w.heap.size → k + SX.cntL ks ≤ 1152921504606846976 →
    Calls Try.prog 12 #[.slice a ks.length c, .int .i64 k] w fun e w' => e = .returned (.int .i64 ((k + SX.cntL ks : Nat) : Int)) ∧ OwnSR w' lo hi a (SX.markL ks k) ∧ Kept (fun b => lo ≤ b ∧ b < hi) w w') := ih
  clear ih
  obtain ⟨g, N, l, h, row, cell, box, apart, ke, kf, ka, kb⟩ := hO.parts
  clear hO
  obtain ⟨len, hl⟩ : ∃ len, ks.length = len := ⟨_, rfl⟩
  have hlc := SX.len_cnt ks
  have hS0 : Hid (MStS ks g N l h k 0 w) := ⟨fun j x hx => (row j x hx).2.2.2.1, fun j x hx => by simpa [SX.cur] using cell j x hx, fun j x hx => by simpa [SX.cur] using ke j x hx, fun j x hx => by simpa [SX.cur] using kf j x hx, fun j x hx => by simpa [SX.cur] using ka j x hx, fun j x hx => by simpa [SX.cur] using kb j x hx⟩
  have hrowH : Hid (∀ (i : Nat) (k : SX), ks[i]? = some k → a = some ⟨g, 0, none⟩ ∧ lo ≤ g ∧ g < hi ∧ RowAt w g N 50 ∧ ks.length * 12 ≤ N) := row
  have hboxH : Hid (∀ (m : Nat), m < 4 * ks.length → lo ≤ l m ∧ h m ≤ hi ∧ (g < l m ∨ h m ≤ g)) := box
  have hapH : Hid (∀ (m n : Nat), m < 4 * ks.length → n < 4 * ks.length → m ≠ n → h m ≤ l n ∨ h n ≤ l m) := apart
  clear row cell box apart ke kf ka kb
  rw [hl] at hlc ⊢
  go_enter Try.func12, Try.ntmps12
  go_wp2_with fail
  go_loopw [1, 5] (fun v1 v5 wr => ∃ (i : Nat), v5 = .int .i64 i ∧ v1 = .int .i64 ((k + SX.cntL (ks.take i) : Nat) : Int) ∧ i ≤ len ∧ Hid (MStS ks g N l h k i wr) ∧ Kept (fun b => lo ≤ b ∧ b < hi) w wr) (fun _ v5 _ => len - (intOf v5).toNat)
  case atStart => exact ⟨0, rfl, by simp [SX.cntL], by omega, hS0, Kept.refl _ _⟩
  case round =>
    obtain ⟨i, rfl, rfl, hi', hS, hK⟩ := hrel
    rename World => wo
    by_cases hlt : i < len
    · obtain ⟨x, hx⟩ : ∃ x, ks[i]? = some x := ⟨_, List.getElem?_eq_getElem (by omega)⟩
      obtain ⟨ha, hg1, hg2, -, hN0⟩ := hrowH.out i x hx
      rw [hl] at hN0
      have hN : i * 12 + 12 ≤ N := by omega
      have hzo := hK.size
      have hX : Bx lo hi g i len l h wo := ⟨fun m hm => hboxH.out m (by omega), fun m n hm hn => hapH.out m n (by omega) (by omega), by omega, hlt, hg1, hg2⟩
      have hcur : SX.cur ks k i i x = x := by simp [SX.cur]
      have hc := hS.out.cell i x hx
      rw [hcur, Nat.zero_add] at hc
      have T0 : StM lo hi g N i len l h x wo wo x.vals x.e.kids x.f.kids x.la x.lb := by
        have q1 := hS.out.ke i x hx
        have q2 := hS.out.kf i x hx
        have q3 := hS.out.ka i x hx
        have q4 := hS.out.kb i x hx
        rw [hcur] at q1 q2 q3 q4
        exact ⟨⟨hS.out.row i x hx, fun o _ => rfl, hc.vals⟩, q1, q2, q3, q4, fun _ _ _ _ _ _ => rfl, Kept.refl _ _⟩
      clear hc
      have hsn := SX.cntL_snoc hx
      have hsl := SX.cntL_le ks (i + 1)
      have hce := x.cnt_eq
      have hcg := SX.cnt_get hx
      obtain ⟨kk, hkk⟩ : ∃ n, k + SX.cntL (ks.take i) = n := ⟨_, rfl⟩
      rw [hkk]
      subst ha
      have r0 := T0.rw.at_ 0 _ rfl
      have f0 := T0.rw.row.frozen (i * 12)
      rw [Nat.add_zero] at r0
      obtain ⟨V0, qV0⟩ : ∃ X, wo.setCell ⟨g, i * 12, none⟩ (.int .i64 ((kk : Nat) : Int)) = X := ⟨_, rfl⟩
      have T1 : StM lo hi g N i len l h x wo V0 ((x.vals).set 0 (.int .i64 ((kk : Nat) : Int))) (x.e.kids) (x.f.kids) (x.la) (x.lb) := by
        have hq := T0.set hX hN 0 (by omega) (.int .i64 ((kk : Nat) : Int))
        rw [Nat.add_zero, qV0] at hq
        exact hq
      have hmt : Hid (Calls Try.prog 34 #[.int .i64 ((kk : Int) + 1)] V0 fun e w' => e = .returned (.string (markB (kk + 1))) ∧ Below V0.heap.size V0 w') := markText (kk + 1) V0 (by omega)
      go_wp2_with fail
      go_at_call 34
      refine hmt.out.mono ?_
      rintro e V1 ⟨rfl, hb⟩
      have T2 := T1.below hX hb
      clear r0 f0 qV0
      clear hmt hb T1
      have r2 := T2.rw.at_ 1 _ rfl
      have f2 := T2.rw.row.frozen (i * 12 + 1)
      obtain ⟨V2, qV2⟩ : ∃ X, V1.setCell ⟨g, i * 12 + 1, none⟩ (.string (markB (kk + 1))) = X := ⟨_, rfl⟩
      have T3 : StM lo hi g N i len l h x wo V2 (((x.vals).set 0 (.int .i64 ((kk : Nat) : Int))).set 1 (.string (markB (kk + 1)))) (x.e.kids) (x.f.kids) (x.la) (x.lb) := by
        have hq := T2.set hX hN 1 (by omega) (.string (markB (kk + 1)))
        rw [qV2] at hq
        exact hq
      have r3 := T3.rw.at_ 2 _ rfl
      have f3 := T3.rw.row.frozen (i * 12 + 2)
      obtain ⟨V3, qV3⟩ : ∃ X, V2.setCell ⟨g, i * 12 + 2, none⟩ (.int .i64 ((kk : Int) + 1 + 1)) = X := ⟨_, rfl⟩
      have T4 : StM lo hi g N i len l h x wo V3 ((((x.vals).set 0 (.int .i64 ((kk : Nat) : Int))).set 1 (.string (markB (kk + 1)))).set 2 (.int .i64 ((kk : Int) + 1 + 1))) (x.e.kids) (x.f.kids) (x.la) (x.lb) := by
        have hq := T3.set hX hN 2 (by omega) (.int .i64 ((kk : Int) + 1 + 1))
        rw [qV3] at hq
        exact hq
      have r4 := T4.rw.at_ 3 _ rfl
      have f4 := T4.rw.row.frozen (i * 12 + 3)
      obtain ⟨V4, qV4⟩ : ∃ X, V3.setCell ⟨g, i * 12 + 3, none⟩ (.int .i64 ((kk : Int) + 1 + 1 + 1)) = X := ⟨_, rfl⟩
      have T5 : StM lo hi g N i len l h x wo V4 (((((x.vals).set 0 (.int .i64 ((kk : Nat) : Int))).set 1 (.string (markB (kk + 1)))).set 2 (.int .i64 ((kk : Int) + 1 + 1))).set 3 (.int .i64 ((kk : Int) + 1 + 1 + 1))) (x.e.kids) (x.f.kids) (x.la) (x.lb) := by
        have hq := T4.set hX hN 3 (by omega) (.int .i64 ((kk : Int) + 1 + 1 + 1))
        rw [qV4] at hq
        exact hq
      have hmt : Hid (Calls Try.prog 34 #[.int .i64 ((kk : Int) + 1 + 1 + 1 + 1)] V4 fun e w' => e = .returned (.string (markB (kk + 4))) ∧ Below V4.heap.size V4 w') := markText (kk + 4) V4 (by omega)
      go_wp2_with fail
      go_at_call 34
      refine hmt.out.mono ?_
      rintro e V5 ⟨rfl, hb⟩
      have T6 := T5.below hX hb
      clear r2 f2 qV2 r3 f3 qV3 r4 f4 qV4
      clear hmt hb T5
      have r6 := T6.rw.at_ 4 _ rfl
      have f6 := T6.rw.row.frozen (i * 12 + 4)
      obtain ⟨V6, qV6⟩ : ∃ X, V5.setCell ⟨g, i * 12 + 4, none⟩ (.string (markB (kk + 4))) = X := ⟨_, rfl⟩
      have T7 : StM lo hi g N i len l h x wo V6 ((((((x.vals).set 0 (.int .i64 ((kk : Nat) : Int))).set 1 (.string (markB (kk + 1)))).set 2 (.int .i64 ((kk : Int) + 1 + 1))).set 3 (.int .i64 ((kk : Int) + 1 + 1 + 1))).set 4 (.string (markB (kk + 4)))) (x.e.kids) (x.f.kids) (x.la) (x.lb) := by
        have hq := T6.set hX hN 4 (by omega) (.string (markB (kk + 4)))
        rw [qV6] at hq
        exact hq
      have r7 := T7.rw.at_ 5 _ rfl
      have hcl : Hid (Calls Try.prog 35 #[.slice x.e.base x.e.kids.length x.e.cap, .int .i64 ((kk : Int) + 1 + 1 + 1 + 1 + 1)] V6 fun e w' => e = .returned (.int .i64 ((kk + 5 + 3 * XT.sizeAll x.e.kids : Nat) : Int)) ∧ OwnR w' (l (4 * i)) (h (4 * i)) x.e.base (XT.markL x.e.kids (kk + 5)) ∧ Kept (fun b => l (4 * i) ≤ b ∧ b < h (4 * i)) V6 w') :=
        markE _ x.e.kids (Nat.le_refl _) (by omega) _ _ x.e.base x.e.cap (kk + 5) V6 T7.e (by have h1 := (hX.box (4 * i) (by omega)).2.1; have h2 := T7.kept.size; omega) (by omega)
      go_wp2_with fail
      go_at_call 35
      refine hcl.out.mono ?_
      rintro e V7 ⟨rfl, hO, hb⟩
      have T8 := T7.subE hX hO hb
      clear r6 f6 qV6 r7
      clear hcl hO hb T7
      obtain ⟨k1, hk1⟩ : ∃ n, kk + 5 + 3 * XT.sizeAll x.e.kids = n := ⟨_, rfl⟩
      rw [hk1]
      have r8 := T8.rw.at_ 6 _ rfl
      have f8 := T8.rw.row.frozen (i * 12 + 6)
      obtain ⟨V8, qV8⟩ : ∃ X, V7.setCell ⟨g, i * 12 + 6, none⟩ (.int .i64 ((k1 : Nat) : Int)) = X := ⟨_, rfl⟩
      have T9 : StM lo hi g N i len l h x wo V8 (((((((x.vals).set 0 (.int .i64 ((kk : Nat) : Int))).set 1 (.string (markB (kk + 1)))).set 2 (.int .i64 ((kk : Int) + 1 + 1))).set 3 (.int .i64 ((kk : Int) + 1 + 1 + 1))).set 4 (.string (markB (kk + 4)))).set 6 (.int .i64 ((k1 : Nat) : Int))) (XT.markL x.e.kids (kk + 5)) (x.f.kids) (x.la) (x.lb) := by
        have hq := T8.set hX hN 6 (by omega) (.int .i64 ((k1 : Nat) : Int))
        rw [qV8] at hq
        exact hq
      have r9 := T9.rw.at_ 7 _ rfl
      have f9 := T9.rw.row.frozen (i * 12 + 7)
      obtain ⟨V9, qV9⟩ : ∃ X, V8.setCell ⟨g, i * 12 + 7, none⟩ (.int .i64 ((k1 : Int) + 1)) = X := ⟨_, rfl⟩
      have T10 : StM lo hi g N i len l h x wo V9 ((((((((x.vals).set 0 (.int .i64 ((kk : Nat) : Int))).set 1 (.string (markB (kk + 1)))).set 2 (.int .i64 ((kk : Int) + 1 + 1))).set 3 (.int .i64 ((kk : Int) + 1 + 1 + 1))).set 4 (.string (markB (kk + 4)))).set 6 (.int .i64 ((k1 : Nat) : Int))).set 7 (.int .i64 ((k1 : Int) + 1))) (XT.markL x.e.kids (kk + 5)) (x.f.kids) (x.la) (x.lb) := by
        have hq := T9.set hX hN 7 (by omega) (.int .i64 ((k1 : Int) + 1))
        rw [qV9] at hq
        exact hq
      have hmt : Hid (Calls Try.prog 34 #[.int .i64 ((k1 : Int) + 1 + 1)] V9 fun e w' => e = .returned (.string (markB (k1 + 2))) ∧ Below V9.heap.size V9 w') := markText (k1 + 2) V9 (by omega)
      go_wp2_with fail
      go_at_call 34
      refine hmt.out.mono ?_
      rintro e V10 ⟨rfl, hb⟩
      have T11 := T10.below hX hb
      clear r8 f8 qV8 r9 f9 qV9
      clear hmt hb T10
      have r11 := T11.rw.at_ 8 _ rfl
      have f11 := T11.rw.row.frozen (i * 12 + 8)
      obtain ⟨V11, qV11⟩ : ∃ X, V10.setCell ⟨g, i * 12 + 8, none⟩ (.string (markB (k1 + 2))) = X := ⟨_, rfl⟩
      have T12 : StM lo hi g N i len l h x wo V11 (((((((((x.vals).set 0 (.int .i64 ((kk : Nat) : Int))).set 1 (.string (markB (kk + 1)))).set 2 (.int .i64 ((kk : Int) + 1 + 1))).set 3 (.int .i64 ((kk : Int) + 1 + 1 + 1))).set 4 (.string (markB (kk + 4)))).set 6 (.int .i64 ((k1 : Nat) : Int))).set 7 (.int .i64 ((k1 : Int) + 1))).set 8 (.string (markB (k1 + 2)))) (XT.markL x.e.kids (kk + 5)) (x.f.kids) (x.la) (x.lb) := by
        have hq := T11.set hX hN 8 (by omega) (.string (markB (k1 + 2)))
        rw [qV11] at hq
        exact hq
      have r12 := T12.rw.at_ 9 _ rfl
      have hcl : Hid (Calls Try.prog 35 #[.slice x.f.base x.f.kids.length x.f.cap, .int .i64 ((k1 : Int) + 1 + 1 + 1)] V11 fun e w' => e = .returned (.int .i64 ((k1 + 3 + 3 * XT.sizeAll x.f.kids : Nat) : Int)) ∧ OwnR w' (l (4 * i + 1)) (h (4 * i + 1)) x.f.base (XT.markL x.f.kids (k1 + 3)) ∧ Kept (fun b => l (4 * i + 1) ≤ b ∧ b < h (4 * i + 1)) V11 w') :=
        markE _ x.f.kids (Nat.le_refl _) (by omega) _ _ x.f.base x.f.cap (k1 + 3) V11 T12.f (by have h1 := (hX.box (4 * i + 1) (by omega)).2.1; have h2 := T12.kept.size; omega) (by omega)
      go_wp2_with fail
      go_at_call 35
      refine hcl.out.mono ?_
      rintro e V12 ⟨rfl, hO, hb⟩
      have T13 := T12.subF hX hO hb
      clear r11 f11 qV11 r12
      clear hcl hO hb T12
      obtain ⟨k2, hk2⟩ : ∃ n, k1 + 3 + 3 * XT.sizeAll x.f.kids = n := ⟨_, rfl⟩
      rw [hk2]
      have r13 := T13.rw.at_ 10 _ rfl
      have hcl : Hid (Calls Try.prog 12 #[.slice x.abase x.la.length x.acap, .int .i64 ((k2 : Nat) : Int)] V12 fun e w' => e = .returned (.int .i64 ((k2 + SX.cntL x.la : Nat) : Int)) ∧ OwnSR w' (l (4 * i + 2)) (h (4 * i + 2)) x.abase (SX.markL x.la (k2)) ∧ Kept (fun b => l (4 * i + 2) ≤ b ∧ b < h (4 * i + 2)) V12 w') :=
        ih'.out (SX.cntL x.la) (by omega) x.la (Nat.le_refl _) _ _ x.abase x.acap k2 V12 T13.a (by have h1 := (hX.box (4 * i + 2) (by omega)).2.1; have h2 := T13.kept.size; omega) (by omega)
      go_wp2_with fail
      go_at_call 12
      refine hcl.out.mono ?_
      rintro e V13 ⟨rfl, hO, hb⟩
      have T14 := T13.subA hX hO hb
      clear r13
      clear hcl hO hb T13
      obtain ⟨k3, hk3⟩ : ∃ n, k2 + SX.cntL x.la = n := ⟨_, rfl⟩
      rw [hk3]
      have r14 := T14.rw.at_ 11 _ rfl
      have hcl : Hid (Calls Try.prog 12 #[.slice x.bbase x.lb.length x.bcap, .int .i64 ((k3 : Nat) : Int)] V13 fun e w' => e = .returned (.int .i64 ((k3 + SX.cntL x.lb : Nat) : Int)) ∧ OwnSR w' (l (4 * i + 3)) (h (4 * i + 3)) x.bbase (SX.markL x.lb (k3)) ∧ Kept (fun b => l (4 * i + 3) ≤ b ∧ b < h (4 * i + 3)) V13 w') :=
        ih'.out (SX.cntL x.lb) (by omega) x.lb (Nat.le_refl _) _ _ x.bbase x.bcap k3 V13 T14.b (by have h1 := (hX.box (4 * i + 3) (by omega)).2.1; have h2 := T14.kept.size; omega) (by omega)
      go_wp2_with fail
      go_at_call 12
      refine hcl.out.mono ?_
      rintro e V14 ⟨rfl, hO, hb⟩
      have T15 := T14.subB hX hO hb
      clear r14
      clear hcl hO hb T14
      obtain ⟨k4, hk4⟩ : ∃ n, k3 + SX.cntL x.lb = n := ⟨_, rfl⟩
      rw [hk4]
      have hmk := x.mark_eq kk
      have p1 : kk + 5 + 3 * XT.sizeAll x.e.kids = k1 := hk1
      have p1' : kk + 6 + 3 * XT.sizeAll x.e.kids = k1 + 1 := by omega
      have p2 : kk + 7 + 3 * XT.sizeAll x.e.kids = k1 + 2 := by omega
      have p3 : kk + 8 + 3 * XT.sizeAll x.e.kids = k1 + 3 := by omega
      have p4 : k1 + 3 + 3 * XT.sizeAll x.f.kids = k2 := hk2
      rw [p3, p4, p2, p1', p1, hk3] at hmk
      have hN5 : Hid (MStS ks g N l h k (i + 1) V14) := by
        refine MStS.next (cs := _) hl hx hkk hS.out hX (by rw [hmk]; exact T15) ?_
        rw [hmk, Nat.zero_add]
        have hat := T15.rw.at_
        refine ⟨?_, hat 1 _ rfl, hat 2 _ rfl, hat 3 _ rfl, hat 4 _ rfl, ?_, hat 6 _ rfl, hat 7 _ rfl, hat 8 _ rfl, ?_, ?_, ?_⟩
        · have h0 := hat 0 _ rfl
          exact h0
        · have h5 := hat 5 _ rfl
          simpa [SX.e, XT.kids, XT.base, XT.cap, XT.markL_length] using h5
        · have h9 := hat 9 _ rfl
          simpa [SX.f, XT.kids, XT.base, XT.cap, XT.markL_length] using h9
        · have h10 := hat 10 _ rfl
          simpa [SX.la, SX.abase, SX.acap, SX.markL_length] using h10
        · have h11 := hat 11 _ rfl
          simpa [SX.lb, SX.bbase, SX.bcap, SX.markL_length] using h11
      have hkf := T15.kept
      clear hmk p1 p1' p2 p3 p4 T15
      go_wp2
      exact ⟨⟨i + 1, by go_num, congrArg (Value.int IntKind.i64) (by omega), by omega, hN5, hK.trans hkf⟩, by simp [intOf]; omega⟩
    · have he : i = len := by omega
      have htk : ks.take i = ks := List.take_of_length_le (by omega)
      rw [htk]
      go_wp2
      go_returns
      refine ⟨rfl, ?_, hK⟩
      have hS1 := hS.out
      have hcur : ∀ (j : Nat) (x : SX), ks[j]? = some x → SX.cur ks k i j x = x.mark (k + SX.cntL (ks.take j)) := by
        intro j x hx
        have hj : j < ks.length := (List.getElem?_eq_some_iff.1 hx).1
        unfold SX.cur
        rw [if_pos (by omega)]
      refine .mk lo hi a _ g N l h (fun j y hy => ?_) (fun j y hy => ?_) (fun j hj => hboxH.out j (by rw [SX.markL_length] at hj; exact hj)) (fun j j' hj hj' => hapH.out j j' (by rw [SX.markL_length] at hj; exact hj) (by rw [SX.markL_length] at hj'; exact hj')) (fun j y hy => ?_) (fun j y hy => ?_) (fun j y hy => ?_) (fun j y hy => ?_)
      · obtain ⟨x, hx, rfl⟩ := SX.markL_back hy
        obtain ⟨q1, q2, q3, q4, q5⟩ := hrowH.out j x hx
        exact ⟨q1, q2, q3, hS1.row j x hx, by rw [SX.markL_length]; exact q5⟩
      all_goals
        obtain ⟨x, hx, rfl⟩ := SX.markL_back hy
        rw [← hcur j x hx]
        first | exact hS1.cell j x hx | exact hS1.ke j x hx | exact hS1.kf j x hx | exact hS1.ka j x hx | exact hS1.kb j x hx
end Go.Proofs.Ytimfdfeleoaehaa
