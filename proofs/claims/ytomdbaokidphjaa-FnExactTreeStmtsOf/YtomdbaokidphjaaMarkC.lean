/-
  What the law writes into a list of statements that owns its memory.
-/
import Derived.Test.YtomdbaokidphjaaMarkB
namespace Go.Proofs.Ytomdbaokidphjaa
open Go.RowKit Go.Shelf
set_option linter.unusedSimpArgs false
set_option linter.unusedVariables false
attribute [local go_sem] Oper.semAt_some

def SX.cur (ks : List SX) (k i j : Nat) (x : SX) : SX := if j < i then x.mark (k + SX.cntL (ks.take j)) else x
structure MStS (ks : List SX) (g N : Nat) (l h : Nat → Nat) (k i : Nat) (W : World) : Prop where
  row : ∀ (j : Nat) (x : SX), ks[j]? = some x → RowAt W g N 40
  cell : ∀ (j : Nat) (x : SX), ks[j]? = some x → Cells12 W g (0 + j * 12) (SX.cur ks k i j x)
  ke : ∀ (j : Nat) (x : SX), ks[j]? = some x → OwnR W (l (4 * j)) (h (4 * j)) (SX.cur ks k i j x).e.base (SX.cur ks k i j x).e.kids
  kf : ∀ (j : Nat) (x : SX), ks[j]? = some x → OwnR W (l (4 * j + 1)) (h (4 * j + 1)) (SX.cur ks k i j x).f.base (SX.cur ks k i j x).f.kids
  ka : ∀ (j : Nat) (x : SX), ks[j]? = some x → OwnSR W (l (4 * j + 2)) (h (4 * j + 2)) (SX.cur ks k i j x).abase (SX.cur ks k i j x).la
  kb : ∀ (j : Nat) (x : SX), ks[j]? = some x → OwnSR W (l (4 * j + 3)) (h (4 * j + 3)) (SX.cur ks k i j x).bbase (SX.cur ks k i j x).lb
abbrev SX.vals (x : SX) : List Value := [.int .i64 x.kind, .string x.name, .int .i64 x.e.kind, .int .i64 x.e.num, .string x.e.name, .slice x.e.base x.e.kids.length x.e.cap, .int .i64 x.f.kind, .int .i64 x.f.num, .string x.f.name, .slice x.f.base x.f.kids.length x.f.cap, .slice x.abase x.la.length x.acap, .slice x.bbase x.lb.length x.bcap]
theorem Cells12.vals {W : World} {b o : Nat} {x : SX} (h : Cells12 W b o x) : ∀ (j : Nat) (v : Value), x.vals[j]? = some v → W.cell? ⟨b, o + j, none⟩ = some v := by
  intro j v hj
  match j, hj with
  | 0, hj => cases hj; exact h.c0
  | 1, hj => cases hj; exact h.c1
  | 2, hj => cases hj; exact h.c2
  | 3, hj => cases hj; exact h.c3
  | 4, hj => cases hj; exact h.c4
  | 5, hj => cases hj; exact h.c5
  | 6, hj => cases hj; exact h.c6
  | 7, hj => cases hj; exact h.c7
  | 8, hj => cases hj; exact h.c8
  | 9, hj => cases hj; exact h.c9
  | 10, hj => cases hj; exact h.c10
  | 11, hj => cases hj; exact h.c11
  | n + 12, hj => simp at hj
/-- Behind the round: the i-th is written, the others are as they were. -/
theorem MStS.next {ks : List SX} {lo hi g N i len k kk : Nat} {l h : Nat → Nat} {x : SX} {A W : World} {cs : List Value} (hl : ks.length = len) (hx : ks[i]? = some x) (hkk : k + SX.cntL (ks.take i) = kk) (hS : MStS ks g N l h k i A) (hX : Bx lo hi g i len l h A)
    (hM : StM lo hi g N i len l h x A W cs (x.mark kk).e.kids (x.mark kk).f.kids (x.mark kk).la (x.mark kk).lb) (hc : Cells12 W g (0 + i * 12) (x.mark kk)) : MStS ks g N l h k (i + 1) W := by
  have hlt : ∀ (j : Nat) (y : SX), ks[j]? = some y → j < len := fun j y hy => by rw [← hl]; exact (List.getElem?_eq_some_iff.1 hy).1
  have hme : SX.cur ks k (i + 1) i x = x.mark kk := by unfold SX.cur; rw [if_pos (by omega), hkk]
  have hot : ∀ (j : Nat) (y : SX), j ≠ i → SX.cur ks k (i + 1) j y = SX.cur ks k i j y := by
    intro j y hj
    unfold SX.cur
    by_cases h1 : j < i
    · rw [if_pos h1, if_pos (by omega)]
    · rw [if_neg h1, if_neg (by omega)]
  have hmk := x.mark_eq kk
  refine ⟨fun j y hy => hM.rw.row, fun j y hy => ?_, fun j y hy => ?_, fun j y hy => ?_, fun j y hy => ?_, fun j y hy => ?_⟩
  all_goals
    by_cases hji : j = i
    · subst hji
      rw [hx] at hy
      cases hy
      rw [hme]
      first | exact hc | (have hq := hM.e; rw [hmk] at hq ⊢; exact hq) | (have hq := hM.f; rw [hmk] at hq ⊢; exact hq) | (have hq := hM.a; rw [hmk] at hq ⊢; exact hq) | (have hq := hM.b; rw [hmk] at hq ⊢; exact hq)
    · rw [hot j y hji]
      have hjl := hlt j y hy
      have hil := hX.hil
      first
        | (have hcj := hS.cell j y hy
           rw [Nat.zero_add] at hcj ⊢
           exact ⟨(hM.rw.out _ (by omega)).trans hcj.c0, (hM.rw.out _ (by omega)).trans hcj.c1, (hM.rw.out _ (by omega)).trans hcj.c2, (hM.rw.out _ (by omega)).trans hcj.c3, (hM.rw.out _ (by omega)).trans hcj.c4, (hM.rw.out _ (by omega)).trans hcj.c5, (hM.rw.out _ (by omega)).trans hcj.c6, (hM.rw.out _ (by omega)).trans hcj.c7, (hM.rw.out _ (by omega)).trans hcj.c8, (hM.rw.out _ (by omega)).trans hcj.c9, (hM.rw.out _ (by omega)).trans hcj.c10, (hM.rw.out _ (by omega)).trans hcj.c11⟩)
        | exact (hS.ke j y hy).mono (hM.oth _ (by omega) (by omega))
        | exact (hS.kf j y hy).mono (hM.oth _ (by omega) (by omega))
        | exact (hS.ka j y hy).mono (hM.oth _ (by omega) (by omega))
        | exact (hS.kb j y hy).mono (hM.oth _ (by omega) (by omega))
set_option maxRecDepth 10000 in
set_option maxHeartbeats 8000000 in
theorem markS (sz : Nat) : ∀ ks : List SX, SX.cntL ks ≤ sz → ∀ (lo hi : Nat) (a : Option Addr) (c k : Nat) (w : World), OwnSR w lo hi a ks → hi ≤ w.heap.size → k + SX.cntL ks ≤ 1152921504606846976 →
    Calls Try.prog 9 #[.slice a ks.length c, .int .i64 k] w fun e w' => e = .returned (.int .i64 ((k + SX.cntL ks : Nat) : Int)) ∧ OwnSR w' lo hi a (SX.markL ks k) ∧ Kept (fun b => lo ≤ b ∧ b < hi) w w' := by
  induction sz using Nat.strongRecOn with
  | _ sz ih =>
  intro ks hsz lo hi a c k w hO hhi hk
  have ih' : Hid (∀ m < sz, ∀ ks : List SX, SX.cntL ks ≤ m → ∀ (lo hi : Nat) (a : Option Addr) (c k : Nat) (w : World), OwnSR w lo hi a ks → hi ≤ w.heap.size → k + SX.cntL ks ≤ 1152921504606846976 →
    Calls Try.prog 9 #[.slice a ks.length c, .int .i64 k] w fun e w' => e = .returned (.int .i64 ((k + SX.cntL ks : Nat) : Int)) ∧ OwnSR w' lo hi a (SX.markL ks k) ∧ Kept (fun b => lo ≤ b ∧ b < hi) w w') := ih
  clear ih
  obtain ⟨g, N, l, h, row, cell, box, apart, ke, kf, ka, kb⟩ := hO.parts
  clear hO
  obtain ⟨len, hl⟩ : ∃ len, ks.length = len := ⟨_, rfl⟩
  have hlc := SX.len_cnt ks
  have hS0 : Hid (MStS ks g N l h k 0 w) := ⟨fun j x hx => (row j x hx).2.2.2.1, fun j x hx => by simpa [SX.cur] using cell j x hx, fun j x hx => by simpa [SX.cur] using ke j x hx, fun j x hx => by simpa [SX.cur] using kf j x hx, fun j x hx => by simpa [SX.cur] using ka j x hx, fun j x hx => by simpa [SX.cur] using kb j x hx⟩
  have hrowH : Hid (∀ (i : Nat) (k : SX), ks[i]? = some k → a = some ⟨g, 0, none⟩ ∧ lo ≤ g ∧ g < hi ∧ RowAt w g N 40 ∧ ks.length * 12 ≤ N) := row
  have hboxH : Hid (∀ (m : Nat), m < 4 * ks.length → lo ≤ l m ∧ h m ≤ hi ∧ (g < l m ∨ h m ≤ g)) := box
  have hapH : Hid (∀ (m n : Nat), m < 4 * ks.length → n < 4 * ks.length → m ≠ n → h m ≤ l n ∨ h n ≤ l m) := apart
  clear row cell box apart ke kf ka kb
  rw [hl] at hlc ⊢
  go_enter Try.func9, Try.ntmps9
  go_wp2_with fail
  go_loopw [1, 5] (fun v1 v5 wr => ∃ (i : Nat), v5 = .int .i64 i ∧ v1 = .int .i64 ((k + SX.cntL (ks.take i) : Nat) : Int) ∧ i ≤ len ∧ Hid (MStS ks g N l h k i wr) ∧ Kept (fun b => lo ≤ b ∧ b < hi) w wr) (fun _ v5 _ => len - (intOf v5).toNat)
  case atStart => exact ⟨0, rfl, by simp [SX.cntL], by omega, hS0, Kept.refl _ _⟩
  case round =>
    obtain ⟨i, rfl, rfl, hi', hS, hK⟩ := hrel
    rename World => wo
    by_cases hlt : i < len
    · obtain ⟨x, hx⟩ : ∃ x, ks[i]? = some x := ⟨_, List.getElem?_eq_getElem (by omega)⟩
      obtain ⟨ha, hg1, hg2, -, hN0⟩ := hrowH.out i x hx
      rw [hl] at hN0
      have hN : i * 12 + 12 ≤ N := by omega
      have hzo := hK.size
      have hX : Bx lo hi g i len l h wo := ⟨fun m hm => hboxH.out m (by omega), fun m n hm hn => hapH.out m n (by omega) (by omega), by omega, hlt, hg1, hg2⟩
      have hcur : SX.cur ks k i i x = x := by simp [SX.cur]
      have hc := hS.out.cell i x hx
      rw [hcur, Nat.zero_add] at hc
      have T0 : StM lo hi g N i len l h x wo wo x.vals x.e.kids x.f.kids x.la x.lb := by
        have q1 := hS.out.ke i x hx
        have q2 := hS.out.kf i x hx
        have q3 := hS.out.ka i x hx
        have q4 := hS.out.kb i x hx
        rw [hcur] at q1 q2 q3 q4
        exact ⟨⟨hS.out.row i x hx, fun o _ => rfl, hc.vals⟩, q1, q2, q3, q4, fun _ _ _ _ _ _ => rfl, Kept.refl _ _⟩
      clear hc
      have hsn := SX.cntL_snoc hx
      have hsl := SX.cntL_le ks (i + 1)
      have hce := x.cnt_eq
      have hcg := SX.cnt_get hx
      obtain ⟨kk, hkk⟩ : ∃ n, k + SX.cntL (ks.take i) = n := ⟨_, rfl⟩
      rw [hkk]
      subst ha
      have r0 := T0.rw.at_ 0 _ rfl
      have f0 := T0.rw.row.frozen (i * 12)
      rw [Nat.add_zero] at r0
      obtain ⟨V0, qV0⟩ : ∃ X, wo.setCell ⟨g, i * 12, none⟩ (.int .i64 ((kk : Nat) : Int)) = X := ⟨_, rfl⟩
      have T1 : StM lo hi g N i len l h x wo V0 ((x.vals).set 0 (.int .i64 ((kk : Nat) : Int))) (x.e.kids) (x.f.kids) (x.la) (x.lb) := by
        have hq := T0.set hX hN 0 (by omega) (.int .i64 ((kk : Nat) : Int))
        rw [Nat.add_zero, qV0] at hq
        exact hq
      have hmt : Hid (Calls Try.prog 18 #[.int .i64 ((kk : Int) + 1)] V0 fun e w' => e = .returned (.string (markB (kk + 1))) ∧ Below V0.heap.size V0 w') := markText (kk + 1) V0 (by omega)
      go_wp2_with fail
      go_at_call 18
      refine hmt.out.mono ?_
      rintro e V1 ⟨rfl, hb⟩
      have T2 := T1.below hX hb
      clear r0 f0 qV0
      clear hmt hb T1
      have r2 := T2.rw.at_ 1 _ rfl
      have f2 := T2.rw.row.frozen (i * 12 + 1)
      obtain ⟨V2, qV2⟩ : ∃ X, V1.setCell ⟨g, i * 12 + 1, none⟩ (.string (markB (kk + 1))) = X := ⟨_, rfl⟩
      have T3 : StM lo hi g N i len l h x wo V2 (((x.vals).set 0 (.int .i64 ((kk : Nat) : Int))).set 1 (.string (markB (kk + 1)))) (x.e.kids) (x.f.kids) (x.la) (x.lb) := by
        have hq := T2.set hX hN 1 (by omega) (.string (markB (kk + 1)))
        rw [qV2] at hq
        exact hq
      have r3 := T3.rw.at_ 2 _ rfl
      have f3 := T3.rw.row.frozen (i * 12 + 2)
      obtain ⟨V3, qV3⟩ : ∃ X, V2.setCell ⟨g, i * 12 + 2, none⟩ (.int .i64 ((kk : Int) + 1 + 1)) = X := ⟨_, rfl⟩
      have T4 : StM lo hi g N i len l h x wo V3 ((((x.vals).set 0 (.int .i64 ((kk : Nat) : Int))).set 1 (.string (markB (kk + 1)))).set 2 (.int .i64 ((kk : Int) + 1 + 1))) (x.e.kids) (x.f.kids) (x.la) (x.lb) := by
        have hq := T3.set hX hN 2 (by omega) (.int .i64 ((kk : Int) + 1 + 1))
        rw [qV3] at hq
        exact hq
      have r4 := T4.rw.at_ 3 _ rfl
      have f4 := T4.rw.row.frozen (i * 12 + 3)
      obtain ⟨V4, qV4⟩ : ∃ X, V3.setCell ⟨g, i * 12 + 3, none⟩ (.int .i64 ((kk : Int) + 1 + 1 + 1)) = X := ⟨_, rfl⟩
      have T5 : StM lo hi g N i len l h x wo V4 (((((x.vals).set 0 (.int .i64 ((kk : Nat) : Int))).set 1 (.string (markB (kk + 1)))).set 2 (.int .i64 ((kk : Int) + 1 + 1))).set 3 (.int .i64 ((kk : Int) + 1 + 1 + 1))) (x.e.kids) (x.f.kids) (x.la) (x.lb) := by
        have hq := T4.set hX hN 3 (by omega) (.int .i64 ((kk : Int) + 1 + 1 + 1))
        rw [qV4] at hq
        exact hq
      have hmt : Hid (Calls Try.prog 18 #[.int .i64 ((kk : Int) + 1 + 1 + 1 + 1)] V4 fun e w' => e = .returned (.string (markB (kk + 4))) ∧ Below V4.heap.size V4 w') := markText (kk + 4) V4 (by omega)
      go_wp2_with fail
      go_at_call 18
      refine hmt.out.mono ?_
      rintro e V5 ⟨rfl, hb⟩
      have T6 := T5.below hX hb
      clear r2 f2 qV2 r3 f3 qV3 r4 f4 qV4
      clear hmt hb T5
      have r6 := T6.rw.at_ 4 _ rfl
      have f6 := T6.rw.row.frozen (i * 12 + 4)
      obtain ⟨V6, qV6⟩ : ∃ X, V5.setCell ⟨g, i * 12 + 4, none⟩ (.string (markB (kk + 4))) = X := ⟨_, rfl⟩
      have T7 : StM lo hi g N i len l h x wo V6 ((((((x.vals).set 0 (.int .i64 ((kk : Nat) : Int))).set 1 (.string (markB (kk + 1)))).set 2 (.int .i64 ((kk : Int) + 1 + 1))).set 3 (.int .i64 ((kk : Int) + 1 + 1 + 1))).set 4 (.string (markB (kk + 4)))) (x.e.kids) (x.f.kids) (x.la) (x.lb) := by
        have hq := T6.set hX hN 4 (by omega) (.string (markB (kk + 4)))
        rw [qV6] at hq
        exact hq
      have r7 := T7.rw.at_ 5 _ rfl
      have hcl : Hid (Calls Try.prog 19 #[.slice x.e.base x.e.kids.length x.e.cap, .int .i64 ((kk : Int) + 1 + 1 + 1 + 1 + 1)] V6 fun e w' => e = .returned (.int .i64 ((kk + 5 + 3 * XT.sizeAll x.e.kids : Nat) : Int)) ∧ OwnR w' (l (4 * i)) (h (4 * i)) x.e.base (XT.markL x.e.kids (kk + 5)) ∧ Kept (fun b => l (4 * i) ≤ b ∧ b < h (4 * i)) V6 w') :=
        markE _ x.e.kids (Nat.le_refl _) (by omega) _ _ x.e.base x.e.cap (kk + 5) V6 T7.e (by have h1 := (hX.box (4 * i) (by omega)).2.1; have h2 := T7.kept.size; omega) (by omega)
      go_wp2_with fail
      go_at_call 19
      refine hcl.out.mono ?_
      rintro e V7 ⟨rfl, hO, hb⟩
      have T8 := T7.subE hX hO hb
      clear r6 f6 qV6 r7
      clear hcl hO hb T7
      obtain ⟨k1, hk1⟩ : ∃ n, kk + 5 + 3 * XT.sizeAll x.e.kids = n := ⟨_, rfl⟩
      rw [hk1]
      have r8 := T8.rw.at_ 6 _ rfl
      have f8 := T8.rw.row.frozen (i * 12 + 6)
      obtain ⟨V8, qV8⟩ : ∃ X, V7.setCell ⟨g, i * 12 + 6, none⟩ (.int .i64 ((k1 : Nat) : Int)) = X := ⟨_, rfl⟩
      have T9 : StM lo hi g N i len l h x wo V8 (((((((x.vals).set 0 (.int .i64 ((kk : Nat) : Int))).set 1 (.string (markB (kk + 1)))).set 2 (.int .i64 ((kk : Int) + 1 + 1))).set 3 (.int .i64 ((kk : Int) + 1 + 1 + 1))).set 4 (.string (markB (kk + 4)))).set 6 (.int .i64 ((k1 : Nat) : Int))) (XT.markL x.e.kids (kk + 5)) (x.f.kids) (x.la) (x.lb) := by
        have hq := T8.set hX hN 6 (by omega) (.int .i64 ((k1 : Nat) : Int))
        rw [qV8] at hq
        exact hq
      have r9 := T9.rw.at_ 7 _ rfl
      have f9 := T9.rw.row.frozen (i * 12 + 7)
      obtain ⟨V9, qV9⟩ : ∃ X, V8.setCell ⟨g, i * 12 + 7, none⟩ (.int .i64 ((k1 : Int) + 1)) = X := ⟨_, rfl⟩
      have T10 : StM lo hi g N i len l h x wo V9 ((((((((x.vals).set 0 (.int .i64 ((kk : Nat) : Int))).set 1 (.string (markB (kk + 1)))).set 2 (.int .i64 ((kk : Int) + 1 + 1))).set 3 (.int .i64 ((kk : Int) + 1 + 1 + 1))).set 4 (.string (markB (kk + 4)))).set 6 (.int .i64 ((k1 : Nat) : Int))).set 7 (.int .i64 ((k1 : Int) + 1))) (XT.markL x.e.kids (kk + 5)) (x.f.kids) (x.la) (x.lb) := by
        have hq := T9.set hX hN 7 (by omega) (.int .i64 ((k1 : Int) + 1))
        rw [qV9] at hq
        exact hq
      have hmt : Hid (Calls Try.prog 18 #[.int .i64 ((k1 : Int) + 1 + 1)] V9 fun e w' => e = .returned (.string (markB (k1 + 2))) ∧ Below V9.heap.size V9 w') := markText (k1 + 2) V9 (by omega)
      go_wp2_with fail
      go_at_call 18
      refine hmt.out.mono ?_
      rintro e V10 ⟨rfl, hb⟩
      have T11 := T10.below hX hb
      clear r8 f8 qV8 r9 f9 qV9
      clear hmt hb T10
      have r11 := T11.rw.at_ 8 _ rfl
      have f11 := T11.rw.row.frozen (i * 12 + 8)
      obtain ⟨V11, qV11⟩ : ∃ X, V10.setCell ⟨g, i * 12 + 8, none⟩ (.string (markB (k1 + 2))) = X := ⟨_, rfl⟩
      have T12 : StM lo hi g N i len l h x wo V11 (((((((((x.vals).set 0 (.int .i64 ((kk : Nat) : Int))).set 1 (.string (markB (kk + 1)))).set 2 (.int .i64 ((kk : Int) + 1 + 1))).set 3 (.int .i64 ((kk : Int) + 1 + 1 + 1))).set 4 (.string (markB (kk + 4)))).set 6 (.int .i64 ((k1 : Nat) : Int))).set 7 (.int .i64 ((k1 : Int) + 1))).set 8 (.string (markB (k1 + 2)))) (XT.markL x.e.kids (kk + 5)) (x.f.kids) (x.la) (x.lb) := by
        have hq := T11.set hX hN 8 (by omega) (.string (markB (k1 + 2)))
        rw [qV11] at hq
        exact hq
      have r12 := T12.rw.at_ 9 _ rfl
      have hcl : Hid (Calls Try.prog 19 #[.slice x.f.base x.f.kids.length x.f.cap, .int .i64 ((k1 : Int) + 1 + 1 + 1)] V11 fun e w' => e = .returned (.int .i64 ((k1 + 3 + 3 * XT.sizeAll x.f.kids : Nat) : Int)) ∧ OwnR w' (l (4 * i + 1)) (h (4 * i + 1)) x.f.base (XT.markL x.f.kids (k1 + 3)) ∧ Kept (fun b => l (4 * i + 1) ≤ b ∧ b < h (4 * i + 1)) V11 w') :=
        markE _ x.f.kids (Nat.le_refl _) (by omega) _ _ x.f.base x.f.cap (k1 + 3) V11 T12.f (by have h1 := (hX.box (4 * i + 1) (by omega)).2.1; have h2 := T12.kept.size; omega) (by omega)
      go_wp2_with fail
      go_at_call 19
      refine hcl.out.mono ?_
      rintro e V12 ⟨rfl, hO, hb⟩
      have T13 := T12.subF hX hO hb
      clear r11 f11 qV11 r12
      clear hcl hO hb T12
      obtain ⟨k2, hk2⟩ : ∃ n, k1 + 3 + 3 * XT.sizeAll x.f.kids = n := ⟨_, rfl⟩
      rw [hk2]
      have r13 := T13.rw.at_ 10 _ rfl
      have hcl : Hid (Calls Try.prog 9 #[.slice x.abase x.la.length x.acap, .int .i64 ((k2 : Nat) : Int)] V12 fun e w' => e = .returned (.int .i64 ((k2 + SX.cntL x.la : Nat) : Int)) ∧ OwnSR w' (l (4 * i + 2)) (h (4 * i + 2)) x.abase (SX.markL x.la (k2)) ∧ Kept (fun b => l (4 * i + 2) ≤ b ∧ b < h (4 * i + 2)) V12 w') :=
        ih'.out (SX.cntL x.la) (by omega) x.la (Nat.le_refl _) _ _ x.abase x.acap k2 V12 T13.a (by have h1 := (hX.box (4 * i + 2) (by omega)).2.1; have h2 := T13.kept.size; omega) (by omega)
      go_wp2_with fail
      go_at_call 9
      refine hcl.out.mono ?_
      rintro e V13 ⟨rfl, hO, hb⟩
      have T14 := T13.subA hX hO hb
      clear r13
      clear hcl hO hb T13
      obtain ⟨k3, hk3⟩ : ∃ n, k2 + SX.cntL x.la = n := ⟨_, rfl⟩
      rw [hk3]
      have r14 := T14.rw.at_ 11 _ rfl
      have hcl : Hid (Calls Try.prog 9 #[.slice x.bbase x.lb.length x.bcap, .int .i64 ((k3 : Nat) : Int)] V13 fun e w' => e = .returned (.int .i64 ((k3 + SX.cntL x.lb : Nat) : Int)) ∧ OwnSR w' (l (4 * i + 3)) (h (4 * i + 3)) x.bbase (SX.markL x.lb (k3)) ∧ Kept (fun b => l (4 * i + 3) ≤ b ∧ b < h (4 * i + 3)) V13 w') :=
        ih'.out (SX.cntL x.lb) (by omega) x.lb (Nat.le_refl _) _ _ x.bbase x.bcap k3 V13 T14.b (by have h1 := (hX.box (4 * i + 3) (by omega)).2.1; have h2 := T14.kept.size; omega) (by omega)
      go_wp2_with fail
      go_at_call 9
      refine hcl.out.mono ?_
      rintro e V14 ⟨rfl, hO, hb⟩
      have T15 := T14.subB hX hO hb
      clear r14
      clear hcl hO hb T14
      obtain ⟨k4, hk4⟩ : ∃ n, k3 + SX.cntL x.lb = n := ⟨_, rfl⟩
      rw [hk4]
      have hmk := x.mark_eq kk
      have p1 : kk + 5 + 3 * XT.sizeAll x.e.kids = k1 := hk1
      have p1' : kk + 6 + 3 * XT.sizeAll x.e.kids = k1 + 1 := by omega
      have p2 : kk + 7 + 3 * XT.sizeAll x.e.kids = k1 + 2 := by omega
      have p3 : kk + 8 + 3 * XT.sizeAll x.e.kids = k1 + 3 := by omega
      have p4 : k1 + 3 + 3 * XT.sizeAll x.f.kids = k2 := hk2
      rw [p3, p4, p2, p1', p1, hk3] at hmk
      have hN5 : Hid (MStS ks g N l h k (i + 1) V14) := by
        refine MStS.next (cs := _) hl hx hkk hS.out hX (by rw [hmk]; exact T15) ?_
        rw [hmk, Nat.zero_add]
        have hat := T15.rw.at_
        refine ⟨?_, hat 1 _ rfl, hat 2 _ rfl, hat 3 _ rfl, hat 4 _ rfl, ?_, hat 6 _ rfl, hat 7 _ rfl, hat 8 _ rfl, ?_, ?_, ?_⟩
        · have h0 := hat 0 _ rfl
          exact h0
        · have h5 := hat 5 _ rfl
          simpa [SX.e, XT.kids, XT.base, XT.cap, XT.markL_length] using h5
        · have h9 := hat 9 _ rfl
          simpa [SX.f, XT.kids, XT.base, XT.cap, XT.markL_length] using h9
        · have h10 := hat 10 _ rfl
          simpa [SX.la, SX.abase, SX.acap, SX.markL_length] using h10
        · have h11 := hat 11 _ rfl
          simpa [SX.lb, SX.bbase, SX.bcap, SX.markL_length] using h11
      have hkf := T15.kept
      clear hmk p1 p1' p2 p3 p4 T15
      go_wp2
      exact ⟨⟨i + 1, by go_num, congrArg (Value.int IntKind.i64) (by omega), by omega, hN5, hK.trans hkf⟩, by simp [intOf]; omega⟩
    · have he : i = len := by omega
      have htk : ks.take i = ks := List.take_of_length_le (by omega)
      rw [htk]
      go_wp2
      go_returns
      refine ⟨rfl, ?_, hK⟩
      have hS1 := hS.out
      have hcur : ∀ (j : Nat) (x : SX), ks[j]? = some x → SX.cur ks k i j x = x.mark (k + SX.cntL (ks.take j)) := by
        intro j x hx
        have hj : j < ks.length := (List.getElem?_eq_some_iff.1 hx).1
        unfold SX.cur
        rw [if_pos (by omega)]
      refine .mk lo hi a _ g N l h (fun j y hy => ?_) (fun j y hy => ?_) (fun j hj => hboxH.out j (by rw [SX.markL_length] at hj; exact hj)) (fun j j' hj hj' => hapH.out j j' (by rw [SX.markL_length] at hj; exact hj) (by rw [SX.markL_length] at hj'; exact hj')) (fun j y hy => ?_) (fun j y hy => ?_) (fun j y hy => ?_) (fun j y hy => ?_)
      · obtain ⟨x, hx, rfl⟩ := SX.markL_back hy
        obtain ⟨q1, q2, q3, q4, q5⟩ := hrowH.out j x hx
        exact ⟨q1, q2, q3, hS1.row j x hx, by rw [SX.markL_length]; exact q5⟩
      all_goals
        obtain ⟨x, hx, rfl⟩ := SX.markL_back hy
        rw [← hcur j x hx]
        first | exact hS1.cell j x hx | exact hS1.ke j x hx | exact hS1.kf j x hx | exact hS1.ka j x hx | exact hS1.kb j x hx
end Go.Proofs.Ytomdbaokidphjaa
