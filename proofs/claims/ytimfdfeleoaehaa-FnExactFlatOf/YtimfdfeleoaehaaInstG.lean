/-
  What the law reads again in a list of statements that it has written into.
  What the law writes into a list of instructions that owns its memory.
-/
import Derived.Test.YtimfdfeleoaehaaMarkC
import Derived.Test.YtimfdfeleoaehaaInstF
import Derived.Test.YtimfdfeleoaehaaProgA
namespace Go.Proofs.Ytimfdfeleoaehaa
open Go.RowKit Go.Shelf
set_option linter.unusedSimpArgs false
set_option linter.unusedVariables false
attribute [local go_sem] Oper.semAt_some

set_option maxRecDepth 10000 in
set_option maxHeartbeats 8000000 in
theorem heldS (sz : Nat) : ∀ ks : List SX, SX.cntL ks ≤ sz → ∀ (a : Option Addr) (c k : Nat) (ok : Nat → Prop) (w : World), (∀ b, ok b → b < w.heap.size) → SRow ok w a (SX.markL ks k) → (∀ (i : Nat) (y : SX), (SX.markL ks k)[i]? = some y → LiesS ok w y) → k + SX.cntL ks ≤ 1152921504606846976 →
    Calls Try.prog 37 #[.slice a ks.length c, .int .i64 k] w fun e w' => e = .returned (.int .i64 ((k + SX.cntL ks : Nat) : Int)) ∧ Below w.heap.size w w' := by
  induction sz using Nat.strongRecOn with
  | _ sz ih =>
  intro ks hsz a c k ok w hok hR hL hk
  have ih' : Hid (∀ m < sz, ∀ ks : List SX, SX.cntL ks ≤ m → ∀ (a : Option Addr) (c k : Nat) (ok : Nat → Prop) (w : World), (∀ b, ok b → b < w.heap.size) → SRow ok w a (SX.markL ks k) → (∀ (i : Nat) (y : SX), (SX.markL ks k)[i]? = some y → LiesS ok w y) → k + SX.cntL ks ≤ 1152921504606846976 →
    Calls Try.prog 37 #[.slice a ks.length c, .int .i64 k] w fun e w' => e = .returned (.int .i64 ((k + SX.cntL ks : Nat) : Int)) ∧ Below w.heap.size w w') := ih
  clear ih
  obtain ⟨len, hl⟩ : ∃ len, ks.length = len := ⟨_, rfl⟩
  have hlc := SX.len_cnt ks
  rw [hl] at hlc ⊢
  have hRH : Hid (SRow ok w a (SX.markL ks k)) := hR
  have hLH : Hid (∀ (i : Nat) (y : SX), (SX.markL ks k)[i]? = some y → LiesS ok w y) := hL
  clear hR hL
  go_enter Try.func37, Try.ntmps37
  go_wp2_with fail
  go_loopw [1, 5] (fun v1 v5 wr => ∃ (i : Nat), v5 = .int .i64 i ∧ v1 = .int .i64 ((k + SX.cntL (ks.take i) : Nat) : Int) ∧ i ≤ len ∧ Below w.heap.size w wr) (fun _ v5 _ => len - (intOf v5).toNat)
  case atStart => exact ⟨0, rfl, by simp [SX.cntL], by omega, Below.refl _ _⟩
  case round =>
    obtain ⟨i, rfl, rfl, hi', hB⟩ := hrel
    rename World => wo
    by_cases hlt : i < len
    · obtain ⟨x, hx⟩ : ∃ x, ks[i]? = some x := ⟨_, List.getElem?_eq_getElem (by omega)⟩
      have hy := SX.markL_get ks k i x hx
      have hsn := SX.cntL_snoc hx
      have hsl := SX.cntL_le ks (i + 1)
      have hce := x.cnt_eq
      have hcg := SX.cnt_get hx
      obtain ⟨kk, hkk⟩ : ∃ n, k + SX.cntL (ks.take i) = n := ⟨_, rfl⟩
      rw [hkk] at hy ⊢
      obtain ⟨b, o, ha, hob, hc⟩ := hRH.out i _ hy
      have hd := (hc.below hB (hok b hob)).vals
      have hLx := (hLH.out i _ hy).under hB hok
      have hmk := x.mark_eq kk
      obtain ⟨k1, hk1⟩ : ∃ n, kk + 5 + 3 * XT.sizeAll x.e.kids = n := ⟨_, rfl⟩
      obtain ⟨k2, hk2⟩ : ∃ n, k1 + 3 + 3 * XT.sizeAll x.f.kids = n := ⟨_, rfl⟩
      obtain ⟨k3, hk3⟩ : ∃ n, k2 + SX.cntL x.la = n := ⟨_, rfl⟩
      have p1' : kk + 6 + 3 * XT.sizeAll x.e.kids = k1 + 1 := by omega
      have p2 : kk + 7 + 3 * XT.sizeAll x.e.kids = k1 + 2 := by omega
      have p3 : kk + 8 + 3 * XT.sizeAll x.e.kids = k1 + 3 := by omega
      rw [p3, hk2, p2, p1', hk1, hk3] at hmk
      clear p1' p2 p3
      have hdH : Hid (∀ (j : Nat) (v : Value), [Value.int .i64 ((kk : Nat) : Int), .string (markB (kk + 1)), .int .i64 ((kk : Int) + 1 + 1), .int .i64 ((kk : Int) + 1 + 1 + 1), .string (markB (kk + 4)), .slice x.e.base x.e.kids.length x.e.cap, .int .i64 ((k1 : Nat) : Int), .int .i64 ((k1 : Int) + 1), .string (markB (k1 + 2)), .slice x.f.base x.f.kids.length x.f.cap, .slice x.abase x.la.length x.acap, .slice x.bbase x.lb.length x.bcap][j]? = some v → ∀ W, Below wo.heap.size wo W → W.cell? ⟨b, o + i * 12 + j, none⟩ = some v) := by
        rw [hmk] at hd
        intro j v hj W hW
        have hb : b < wo.heap.size := Nat.lt_of_lt_of_le (hok b hob) hB.size
        refine below_cell hW (hd j v ?_) hb
        have hv : (SX.mk ((kk : Nat) : Int) (markB (kk + 1)) (XT.mk ((kk + 2 : Nat) : Int) ((kk + 3 : Nat) : Int) (markB (kk + 4)) x.e.base x.e.cap (XT.markL x.e.kids (kk + 5))) (XT.mk ((k1 : Nat) : Int) ((k1 + 1 : Nat) : Int) (markB (k1 + 2)) x.f.base x.f.cap (XT.markL x.f.kids (k1 + 3))) x.abase x.acap (SX.markL x.la k2) x.bbase x.bcap (SX.markL x.lb k3)).vals = [Value.int .i64 ((kk : Nat) : Int), .string (markB (kk + 1)), .int .i64 ((kk : Int) + 1 + 1), .int .i64 ((kk : Int) + 1 + 1 + 1), .string (markB (kk + 4)), .slice x.e.base x.e.kids.length x.e.cap, .int .i64 ((k1 : Nat) : Int), .int .i64 ((k1 : Int) + 1), .string (markB (k1 + 2)), .slice x.f.base x.f.kids.length x.f.cap, .slice x.abase x.la.length x.acap, .slice x.bbase x.lb.length x.bcap] := by
          simp only [SX.vals, SX.kind, SX.name, SX.e, SX.f, SX.la, SX.lb, SX.abase, SX.acap, SX.bbase, SX.bcap, XT.kind, XT.num, XT.name, XT.kids, XT.base, XT.cap, XT.markL_length, SX.markL_length]
          rfl
        rw [hv]
        exact hj
      have hokr : ∀ b, ok b → b < wo.heap.size := fun b hb => Nat.lt_of_lt_of_le (hok b hb) hB.size
      have hE : Hid (∀ z, Below wo.heap.size wo z → Calls Try.prog 36 #[.slice x.e.base x.e.kids.length x.e.cap, .int .i64 ((kk : Int) + 1 + 1 + 1 + 1 + 1)] z fun e w' => e = .returned (.int .i64 ((k1 : Nat) : Int)) ∧ Below z.heap.size z w') := by
        intro z hz
        have hq := hLx.parts.1
        rw [hmk] at hq
        have h := heldE _ x.e.kids (Nat.le_refl _) (by omega) x.e.base x.e.cap (kk + 5) ok z (fun b hb => Nat.lt_of_lt_of_le (hokr b hb) hz.size) (fun j y hj => by
          obtain ⟨b', o', q1, q2, q3⟩ := hq.cells j y hj
          exact ⟨b', o', q1, q2, q3.below hz (hokr b' q2)⟩) (fun j y hj => (hq.kid j y hj).under hz hokr) (by omega)
        rw [hk1] at h
        exact h
      have hF : Hid (∀ z, Below wo.heap.size wo z → Calls Try.prog 36 #[.slice x.f.base x.f.kids.length x.f.cap, .int .i64 ((k1 : Int) + 1 + 1 + 1)] z fun e w' => e = .returned (.int .i64 ((k2 : Nat) : Int)) ∧ Below z.heap.size z w') := by
        intro z hz
        have hq := hLx.parts.2.1
        rw [hmk] at hq
        have h := heldE _ x.f.kids (Nat.le_refl _) (by omega) x.f.base x.f.cap (k1 + 3) ok z (fun b hb => Nat.lt_of_lt_of_le (hokr b hb) hz.size) (fun j y hj => by
          obtain ⟨b', o', q1, q2, q3⟩ := hq.cells j y hj
          exact ⟨b', o', q1, q2, q3.below hz (hokr b' q2)⟩) (fun j y hj => (hq.kid j y hj).under hz hokr) (by omega)
        rw [hk2] at h
        exact h
      have hA : Hid (∀ z, Below wo.heap.size wo z → Calls Try.prog 37 #[.slice x.abase x.la.length x.acap, .int .i64 ((k2 : Nat) : Int)] z fun e w' => e = .returned (.int .i64 ((k3 : Nat) : Int)) ∧ Below z.heap.size z w') := by
        intro z hz
        have hq := hLx.parts.2.2
        rw [hmk] at hq
        have h := ih'.out (SX.cntL x.la) (by omega) x.la (Nat.le_refl _) x.abase x.acap k2 ok z (fun b hb => Nat.lt_of_lt_of_le (hokr b hb) hz.size) (hq.1.under hz hokr) (fun j y hj => (hq.2.2.1 j y hj).under hz hokr) (by omega)
        rw [hk3] at h
        exact h
      have hBb : Hid (∀ z, Below wo.heap.size wo z → Calls Try.prog 37 #[.slice x.bbase x.lb.length x.bcap, .int .i64 ((k3 : Nat) : Int)] z fun e w' => e = .returned (.int .i64 ((k3 + SX.cntL x.lb : Nat) : Int)) ∧ Below z.heap.size z w') := by
        intro z hz
        have hq := hLx.parts.2.2
        rw [hmk] at hq
        exact ih'.out (SX.cntL x.lb) (by omega) x.lb (Nat.le_refl _) x.bbase x.bcap k3 ok z (fun b hb => Nat.lt_of_lt_of_le (hokr b hb) hz.size) (hq.2.1.under hz hokr) (fun j y hj => (hq.2.2.2 j y hj).under hz hokr) (by omega)
      clear hmk hd hLx hc
      subst ha
      have hX := Below.refl wo.heap.size wo
      have m0 := hdH.out 0 _ rfl wo hX
      have m1 := hdH.out 1 _ rfl wo hX
      rw [Nat.add_zero] at m0
      haveI : Nonempty (Later wo) := ⟨⟨wo, Below.refl _ _⟩⟩
      have e1 := Later.cell m1
      have hmt : Hid (∀ z : World, Calls Try.prog 34 #[.int .i64 ((kk : Int) + 1)] z fun e w' => e = .returned (.string (markB (kk + 1))) ∧ Below z.heap.size z w') := fun z => markText (kk + 1) z (by omega)
      go_wp2_with fail
      go_cut [28] (fun v wx => v = .bool false ∧ Below wo.heap.size wo wx)
      case first =>
        refine region_class (fun w' => ∃ z : Later wo, w' = z.at) (by kernel_rfl) (by kernel_rfl) ⟨⟨_, (Below.refl _ _).drew⟩, rfl⟩ ?_
        repeat (go_big_quiet_step ((go_at_call 34; refine (hmt.out _).mono ?_; rintro e w2 ⟨rfl, hb⟩; exact ⟨rfl, ⟨_, bstep (Later.below _) hb⟩, rfl⟩)))
        refine wpQuiet_nil ?_
        rintro w' ⟨z, rfl⟩
        go_wp2_with fail
        go_meet
        case rel => exact ⟨rfl, bstep hX (Later.below z)⟩
      case rest =>
        obtain ⟨hv, hb⟩ := hcut
        subst hv
        rename World => V0
        replace hX := hb
        clear hb hmt e1
        clear m0 m1
        have m2 := hdH.out 2 _ rfl V0 hX
        have m3 := hdH.out 3 _ rfl V0 hX
        have m4 := hdH.out 4 _ rfl V0 hX
        haveI : Nonempty (Later V0) := ⟨⟨V0, Below.refl _ _⟩⟩
        have e4 := Later.cell m4
        have hmt : Hid (∀ z : World, Calls Try.prog 34 #[.int .i64 ((kk : Int) + 1 + 1 + 1 + 1)] z fun e w' => e = .returned (.string (markB (kk + 4))) ∧ Below z.heap.size z w') := fun z => markText (kk + 4) z (by omega)
        go_wp2_with fail
        go_cut [59] (fun v wx => v = .bool false ∧ Below wo.heap.size wo wx)
        case first =>
          refine region_class (fun w' => ∃ z : Later V0, w' = z.at) (by kernel_rfl) (by kernel_rfl) ⟨⟨_, (Below.refl _ _).drew⟩, rfl⟩ ?_
          repeat (go_big_quiet_step ((go_at_call 34; refine (hmt.out _).mono ?_; rintro e w2 ⟨rfl, hb⟩; exact ⟨rfl, ⟨_, bstep (Later.below _) hb⟩, rfl⟩)))
          refine wpQuiet_nil ?_
          rintro w' ⟨z, rfl⟩
          go_wp2_with fail
          go_meet
          case rel => exact ⟨rfl, bstep hX (Later.below z)⟩
        case rest =>
          obtain ⟨hv, hb⟩ := hcut
          subst hv
          rename World => V1
          replace hX := hb
          clear hb hmt e4
          clear m2 m3 m4
          have m5 := hdH.out 5 _ rfl V1 hX
          go_wp2_with fail
          go_at_call 36
          refine (hE.out _ hX).mono ?_
          rintro e V2 ⟨rfl, hb⟩
          replace hX := bstep hX hb
          clear hb
          clear m5
          have m6 := hdH.out 6 _ rfl V2 hX
          have m7 := hdH.out 7 _ rfl V2 hX
          have m8 := hdH.out 8 _ rfl V2 hX
          haveI : Nonempty (Later V2) := ⟨⟨V2, Below.refl _ _⟩⟩
          have e8 := Later.cell m8
          have hmt : Hid (∀ z : World, Calls Try.prog 34 #[.int .i64 ((k1 : Int) + 1 + 1)] z fun e w' => e = .returned (.string (markB (k1 + 2))) ∧ Below z.heap.size z w') := fun z => markText (k1 + 2) z (by omega)
          go_wp2_with fail
          go_cut [100] (fun v wx => v = .bool false ∧ Below wo.heap.size wo wx)
          case first =>
            refine region_class (fun w' => ∃ z : Later V2, w' = z.at) (by kernel_rfl) (by kernel_rfl) ⟨⟨_, (Below.refl _ _).drew⟩, rfl⟩ ?_
            repeat (go_big_quiet_step ((go_at_call 34; refine (hmt.out _).mono ?_; rintro e w2 ⟨rfl, hb⟩; exact ⟨rfl, ⟨_, bstep (Later.below _) hb⟩, rfl⟩)))
            refine wpQuiet_nil ?_
            rintro w' ⟨z, rfl⟩
            go_wp2_with fail
            go_meet
            case rel => exact ⟨rfl, bstep hX (Later.below z)⟩
          case rest =>
            obtain ⟨hv, hb⟩ := hcut
            subst hv
            rename World => V3
            replace hX := hb
            clear hb hmt e8
            clear m6 m7 m8
            have m9 := hdH.out 9 _ rfl V3 hX
            go_wp2_with fail
            go_at_call 36
            refine (hF.out _ hX).mono ?_
            rintro e V4 ⟨rfl, hb⟩
            replace hX := bstep hX hb
            clear hb
            clear m9
            have m10 := hdH.out 10 _ rfl V4 hX
            go_wp2_with fail
            go_at_call 37
            refine (hA.out _ hX).mono ?_
            rintro e V5 ⟨rfl, hb⟩
            replace hX := bstep hX hb
            clear hb
            clear m10
            have m11 := hdH.out 11 _ rfl V5 hX
            go_wp2_with fail
            go_at_call 37
            refine (hBb.out _ hX).mono ?_
            rintro e V6 ⟨rfl, hb⟩
            replace hX := bstep hX hb
            clear hb
            clear m11
            go_wp2
            all_goals first | (exfalso; omega) | skip
            exact ⟨⟨i + 1, by go_num, congrArg (Value.int IntKind.i64) (by omega), by omega, hB.trans (hX.mono hB.size)⟩, by simp [intOf]; omega⟩
    · have he : i = len := by omega
      have htk : ks.take i = ks := List.take_of_length_le (by omega)
      rw [htk]
      go_wp2
      go_returns
      exact ⟨rfl, hB⟩
end Go.Proofs.Ytimfdfeleoaehaa
namespace Go.Proofs.Ytimfdfeleoaehaa
open Go.RowKit Go.Shelf
set_option linter.unusedSimpArgs false
set_option linter.unusedVariables false
attribute [local go_sem] Oper.semAt_some

/-- The cells of the i-th statement of a row while it is written: cs; all else of the row as in A. -/
structure RwI (g N i : Nat) (A W : World) (cs : List Value) : Prop where
  row : RowAt W g N 52
  out : ∀ (o : Nat), (o < i * 14 ∨ i * 14 + 14 ≤ o) → W.cell? ⟨g, o, none⟩ = A.cell? ⟨g, o, none⟩
  at_ : ∀ (j : Nat) (v : Value), cs[j]? = some v → W.cell? ⟨g, i * 14 + j, none⟩ = some v
theorem RwI.set {g N i : Nat} {A W : World} {cs : List Value} (h : RwI g N i A W cs) (hN : i * 14 + 14 ≤ N) (j : Nat) (hj : j < 14) (v : Value) : RwI g N i A (W.setCell ⟨g, i * 14 + j, none⟩ v) (cs.set j v) := by
  refine ⟨h.row.set _ _, fun o ho => ?_, fun m u hm => ?_⟩
  · rw [set_far (by omega)]
    exact h.out o ho
  · by_cases e : m = j
    · subst e
      have hl : m < cs.length := by have := (List.getElem?_eq_some_iff.1 hm).1; simpa using this
      rw [List.getElem?_set_self hl] at hm
      cases hm
      exact h.row.put (by omega) _
    · rw [List.getElem?_set_ne (fun q => e q.symm)] at hm
      rw [set_far (by omega)]
      exact h.at_ m u hm
theorem RwI.on {g N i : Nat} {A W W' : World} {cs : List Value} (h : RwI g N i A W cs) (hb : W'.heap[g]? = W.heap[g]?) : RwI g N i A W' cs :=
  ⟨h.row.of_block hb, fun o ho => (cell_of_block (a := ⟨g, o, none⟩) hb).trans (h.out o ho), fun j v hj => (cell_of_block (a := ⟨g, _, none⟩) hb).trans (h.at_ j v hj)⟩
/-- A statement of a list while it is written, with the four lists within it. -/
structure StMI (lo hi g N i len : Nat) (l h : Nat → Nat) (x : SX) (A W : World) (cs : List Value) (E F : List XT) (la lb : List SX) : Prop where
  rw : RwI g N i A W cs
  e : OwnR W (l (4 * i)) (h (4 * i)) x.e.base E
  f : OwnR W (l (4 * i + 1)) (h (4 * i + 1)) x.f.base F
  a : OwnSR W (l (4 * i + 2)) (h (4 * i + 2)) x.abase la
  b : OwnSR W (l (4 * i + 3)) (h (4 * i + 3)) x.bbase lb
  oth : ∀ (m : Nat), m < 4 * len → (m < 4 * i ∨ 4 * i + 4 ≤ m) → ∀ b, l m ≤ b → b < h m → W.heap[b]? = A.heap[b]?
  kept : Kept (fun b => lo ≤ b ∧ b < hi) A W
/-- A step that leaves the intervals alone. -/
theorem StMI.step {lo hi g N i len : Nat} {l h : Nat → Nat} {x : SX} {A W W' : World} {cs cs' : List Value} {E F : List XT} {la lb : List SX} (hS : StMI lo hi g N i len l h x A W cs E F la lb) (hX : Bx lo hi g i len l h A) (hR : RwI g N i A W' cs') (hk : Kept (fun b => b = g) W W') : StMI lo hi g N i len l h x A W' cs' E F la lb := by
  have hz := hS.kept.size
  have hin : ∀ (m : Nat), m < 4 * len → ∀ b, l m ≤ b → b < h m → W'.heap[b]? = W.heap[b]? := fun m hm b h1 h2 => by
    obtain ⟨q1, q2, q3⟩ := hX.box m hm
    have := hX.hsz
    exact hk.block b (by omega) (fun e => by omega)
  have hi' := hX.hil
  exact ⟨hR, hS.e.mono (hin _ (by omega)), hS.f.mono (hin _ (by omega)), hS.a.mono (hin _ (by omega)), hS.b.mono (hin _ (by omega)), fun m hm hn b h1 h2 => (hin m hm b h1 h2).trans (hS.oth m hm hn b h1 h2), hS.kept.trans (hk.mono (fun b _ e => by subst e; exact hX.hgb))⟩
theorem StMI.set {lo hi g N i len : Nat} {l h : Nat → Nat} {x : SX} {A W : World} {cs : List Value} {E F : List XT} {la lb : List SX} (hS : StMI lo hi g N i len l h x A W cs E F la lb) (hX : Bx lo hi g i len l h A) (hN : i * 14 + 14 ≤ N) (j : Nat) (hj : j < 14) (v : Value) : StMI lo hi g N i len l h x A (W.setCell ⟨g, i * 14 + j, none⟩ v) (cs.set j v) E F la lb :=
  hS.step hX (hS.rw.set hN j hj v) ((Kept.refl (fun b => b = g) W).setCell (p := ⟨g, i * 14 + j, none⟩) rfl _)
theorem StMI.below {lo hi g N i len : Nat} {l h : Nat → Nat} {x : SX} {A W W' : World} {cs : List Value} {E F : List XT} {la lb : List SX} (hS : StMI lo hi g N i len l h x A W cs E F la lb) (hX : Bx lo hi g i len l h A) (hb : Below W.heap.size W W') : StMI lo hi g N i len l h x A W' cs E F la lb :=
  hS.step hX (hS.rw.on (hb.block g hS.rw.row.lt)) (Kept.of_new _ hb)
/-- A step within one interval. -/
theorem StMI.sub {lo hi g N i len : Nat} {l h : Nat → Nat} {x : SX} {A W W' : World} {cs : List Value} {E F : List XT} {la lb : List SX} (hS : StMI lo hi g N i len l h x A W cs E F la lb) (hX : Bx lo hi g i len l h A) (m : Nat) (hm : 4 * i ≤ m ∧ m < 4 * i + 4) (hk : Kept (fun b => l m ≤ b ∧ b < h m) W W') :
    RwI g N i A W' cs ∧ (∀ n, n < 4 * len → n ≠ m → ∀ b, l n ≤ b → b < h n → W'.heap[b]? = W.heap[b]?) ∧ Kept (fun b => lo ≤ b ∧ b < hi) A W' := by
  have hz := hS.kept.size
  have hh := hX.hsz
  have hi' := hX.hil
  obtain ⟨q1, q2, q3⟩ := hX.box m (by omega)
  refine ⟨hS.rw.on (hk.block g hS.rw.row.lt (fun e => by omega)), fun n hn hnm b h1 h2 => ?_, hS.kept.trans (hk.mono (fun b _ e => ⟨by omega, by omega⟩))⟩
  obtain ⟨p1, p2, p3⟩ := hX.box n hn
  have := hX.apart n m hn (by omega) hnm
  exact hk.block b (by omega) (fun e => by omega)
theorem StMI.subE {lo hi g N i len : Nat} {l h : Nat → Nat} {x : SX} {A W W' : World} {cs : List Value} {E E' F : List XT} {la lb : List SX} (hS : StMI lo hi g N i len l h x A W cs E F la lb) (hX : Bx lo hi g i len l h A) (hO : OwnR W' (l (4 * i)) (h (4 * i)) x.e.base E') (hk : Kept (fun b => l (4 * i) ≤ b ∧ b < h (4 * i)) W W') : StMI lo hi g N i len l h x A W' cs E' F la lb := by
  obtain ⟨h1, h2, h3⟩ := hS.sub hX (4 * i) ⟨by omega, by omega⟩ hk
  have hi' := hX.hil
  exact ⟨h1, hO, hS.f.mono (h2 _ (by omega) (by omega)), hS.a.mono (h2 _ (by omega) (by omega)), hS.b.mono (h2 _ (by omega) (by omega)), fun m hm hn b q1 q2 => (h2 m hm (by omega) b q1 q2).trans (hS.oth m hm hn b q1 q2), h3⟩
theorem StMI.subF {lo hi g N i len : Nat} {l h : Nat → Nat} {x : SX} {A W W' : World} {cs : List Value} {E F F' : List XT} {la lb : List SX} (hS : StMI lo hi g N i len l h x A W cs E F la lb) (hX : Bx lo hi g i len l h A) (hO : OwnR W' (l (4 * i + 1)) (h (4 * i + 1)) x.f.base F') (hk : Kept (fun b => l (4 * i + 1) ≤ b ∧ b < h (4 * i + 1)) W W') : StMI lo hi g N i len l h x A W' cs E F' la lb := by
  obtain ⟨h1, h2, h3⟩ := hS.sub hX (4 * i + 1) ⟨by omega, by omega⟩ hk
  have hi' := hX.hil
  exact ⟨h1, hS.e.mono (h2 _ (by omega) (by omega)), hO, hS.a.mono (h2 _ (by omega) (by omega)), hS.b.mono (h2 _ (by omega) (by omega)), fun m hm hn b q1 q2 => (h2 m hm (by omega) b q1 q2).trans (hS.oth m hm hn b q1 q2), h3⟩
theorem StMI.subA {lo hi g N i len : Nat} {l h : Nat → Nat} {x : SX} {A W W' : World} {cs : List Value} {E F : List XT} {la la' lb : List SX} (hS : StMI lo hi g N i len l h x A W cs E F la lb) (hX : Bx lo hi g i len l h A) (hO : OwnSR W' (l (4 * i + 2)) (h (4 * i + 2)) x.abase la') (hk : Kept (fun b => l (4 * i + 2) ≤ b ∧ b < h (4 * i + 2)) W W') : StMI lo hi g N i len l h x A W' cs E F la' lb := by
  obtain ⟨h1, h2, h3⟩ := hS.sub hX (4 * i + 2) ⟨by omega, by omega⟩ hk
  have hi' := hX.hil
  exact ⟨h1, hS.e.mono (h2 _ (by omega) (by omega)), hS.f.mono (h2 _ (by omega) (by omega)), hO, hS.b.mono (h2 _ (by omega) (by omega)), fun m hm hn b q1 q2 => (h2 m hm (by omega) b q1 q2).trans (hS.oth m hm hn b q1 q2), h3⟩
theorem StMI.subB {lo hi g N i len : Nat} {l h : Nat → Nat} {x : SX} {A W W' : World} {cs : List Value} {E F : List XT} {la lb lb' : List SX} (hS : StMI lo hi g N i len l h x A W cs E F la lb) (hX : Bx lo hi g i len l h A) (hO : OwnSR W' (l (4 * i + 3)) (h (4 * i + 3)) x.bbase lb') (hk : Kept (fun b => l (4 * i + 3) ≤ b ∧ b < h (4 * i + 3)) W W') : StMI lo hi g N i len l h x A W' cs E F la lb' := by
  obtain ⟨h1, h2, h3⟩ := hS.sub hX (4 * i + 3) ⟨by omega, by omega⟩ hk
  have hi' := hX.hil
  exact ⟨h1, hS.e.mono (h2 _ (by omega) (by omega)), hS.f.mono (h2 _ (by omega) (by omega)), hS.a.mono (h2 _ (by omega) (by omega)), hO, fun m hm hn b q1 q2 => (h2 m hm (by omega) b q1 q2).trans (hS.oth m hm hn b q1 q2), h3⟩

def IX.mark (x : IX) (k : Nat) : IX := ⟨((k : Nat) : Int), x.s.mark (k + 1), ((k + 1 + x.s.cnt : Nat) : Int)⟩
def IX.cnt (x : IX) : Nat := x.s.cnt + 2
def cntI (ks : List IX) : Nat := sumOf IX.cnt ks
theorem cntI_take {us : List IX} {i : Nat} {x : IX} (h : us[i]? = some x) : cntI (us.take (i + 1)) = cntI (us.take i) + IX.cnt x := sumOf_take IX.cnt h
theorem cntI_le (us : List IX) (i : Nat) : cntI (us.take i) ≤ cntI us := sumOf_le IX.cnt us i
def IX.markL (ks : List IX) (k : Nat) : List IX := ks.mapIdx fun j x => x.mark (k + cntI (ks.take j))
theorem IX.markL_length (ks : List IX) (k : Nat) : (IX.markL ks k).length = ks.length := by unfold IX.markL; exact List.length_mapIdx
theorem IX.markL_get {ks : List IX} {i : Nat} {x : IX} (k : Nat) (h : ks[i]? = some x) : (IX.markL ks k)[i]? = some (x.mark (k + cntI (ks.take i))) := by unfold IX.markL; rw [List.getElem?_mapIdx, h]; rfl
theorem IX.markL_back {ks : List IX} {i : Nat} {y : IX} {k : Nat} (h : (IX.markL ks k)[i]? = some y) : ∃ x, ks[i]? = some x ∧ y = x.mark (k + cntI (ks.take i)) := by
  obtain ⟨x, hx⟩ : ∃ x, ks[i]? = some x := ⟨_, List.getElem?_eq_getElem (by have := (List.getElem?_eq_some_iff.1 h).1; rwa [IX.markL_length] at this)⟩
  rw [IX.markL_get k hx] at h
  exact ⟨x, hx, (Option.some.inj h).symm⟩
theorem Cells14.vals {W : World} {b o : Nat} {x : IX} (h : Cells14 W b o x) : ∀ (j : Nat) (v : Value), x.vals[j]? = some v → W.cell? ⟨b, o + j, none⟩ = some v := by
  intro j v hj
  match j, hj with
  | 0, hj => cases hj; exact h.c0
  | 1, hj => cases hj; exact h.c1
  | 2, hj => cases hj; exact h.c2
  | 3, hj => cases hj; exact h.c3
  | 4, hj => cases hj; exact h.c4
  | 5, hj => cases hj; exact h.c5
  | 6, hj => cases hj; exact h.c6
  | 7, hj => cases hj; exact h.c7
  | 8, hj => cases hj; exact h.c8
  | 9, hj => cases hj; exact h.c9
  | 10, hj => cases hj; exact h.c10
  | 11, hj => cases hj; exact h.c11
  | 12, hj => cases hj; exact h.c12
  | 13, hj => cases hj; exact h.c13
  | n + 14, hj => simp at hj
def IX.cur (ks : List IX) (k i j : Nat) (x : IX) : IX := if j < i then x.mark (k + cntI (ks.take j)) else x
structure MStI (ks : List IX) (g N : Nat) (l h : Nat → Nat) (k i : Nat) (W : World) : Prop where
  row : ∀ (j : Nat) (x : IX), ks[j]? = some x → RowAt W g N 52
  cell : ∀ (j : Nat) (x : IX), ks[j]? = some x → Cells14 W g (0 + j * 14) (IX.cur ks k i j x)
  ke : ∀ (j : Nat) (x : IX), ks[j]? = some x → OwnR W (l (4 * j)) (h (4 * j)) (IX.cur ks k i j x).s.e.base (IX.cur ks k i j x).s.e.kids
  kf : ∀ (j : Nat) (x : IX), ks[j]? = some x → OwnR W (l (4 * j + 1)) (h (4 * j + 1)) (IX.cur ks k i j x).s.f.base (IX.cur ks k i j x).s.f.kids
  ka : ∀ (j : Nat) (x : IX), ks[j]? = some x → OwnSR W (l (4 * j + 2)) (h (4 * j + 2)) (IX.cur ks k i j x).s.abase (IX.cur ks k i j x).s.la
  kb : ∀ (j : Nat) (x : IX), ks[j]? = some x → OwnSR W (l (4 * j + 3)) (h (4 * j + 3)) (IX.cur ks k i j x).s.bbase (IX.cur ks k i j x).s.lb
theorem IX.mark_heads (x : IX) (k : Nat) : (x.mark k).s.e.base = x.s.e.base ∧ (x.mark k).s.f.base = x.s.f.base ∧ (x.mark k).s.abase = x.s.abase ∧ (x.mark k).s.bbase = x.s.bbase := by
  have h : (x.mark k).s = x.s.mark (k + 1) := rfl
  rw [h, x.s.mark_eq (k + 1)]
  exact ⟨rfl, rfl, rfl, rfl⟩
theorem MStI.next {ks : List IX} {lo hi g N i len k kk : Nat} {l h : Nat → Nat} {x : IX} {A W : World} {cs : List Value} (hl : ks.length = len) (hx : ks[i]? = some x) (hkk : k + cntI (ks.take i) = kk) (hS : MStI ks g N l h k i A) (hX : Bx lo hi g i len l h A)
    (hM : StMI lo hi g N i len l h x.s A W cs (x.mark kk).s.e.kids (x.mark kk).s.f.kids (x.mark kk).s.la (x.mark kk).s.lb) (hc : Cells14 W g (0 + i * 14) (x.mark kk)) : MStI ks g N l h k (i + 1) W := by
  have hlt : ∀ (j : Nat) (y : IX), ks[j]? = some y → j < len := fun j y hy => by rw [← hl]; exact (List.getElem?_eq_some_iff.1 hy).1
  have hme : IX.cur ks k (i + 1) i x = x.mark kk := by unfold IX.cur; rw [if_pos (by omega), hkk]
  have hot : ∀ (j : Nat) (y : IX), j ≠ i → IX.cur ks k (i + 1) j y = IX.cur ks k i j y := by
    intro j y hj
    unfold IX.cur
    by_cases h1 : j < i
    · rw [if_pos h1, if_pos (by omega)]
    · rw [if_neg h1, if_neg (by omega)]
  obtain ⟨d1, d2, d3, d4⟩ := x.mark_heads kk
  refine ⟨fun j y hy => hM.rw.row, fun j y hy => ?_, fun j y hy => ?_, fun j y hy => ?_, fun j y hy => ?_, fun j y hy => ?_⟩
  all_goals
    by_cases hji : j = i
    · subst hji
      rw [hx] at hy
      cases hy
      rw [hme]
      first | exact hc | (rw [d1]; exact hM.e) | (rw [d2]; exact hM.f) | (rw [d3]; exact hM.a) | (rw [d4]; exact hM.b)
    · rw [hot j y hji]
      have hjl := hlt j y hy
      have hil := hX.hil
      first
        | (have hcj := hS.cell j y hy
           rw [Nat.zero_add] at hcj ⊢
           exact ⟨(hM.rw.out _ (by omega)).trans hcj.c0, (hM.rw.out _ (by omega)).trans hcj.c1, (hM.rw.out _ (by omega)).trans hcj.c2, (hM.rw.out _ (by omega)).trans hcj.c3, (hM.rw.out _ (by omega)).trans hcj.c4, (hM.rw.out _ (by omega)).trans hcj.c5, (hM.rw.out _ (by omega)).trans hcj.c6, (hM.rw.out _ (by omega)).trans hcj.c7, (hM.rw.out _ (by omega)).trans hcj.c8, (hM.rw.out _ (by omega)).trans hcj.c9, (hM.rw.out _ (by omega)).trans hcj.c10, (hM.rw.out _ (by omega)).trans hcj.c11, (hM.rw.out _ (by omega)).trans hcj.c12, (hM.rw.out _ (by omega)).trans hcj.c13⟩)
        | exact (hS.ke j y hy).mono (hM.oth _ (by omega) (by omega))
        | exact (hS.kf j y hy).mono (hM.oth _ (by omega) (by omega))
        | exact (hS.ka j y hy).mono (hM.oth _ (by omega) (by omega))
        | exact (hS.kb j y hy).mono (hM.oth _ (by omega) (by omega))
set_option maxRecDepth 10000 in
set_option maxHeartbeats 8000000 in
theorem markI (ks : List IX) (lo hi : Nat) (a : Option Addr) (c k : Nat) (w : World) (hO : OwnI w lo hi a ks) (hhi : hi ≤ w.heap.size) (hk : k + cntI ks ≤ 1152921504606846976) :
    Calls Try.prog 13 #[.slice a ks.length c, .int .i64 k] w fun e w' => e = .returned (.int .i64 ((k + cntI ks : Nat) : Int)) ∧ OwnI w' lo hi a (IX.markL ks k) ∧ Kept (fun b => lo ≤ b ∧ b < hi) w w' := by
  obtain ⟨g, N, l, h, row, cell, box, apart, ke, kf, ka, kb⟩ := hO
  obtain ⟨len, hl⟩ : ∃ len, ks.length = len := ⟨_, rfl⟩
  have hlc : ks.length ≤ 1152921504606846976 := by
    have h1 : ∀ us : List IX, us.length ≤ cntI us := fun us => by
      induction us with
      | nil => simp [cntI, sumOf]
      | cons x xs ih => unfold cntI at ih ⊢; simp only [sumOf, List.length_cons, IX.cnt]; omega
    have := h1 ks
    omega
  have hS0 : Hid (MStI ks g N l h k 0 w) := ⟨fun j x hx => (row j x hx).2.2.2.1, fun j x hx => by simpa [IX.cur] using cell j x hx, fun j x hx => by simpa [IX.cur] using ke j x hx, fun j x hx => by simpa [IX.cur] using kf j x hx, fun j x hx => by simpa [IX.cur] using ka j x hx, fun j x hx => by simpa [IX.cur] using kb j x hx⟩
  have hrowH : Hid (∀ (i : Nat) (k : IX), ks[i]? = some k → a = some ⟨g, 0, none⟩ ∧ lo ≤ g ∧ g < hi ∧ RowAt w g N 52 ∧ ks.length * 14 ≤ N) := row
  have hboxH : Hid (∀ (m : Nat), m < 4 * ks.length → lo ≤ l m ∧ h m ≤ hi ∧ (g < l m ∨ h m ≤ g)) := box
  have hapH : Hid (∀ (m n : Nat), m < 4 * ks.length → n < 4 * ks.length → m ≠ n → h m ≤ l n ∨ h n ≤ l m) := apart
  clear row cell box apart ke kf ka kb
  rw [hl] at hlc ⊢
  go_enter Try.func13, Try.ntmps13
  go_wp2_with fail
  go_loopw [1, 5] (fun v1 v5 wr => ∃ (i : Nat), v5 = .int .i64 i ∧ v1 = .int .i64 ((k + cntI (ks.take i) : Nat) : Int) ∧ i ≤ len ∧ Hid (MStI ks g N l h k i wr) ∧ Kept (fun b => lo ≤ b ∧ b < hi) w wr) (fun _ v5 _ => len - (intOf v5).toNat)
  case atStart => exact ⟨0, rfl, by simp [cntI, sumOf], by omega, hS0, Kept.refl _ _⟩
  case round =>
    obtain ⟨i, rfl, rfl, hi', hS, hK⟩ := hrel
    rename World => wo
    by_cases hlt : i < len
    · obtain ⟨x, hx⟩ : ∃ x, ks[i]? = some x := ⟨_, List.getElem?_eq_getElem (by omega)⟩
      obtain ⟨ha, hg1, hg2, -, hN0⟩ := hrowH.out i x hx
      rw [hl] at hN0
      have hN : i * 14 + 14 ≤ N := by omega
      have hzo := hK.size
      have hX : Bx lo hi g i len l h wo := ⟨fun m hm => hboxH.out m (by omega), fun m n hm hn => hapH.out m n (by omega) (by omega), by omega, hlt, hg1, hg2⟩
      have hcur : IX.cur ks k i i x = x := by simp [IX.cur]
      have hc := hS.out.cell i x hx
      rw [hcur, Nat.zero_add] at hc
      have T0 : StMI lo hi g N i len l h x.s wo wo x.vals x.s.e.kids x.s.f.kids x.s.la x.s.lb := by
        have q1 := hS.out.ke i x hx
        have q2 := hS.out.kf i x hx
        have q3 := hS.out.ka i x hx
        have q4 := hS.out.kb i x hx
        rw [hcur] at q1 q2 q3 q4
        exact ⟨⟨hS.out.row i x hx, fun o _ => rfl, hc.vals⟩, q1, q2, q3, q4, fun _ _ _ _ _ _ => rfl, Kept.refl _ _⟩
      clear hc
      have hsn := cntI_take hx
      have hsl := cntI_le ks (i + 1)
      have hce := x.s.cnt_eq
      have hcg : IX.cnt x = x.s.cnt + 2 := rfl
      obtain ⟨kk, hkk⟩ : ∃ n, k + cntI (ks.take i) = n := ⟨_, rfl⟩
      rw [hkk]
      subst ha
      have r0 := T0.rw.at_ 0 _ rfl
      have f0 := T0.rw.row.frozen (i * 14)
      rw [Nat.add_zero] at r0
      obtain ⟨V0, qV0⟩ : ∃ X, wo.setCell ⟨g, i * 14, none⟩ (.int .i64 ((kk : Nat) : Int)) = X := ⟨_, rfl⟩
      have T1 : StMI lo hi g N i len l h x.s wo V0 ((x.vals).set 0 (.int .i64 ((kk : Nat) : Int))) (x.s.e.kids) (x.s.f.kids) (x.s.la) (x.s.lb) := by
        have hq := T0.set hX hN 0 (by omega) (.int .i64 ((kk : Nat) : Int))
        rw [Nat.add_zero, qV0] at hq
        exact hq
      have r1 := T1.rw.at_ 1 _ rfl
      have f1 := T1.rw.row.frozen (i * 14 + 1)
      obtain ⟨V1, qV1⟩ : ∃ X, V0.setCell ⟨g, i * 14 + 1, none⟩ (.int .i64 ((kk : Int) + 1)) = X := ⟨_, rfl⟩
      have T2 : StMI lo hi g N i len l h x.s wo V1 (((x.vals).set 0 (.int .i64 ((kk : Nat) : Int))).set 1 (.int .i64 ((kk : Int) + 1))) (x.s.e.kids) (x.s.f.kids) (x.s.la) (x.s.lb) := by
        have hq := T1.set hX hN 1 (by omega) (.int .i64 ((kk : Int) + 1))
        rw [qV1] at hq
        exact hq
      have hmt : Hid (Calls Try.prog 34 #[.int .i64 ((kk : Int) + 1 + 1)] V1 fun e w' => e = .returned (.string (markB (kk + 2))) ∧ Below V1.heap.size V1 w') := markText (kk + 2) V1 (by omega)
      go_wp2_with fail
      go_at_call 34
      refine hmt.out.mono ?_
      rintro e V2 ⟨rfl, hb⟩
      have T3 := T2.below hX hb
      clear r0 f0 qV0 r1 f1 qV1
      clear hmt hb T2
      have r3 := T3.rw.at_ 2 _ rfl
      have f3 := T3.rw.row.frozen (i * 14 + 2)
      obtain ⟨V3, qV3⟩ : ∃ X, V2.setCell ⟨g, i * 14 + 2, none⟩ (.string (markB (kk + 2))) = X := ⟨_, rfl⟩
      have T4 : StMI lo hi g N i len l h x.s wo V3 ((((x.vals).set 0 (.int .i64 ((kk : Nat) : Int))).set 1 (.int .i64 ((kk : Int) + 1))).set 2 (.string (markB (kk + 2)))) (x.s.e.kids) (x.s.f.kids) (x.s.la) (x.s.lb) := by
        have hq := T3.set hX hN 2 (by omega) (.string (markB (kk + 2)))
        rw [qV3] at hq
        exact hq
      have r4 := T4.rw.at_ 3 _ rfl
      have f4 := T4.rw.row.frozen (i * 14 + 3)
      obtain ⟨V4, qV4⟩ : ∃ X, V3.setCell ⟨g, i * 14 + 3, none⟩ (.int .i64 ((kk : Int) + 1 + 1 + 1)) = X := ⟨_, rfl⟩
      have T5 : StMI lo hi g N i len l h x.s wo V4 (((((x.vals).set 0 (.int .i64 ((kk : Nat) : Int))).set 1 (.int .i64 ((kk : Int) + 1))).set 2 (.string (markB (kk + 2)))).set 3 (.int .i64 ((kk : Int) + 1 + 1 + 1))) (x.s.e.kids) (x.s.f.kids) (x.s.la) (x.s.lb) := by
        have hq := T4.set hX hN 3 (by omega) (.int .i64 ((kk : Int) + 1 + 1 + 1))
        rw [qV4] at hq
        exact hq
      have r5 := T5.rw.at_ 4 _ rfl
      have f5 := T5.rw.row.frozen (i * 14 + 4)
      obtain ⟨V5, qV5⟩ : ∃ X, V4.setCell ⟨g, i * 14 + 4, none⟩ (.int .i64 ((kk : Int) + 1 + 1 + 1 + 1)) = X := ⟨_, rfl⟩
      have T6 : StMI lo hi g N i len l h x.s wo V5 ((((((x.vals).set 0 (.int .i64 ((kk : Nat) : Int))).set 1 (.int .i64 ((kk : Int) + 1))).set 2 (.string (markB (kk + 2)))).set 3 (.int .i64 ((kk : Int) + 1 + 1 + 1))).set 4 (.int .i64 ((kk : Int) + 1 + 1 + 1 + 1))) (x.s.e.kids) (x.s.f.kids) (x.s.la) (x.s.lb) := by
        have hq := T5.set hX hN 4 (by omega) (.int .i64 ((kk : Int) + 1 + 1 + 1 + 1))
        rw [qV5] at hq
        exact hq
      have hmt : Hid (Calls Try.prog 34 #[.int .i64 ((kk : Int) + 1 + 1 + 1 + 1 + 1)] V5 fun e w' => e = .returned (.string (markB (kk + 5))) ∧ Below V5.heap.size V5 w') := markText (kk + 5) V5 (by omega)
      go_wp2_with fail
      go_at_call 34
      refine hmt.out.mono ?_
      rintro e V6 ⟨rfl, hb⟩
      have T7 := T6.below hX hb
      clear r3 f3 qV3 r4 f4 qV4 r5 f5 qV5
      clear hmt hb T6
      have r7 := T7.rw.at_ 5 _ rfl
      have f7 := T7.rw.row.frozen (i * 14 + 5)
      obtain ⟨V7, qV7⟩ : ∃ X, V6.setCell ⟨g, i * 14 + 5, none⟩ (.string (markB (kk + 5))) = X := ⟨_, rfl⟩
      have T8 : StMI lo hi g N i len l h x.s wo V7 (((((((x.vals).set 0 (.int .i64 ((kk : Nat) : Int))).set 1 (.int .i64 ((kk : Int) + 1))).set 2 (.string (markB (kk + 2)))).set 3 (.int .i64 ((kk : Int) + 1 + 1 + 1))).set 4 (.int .i64 ((kk : Int) + 1 + 1 + 1 + 1))).set 5 (.string (markB (kk + 5)))) (x.s.e.kids) (x.s.f.kids) (x.s.la) (x.s.lb) := by
        have hq := T7.set hX hN 5 (by omega) (.string (markB (kk + 5)))
        rw [qV7] at hq
        exact hq
      have r8 := T8.rw.at_ 6 _ rfl
      have hcl : Hid (Calls Try.prog 35 #[.slice x.s.e.base x.s.e.kids.length x.s.e.cap, .int .i64 ((kk : Int) + 1 + 1 + 1 + 1 + 1 + 1)] V7 fun e w' => e = .returned (.int .i64 ((kk + 6 + 3 * XT.sizeAll x.s.e.kids : Nat) : Int)) ∧ OwnR w' (l (4 * i)) (h (4 * i)) x.s.e.base (XT.markL x.s.e.kids (kk + 6)) ∧ Kept (fun b => l (4 * i) ≤ b ∧ b < h (4 * i)) V7 w') :=
        markE _ x.s.e.kids (Nat.le_refl _) (by omega) _ _ x.s.e.base x.s.e.cap (kk + 6) V7 T8.e (by have h1 := (hX.box (4 * i) (by omega)).2.1; have h2 := T8.kept.size; omega) (by omega)
      go_wp2_with fail
      go_at_call 35
      refine hcl.out.mono ?_
      rintro e V8 ⟨rfl, hO, hb⟩
      have T9 := T8.subE hX hO hb
      clear r7 f7 qV7 r8
      clear hcl hO hb T8
      obtain ⟨k1, hk1⟩ : ∃ n, kk + 6 + 3 * XT.sizeAll x.s.e.kids = n := ⟨_, rfl⟩
      rw [hk1]
      have r9 := T9.rw.at_ 7 _ rfl
      have f9 := T9.rw.row.frozen (i * 14 + 7)
      obtain ⟨V9, qV9⟩ : ∃ X, V8.setCell ⟨g, i * 14 + 7, none⟩ (.int .i64 ((k1 : Nat) : Int)) = X := ⟨_, rfl⟩
      have T10 : StMI lo hi g N i len l h x.s wo V9 ((((((((x.vals).set 0 (.int .i64 ((kk : Nat) : Int))).set 1 (.int .i64 ((kk : Int) + 1))).set 2 (.string (markB (kk + 2)))).set 3 (.int .i64 ((kk : Int) + 1 + 1 + 1))).set 4 (.int .i64 ((kk : Int) + 1 + 1 + 1 + 1))).set 5 (.string (markB (kk + 5)))).set 7 (.int .i64 ((k1 : Nat) : Int))) (XT.markL x.s.e.kids (kk + 6)) (x.s.f.kids) (x.s.la) (x.s.lb) := by
        have hq := T9.set hX hN 7 (by omega) (.int .i64 ((k1 : Nat) : Int))
        rw [qV9] at hq
        exact hq
      have r10 := T10.rw.at_ 8 _ rfl
      have f10 := T10.rw.row.frozen (i * 14 + 8)
      obtain ⟨V10, qV10⟩ : ∃ X, V9.setCell ⟨g, i * 14 + 8, none⟩ (.int .i64 ((k1 : Int) + 1)) = X := ⟨_, rfl⟩
      have T11 : StMI lo hi g N i len l h x.s wo V10 (((((((((x.vals).set 0 (.int .i64 ((kk : Nat) : Int))).set 1 (.int .i64 ((kk : Int) + 1))).set 2 (.string (markB (kk + 2)))).set 3 (.int .i64 ((kk : Int) + 1 + 1 + 1))).set 4 (.int .i64 ((kk : Int) + 1 + 1 + 1 + 1))).set 5 (.string (markB (kk + 5)))).set 7 (.int .i64 ((k1 : Nat) : Int))).set 8 (.int .i64 ((k1 : Int) + 1))) (XT.markL x.s.e.kids (kk + 6)) (x.s.f.kids) (x.s.la) (x.s.lb) := by
        have hq := T10.set hX hN 8 (by omega) (.int .i64 ((k1 : Int) + 1))
        rw [qV10] at hq
        exact hq
      have hmt : Hid (Calls Try.prog 34 #[.int .i64 ((k1 : Int) + 1 + 1)] V10 fun e w' => e = .returned (.string (markB (k1 + 2))) ∧ Below V10.heap.size V10 w') := markText (k1 + 2) V10 (by omega)
      go_wp2_with fail
      go_at_call 34
      refine hmt.out.mono ?_
      rintro e V11 ⟨rfl, hb⟩
      have T12 := T11.below hX hb
      clear r9 f9 qV9 r10 f10 qV10
      clear hmt hb T11
      have r12 := T12.rw.at_ 9 _ rfl
      have f12 := T12.rw.row.frozen (i * 14 + 9)
      obtain ⟨V12, qV12⟩ : ∃ X, V11.setCell ⟨g, i * 14 + 9, none⟩ (.string (markB (k1 + 2))) = X := ⟨_, rfl⟩
      have T13 : StMI lo hi g N i len l h x.s wo V12 ((((((((((x.vals).set 0 (.int .i64 ((kk : Nat) : Int))).set 1 (.int .i64 ((kk : Int) + 1))).set 2 (.string (markB (kk + 2)))).set 3 (.int .i64 ((kk : Int) + 1 + 1 + 1))).set 4 (.int .i64 ((kk : Int) + 1 + 1 + 1 + 1))).set 5 (.string (markB (kk + 5)))).set 7 (.int .i64 ((k1 : Nat) : Int))).set 8 (.int .i64 ((k1 : Int) + 1))).set 9 (.string (markB (k1 + 2)))) (XT.markL x.s.e.kids (kk + 6)) (x.s.f.kids) (x.s.la) (x.s.lb) := by
        have hq := T12.set hX hN 9 (by omega) (.string (markB (k1 + 2)))
        rw [qV12] at hq
        exact hq
      have r13 := T13.rw.at_ 10 _ rfl
      have hcl : Hid (Calls Try.prog 35 #[.slice x.s.f.base x.s.f.kids.length x.s.f.cap, .int .i64 ((k1 : Int) + 1 + 1 + 1)] V12 fun e w' => e = .returned (.int .i64 ((k1 + 3 + 3 * XT.sizeAll x.s.f.kids : Nat) : Int)) ∧ OwnR w' (l (4 * i + 1)) (h (4 * i + 1)) x.s.f.base (XT.markL x.s.f.kids (k1 + 3)) ∧ Kept (fun b => l (4 * i + 1) ≤ b ∧ b < h (4 * i + 1)) V12 w') :=
        markE _ x.s.f.kids (Nat.le_refl _) (by omega) _ _ x.s.f.base x.s.f.cap (k1 + 3) V12 T13.f (by have h1 := (hX.box (4 * i + 1) (by omega)).2.1; have h2 := T13.kept.size; omega) (by omega)
      go_wp2_with fail
      go_at_call 35
      refine hcl.out.mono ?_
      rintro e V13 ⟨rfl, hO, hb⟩
      have T14 := T13.subF hX hO hb
      clear r12 f12 qV12 r13
      clear hcl hO hb T13
      obtain ⟨k2, hk2⟩ : ∃ n, k1 + 3 + 3 * XT.sizeAll x.s.f.kids = n := ⟨_, rfl⟩
      rw [hk2]
      have r14 := T14.rw.at_ 11 _ rfl
      have hcl : Hid (Calls Try.prog 12 #[.slice x.s.abase x.s.la.length x.s.acap, .int .i64 ((k2 : Nat) : Int)] V13 fun e w' => e = .returned (.int .i64 ((k2 + SX.cntL x.s.la : Nat) : Int)) ∧ OwnSR w' (l (4 * i + 2)) (h (4 * i + 2)) x.s.abase (SX.markL x.s.la (k2)) ∧ Kept (fun b => l (4 * i + 2) ≤ b ∧ b < h (4 * i + 2)) V13 w') :=
        markS _ x.s.la (Nat.le_refl _) _ _ x.s.abase x.s.acap k2 V13 T14.a (by have h1 := (hX.box (4 * i + 2) (by omega)).2.1; have h2 := T14.kept.size; omega) (by omega)
      go_wp2_with fail
      go_at_call 12
      refine hcl.out.mono ?_
      rintro e V14 ⟨rfl, hO, hb⟩
      have T15 := T14.subA hX hO hb
      clear r14
      clear hcl hO hb T14
      obtain ⟨k3, hk3⟩ : ∃ n, k2 + SX.cntL x.s.la = n := ⟨_, rfl⟩
      rw [hk3]
      have r15 := T15.rw.at_ 12 _ rfl
      have hcl : Hid (Calls Try.prog 12 #[.slice x.s.bbase x.s.lb.length x.s.bcap, .int .i64 ((k3 : Nat) : Int)] V14 fun e w' => e = .returned (.int .i64 ((k3 + SX.cntL x.s.lb : Nat) : Int)) ∧ OwnSR w' (l (4 * i + 3)) (h (4 * i + 3)) x.s.bbase (SX.markL x.s.lb (k3)) ∧ Kept (fun b => l (4 * i + 3) ≤ b ∧ b < h (4 * i + 3)) V14 w') :=
        markS _ x.s.lb (Nat.le_refl _) _ _ x.s.bbase x.s.bcap k3 V14 T15.b (by have h1 := (hX.box (4 * i + 3) (by omega)).2.1; have h2 := T15.kept.size; omega) (by omega)
      go_wp2_with fail
      go_at_call 12
      refine hcl.out.mono ?_
      rintro e V15 ⟨rfl, hO, hb⟩
      have T16 := T15.subB hX hO hb
      clear r15
      clear hcl hO hb T15
      obtain ⟨k4, hk4⟩ : ∃ n, k3 + SX.cntL x.s.lb = n := ⟨_, rfl⟩
      rw [hk4]
      have r16 := T16.rw.at_ 13 _ rfl
      have f16 := T16.rw.row.frozen (i * 14 + 13)
      obtain ⟨V16, qV16⟩ : ∃ X, V15.setCell ⟨g, i * 14 + 13, none⟩ (.int .i64 ((k4 : Nat) : Int)) = X := ⟨_, rfl⟩
      have T17 : StMI lo hi g N i len l h x.s wo V16 (((((((((((x.vals).set 0 (.int .i64 ((kk : Nat) : Int))).set 1 (.int .i64 ((kk : Int) + 1))).set 2 (.string (markB (kk + 2)))).set 3 (.int .i64 ((kk : Int) + 1 + 1 + 1))).set 4 (.int .i64 ((kk : Int) + 1 + 1 + 1 + 1))).set 5 (.string (markB (kk + 5)))).set 7 (.int .i64 ((k1 : Nat) : Int))).set 8 (.int .i64 ((k1 : Int) + 1))).set 9 (.string (markB (k1 + 2)))).set 13 (.int .i64 ((k4 : Nat) : Int))) (XT.markL x.s.e.kids (kk + 6)) (XT.markL x.s.f.kids (k1 + 3)) (SX.markL x.s.la (k2)) (SX.markL x.s.lb (k3)) := by
        have hq := T16.set hX hN 13 (by omega) (.int .i64 ((k4 : Nat) : Int))
        rw [qV16] at hq
        exact hq
      have hmk := x.s.mark_eq (kk + 1)
      have p1 : kk + 1 + 5 + 3 * XT.sizeAll x.s.e.kids = k1 := by omega
      have p1' : kk + 1 + 6 + 3 * XT.sizeAll x.s.e.kids = k1 + 1 := by omega
      have p2 : kk + 1 + 7 + 3 * XT.sizeAll x.s.e.kids = k1 + 2 := by omega
      have p3 : kk + 1 + 8 + 3 * XT.sizeAll x.s.e.kids = k1 + 3 := by omega
      have p4 : k1 + 3 + 3 * XT.sizeAll x.s.f.kids = k2 := hk2
      have p5 : kk + 1 + x.s.cnt = k4 := by omega
      rw [p3, p4, p2, p1', p1, hk3] at hmk
      have hms : x.mark kk = ⟨((kk : Nat) : Int), x.s.mark (kk + 1), ((k4 : Nat) : Int)⟩ := by unfold IX.mark; rw [p5]
      rw [hmk] at hms
      have hat := T17.rw.at_
      have hN5 : Hid (MStI ks g N l h k (i + 1) V16) := by
        refine MStI.next (cs := _) hl hx hkk hS.out hX (by rw [hms]; exact T17) ?_
        rw [hms, Nat.zero_add]
        refine ⟨?_, hat 1 _ rfl, hat 2 _ rfl, hat 3 _ rfl, hat 4 _ rfl, hat 5 _ rfl, ?_, hat 7 _ rfl, hat 8 _ rfl, hat 9 _ rfl, ?_, ?_, ?_, hat 13 _ rfl⟩
        · have h0 := hat 0 _ rfl
          exact h0
        · have h5 := hat 6 _ rfl
          simpa [SX.e, XT.kids, XT.base, XT.cap, XT.markL_length] using h5
        · have h9 := hat 10 _ rfl
          simpa [SX.f, XT.kids, XT.base, XT.cap, XT.markL_length] using h9
        · have h10 := hat 11 _ rfl
          simpa [SX.la, SX.abase, SX.acap, SX.markL_length] using h10
        · have h11 := hat 12 _ rfl
          simpa [SX.lb, SX.bbase, SX.bcap, SX.markL_length] using h11
      have hkf := T17.kept
      clear hmk hms p1 p1' p2 p3 p4 p5 hat T17
      go_wp2
      exact ⟨⟨i + 1, by go_num, congrArg (Value.int IntKind.i64) (by omega), by omega, hN5, hK.trans hkf⟩, by simp [intOf]; omega⟩
    · have he : i = len := by omega
      have htk : ks.take i = ks := List.take_of_length_le (by omega)
      rw [htk]
      go_wp2
      go_returns
      refine ⟨rfl, ?_, hK⟩
      have hS1 := hS.out
      have hcur : ∀ (j : Nat) (x : IX), ks[j]? = some x → IX.cur ks k i j x = x.mark (k + cntI (ks.take j)) := by
        intro j x hx
        have hj : j < ks.length := (List.getElem?_eq_some_iff.1 hx).1
        unfold IX.cur
        rw [if_pos (by omega)]
      refine ⟨g, N, l, h, fun j y hy => ?_, fun j y hy => ?_, fun j hj => hboxH.out j (by rw [IX.markL_length] at hj; exact hj), fun j j' hj hj' => hapH.out j j' (by rw [IX.markL_length] at hj; exact hj) (by rw [IX.markL_length] at hj'; exact hj'), fun j y hy => ?_, fun j y hy => ?_, fun j y hy => ?_, fun j y hy => ?_⟩
      · obtain ⟨x, hx, rfl⟩ := IX.markL_back hy
        obtain ⟨q1, q2, q3, q4, q5⟩ := hrowH.out j x hx
        exact ⟨q1, q2, q3, hS1.row j x hx, by rw [IX.markL_length]; exact q5⟩
      all_goals
        obtain ⟨x, hx, rfl⟩ := IX.markL_back hy
        rw [← hcur j x hx]
        first | exact hS1.cell j x hx | exact hS1.ke j x hx | exact hS1.kf j x hx | exact hS1.ka j x hx | exact hS1.kb j x hx
end Go.Proofs.Ytimfdfeleoaehaa
