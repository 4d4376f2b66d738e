/-
  What the program answers of a program.
-/
import Derived.Test.YtaajdoipjalgmaaGreatDoorOkJ
import Derived.Test.YtaajdoipjalgmaaGreatDoorOkD
namespace Go.Proofs.YtaajdoipjalgmaaGreatDoor
open Go.RowKit Go.Shelf
set_option linter.unusedSimpArgs false
set_option linter.unusedVariables false
attribute [local go_sem] Oper.semAt_some

theorem SX.size_tot (sz : Nat) : ∀ s : SX, s.size ≤ sz → s.size ≤ 1 + s.tot := by
  induction sz with
  | zero => intro s h; rw [SX.size_eq] at h; omega
  | succ sz ih =>
    have hl : ∀ l : List SX, SX.sizeAll l ≤ sz → SX.sizeAll l ≤ l.length + SX.totAll l := by
      intro l
      induction l with
      | nil => intro _; simp [SX.sizeAll]
      | cons x xs ihx =>
        intro h
        simp only [SX.sizeAll] at h
        have h1 := ih x (by omega)
        have h2 := ihx (by omega)
        simp only [SX.sizeAll, SX.totAll, List.length_cons]
        omega
    intro s h
    rw [SX.size_eq] at h ⊢
    rw [SX.tot_eq]
    have h1 := hl s.la (by omega)
    have h2 := hl s.lb (by omega)
    omega
theorem SX.sizeAll_tot (l : List SX) : SX.sizeAll l ≤ l.length + SX.totAll l := by
  induction l with
  | nil => simp [SX.sizeAll]
  | cons x xs ih =>
    have h1 := SX.size_tot _ x (Nat.le_refl _)
    simp only [SX.sizeAll, SX.totAll, List.length_cons]
    omega
set_option maxHeartbeats 2000000 in
theorem LX.all (ks : List LX) (a : Option Addr) (c : Nat) (ok : Nat → Prop) (w : World) (hok : ∀ b, ok b → b < w.heap.size) (hcl : LX.Row ok w a ks) (hL : ∀ (i : Nat) (k : LX), ks[i]? = some k → LX.Lies ok w k) (hlen : ks.length ≤ 1048577) (hm : ∀ (i : Nat) (t : LX), ks[i]? = some t → t.Small ∧ SX.sizeAll t.l ≤ 1099511627776) :
    Calls Tryz.prog 133 #[.slice a ks.length c, .func (.func 134) #[] #[]] w fun e w' => e = .returned (.bool (ks.all (fun t => taskI t.l))) ∧ Below w.heap.size w w' := by
  obtain ⟨len, hl⟩ : ∃ len, ks.length = len := ⟨_, rfl⟩
  rw [hl] at hlen ⊢
  go_enter Tryz.func133, Tryz.ntmps133
  go_wp2
  go_loopw [9] (fun v9 wr => ∃ (i : Nat), v9 = .int .i64 i ∧ i ≤ len ∧ (ks.take i).all (fun t => taskI t.l) = true ∧ Below w.heap.size w wr) (fun v9 _ => len - (intOf v9).toNat)
  case atStart => exact ⟨0, rfl, by omega, by simp, Below.refl _ _⟩
  case round =>
    obtain ⟨i, rfl, hi, hall, hB⟩ := hrel
    by_cases hlt : i < len
    · obtain ⟨v, hx⟩ : ∃ x, ks[i]? = some x := ⟨_, List.getElem?_eq_getElem (by omega)⟩
      obtain ⟨b1, o1, hbase1, hok1, hc1⟩ := hcl i v hx
      obtain ⟨hs1, hs2⟩ := hm i v hx
      have c0 := below_cell hB hc1 (hok b1 hok1)
      have hLv := (hL i v hx).under hB hok
      subst hbase1
      cases hv : taskI v.l
      · go_wp2_with (go_at_call 134; refine (taskOk v.l hs2 hs1.kid v.base v.cap ok _ (fun b hb => Nat.lt_of_lt_of_le (hok b hb) hB.size) hLv.row hLv.kid).mono ?_; rintro e w5 ⟨rfl, hb⟩; rw [hv])
        go_returns
        exact ⟨ret_bool (all_bad (fun t : LX => taskI t.l) hx hv).symm, bstep hB hb⟩
      · go_wp2_with (go_at_call 134; refine (taskOk v.l hs2 hs1.kid v.base v.cap ok _ (fun b hb => Nat.lt_of_lt_of_le (hok b hb) hB.size) hLv.row hLv.kid).mono ?_; rintro e w5 ⟨rfl, hb⟩; rw [hv])
        refine ⟨⟨i + 1, by go_num, by omega, all_take (fun t : LX => taskI t.l) hx hall hv, bstep hB hb⟩, ?_⟩
        simp [intOf]
        omega
    · have he : i = len := by omega
      have hfull : ks.take i = ks := List.take_of_length_le (by omega)
      rw [hfull] at hall
      go_wp2
      go_returns
      exact ⟨ret_bool hall.symm, hB⟩

def PX.lens (p : PX) : Bool := decide (p.vars.length ≤ 6 ∧ p.chans.length ≤ 3 ∧ p.locks.length ≤ 3 ∧ p.tasks.length ≤ 4)
def PX.okI (p : PX) : Bool := p.lens && (p.vars.all (fun v => v.okB (mxI p.tasks.length 1)) && (p.chans.all (fun v => v.okB) && (p.locks.all (fun v => nameB v) && p.tasks.all (fun t => taskI t.l))))
set_option maxRecDepth 10000 in
set_option maxHeartbeats 2000000 in
theorem PX.implOk (p : PX) (hm : p.Small) (hN : p.Names) (hT : ∀ (i : Nat) (t : LX), p.tasks[i]? = some t → SX.sizeAll t.l ≤ 1099511627776) (ok : Nat → Prop) (w : World) (hok : ∀ b, ok b → b < w.heap.size) (hL : PX.Lies ok w p) :
    Calls Tryz.prog 100 #[p.val] w fun e w' => e = .returned (.bool p.okI) ∧ Below w.heap.size w w' := by
  obtain ⟨W1, hW1⟩ : ∃ W1, w.alloc (.cells #[.slice p.vbase p.vars.length p.vcap, .slice p.cbase p.chans.length p.ccap, .slice p.nbase p.locks.length p.ncap, .slice p.tbase p.tasks.length p.tcap] 35) = W1 := ⟨_, rfl⟩
  have hB1 : Below w.heap.size w W1 := by rw [← hW1]; exact (Below.refl _ w).alloc (Nat.le_refl _) _
  have hs1 : W1.heap.size = w.heap.size + 1 := by rw [← hW1]; simp
  have hA : PX.At W1 w.heap.size p := by rw [← hW1]; exact PX.At.new w p _
  have hL1 := hL.under hB1 hok
  have hok1 : ∀ b, ok b → b < W1.heap.size := fun b hb => by have := hok b hb; omega
  have hX := Below.refl W1.heap.size W1
  obtain ⟨vl, cl, nl, tl, hmt⟩ := hm
  have HV : Hid (∀ x, Below W1.heap.size W1 x → Calls Tryz.prog 126 #[.slice p.vbase p.vars.length p.vcap, .func (.func 127) #[] #[.pointer (some ⟨w.heap.size, 0, none⟩)]] x fun e w' => e = .returned (.bool (p.vars.all (fun v => v.okB (mxI p.tasks.length 1)))) ∧ Below x.heap.size x w') := fun x hx =>
    VX.all p.vars p.vbase p.vcap w.heap.size p.tasks.length p.tcap p.tbase ok x (fun b hb => Nat.lt_of_lt_of_le (hok1 b hb) hx.size) (hL1.v.under hx hok1) (by omega) hN.v (hA.below hx (by omega)).c3
  have HC : Hid (∀ x, Below W1.heap.size W1 x → Calls Tryz.prog 129 #[.slice p.cbase p.chans.length p.ccap, .func (.func 130) #[] #[]] x fun e w' => e = .returned (.bool (p.chans.all (fun v => v.okB))) ∧ Below x.heap.size x w') := fun x hx =>
    CX.all p.chans p.cbase p.ccap ok x (fun b hb => Nat.lt_of_lt_of_le (hok1 b hb) hx.size) (hL1.c.under hx hok1) (by omega) hN.c
  have HN : Hid (∀ x, Below W1.heap.size W1 x → Calls Tryz.prog 131 #[.slice p.nbase p.locks.length p.ncap, .func (.func 132) #[] #[]] x fun e w' => e = .returned (.bool (p.locks.all (fun v => nameB v))) ∧ Below x.heap.size x w') := fun x hx =>
    allN p.locks p.nbase p.ncap ok x (fun b hb => Nat.lt_of_lt_of_le (hok1 b hb) hx.size) (hL1.n.under hx hok1) (by omega) hN.n
  have HT : Hid (∀ x, Below W1.heap.size W1 x → Calls Tryz.prog 133 #[.slice p.tbase p.tasks.length p.tcap, .func (.func 134) #[] #[]] x fun e w' => e = .returned (.bool (p.tasks.all (fun t => taskI t.l))) ∧ Below x.heap.size x w') := fun x hx =>
    LX.all p.tasks p.tbase p.tcap ok x (fun b hb => Nat.lt_of_lt_of_le (hok1 b hb) hx.size) (hL1.t.under hx hok1) (fun i k hk => (hL1.k i k hk).under hx hok1) (by omega) (fun i t ht => ⟨hmt i t ht, hT i t ht⟩)
  obtain ⟨c0, c1, c2, c3⟩ := hA.below hX (by omega)
  have hlens : p.vars.length ≤ 6 → p.chans.length ≤ 3 → p.locks.length ≤ 3 → p.tasks.length ≤ 4 → p.lens = true := fun h1 h2 h3 h4 => by simp [PX.lens, h1, h2, h3, h4]
  have hlens' : ¬ (p.vars.length ≤ 6 ∧ p.chans.length ≤ 3 ∧ p.locks.length ≤ 3 ∧ p.tasks.length ≤ 4) → p.okI = false := fun h => by unfold PX.okI PX.lens; rw [decide_eq_false h, Bool.false_and]
  obtain ⟨bqv, qv⟩ : ∃ b, p.vars.all (fun v => v.okB (mxI p.tasks.length 1)) = b := ⟨_, rfl⟩
  obtain ⟨bqc, qc⟩ : ∃ b, p.chans.all (fun v => v.okB) = b := ⟨_, rfl⟩
  obtain ⟨bqn, qn⟩ : ∃ b, p.locks.all (fun v => nameB v) = b := ⟨_, rfl⟩
  obtain ⟨bqt, qt⟩ : ∃ b, p.tasks.all (fun t => taskI t.l) = b := ⟨_, rfl⟩
  go_enter Tryz.func100, Tryz.ntmps100
  go_wp2_with fail
  · go_at_call 126
    refine (HV.out _ hX).mono ?_
    rintro e w2 ⟨rfl, hb⟩
    replace hX := bstep hX hb
    clear hb c0 c1 c2 c3
    obtain ⟨c0, c1, c2, c3⟩ := hA.below hX (by omega)
    rw [qv]
    cases bqv
    · go_wp2
      go_returns
      exact ⟨ret_bool (by simp [PX.okI, qv]), hB1.trans (hX.mono (by omega))⟩
    · go_wp2_with fail
      go_at_call 129
      refine (HC.out _ hX).mono ?_
      rintro e w3 ⟨rfl, hb⟩
      replace hX := bstep hX hb
      clear hb c0 c1 c2 c3
      obtain ⟨c0, c1, c2, c3⟩ := hA.below hX (by omega)
      rw [qc]
      cases bqc
      · go_wp2
        go_returns
        exact ⟨ret_bool (by simp [PX.okI, qv, qc]), hB1.trans (hX.mono (by omega))⟩
      · go_wp2_with fail
        go_at_call 131
        refine (HN.out _ hX).mono ?_
        rintro e w4 ⟨rfl, hb⟩
        replace hX := bstep hX hb
        clear hb c0 c1 c2 c3
        obtain ⟨c0, c1, c2, c3⟩ := hA.below hX (by omega)
        rw [qn]
        cases bqn
        · go_wp2
          go_returns
          exact ⟨ret_bool (by simp [PX.okI, qv, qc, qn]), hB1.trans (hX.mono (by omega))⟩
        · go_wp2_with fail
          go_at_call 133
          refine (HT.out _ hX).mono ?_
          rintro e w5 ⟨rfl, hb⟩
          replace hX := bstep hX hb
          clear hb c0 c1 c2 c3
          obtain ⟨c0, c1, c2, c3⟩ := hA.below hX (by omega)
          rw [qt]
          cases bqt
          · go_wp2
            go_returns
            exact ⟨ret_bool (by simp [PX.okI, qv, qc, qn, qt]), hB1.trans (hX.mono (by omega))⟩
          · go_wp2
            go_returns
            have hl : p.lens = true := hlens (by omega) (by omega) (by omega) (by omega)
            exact ⟨ret_bool (by simp [PX.okI, hl, qv, qc, qn, qt]), hB1.trans (hX.mono (by omega))⟩
  all_goals
    go_returns
    exact ⟨ret_bool (hlens' (by omega)).symm, hB1⟩
end Go.Proofs.YtaajdoipjalgmaaGreatDoor
