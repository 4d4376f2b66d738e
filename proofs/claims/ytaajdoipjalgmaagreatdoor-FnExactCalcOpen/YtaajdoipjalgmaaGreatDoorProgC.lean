/-
  A program as it lies in memory: its size, copies of it, and that the same are told to be so.
-/
import Derived.Test.YtaajdoipjalgmaaGreatDoorProgB
namespace Go.Proofs.YtaajdoipjalgmaaGreatDoor
open Go.RowKit
set_option linter.unusedSimpArgs false
set_option linter.unusedVariables false

structure PX where
  vbase : Option Addr
  vcap : Nat
  vars : List VX
  cbase : Option Addr
  ccap : Nat
  chans : List CX
  nbase : Option Addr
  ncap : Nat
  locks : List ByteArray
  tbase : Option Addr
  tcap : Nat
  tasks : List LX
abbrev PX.val (p : PX) : Value := .agg #[.slice p.vbase p.vars.length p.vcap, .slice p.cbase p.chans.length p.ccap, .slice p.nbase p.locks.length p.ncap, .slice p.tbase p.tasks.length p.tcap]
def PX.tot (p : PX) : Nat := (p.vars.length + sumOf VX.tot p.vars) + ((p.chans.length + sumOf CX.tot p.chans) + ((p.locks.length + sumOf ByteArray.size p.locks) + (p.tasks.length + sumOf LX.tot p.tasks)))
structure PX.Wide (p : PX) : Prop where
  vl : p.vars.length ≤ maxLen
  cl : p.chans.length ≤ maxLen
  nl : p.locks.length ≤ maxLen
  tl : p.tasks.length ≤ maxLen
  v : ∀ (i : Nat) (k : VX), p.vars[i]? = some k → k.Wide
  c : ∀ (i : Nat) (k : CX), p.chans[i]? = some k → k.Wide
  n : ∀ (i : Nat) (k : ByteArray), p.locks[i]? = some k → k.size ≤ maxLen
  t : ∀ (i : Nat) (k : LX), p.tasks[i]? = some k → k.Wide
structure PX.Small (p : PX) : Prop where
  vl : p.vars.length ≤ 1048576
  cl : p.chans.length ≤ 1048576
  nl : p.locks.length ≤ 1048576
  tl : p.tasks.length ≤ 1048576
  t : ∀ (i : Nat) (k : LX), p.tasks[i]? = some k → k.Small
structure PX.Lies (ok : Nat → Prop) (W : World) (p : PX) : Prop where
  v : VX.Row ok W p.vbase p.vars
  c : CX.Row ok W p.cbase p.chans
  n : NRow ok W p.nbase p.locks
  t : LX.Row ok W p.tbase p.tasks
  k : ∀ (i : Nat) (k : LX), p.tasks[i]? = some k → LX.Lies ok W k
structure PX.Same (p q : PX) : Prop where
  v : q.vars = p.vars
  c : q.chans = p.chans
  n : q.locks = p.locks
  tl : q.tasks.length = p.tasks.length
  t : ∀ (i : Nat) (x y : LX), p.tasks[i]? = some x → q.tasks[i]? = some y → LX.Same x y
theorem sumOf_get {α : Type} (f : α → Nat) {ks : List α} {i : Nat} {t : α} (h : ks[i]? = some t) : f t ≤ sumOf f ks := by
  have h1 := sumOf_take f h
  have h2 := sumOf_le f ks (i + 1)
  omega
theorem PX.small {p : PX} (h : p.tot ≤ 1048576) : p.Small := by
  unfold PX.tot at h
  exact ⟨by omega, by omega, by omega, by omega, fun i k hk => LX.small (by have := sumOf_get LX.tot hk; omega)⟩
theorem PX.Lies.mono {ok ok' : Nat → Prop} {A B : World} {p : PX} (h : PX.Lies ok A p) (hb : ∀ b, ok b → b < A.heap.size → ok' b ∧ B.heap[b]? = A.heap[b]?) : PX.Lies ok' B p := ⟨h.v.mono hb, h.c.mono hb, h.n.mono hb, h.t.mono hb, fun i k hk => (h.k i k hk).mono hb⟩
theorem PX.Lies.under {ok : Nat → Prop} {n : Nat} {A B : World} {p : PX} (h : PX.Lies ok A p) (hk : Below n A B) (hs : ∀ b, ok b → b < n) : PX.Lies ok B p := h.mono fun b ho hb => ⟨ho, hk.block b (hs b ho)⟩
theorem PX.Lies.kept {S ok : Nat → Prop} {A B : World} {p : PX} (h : PX.Lies ok A p) (hk : Kept S A B) (hs : ∀ b, ok b → ¬ S b) : PX.Lies ok B p := h.mono fun b ho hb => ⟨ho, hk.block b hb (hs b ho)⟩
theorem PX.Lies.bound {ok : Nat → Prop} {W : World} {p : PX} (h : PX.Lies ok W p) : PX.Lies (fun b => b < W.heap.size) W p := h.mono (fun b _ hb => ⟨hb, rfl⟩)
theorem PX.Same.join {p q r : PX} (h : PX.Same p q) (k : PX.Same p r) : PX.Same q r := by
  refine ⟨by rw [h.v, k.v], by rw [h.c, k.c], by rw [h.n, k.n], by rw [h.tl, k.tl], fun i x y hx hy => ?_⟩
  have hi : i < p.tasks.length := by have := (List.getElem?_eq_some_iff.1 hx).1; have := h.tl; omega
  have hc := List.getElem?_eq_getElem hi
  exact (h.t i _ x hc hx).join (k.t i _ y hc hy)
structure PX.At (W : World) (b : Nat) (p : PX) : Prop where
  c0 : W.cell? ⟨b, 0, none⟩ = some (.slice p.vbase p.vars.length p.vcap)
  c1 : W.cell? ⟨b, 1, none⟩ = some (.slice p.cbase p.chans.length p.ccap)
  c2 : W.cell? ⟨b, 2, none⟩ = some (.slice p.nbase p.locks.length p.ncap)
  c3 : W.cell? ⟨b, 3, none⟩ = some (.slice p.tbase p.tasks.length p.tcap)
theorem PX.At.below {n : Nat} {A B : World} {b : Nat} {p : PX} (h : PX.At A b p) (hk : Below n A B) (hs : b < n) : PX.At B b p := ⟨below_cell hk h.c0 hs, below_cell hk h.c1 hs, below_cell hk h.c2 hs, below_cell hk h.c3 hs⟩
theorem PX.At.kept {S : Nat → Prop} {A B : World} {b : Nat} {p : PX} (h : PX.At A b p) (hk : Kept S A B) (hs : ¬ S b) : PX.At B b p := ⟨hk.cell h.c0 hs, hk.cell h.c1 hs, hk.cell h.c2 hs, hk.cell h.c3 hs⟩
theorem PX.At.new (W : World) (p : PX) (T : TypeId) : PX.At (W.alloc (.cells #[.slice p.vbase p.vars.length p.vcap, .slice p.cbase p.chans.length p.ccap, .slice p.nbase p.locks.length p.ncap, .slice p.tbase p.tasks.length p.tcap] T)) W.heap.size p := ⟨World.cell?_alloc_new W _ _ 0, World.cell?_alloc_new W _ _ 1, World.cell?_alloc_new W _ _ 2, World.cell?_alloc_new W _ _ 3⟩
set_option maxHeartbeats 4000000 in
theorem PX.sz (p : PX) (hW : p.Wide) (ok : Nat → Prop) (w : World) (hok : ∀ b, ok b → b < w.heap.size) (hL : PX.Lies ok w p) (left : Int) (h0 : 0 ≤ left) (h1 : left ≤ 1048576) :
    Calls Tryz.prog 6 #[p.val, .int .i64 left] w fun e w' => e = .returned (.int .i64 (subI left p.tot)) ∧ Below w.heap.size w w' := by
  have htot : p.tot = (p.vars.length + sumOf VX.tot p.vars) + ((p.chans.length + sumOf CX.tot p.chans) + ((p.locks.length + sumOf ByteArray.size p.locks) + (p.tasks.length + sumOf LX.tot p.tasks))) := rfl
  obtain ⟨W1, hW1⟩ : ∃ W1, w.alloc (.cells #[.slice p.vbase p.vars.length p.vcap, .slice p.cbase p.chans.length p.ccap, .slice p.nbase p.locks.length p.ncap, .slice p.tbase p.tasks.length p.tcap] 27) = W1 := ⟨_, rfl⟩
  have hB1 : Below w.heap.size w W1 := by rw [← hW1]; exact (Below.refl _ w).alloc (Nat.le_refl _) _
  have hs1 : w.heap.size + 1 = W1.heap.size := by rw [← hW1]; simp
  have hC1 : PX.At W1 w.heap.size p := by rw [← hW1]; exact PX.At.new w p _
  have hok1 : ∀ b, ok b → b < W1.heap.size := fun b hb => Nat.lt_of_lt_of_le (hok b hb) hB1.size
  have hL1 := hL.under hB1 hok
  have hX0 := Below.refl W1.heap.size W1
  go_enter Tryz.func6, Tryz.ntmps6
  have hcall := VX.szs p.vars p.vbase p.vcap ok W1 (fun b hb => Nat.lt_of_lt_of_le (hok1 b hb) hX0.size) (hL1.under hX0 hok1).v hW.vl hW.v (left) (by omega) (by omega)
  obtain ⟨c0, c1, c2, c3⟩ := hC1.below hX0 (by omega)
  by_cases hk0 : (((p.vars.length + sumOf VX.tot p.vars) : Nat) : Int) ≤ left
  · rw [subI_yes hk0] at hcall
    go_wp2_with fail
    all_goals first | (exfalso; omega) | skip
    go_at_call 24
    refine hcall.mono ?_
    clear hcall c0 c1 c2 c3
    rintro e x1 ⟨rfl, hb⟩
    have hX1 := hX0.trans (hb.mono hX0.size)
    clear hb
    have hcall := CX.szs p.chans p.cbase p.ccap ok x1 (fun b hb => Nat.lt_of_lt_of_le (hok1 b hb) hX1.size) (hL1.under hX1 hok1).c hW.cl hW.c (left - ((p.vars.length + sumOf VX.tot p.vars) : Nat)) (by omega) (by omega)
    obtain ⟨c0, c1, c2, c3⟩ := hC1.below hX1 (by omega)
    by_cases hk1 : (((p.chans.length + sumOf CX.tot p.chans) : Nat) : Int) ≤ left - ((p.vars.length + sumOf VX.tot p.vars) : Nat)
    · rw [subI_yes hk1] at hcall
      go_wp2_with fail
      all_goals first | (exfalso; omega) | skip
      go_at_call 25
      refine hcall.mono ?_
      clear hcall c0 c1 c2 c3
      rintro e x2 ⟨rfl, hb⟩
      have hX2 := hX1.trans (hb.mono hX1.size)
      clear hb
      have hcall := szN p.locks p.nbase p.ncap ok x2 (fun b hb => Nat.lt_of_lt_of_le (hok1 b hb) hX2.size) (hL1.under hX2 hok1).n hW.nl hW.n (left - ((p.vars.length + sumOf VX.tot p.vars) : Nat) - ((p.chans.length + sumOf CX.tot p.chans) : Nat)) (by omega) (by omega)
      obtain ⟨c0, c1, c2, c3⟩ := hC1.below hX2 (by omega)
      by_cases hk2 : (((p.locks.length + sumOf ByteArray.size p.locks) : Nat) : Int) ≤ left - ((p.vars.length + sumOf VX.tot p.vars) : Nat) - ((p.chans.length + sumOf CX.tot p.chans) : Nat)
      · rw [subI_yes hk2] at hcall
        go_wp2_with fail
        all_goals first | (exfalso; omega) | skip
        go_at_call 26
        refine hcall.mono ?_
        clear hcall c0 c1 c2 c3
        rintro e x3 ⟨rfl, hb⟩
        have hX3 := hX2.trans (hb.mono hX2.size)
        clear hb
        have hcall := LX.szs p.tasks p.tbase p.tcap ok x3 (fun b hb => Nat.lt_of_lt_of_le (hok1 b hb) hX3.size) (hL1.under hX3 hok1).t (hL1.under hX3 hok1).k hW.tl hW.t (left - ((p.vars.length + sumOf VX.tot p.vars) : Nat) - ((p.chans.length + sumOf CX.tot p.chans) : Nat) - ((p.locks.length + sumOf ByteArray.size p.locks) : Nat)) (by omega) (by omega)
        obtain ⟨c0, c1, c2, c3⟩ := hC1.below hX3 (by omega)
        by_cases hk3 : (((p.tasks.length + sumOf LX.tot p.tasks) : Nat) : Int) ≤ left - ((p.vars.length + sumOf VX.tot p.vars) : Nat) - ((p.chans.length + sumOf CX.tot p.chans) : Nat) - ((p.locks.length + sumOf ByteArray.size p.locks) : Nat)
        · rw [subI_yes hk3] at hcall
          go_wp2_with fail
          all_goals first | (exfalso; omega) | skip
          go_at_call 27
          refine hcall.mono ?_
          clear hcall c0 c1 c2 c3
          rintro e x4 ⟨rfl, hb⟩
          have hX4 := hX3.trans (hb.mono hX3.size)
          clear hb
          go_wp2
          all_goals first | (exfalso; omega) | skip
          go_returns
          exact ⟨ret_int (by rw [subI_yes (by omega)]; omega), hB1.trans (hX4.mono (by omega))⟩
        · rw [subI_no (by omega)] at hcall
          go_wp2_with fail
          all_goals first | (exfalso; omega) | skip
          go_at_call 27
          refine hcall.mono ?_
          clear hcall c0 c1 c2 c3
          rintro e x ⟨rfl, hb⟩
          have hX := hX3.trans (hb.mono hX3.size)
          go_wp2
          go_returns
          exact ⟨ret_int (subI_no (by omega)).symm, hB1.trans (hX.mono (by omega))⟩
      · rw [subI_no (by omega)] at hcall
        go_wp2_with fail
        all_goals first | (exfalso; omega) | skip
        go_at_call 26
        refine hcall.mono ?_
        clear hcall c0 c1 c2 c3
        rintro e x ⟨rfl, hb⟩
        have hX := hX2.trans (hb.mono hX2.size)
        go_wp2
        go_returns
        exact ⟨ret_int (subI_no (by omega)).symm, hB1.trans (hX.mono (by omega))⟩
    · rw [subI_no (by omega)] at hcall
      go_wp2_with fail
      all_goals first | (exfalso; omega) | skip
      go_at_call 25
      refine hcall.mono ?_
      clear hcall c0 c1 c2 c3
      rintro e x ⟨rfl, hb⟩
      have hX := hX1.trans (hb.mono hX1.size)
      go_wp2
      go_returns
      exact ⟨ret_int (subI_no (by omega)).symm, hB1.trans (hX.mono (by omega))⟩
  · rw [subI_no (by omega)] at hcall
    go_wp2_with fail
    all_goals first | (exfalso; omega) | skip
    go_at_call 24
    refine hcall.mono ?_
    clear hcall c0 c1 c2 c3
    rintro e x ⟨rfl, hb⟩
    have hX := hX0.trans (hb.mono hX0.size)
    go_wp2
    go_returns
    exact ⟨ret_int (subI_no (by omega)).symm, hB1.trans (hX.mono (by omega))⟩
set_option maxHeartbeats 4000000 in
theorem PX.eq (p q : PX) (hm : p.Small) (hS : PX.Same p q) (ok : Nat → Prop) (w : World) (hok : ∀ b, ok b → b < w.heap.size) (hL : PX.Lies ok w p) (hU : PX.Lies ok w q) :
    Calls Tryz.prog 11 #[p.val, q.val] w fun e w' => e = .returned (.bool true) ∧ Below w.heap.size w w' := by
  obtain ⟨W1, hW1⟩ : ∃ W1, w.alloc (.cells #[.slice p.vbase p.vars.length p.vcap, .slice p.cbase p.chans.length p.ccap, .slice p.nbase p.locks.length p.ncap, .slice p.tbase p.tasks.length p.tcap] 35) = W1 := ⟨_, rfl⟩
  obtain ⟨W2, hW2⟩ : ∃ W2, W1.alloc (.cells #[.slice q.vbase q.vars.length q.vcap, .slice q.cbase q.chans.length q.ccap, .slice q.nbase q.locks.length q.ncap, .slice q.tbase q.tasks.length q.tcap] 35) = W2 := ⟨_, rfl⟩
  have hs1 : w.heap.size + 1 = W1.heap.size := by rw [← hW1]; simp
  have hs2 : W1.heap.size + 1 = W2.heap.size := by rw [← hW2]; simp
  have hB1 : Below w.heap.size w W1 := by rw [← hW1]; exact (Below.refl _ w).alloc (Nat.le_refl _) _
  have hB2 : Below w.heap.size w W2 := by rw [← hW2]; exact hB1.alloc (by omega) _
  have hC : PX.At W2 w.heap.size p := by
    have h := PX.At.new w p 35
    rw [hW1] at h
    rw [← hW2]
    exact h.below (n := W1.heap.size) ((Below.refl _ _).alloc (Nat.le_refl _) _) (by omega)
  have hD : PX.At W2 W1.heap.size q := by rw [← hW2]; exact PX.At.new W1 q _
  have hok2 : ∀ b, ok b → b < W2.heap.size := fun b hb => Nat.lt_of_lt_of_le (hok b hb) hB2.size
  have hL2 := hL.under hB2 hok
  have hU2 := hU.under hB2 hok
  have m1 := hm.vl
  have m2 := hm.cl
  have m3 := hm.nl
  have m4 := hm.tl
  have hX0 := Below.refl W2.heap.size W2
  go_enter Tryz.func11, Tryz.ntmps11
  have hcall := VX.eqs p.vars p.vbase q.vbase p.vcap q.vcap ok W2 (fun b hb => Nat.lt_of_lt_of_le (hok2 b hb) hX0.size) (hL2.under hX0 hok2).v (by have h := (hU2.under hX0 hok2).v; rw [hS.v] at h; exact h) (by omega)
  obtain ⟨c0, c1, c2, c3⟩ := hC.below hX0 (by omega)
  obtain ⟨d0, d1, d2, d3⟩ := hD.below hX0 (by omega)
  rw [hS.v] at d0
  go_wp2_with fail
  go_at_call 37
  refine hcall.mono ?_
  clear hcall c0 c1 c2 c3 d0 d1 d2 d3
  rintro e x1 ⟨rfl, hb⟩
  have hX1 := hX0.trans (hb.mono hX0.size)
  clear hb
  have hcall := CX.eqs p.chans p.cbase q.cbase p.ccap q.ccap ok x1 (fun b hb => Nat.lt_of_lt_of_le (hok2 b hb) hX1.size) (hL2.under hX1 hok2).c (by have h := (hU2.under hX1 hok2).c; rw [hS.c] at h; exact h) (by omega)
  obtain ⟨c0, c1, c2, c3⟩ := hC.below hX1 (by omega)
  obtain ⟨d0, d1, d2, d3⟩ := hD.below hX1 (by omega)
  rw [hS.c] at d1
  go_wp2_with fail
  go_at_call 38
  refine hcall.mono ?_
  clear hcall c0 c1 c2 c3 d0 d1 d2 d3
  rintro e x2 ⟨rfl, hb⟩
  have hX2 := hX1.trans (hb.mono hX1.size)
  clear hb
  have hcall := eqN p.locks p.nbase q.nbase p.ncap q.ncap ok x2 (fun b hb => Nat.lt_of_lt_of_le (hok2 b hb) hX2.size) (hL2.under hX2 hok2).n (by have h := (hU2.under hX2 hok2).n; rw [hS.n] at h; exact h) (by omega)
  obtain ⟨c0, c1, c2, c3⟩ := hC.below hX2 (by omega)
  obtain ⟨d0, d1, d2, d3⟩ := hD.below hX2 (by omega)
  rw [hS.n] at d2
  go_wp2_with fail
  go_at_call 39
  refine hcall.mono ?_
  clear hcall c0 c1 c2 c3 d0 d1 d2 d3
  rintro e x3 ⟨rfl, hb⟩
  have hX3 := hX2.trans (hb.mono hX2.size)
  clear hb
  have hcall := LX.eqs p.tasks q.tasks p.tbase q.tbase p.tcap q.tcap ok x3 (fun b hb => Nat.lt_of_lt_of_le (hok2 b hb) hX3.size) (hL2.under hX3 hok2).t (hU2.under hX3 hok2).t (by omega) hS.tl (hL2.under hX3 hok2).k (hU2.under hX3 hok2).k hm.t hS.t
  obtain ⟨c0, c1, c2, c3⟩ := hC.below hX3 (by omega)
  obtain ⟨d0, d1, d2, d3⟩ := hD.below hX3 (by omega)
  go_wp2_with fail
  go_at_call 40
  refine hcall.mono ?_
  clear hcall c0 c1 c2 c3 d0 d1 d2 d3
  rintro e x4 ⟨rfl, hb⟩
  have hX4 := hX3.trans (hb.mono hX3.size)
  clear hb
  go_wp2
  go_returns
  exact ⟨rfl, hB2.trans (hX4.mono (by omega))⟩
set_option maxRecDepth 10000 in
set_option maxHeartbeats 4000000 in
theorem PX.toP (p : PX) (hm : p.Small) (ok : Nat → Prop) (w : World) (hok : ∀ b, ok b → b < w.heap.size) (hL : PX.Lies ok w p) :
    Calls Tryz.prog 8 #[p.val] w fun e w' => ∃ q : PX, e = .returned q.val ∧ PX.Same p q ∧ PX.Lies (fun b => w.heap.size ≤ b) w' q ∧ (∀ (i : Nat) (y : LX), q.tasks[i]? = some y → LX.Lies (Pl w') w' y) ∧ Below w.heap.size w w' := by
  have m1 := hm.vl
  have m2 := hm.cl
  have m3 := hm.nl
  have m4 := hm.tl
  go_enter Tryz.func8, Tryz.ntmps8
  go_wp2_with fail
  obtain ⟨W1, hW1⟩ : ∃ W1, w.alloc (.cells #[.slice p.vbase p.vars.length p.vcap, .slice p.cbase p.chans.length p.ccap, .slice p.nbase p.locks.length p.ncap, .slice p.tbase p.tasks.length p.tcap] 27) = W1 := ⟨_, rfl⟩
  obtain ⟨W2, hW2⟩ : ∃ W2, W1.alloc (.cells #[.slice none 0 0, .slice none 0 0, .slice none 0 0, .slice none 0 0] 35) = W2 := ⟨_, rfl⟩
  obtain ⟨W3, hW3⟩ : ∃ W3, W2.alloc (.cells #[.slice none 0 0, .slice none 0 0, .slice none 0 0, .slice none 0 0] 35) = W3 := ⟨_, rfl⟩
  rw [hW1, hW2, hW3]
  have s1 : W1.heap.size = w.heap.size + 1 := by rw [← hW1]; simp
  have s2 : W2.heap.size = w.heap.size + 2 := by rw [← hW2]; simp [s1]
  have s3 : W3.heap.size = w.heap.size + 3 := by rw [← hW3]; simp [s2]
  have hB : Below w.heap.size w W3 := by
    rw [← hW3, ← hW2, ← hW1]
    exact (((Below.refl _ w).alloc (Nat.le_refl _) _).alloc (by simp) _).alloc (by simp; omega) _
  have hP : PX.At W3 w.heap.size p := by
    have h := PX.At.new w p 27
    rw [hW1] at h
    have h2 := h.below (n := W1.heap.size) (B := W2) (by rw [← hW2]; exact (Below.refl _ _).alloc (Nat.le_refl _) _) (by omega)
    exact h2.below (n := W1.heap.size) (B := W3) (by rw [← hW3]; exact (Below.refl _ _).alloc (by omega) _) (by omega)
  have hT : RowAt W3 (w.heap.size + 1) 4 35 := by
    have h := RowAt.new W1 #[.slice none 0 0, .slice none 0 0, .slice none 0 0, .slice none 0 0] 35
    rw [hW2, s1] at h
    rw [← hW3]
    exact h.of_block (Below.heap_alloc _ _ _ (by omega))
  have hM : RowAt W3 (w.heap.size + 1 + 1) 4 35 := by
    have h := RowAt.new W2 #[.slice none 0 0, .slice none 0 0, .slice none 0 0, .slice none 0 0] 35
    rw [hW3, s2] at h
    exact h
  have hz : w.heap.size + 3 ≤ W3.heap.size := by omega
  clear hW1 hW2 hW3 s1 s2
  have hLX := hL.under hB hok
  have hokX : ∀ b, ok b → b < W3.heap.size := fun b hb => by have := hok b hb; omega
  refine (VX.tos p.vars p.vbase p.vcap ok W3 hokX hLX.v (by omega)).mono ?_
  rintro e y0 ⟨rfl, hL0, hb⟩
  obtain ⟨g0, hg0⟩ : ∃ g, W3.heap.size = g := ⟨_, rfl⟩
  rw [hg0] at hL0 ⊢
  have hgz0 : w.heap.size + 3 ≤ g0 := by omega
  have hzy : W3.heap.size ≤ y0.heap.size := hb.size
  replace hB := hB.trans (hb.mono (by omega))
  replace hP := hP.below hb (by omega)
  replace hT := hT.of_block (hb.block _ (by omega))
  replace hM := hM.of_block (hb.block _ (by omega))
  replace hLX := hLX.under hb hokX
  obtain ⟨o0, z0⟩ := hM.cell (o := 0) (by omega)
  have fz0 := hM.frozen 0
  obtain ⟨c0, c1, c2, c3⟩ := hP
  go_wp2_with fail
  go_at_call 30
  replace hP : PX.At y0 w.heap.size p := ⟨c0, c1, c2, c3⟩
  clear c0 c1 c2 c3
  have hK := ((Kept.refl (fun k => k = w.heap.size + 1 + 1) y0).setCell (p := ⟨w.heap.size + 1 + 1, 0, none⟩) rfl (.slice (some ⟨g0, 0, none⟩) p.vars.length p.vars.length))
  have hM' := hM.set 0 (.slice (some ⟨g0, 0, none⟩) p.vars.length p.vars.length)
  have n0 : (y0.setCell ⟨w.heap.size + 1 + 1, 0, none⟩ (.slice (some ⟨g0, 0, none⟩) p.vars.length p.vars.length)).cell? ⟨w.heap.size + 1 + 1, 0, none⟩ = some (.slice (some ⟨g0, 0, none⟩) p.vars.length p.vars.length) := hM.put (by omega) _
  clear z0 fz0
  obtain ⟨X0, hX⟩ : ∃ X, (y0.setCell ⟨w.heap.size + 1 + 1, 0, none⟩ (.slice (some ⟨g0, 0, none⟩) p.vars.length p.vars.length)) = X := ⟨_, rfl⟩
  rw [hX] at hK hM' n0 ⊢
  have hzx : X0.heap.size = y0.heap.size := by rw [← hX]; simp
  clear hX
  replace hM := hM'
  replace hT := hT.of_block (hK.block _ hT.lt (by omega))
  replace hP := hP.kept hK (by omega)
  replace hLX := hLX.kept hK (fun b hb => by have := hok b hb; omega)
  replace hB := hB.trans (hK.below (n := w.heap.size) (by omega) (fun k h => by omega))
  replace hL0 := hL0.kept hK (fun b hb => by omega)
  have hz' : w.heap.size + 3 ≤ X0.heap.size := by omega
  clear hM' hK hb hzy
  have hokX : ∀ b, ok b → b < X0.heap.size := fun b hb => by have := hok b hb; omega
  refine (CX.tos p.chans p.cbase p.ccap ok X0 hokX hLX.c (by omega)).mono ?_
  rintro e y1 ⟨rfl, hL1, hb⟩
  obtain ⟨g1, hg1⟩ : ∃ g, X0.heap.size = g := ⟨_, rfl⟩
  rw [hg1] at hL1 ⊢
  have hgz1 : w.heap.size + 3 ≤ g1 := by omega
  have hzy : X0.heap.size ≤ y1.heap.size := hb.size
  replace hB := hB.trans (hb.mono (by omega))
  replace hP := hP.below hb (by omega)
  replace hT := hT.of_block (hb.block _ (by omega))
  replace hM := hM.of_block (hb.block _ (by omega))
  replace hLX := hLX.under hb hokX
  replace n0 := below_cell hb n0 (by dsimp only; omega)
  replace hL0 := hL0.kept (Kept.of_new (fun k => k = w.heap.size + 1 + 1) hb) (fun b hb => by omega)
  obtain ⟨o1, z1⟩ := hM.cell (o := 1) (by omega)
  have fz1 := hM.frozen 1
  obtain ⟨c0, c1, c2, c3⟩ := hP
  go_wp2_with fail
  go_at_call 31
  replace hP : PX.At y1 w.heap.size p := ⟨c0, c1, c2, c3⟩
  clear c0 c1 c2 c3
  have hK := ((Kept.refl (fun k => k = w.heap.size + 1 + 1) y1).setCell (p := ⟨w.heap.size + 1 + 1, 1, none⟩) rfl (.slice (some ⟨g1, 0, none⟩) p.chans.length p.chans.length))
  have hM' := hM.set 1 (.slice (some ⟨g1, 0, none⟩) p.chans.length p.chans.length)
  have n1 : (y1.setCell ⟨w.heap.size + 1 + 1, 1, none⟩ (.slice (some ⟨g1, 0, none⟩) p.chans.length p.chans.length)).cell? ⟨w.heap.size + 1 + 1, 1, none⟩ = some (.slice (some ⟨g1, 0, none⟩) p.chans.length p.chans.length) := hM.put (by omega) _
  replace n0 : (y1.setCell ⟨w.heap.size + 1 + 1, 1, none⟩ (.slice (some ⟨g1, 0, none⟩) p.chans.length p.chans.length)).cell? ⟨w.heap.size + 1 + 1, 0, none⟩ = some (.slice (some ⟨g0, 0, none⟩) p.vars.length p.vars.length) := by rw [set_far (by omega)]; exact n0
  clear z1 fz1
  obtain ⟨X1, hX⟩ : ∃ X, (y1.setCell ⟨w.heap.size + 1 + 1, 1, none⟩ (.slice (some ⟨g1, 0, none⟩) p.chans.length p.chans.length)) = X := ⟨_, rfl⟩
  rw [hX] at hK hM' n0 n1 ⊢
  have hzx : X1.heap.size = y1.heap.size := by rw [← hX]; simp
  clear hX
  replace hM := hM'
  replace hT := hT.of_block (hK.block _ hT.lt (by omega))
  replace hP := hP.kept hK (by omega)
  replace hLX := hLX.kept hK (fun b hb => by have := hok b hb; omega)
  replace hB := hB.trans (hK.below (n := w.heap.size) (by omega) (fun k h => by omega))
  replace hL0 := hL0.kept hK (fun b hb => by omega)
  replace hL1 := hL1.kept hK (fun b hb => by omega)
  have hz' : w.heap.size + 3 ≤ X1.heap.size := by omega
  clear hM' hK hb hzy
  have hokX : ∀ b, ok b → b < X1.heap.size := fun b hb => by have := hok b hb; omega
  refine (toN p.locks p.nbase p.ncap ok X1 hokX hLX.n (by omega)).mono ?_
  rintro e y2 ⟨rfl, hL2, hb⟩
  obtain ⟨g2, hg2⟩ : ∃ g, X1.heap.size = g := ⟨_, rfl⟩
  rw [hg2] at hL2 ⊢
  have hgz2 : w.heap.size + 3 ≤ g2 := by omega
  have hzy : X1.heap.size ≤ y2.heap.size := hb.size
  replace hB := hB.trans (hb.mono (by omega))
  replace hP := hP.below hb (by omega)
  replace hT := hT.of_block (hb.block _ (by omega))
  replace hM := hM.of_block (hb.block _ (by omega))
  replace hLX := hLX.under hb hokX
  replace n0 := below_cell hb n0 (by dsimp only; omega)
  replace hL0 := hL0.kept (Kept.of_new (fun k => k = w.heap.size + 1 + 1) hb) (fun b hb => by omega)
  replace n1 := below_cell hb n1 (by dsimp only; omega)
  replace hL1 := hL1.kept (Kept.of_new (fun k => k = w.heap.size + 1 + 1) hb) (fun b hb => by omega)
  obtain ⟨o2, z2⟩ := hM.cell (o := 2) (by omega)
  have fz2 := hM.frozen 2
  obtain ⟨c0, c1, c2, c3⟩ := hP
  go_wp2_with fail
  go_at_call 32
  replace hP : PX.At y2 w.heap.size p := ⟨c0, c1, c2, c3⟩
  clear c0 c1 c2 c3
  have hK := ((Kept.refl (fun k => k = w.heap.size + 1 + 1) y2).setCell (p := ⟨w.heap.size + 1 + 1, 2, none⟩) rfl (.slice (some ⟨g2, 0, none⟩) p.locks.length p.locks.length))
  have hM' := hM.set 2 (.slice (some ⟨g2, 0, none⟩) p.locks.length p.locks.length)
  have n2 : (y2.setCell ⟨w.heap.size + 1 + 1, 2, none⟩ (.slice (some ⟨g2, 0, none⟩) p.locks.length p.locks.length)).cell? ⟨w.heap.size + 1 + 1, 2, none⟩ = some (.slice (some ⟨g2, 0, none⟩) p.locks.length p.locks.length) := hM.put (by omega) _
  replace n0 : (y2.setCell ⟨w.heap.size + 1 + 1, 2, none⟩ (.slice (some ⟨g2, 0, none⟩) p.locks.length p.locks.length)).cell? ⟨w.heap.size + 1 + 1, 0, none⟩ = some (.slice (some ⟨g0, 0, none⟩) p.vars.length p.vars.length) := by rw [set_far (by omega)]; exact n0
  replace n1 : (y2.setCell ⟨w.heap.size + 1 + 1, 2, none⟩ (.slice (some ⟨g2, 0, none⟩) p.locks.length p.locks.length)).cell? ⟨w.heap.size + 1 + 1, 1, none⟩ = some (.slice (some ⟨g1, 0, none⟩) p.chans.length p.chans.length) := by rw [set_far (by omega)]; exact n1
  clear z2 fz2
  obtain ⟨X2, hX⟩ : ∃ X, (y2.setCell ⟨w.heap.size + 1 + 1, 2, none⟩ (.slice (some ⟨g2, 0, none⟩) p.locks.length p.locks.length)) = X := ⟨_, rfl⟩
  rw [hX] at hK hM' n0 n1 n2 ⊢
  have hzx : X2.heap.size = y2.heap.size := by rw [← hX]; simp
  clear hX
  replace hM := hM'
  replace hT := hT.of_block (hK.block _ hT.lt (by omega))
  replace hP := hP.kept hK (by omega)
  replace hLX := hLX.kept hK (fun b hb => by have := hok b hb; omega)
  replace hB := hB.trans (hK.below (n := w.heap.size) (by omega) (fun k h => by omega))
  replace hL0 := hL0.kept hK (fun b hb => by omega)
  replace hL1 := hL1.kept hK (fun b hb => by omega)
  replace hL2 := hL2.kept hK (fun b hb => by omega)
  have hz' : w.heap.size + 3 ≤ X2.heap.size := by omega
  clear hM' hK hb hzy
  have hokX : ∀ b, ok b → b < X2.heap.size := fun b hb => by have := hok b hb; omega
  refine (LX.tos p.tasks p.tbase p.tcap ok X2 hokX hLX.t (by omega) hLX.k hm.t).mono ?_
  rintro e y3 ⟨us, rfl, hul, hL3, hus, hb⟩
  obtain ⟨g3, hg3⟩ : ∃ g, X2.heap.size = g := ⟨_, rfl⟩
  rw [hg3] at hL3 hus ⊢
  have hgz3 : w.heap.size + 3 ≤ g3 := by omega
  have hzy : X2.heap.size ≤ y3.heap.size := hb.size
  replace hB := hB.trans (hb.mono (by omega))
  replace hP := hP.below hb (by omega)
  replace hT := hT.of_block (hb.block _ (by omega))
  replace hM := hM.of_block (hb.block _ (by omega))
  replace hLX := hLX.under hb hokX
  replace n0 := below_cell hb n0 (by dsimp only; omega)
  replace hL0 := hL0.kept (Kept.of_new (fun k => k = w.heap.size + 1 + 1) hb) (fun b hb => by omega)
  replace n1 := below_cell hb n1 (by dsimp only; omega)
  replace hL1 := hL1.kept (Kept.of_new (fun k => k = w.heap.size + 1 + 1) hb) (fun b hb => by omega)
  replace n2 := below_cell hb n2 (by dsimp only; omega)
  replace hL2 := hL2.kept (Kept.of_new (fun k => k = w.heap.size + 1 + 1) hb) (fun b hb => by omega)
  obtain ⟨o3, z3⟩ := hM.cell (o := 3) (by omega)
  have fz3 := hM.frozen 3
  obtain ⟨c0, c1, c2, c3⟩ := hP
  obtain ⟨p0, t0⟩ := hT.cell (o := 0) (by omega)
  have ft0 := hT.frozen 0
  obtain ⟨p1, t1⟩ := hT.cell (o := 1) (by omega)
  have ft1 := hT.frozen 1
  obtain ⟨p2, t2⟩ := hT.cell (o := 2) (by omega)
  have ft2 := hT.frozen 2
  obtain ⟨p3, t3⟩ := hT.cell (o := 3) (by omega)
  have ft3 := hT.frozen 3
  go_wp2
  have hK : Kept (fun k => k = w.heap.size + 1 ∨ k = w.heap.size + 1 + 1) y3 (((((y3.setCell ⟨w.heap.size + 1 + 1, 3, none⟩ (.slice (some ⟨g3, 0, none⟩) p.tasks.length p.tasks.length)).setCell ⟨w.heap.size + 1, 0, none⟩ (.slice (some ⟨g0, 0, none⟩) p.vars.length p.vars.length)).setCell ⟨w.heap.size + 1, 1, none⟩ (.slice (some ⟨g1, 0, none⟩) p.chans.length p.chans.length)).setCell ⟨w.heap.size + 1, 2, none⟩ (.slice (some ⟨g2, 0, none⟩) p.locks.length p.locks.length)).setCell ⟨w.heap.size + 1, 3, none⟩ (.slice (some ⟨g3, 0, none⟩) p.tasks.length p.tasks.length)) :=
    ((((((Kept.refl (fun k => k = w.heap.size + 1 ∨ k = w.heap.size + 1 + 1) y3).setCell (p := ⟨w.heap.size + 1 + 1, 3, none⟩) (.inr rfl) _).setCell (p := ⟨w.heap.size + 1, 0, none⟩) (.inl rfl) _).setCell (p := ⟨w.heap.size + 1, 1, none⟩) (.inl rfl) _).setCell (p := ⟨w.heap.size + 1, 2, none⟩) (.inl rfl) _).setCell (p := ⟨w.heap.size + 1, 3, none⟩) (.inl rfl) _)
  first | go_returns | (refine bodyPost_ret (by simp [results, Tryz.results8, go_sem, *]; try rfl) rfl ?_)
  refine ⟨⟨some ⟨g0, 0, none⟩, p.vars.length, p.vars, some ⟨g1, 0, none⟩, p.chans.length, p.chans, some ⟨g2, 0, none⟩, p.locks.length, p.locks, some ⟨g3, 0, none⟩, p.tasks.length, us⟩, ?_, ?_, ?_, ?_, ?_⟩
  · simp only [PX.val, hul]
  · exact ⟨rfl, rfl, rfl, hul, fun i x y hx hy => (hus i x y hx hy).1⟩
  · have hget : ∀ (i : Nat) (y : LX), us[i]? = some y → ∃ x, p.tasks[i]? = some x := fun i y hy => ⟨_, List.getElem?_eq_getElem (by have := (List.getElem?_eq_some_iff.1 hy).1; omega)⟩
    refine ⟨?_, ?_, ?_, ?_, fun i y hy => ?_⟩
    · exact (hL0.kept hK (fun b hb => by omega)).mono (fun b hb _ => ⟨by omega, rfl⟩)
    · exact (hL1.kept hK (fun b hb => by omega)).mono (fun b hb _ => ⟨by omega, rfl⟩)
    · exact (hL2.kept hK (fun b hb => by omega)).mono (fun b hb _ => ⟨by omega, rfl⟩)
    · exact (hL3.kept hK (fun b hb => by omega)).mono (fun b hb _ => ⟨by omega, rfl⟩)
    · obtain ⟨x, hx⟩ := hget i y hy
      exact ((hus i x y hx hy).2.plain hK (fun b hb => by omega)).mono (fun b hb _ => ⟨by have := hb.1; omega, rfl⟩)
  · intro i y hy
    have hx := List.getElem?_eq_getElem (l := p.tasks) (i := i) (by have := (List.getElem?_eq_some_iff.1 hy).1; dsimp only at this; omega)
    exact ((hus i _ y hx hy).2.plain hK (fun b hb => by omega)).mono (fun b hb _ => ⟨hb.2, rfl⟩)
  · exact hB.trans (hK.below (by have := hB.size; omega) (fun k h => by omega))
theorem PX.to (p : PX) (hm : p.Small) (ok : Nat → Prop) (w : World) (hok : ∀ b, ok b → b < w.heap.size) (hL : PX.Lies ok w p) :
    Calls Tryz.prog 8 #[p.val] w fun e w' => ∃ q : PX, e = .returned q.val ∧ PX.Same p q ∧ PX.Lies (fun b => w.heap.size ≤ b) w' q ∧ Below w.heap.size w w' :=
  (PX.toP p hm ok w hok hL).mono fun e w' ⟨q, h1, h2, h3, _, h4⟩ => ⟨q, h1, h2, h3, h4⟩
end Go.Proofs.YtaajdoipjalgmaaGreatDoor
