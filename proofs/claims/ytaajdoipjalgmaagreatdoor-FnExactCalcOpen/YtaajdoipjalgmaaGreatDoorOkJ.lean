/-
  What the program answers of a task.
-/
import Derived.Test.YtaajdoipjalgmaaGreatDoorOkG
import Derived.Test.YtaajdoipjalgmaaGreatDoorOkH
import Derived.Test.YtaajdoipjalgmaaGreatDoorOkI
import Derived.Test.YtaajdoipjalgmaaGreatDoorOkR
namespace Go.Proofs.YtaajdoipjalgmaaGreatDoor
open Go.RowKit Go.Shelf
set_option linter.unusedSimpArgs false
set_option linter.unusedVariables false
attribute [local go_sem] Oper.semAt_some

theorem SX.within_all (Q : SX → Prop) (hA : ∀ s, Q s → (∀ (i : Nat) (k : SX), s.la[i]? = some k → Q k) ∧ (∀ (i : Nat) (k : SX), s.lb[i]? = some k → Q k)) (sz : Nat) :
    ∀ ks : List SX, SX.sizeAll ks ≤ sz → (∀ (i : Nat) (k : SX), ks[i]? = some k → Q k) → ∀ r, ∀ x ∈ SX.withinAll ks r, Q x.2 := by
  induction sz using Nat.strongRecOn with
  | _ sz ih =>
  intro ks
  induction ks with
  | nil => intro _ _ r x hx; simp [SX.withinAll] at hx
  | cons s ss ihs =>
    intro hsz hQ r x hx
    have hs := hQ 0 s rfl
    obtain ⟨ha, hb⟩ := hA s hs
    have h1 := s.size_eq
    simp only [SX.sizeAll] at hsz
    rw [SX.withinAll, List.mem_append, SX.within_eq, List.mem_cons, List.mem_append] at hx
    rcases hx with (rfl | hx | hx) | hx
    · exact hs
    · exact ih (SX.sizeAll s.la) (by omega) s.la (Nat.le_refl _) ha _ x hx
    · exact ih (SX.sizeAll s.lb) (by omega) s.lb (Nat.le_refl _) hb _ x hx
    · exact ihs (by omega) (fun i k hk => hQ (i + 1) k (by simpa using hk)) r x hx

theorem wrapN {n : Int} (h0 : 0 ≤ n) (h1 : n < 1000000000000) : IntKind.i64.wrap n = n := by
  rw [IntKind.wrap_i64]
  omega
def goodS (x : Int × SX) : Bool := decide (x.1 ≤ 4) && x.2.fitB
def nodesOf (l : List (Int × SX)) : Nat := (l.map (fun x => x.2.e.size + x.2.f.size)).sum
theorem nodesOf_append (a b : List (Int × SX)) : nodesOf (a ++ b) = nodesOf a + nodesOf b := by simp [nodesOf]
theorem nodesOf_one (x : Int × SX) : nodesOf [x] = x.2.e.size + x.2.f.size := by simp [nodesOf]
def taskI (ks : List SX) : Bool := (SX.withinAll ks 0).all goodS && decide ((SX.withinAll ks 0).length ≤ 40 ∧ nodesOf (SX.withinAll ks 0) ≤ 640)
theorem taskI_bad {ks : List SX} {pre : List (Int × SX)} {x : Int × SX} (h : pre ++ [x] <+: SX.withinAll ks 0) (hx : goodS x = false) : taskI ks = false := by
  have h1 : (SX.withinAll ks 0).all goodS = false := by
    rw [List.all_eq_false]
    exact ⟨x, h.subset (by simp), by simp [hx]⟩
  simp [taskI, h1]
theorem taskI_long {ks : List SX} {pre : List (Int × SX)} (h : pre <+: SX.withinAll ks 0) (hx : ¬ (pre.length ≤ 40 ∧ nodesOf pre ≤ 640)) : taskI ks = false := by
  obtain ⟨q, hq⟩ := h
  have h1 : ¬ ((SX.withinAll ks 0).length ≤ 40 ∧ nodesOf (SX.withinAll ks 0) ≤ 640) := by
    rw [← hq, List.length_append, nodesOf_append]
    omega
  unfold taskI
  rw [decide_eq_false h1, Bool.and_false]

set_option maxRecDepth 100000 in
set_option maxHeartbeats 2000000 in
theorem taskOk (ks : List SX) (hsz : SX.sizeAll ks ≤ 1099511627776) (hsm : ∀ (i : Nat) (k : SX), ks[i]? = some k → SmallS k) (a : Option Addr) (c : Nat) (ok : Nat → Prop) (w : World) (hok : ∀ b, ok b → b < w.heap.size) (hR : SRow ok w a ks) (hL : ∀ (i : Nat) (k : SX), ks[i]? = some k → LiesS ok w k) :
    Calls Tryz.prog 134 #[.slice a ks.length c] w fun e w' => e = .returned (.bool (taskI ks)) ∧ Below w.heap.size w w' := by
  have hLW : ∀ x ∈ SX.withinAll ks 0, LiesS ok w x.2 := SX.within_all (fun s => LiesS ok w s) (fun s hs => ⟨hs.parts.2.2.2.2.1, hs.parts.2.2.2.2.2⟩) _ ks (Nat.le_refl _) hL 0
  have hSW : ∀ x ∈ SX.withinAll ks 0, SmallS x.2 := SX.within_all SmallS (fun s hs => ⟨hs.parts.2.2.2.2.1, hs.parts.2.2.2.2.2⟩) _ ks (Nat.le_refl _) hsm 0
  obtain ⟨n, -⟩ : ∃ n : Nat, True := ⟨0, trivial⟩
  refine (callsIn_wide (n := n)).1 ?_
  refine callsIn_of_wp_marks Tryz.func134 rfl trivial ?_ rfl
  simp only [Tryz.ntmps134, List.size_toArray, List.length_cons, List.length_nil, Nat.reduceAdd, Nat.reduceSub, Array.replicate_succ, Array.replicate_zero, List.push_toArray, List.append_toArray, List.nil_append, List.cons_append]
  gi_wp2
  refine ⟨trivial, (fun h => by cases h), (callsIn_wide.2 (stmtsOf a ks.length c 0 _)).mono ?_⟩
  rintro e w3 ⟨rfl, hw3⟩
  subst w3
  gi_wp2
  obtain ⟨W1, hW1⟩ : ∃ W1, w.alloc (.cells #[.bool false] 4) = W1 := ⟨_, rfl⟩
  obtain ⟨W2, hW2⟩ : ∃ W2, W1.alloc (.cells #[.int .i64 0] 3) = W2 := ⟨_, rfl⟩
  obtain ⟨W3, hW3⟩ : ∃ W3, W2.alloc (.cells #[.int .i64 0] 3) = W3 := ⟨_, rfl⟩
  obtain ⟨W4, hW4⟩ : ∃ W4, W3.alloc (.cells #[.slice a ks.length c] 81) = W4 := ⟨_, rfl⟩
  obtain ⟨W5, hW5⟩ : ∃ W5, W4.alloc (.cells #[.int .i64 0] 3) = W5 := ⟨_, rfl⟩
  rw [hW1, hW2, hW3, hW4, hW5]
  have s1 : W1.heap.size = w.heap.size + 1 := by rw [← hW1]; simp
  have s2 : W2.heap.size = w.heap.size + 2 := by rw [← hW2]; simp [s1]
  have s3 : W3.heap.size = w.heap.size + 3 := by rw [← hW3]; simp [s2]
  have s4 : W4.heap.size = w.heap.size + 4 := by rw [← hW4]; simp [s3]
  have s5 : W5.heap.size = w.heap.size + 5 := by rw [← hW5]; simp [s4]
  have hbr : Boxed W5 w.heap.size 4 (.bool false) := by
    have h := ((((Boxed.new w 4 (.bool false)).alloc (.cells #[.int .i64 0] 3)).alloc (.cells #[.int .i64 0] 3)).alloc (.cells #[.slice a ks.length c] 81)).alloc (.cells #[.int .i64 0] 3)
    rw [hW1, hW2, hW3, hW4, hW5] at h
    exact h
  have hbs : Boxed W5 (w.heap.size + 1) 3 (.int .i64 0) := by
    have h := (((Boxed.new W1 3 (.int .i64 0)).alloc (.cells #[.int .i64 0] 3)).alloc (.cells #[.slice a ks.length c] 81)).alloc (.cells #[.int .i64 0] 3)
    rw [hW2, hW3, hW4, hW5, s1] at h
    exact h
  have hbn : Boxed W5 (w.heap.size + 2) 3 (.int .i64 0) := by
    have h := ((Boxed.new W2 3 (.int .i64 0)).alloc (.cells #[.slice a ks.length c] 81)).alloc (.cells #[.int .i64 0] 3)
    rw [hW3, hW4, hW5, s2] at h
    exact h
  have hbl : W5.cell? ⟨w.heap.size + 3, 0, none⟩ = some (.slice a ks.length c) := by
    have h := (Boxed.new W3 81 (.slice a ks.length c)).alloc (.cells #[.int .i64 0] 3)
    rw [hW4, hW5, s3] at h
    exact h.cell
  have hbd : W5.cell? ⟨w.heap.size + 4, 0, none⟩ = some (.int .i64 0) := by
    have h := Boxed.new W4 3 (.int .i64 0)
    rw [hW5, s4] at h
    exact h.cell
  have hB5 : Below w.heap.size w W5 := by
    rw [← hW5, ← hW4, ← hW3, ← hW2, ← hW1]
    exact (((((Below.refl _ w).alloc (Nat.le_refl _) _).alloc (by simp) _).alloc (by simp; omega) _).alloc (by simp; omega) _).alloc (by simp; omega) _
  clear hW1 hW2 hW3 hW4 hW5
  refine range_law (gf := 175) (lb := #[.pointer (some ⟨w.heap.size + 1 + 1 + 1, 0, none⟩), .pointer (some ⟨w.heap.size + 1 + 1 + 1 + 1, 0, none⟩)]) rfl (enters_of Tryz.func175 (by kernel_rfl) rfl) stmtE (fun _ => rfl) (SX.withinAll ks 0) (fun k => w.heap.size ≤ k ∧ k < w.heap.size + 3)
    (fun pre X => Boxed X (w.heap.size + 1) 3 (.int .i64 pre.length) ∧ Boxed X (w.heap.size + 2) 3 (.int .i64 (nodesOf pre : Nat)) ∧ Boxed X w.heap.size 4 (.bool false) ∧ Below w.heap.size w X ∧ pre.all goodS = true ∧ pre.length ≤ 40 ∧ nodesOf pre ≤ 640)
    (fun pre X => Boxed X w.heap.size 4 (.bool false) ∧ taskI ks = false)
    (fun k h => by omega)
    (fun pre A B h ⟨h1, h2, h3, h4, h5⟩ => ⟨(h.block _ (by omega)).trans h1, (h.block _ (by omega)).trans h2, (h.block _ (by omega)).trans h3, h4.trans (h.mono (by omega)), h5⟩)
    (fun pre A B h ⟨h1, h2⟩ => ⟨(h.block _ (by omega)).trans h1, h2⟩)
    ⟨hbs, hbn, hbr, hB5, rfl, by simp, by simp [nodesOf]⟩
    ?hit ?hround ?hdone ?hstop
  case hit =>
    intro W6 hB6 hs6
    have hB56 := hB5.trans (hB6.mono (by omega))
    refine stmts1 _ ks hsz (Nat.le_refl _) a c 0 _ _ _ ok W6 ?_ ?_ (below_cell hB6 hbd (by dsimp only; omega)) ?_ (below_cell hB6 hbl (by dsimp only; omega)) (hR.under hB56 hok) (fun i k hk => (hL i k hk).under hB56 hok)
    · intro k h; omega
    · intro b hb
      have := hok b hb
      omega
    · omega
  case hround =>
    rintro l m pre x X hl hlX ⟨h1, h2, h3, h4, h5, h6, h7⟩ hpre
    gi_wp2
    refine ⟨(Below.refl _ X).alloc (Nat.le_refl _) _, ?_⟩
    rintro w₂ hk2 ⟨j1, j2, j3, j4, j5, j6, j7⟩
    have hXb := h1.lt
    have hX7 : Cells12 w₂ X.heap.size 0 x.2 := (Cells12.new X x.2 _).kept hk2 (by omega)
    have hxm : x ∈ SX.withinAll ks 0 := hpre.subset (by simp)
    have hxs := hSW x hxm
    have hxl : LiesS ok w₂ x.2 := (hLW x hxm).under j4 hok
    have hok2 : ∀ b, ok b → b < w₂.heap.size := fun b hb => Nat.lt_of_lt_of_le (hok b hb) j4.size
    have hX8 := hX7
    obtain ⟨q0, q1, q2, q3, q4, q5, q6, q7, q8, q9, q10, q11⟩ := hX7
    have hc3 := j3.cell
    have hf3 := j3.frozen
    by_cases hd : x.1 ≤ 4
    · gi_wp2
      refine ⟨trivial, (fun h => by cases h), (CallsIn.inRound l (callsIn_wide.2 (typedS x.2 _))).mono ?_⟩
      rintro e w5 ⟨rfl, hB7⟩
      obtain ⟨f, hmt, hen, hcall⟩ := x.2.disp hxs
      have hmt5 := hmt w5
      have hen5 := hen #[x.2.val] w5
      gi_wp2
      refine ⟨trivial, (fun h => by cases h), (CallsIn.inRound l (callsIn_wide.2 (hcall ok w5 (fun b hb => Nat.lt_of_lt_of_le (hok2 b hb) hB7.size) (hxl.under hB7 hok2)))).mono ?_⟩
      rintro e w6 ⟨rfl, hB8⟩
      have hB8' := bstep hB7 hB8
      clear hmt hen hcall hmt5 hen5 q0 q1 q2 q3 q4 q5 q6 q7 q8 q9 q10 q11 hc3 hf3
      cases hfit : x.2.fitB
      · have k3 : Boxed w6 w.heap.size 4 (.bool false) := (hB8'.block _ j3.lt).trans j3
        have hc3 := k3.cell
        have hf3 := k3.frozen
        gi_wp2
        exact ⟨(Kept.of_new _ hB8').setCell (by dsimp only; omega) _, k3.set _, taskI_bad hpre (by simp [goodS, hfit])⟩
      · have k1 : Boxed w6 (w.heap.size + 1) 3 (.int .i64 pre.length) := (hB8'.block _ j1.lt).trans j1
        have hc1 := k1.cell
        have hf1 := k1.frozen
        gi_wp2
        have b1 := k1.set (.int .i64 (pre.length + 1))
        obtain ⟨W7, hW7⟩ : ∃ W7, w6.setCell ⟨w.heap.size + 1, 0, none⟩ (.int .i64 (pre.length + 1)) = W7 := ⟨_, rfl⟩
        rw [hW7] at b1
        have hK7 : Kept (fun k => w.heap.size ≤ k ∧ k < w.heap.size + 3) w₂ W7 := by rw [← hW7]; exact (Kept.of_new _ hB8').setCell (by dsimp only; omega) _
        have b2 : Boxed W7 (w.heap.size + 2) 3 (.int .i64 (nodesOf pre : Nat)) := by
          rw [← hW7]
          exact (Below.heap_setCell _ _ _ _ (by dsimp only; omega)).trans ((hB8'.block _ j2.lt).trans j2)
        have b3 : Boxed W7 w.heap.size 4 (.bool false) := by
          rw [← hW7]
          exact (Below.heap_setCell _ _ _ _ (by dsimp only; omega)).trans ((hB8'.block _ j3.lt).trans j3)
        have hC7 : Cells12 W7 X.heap.size 0 x.2 := hX8.kept hK7 (by omega)
        have hL7 : LiesS ok W7 x.2 := hxl.kept hK7 (fun b hb => by have := hok b hb; omega)
        have hok7 : ∀ b, ok b → b < W7.heap.size := fun b hb => Nat.lt_of_lt_of_le (hok2 b hb) hK7.size
        rw [hW7]
        have hCd : Cells12 W7.drew X.heap.size 0 x.2 := ⟨hC7.c0, hC7.c1, hC7.c2, hC7.c3, hC7.c4, hC7.c5, hC7.c6, hC7.c7, hC7.c8, hC7.c9, hC7.c10, hC7.c11⟩
        refine region_round (fun w' => Cells12 w' X.heap.size 0 x.2) (by kernel_rfl) (by kernel_rfl) (by rintro ⟨a, w, h⟩; exact h) hCd (fun hHeld => ?_)
        refine wpAnyH_take (i := 1) (oi := _) (v := ?_) rfl (by kernel_rfl) (by kernel_rfl) (by kernel_rfl) (fun _ _ _ h => h) (Or.inl ⟨by rfl, ?_⟩) (by assumption) ?_
        rotate_left
        · (intro w hSw; obtain ⟨r0, r1, r2, r3, r4, r5, r6, r7, r8, r9, r10, r11⟩ := hSw; go_simp; (try with_reducible rfl))
        try simp only [Act.put, List.setIfInBounds_toArray, List.set_cons_zero, List.set_cons_succ]
        refine wpAnyH_take (i := 2) (oi := _) (v := ?_) rfl (by kernel_rfl) (by kernel_rfl) (by kernel_rfl) (fun _ _ _ h => h) (Or.inl ⟨by rfl, ?_⟩) (by assumption) ?_
        rotate_left
        · (intro w hSw; obtain ⟨r0, r1, r2, r3, r4, r5, r6, r7, r8, r9, r10, r11⟩ := hSw; go_simp; (try with_reducible rfl))
        try simp only [Act.put, List.setIfInBounds_toArray, List.set_cons_zero, List.set_cons_succ]
        refine wpAnyH_take (i := 4) (oi := _) (v := ?_) rfl (by kernel_rfl) (by kernel_rfl) (by kernel_rfl) (fun _ _ _ h => h) (Or.inl ⟨by rfl, ?_⟩) (by assumption) ?_
        rotate_left
        · (intro w hSw; obtain ⟨r0, r1, r2, r3, r4, r5, r6, r7, r8, r9, r10, r11⟩ := hSw; go_simp; (try with_reducible rfl))
        try simp only [Act.put, List.setIfInBounds_toArray, List.set_cons_zero, List.set_cons_succ]
        refine wpAnyH_take (i := 5) (oi := _) (v := ?_) rfl (by kernel_rfl) (by kernel_rfl) (by kernel_rfl) (fun _ _ _ h => h) (Or.inl ⟨by rfl, ?_⟩) (by assumption) ?_
        rotate_left
        · (intro w hSw; obtain ⟨r0, r1, r2, r3, r4, r5, r6, r7, r8, r9, r10, r11⟩ := hSw; go_simp; (try with_reducible rfl))
        try simp only [Act.put, List.setIfInBounds_toArray, List.set_cons_zero, List.set_cons_succ]
        obtain ⟨m1, m2, m3, -⟩ := hxs.parts
        have hze := m2.1
        have hwN : IntKind.i64.wrap ((nodesOf pre : Int) + IntKind.i64.wrap ((x.2.e.size : Int) + x.2.f.size)) = (nodesOf (pre ++ [x]) : Nat) := by
          have h9 := m3.1
          rw [nodesOf_append, nodesOf_one, wrapN (n := (x.2.e.size : Int) + x.2.f.size) (by omega) (by omega), wrapN (by omega) (by omega)]
          simp only [Int.natCast_add]
        have hzf := m3.1
        have b2d : Boxed W7.drew (w.heap.size + 2) 3 (.int .i64 (nodesOf pre : Nat)) := b2
        have hokd : ∀ b, ok b → b < W7.drew.heap.size := hok7
        have hLE : Lies ok W7.drew x.2.e := hL7.parts.1.mono (fun b hb _ => ⟨hb, rfl⟩)
        have hLF : Lies ok W7.drew x.2.f := hL7.parts.2.1.mono (fun b hb _ => ⟨hb, rfl⟩)
        refine wpAnyH_ready (rs := [0, 3]) (by kernel_rfl) (by simp) ?_
        refine AllReadyH.cons (o := _) rfl (fun K hK => ?_) (AllReadyH.cons (o := _) rfl (fun K hK => ?_) AllReadyH.nil)
        · have hcn := b2d.cell
          go_simp
          refine hK.out _ _ hHeld (fun hHeld => ?_)
          clear hK K
          try simp only [Act.put, List.setIfInBounds_toArray, List.set_cons_zero, List.set_cons_succ]
          refine wpAnyH_ready (rs := [3]) (by kernel_rfl) (by simp) ?_
          refine AllReadyH.cons (o := _) rfl (fun K hK => ?_) AllReadyH.nil
          go_simp
          go_at_call 169
          refine (nodes x.2.e (by omega) ok _ hokd hLE).mono ?_
          rintro e w8 ⟨rfl, hB9⟩
          try go_wp2_with fail
          refine hK.out _ _ (hHeld.below hB9 hHeld.lt) (fun hHeld => ?_)
          clear hK K
          try simp only [Act.put, List.setIfInBounds_toArray, List.set_cons_zero, List.set_cons_succ]
          have g8 : Boxed w8 (w.heap.size + 2) 3 (.int .i64 (nodesOf pre : Nat)) := (hB9.block _ b2d.lt).trans b2d
          have hok8 : ∀ b, ok b → b < w8.heap.size := fun b hb => Nat.lt_of_lt_of_le (hokd b hb) hB9.size
          have hLF8 := hLF.under hB9 hokd
          refine wpAnyH_ready (rs := [6]) (by kernel_rfl) (by simp) ?_
          refine AllReadyH.cons (o := _) rfl (fun K hK => ?_) AllReadyH.nil
          go_simp
          go_at_call 169
          refine (nodes x.2.f (by omega) ok _ hok8 hLF8).mono ?_
          rintro e w9 ⟨rfl, hB10⟩
          try go_wp2_with fail
          refine hK.out _ _ (hHeld.below hB10 hHeld.lt) (fun hHeld => ?_)
          clear hK K
          try simp only [Act.put, List.setIfInBounds_toArray, List.set_cons_zero, List.set_cons_succ]
          have g9 : Boxed w9 (w.heap.size + 2) 3 (.int .i64 (nodesOf pre : Nat)) := (hB10.block _ g8.lt).trans g8
          have hc9 := g9.cell
          have hf9 := g9.frozen
          refine wpAnyH_take (i := 7) (oi := _) (v := ?_) rfl (by kernel_rfl) (by kernel_rfl) (by kernel_rfl) (fun _ _ _ h => h) (Or.inl ⟨by rfl, ?_⟩) (by assumption) ?_
          rotate_left
          · (intro w hSw; obtain ⟨r0, r1, r2, r3, r4, r5, r6, r7, r8, r9, r10, r11⟩ := hSw; go_simp; (try with_reducible rfl))
          try simp only [Act.put, List.setIfInBounds_toArray, List.set_cons_zero, List.set_cons_succ]
          refine wpAnyH_take (i := 8) (oi := _) (v := ?_) rfl (by kernel_rfl) (by kernel_rfl) (by kernel_rfl) (fun _ _ _ h => h) (Or.inl ⟨by rfl, ?_⟩) (by assumption) ?_
          rotate_left
          · (intro w hSw; obtain ⟨r0, r1, r2, r3, r4, r5, r6, r7, r8, r9, r10, r11⟩ := hSw; go_simp; (try with_reducible rfl))
          try simp only [Act.put, List.setIfInBounds_toArray, List.set_cons_zero, List.set_cons_succ]
          refine wpAnyH_ready (rs := [9]) (by kernel_rfl) (by simp) ?_
          refine AllReadyH.cons (o := _) rfl (fun K hK => ?_) AllReadyH.nil
          go_simp
          try rw [hwN]
          obtain ⟨W10, hW10⟩ : ∃ W10, w9.setCell ⟨w.heap.size + 1 + 1, 0, none⟩ (.int .i64 (nodesOf (pre ++ [x]) : Nat)) = W10 := ⟨_, rfl⟩
          have hKx : Kept (fun k => w.heap.size ≤ k ∧ k < w.heap.size + 3) W7.drew w9 := Kept.of_new _ (bstep hB9 hB10)
          have hz9 := hKx.size
          have f1 : Boxed W10 (w.heap.size + 1) 3 (.int .i64 (pre.length + 1)) := by
            rw [← hW10]
            exact (Below.heap_setCell _ _ _ _ (by dsimp only; omega)).trans (((bstep hB9 hB10).block _ b1.lt).trans b1)
          have f2 : Boxed W10 (w.heap.size + 2) 3 (.int .i64 (nodesOf (pre ++ [x]) : Nat)) := by rw [← hW10]; exact g9.set _
          have f3 : Boxed W10 w.heap.size 4 (.bool false) := by
            rw [← hW10]
            exact (Below.heap_setCell _ _ _ _ (by dsimp only; omega)).trans (((bstep hB9 hB10).block _ b3.lt).trans b3)
          have hK10 : Kept (fun k => w.heap.size ≤ k ∧ k < w.heap.size + 3) w₂ W10 := by
            rw [← hW10]
            exact ((hK7.trans ((Kept.refl _ W7).trans (show Kept _ W7 w9 from ⟨hKx.os, hKx.tape, hKx.output, hKx.size, hKx.block⟩)))).setCell (by dsimp only; omega) _
          have hB11 : Below w.heap.size w W10 := j4.trans (hK10.below j4.size (fun k h => h.1))
          rw [hW10]
          refine hK.out _ _ (by rw [← hW10]; exact hHeld.kept ((Kept.refl (fun k => k = w.heap.size + 2) w9).setCell (p := ⟨w.heap.size + 1 + 1, 0, none⟩) rfl _) (by omega)) (fun hHeld => ?_)
          clear hK K hHeld
          try simp only [Act.put, List.setIfInBounds_toArray, List.set_cons_zero, List.set_cons_succ]
          refine wpAnyH_done (by kernel_rfl) ?_ _
          clear hW10
          have e1 := f1.cell
          have e2 := f2.cell
          have e3 := f3.cell
          have e4 := f3.frozen
          by_cases hlim : pre.length + 1 ≤ 40 ∧ nodesOf (pre ++ [x]) ≤ 640
          · gi_wp2
            all_goals first | (exfalso; omega) | skip
            exact ⟨hK10, by simpa using f1, f2, f3, hB11, by simp [j5, goodS, hfit, hd], by simpa using hlim.1, hlim.2⟩
          · gi_wp2
            all_goals first | (exfalso; omega) | skip
            all_goals exact ⟨hK10.setCell (by dsimp only; omega) _, f3.set _, taskI_long hpre (by simpa using hlim)⟩
        · go_simp
          go_at_call 169
          refine (nodes x.2.e (by omega) ok _ hokd hLE).mono ?_
          rintro e w8 ⟨rfl, hB9⟩
          try go_wp2_with fail
          refine hK.out _ _ (hHeld.below hB9 hHeld.lt) (fun hHeld => ?_)
          clear hK K
          try simp only [Act.put, List.setIfInBounds_toArray, List.set_cons_zero, List.set_cons_succ]
          have g8 : Boxed w8 (w.heap.size + 2) 3 (.int .i64 (nodesOf pre : Nat)) := (hB9.block _ b2d.lt).trans b2d
          have hok8 : ∀ b, ok b → b < w8.heap.size := fun b hb => Nat.lt_of_lt_of_le (hokd b hb) hB9.size
          have hLF8 := hLF.under hB9 hokd
          refine wpAnyH_ready (rs := [0, 6]) (by kernel_rfl) (by simp) ?_
          refine AllReadyH.cons (o := _) rfl (fun K hK => ?_) (AllReadyH.cons (o := _) rfl (fun K hK => ?_) AllReadyH.nil)
          · have hcn := g8.cell
            go_simp
            refine hK.out _ _ hHeld (fun hHeld => ?_)
            clear hK K
            try simp only [Act.put, List.setIfInBounds_toArray, List.set_cons_zero, List.set_cons_succ]
            refine wpAnyH_ready (rs := [6]) (by kernel_rfl) (by simp) ?_
            refine AllReadyH.cons (o := _) rfl (fun K hK => ?_) AllReadyH.nil
            go_simp
            go_at_call 169
            refine (nodes x.2.f (by omega) ok _ hok8 hLF8).mono ?_
            rintro e w9 ⟨rfl, hB10⟩
            try go_wp2_with fail
            refine hK.out _ _ (hHeld.below hB10 hHeld.lt) (fun hHeld => ?_)
            clear hK K
            try simp only [Act.put, List.setIfInBounds_toArray, List.set_cons_zero, List.set_cons_succ]
            have g9 : Boxed w9 (w.heap.size + 2) 3 (.int .i64 (nodesOf pre : Nat)) := (hB10.block _ g8.lt).trans g8
            have hc9 := g9.cell
            have hf9 := g9.frozen
            refine wpAnyH_take (i := 7) (oi := _) (v := ?_) rfl (by kernel_rfl) (by kernel_rfl) (by kernel_rfl) (fun _ _ _ h => h) (Or.inl ⟨by rfl, ?_⟩) (by assumption) ?_
            rotate_left
            · (intro w hSw; obtain ⟨r0, r1, r2, r3, r4, r5, r6, r7, r8, r9, r10, r11⟩ := hSw; go_simp; (try with_reducible rfl))
            try simp only [Act.put, List.setIfInBounds_toArray, List.set_cons_zero, List.set_cons_succ]
            refine wpAnyH_take (i := 8) (oi := _) (v := ?_) rfl (by kernel_rfl) (by kernel_rfl) (by kernel_rfl) (fun _ _ _ h => h) (Or.inl ⟨by rfl, ?_⟩) (by assumption) ?_
            rotate_left
            · (intro w hSw; obtain ⟨r0, r1, r2, r3, r4, r5, r6, r7, r8, r9, r10, r11⟩ := hSw; go_simp; (try with_reducible rfl))
            try simp only [Act.put, List.setIfInBounds_toArray, List.set_cons_zero, List.set_cons_succ]
            refine wpAnyH_ready (rs := [9]) (by kernel_rfl) (by simp) ?_
            refine AllReadyH.cons (o := _) rfl (fun K hK => ?_) AllReadyH.nil
            go_simp
            try rw [hwN]
            obtain ⟨W10, hW10⟩ : ∃ W10, w9.setCell ⟨w.heap.size + 1 + 1, 0, none⟩ (.int .i64 (nodesOf (pre ++ [x]) : Nat)) = W10 := ⟨_, rfl⟩
            have hKx : Kept (fun k => w.heap.size ≤ k ∧ k < w.heap.size + 3) W7.drew w9 := Kept.of_new _ (bstep hB9 hB10)
            have hz9 := hKx.size
            have f1 : Boxed W10 (w.heap.size + 1) 3 (.int .i64 (pre.length + 1)) := by
              rw [← hW10]
              exact (Below.heap_setCell _ _ _ _ (by dsimp only; omega)).trans (((bstep hB9 hB10).block _ b1.lt).trans b1)
            have f2 : Boxed W10 (w.heap.size + 2) 3 (.int .i64 (nodesOf (pre ++ [x]) : Nat)) := by rw [← hW10]; exact g9.set _
            have f3 : Boxed W10 w.heap.size 4 (.bool false) := by
              rw [← hW10]
              exact (Below.heap_setCell _ _ _ _ (by dsimp only; omega)).trans (((bstep hB9 hB10).block _ b3.lt).trans b3)
            have hK10 : Kept (fun k => w.heap.size ≤ k ∧ k < w.heap.size + 3) w₂ W10 := by
              rw [← hW10]
              exact ((hK7.trans ((Kept.refl _ W7).trans (show Kept _ W7 w9 from ⟨hKx.os, hKx.tape, hKx.output, hKx.size, hKx.block⟩)))).setCell (by dsimp only; omega) _
            have hB11 : Below w.heap.size w W10 := j4.trans (hK10.below j4.size (fun k h => h.1))
            rw [hW10]
            refine hK.out _ _ (by rw [← hW10]; exact hHeld.kept ((Kept.refl (fun k => k = w.heap.size + 2) w9).setCell (p := ⟨w.heap.size + 1 + 1, 0, none⟩) rfl _) (by omega)) (fun hHeld => ?_)
            clear hK K hHeld
            try simp only [Act.put, List.setIfInBounds_toArray, List.set_cons_zero, List.set_cons_succ]
            refine wpAnyH_done (by kernel_rfl) ?_ _
            clear hW10
            have e1 := f1.cell
            have e2 := f2.cell
            have e3 := f3.cell
            have e4 := f3.frozen
            by_cases hlim : pre.length + 1 ≤ 40 ∧ nodesOf (pre ++ [x]) ≤ 640
            · gi_wp2
              all_goals first | (exfalso; omega) | skip
              exact ⟨hK10, by simpa using f1, f2, f3, hB11, by simp [j5, goodS, hfit, hd], by simpa using hlim.1, hlim.2⟩
            · gi_wp2
              all_goals first | (exfalso; omega) | skip
              all_goals exact ⟨hK10.setCell (by dsimp only; omega) _, f3.set _, taskI_long hpre (by simpa using hlim)⟩
          · go_simp
            go_at_call 169
            refine (nodes x.2.f (by omega) ok _ hok8 hLF8).mono ?_
            rintro e w9 ⟨rfl, hB10⟩
            try go_wp2_with fail
            refine hK.out _ _ (hHeld.below hB10 hHeld.lt) (fun hHeld => ?_)
            clear hK K
            try simp only [Act.put, List.setIfInBounds_toArray, List.set_cons_zero, List.set_cons_succ]
            have g9 : Boxed w9 (w.heap.size + 2) 3 (.int .i64 (nodesOf pre : Nat)) := (hB10.block _ g8.lt).trans g8
            have hc9 := g9.cell
            have hf9 := g9.frozen
            refine wpAnyH_take (i := 7) (oi := _) (v := ?_) rfl (by kernel_rfl) (by kernel_rfl) (by kernel_rfl) (fun _ _ _ h => h) (Or.inl ⟨by rfl, ?_⟩) (by assumption) ?_
            rotate_left
            · (intro w hSw; obtain ⟨r0, r1, r2, r3, r4, r5, r6, r7, r8, r9, r10, r11⟩ := hSw; go_simp; (try with_reducible rfl))
            try simp only [Act.put, List.setIfInBounds_toArray, List.set_cons_zero, List.set_cons_succ]
            refine wpAnyH_ready (rs := [0]) (by kernel_rfl) (by simp) ?_
            refine AllReadyH.cons (o := _) rfl (fun K hK => ?_) AllReadyH.nil
            have hcn := g9.cell
            go_simp
            refine hK.out _ _ hHeld (fun hHeld => ?_)
            clear hK K
            try simp only [Act.put, List.setIfInBounds_toArray, List.set_cons_zero, List.set_cons_succ]
            refine wpAnyH_take (i := 8) (oi := _) (v := ?_) rfl (by kernel_rfl) (by kernel_rfl) (by kernel_rfl) (fun _ _ _ h => h) (Or.inl ⟨by rfl, ?_⟩) (by assumption) ?_
            rotate_left
            · (intro w hSw; obtain ⟨r0, r1, r2, r3, r4, r5, r6, r7, r8, r9, r10, r11⟩ := hSw; go_simp; (try with_reducible rfl))
            try simp only [Act.put, List.setIfInBounds_toArray, List.set_cons_zero, List.set_cons_succ]
            refine wpAnyH_ready (rs := [9]) (by kernel_rfl) (by simp) ?_
            refine AllReadyH.cons (o := _) rfl (fun K hK => ?_) AllReadyH.nil
            go_simp
            try rw [hwN]
            obtain ⟨W10, hW10⟩ : ∃ W10, w9.setCell ⟨w.heap.size + 1 + 1, 0, none⟩ (.int .i64 (nodesOf (pre ++ [x]) : Nat)) = W10 := ⟨_, rfl⟩
            have hKx : Kept (fun k => w.heap.size ≤ k ∧ k < w.heap.size + 3) W7.drew w9 := Kept.of_new _ (bstep hB9 hB10)
            have hz9 := hKx.size
            have f1 : Boxed W10 (w.heap.size + 1) 3 (.int .i64 (pre.length + 1)) := by
              rw [← hW10]
              exact (Below.heap_setCell _ _ _ _ (by dsimp only; omega)).trans (((bstep hB9 hB10).block _ b1.lt).trans b1)
            have f2 : Boxed W10 (w.heap.size + 2) 3 (.int .i64 (nodesOf (pre ++ [x]) : Nat)) := by rw [← hW10]; exact g9.set _
            have f3 : Boxed W10 w.heap.size 4 (.bool false) := by
              rw [← hW10]
              exact (Below.heap_setCell _ _ _ _ (by dsimp only; omega)).trans (((bstep hB9 hB10).block _ b3.lt).trans b3)
            have hK10 : Kept (fun k => w.heap.size ≤ k ∧ k < w.heap.size + 3) w₂ W10 := by
              rw [← hW10]
              exact ((hK7.trans ((Kept.refl _ W7).trans (show Kept _ W7 w9 from ⟨hKx.os, hKx.tape, hKx.output, hKx.size, hKx.block⟩)))).setCell (by dsimp only; omega) _
            have hB11 : Below w.heap.size w W10 := j4.trans (hK10.below j4.size (fun k h => h.1))
            rw [hW10]
            refine hK.out _ _ (by rw [← hW10]; exact hHeld.kept ((Kept.refl (fun k => k = w.heap.size + 2) w9).setCell (p := ⟨w.heap.size + 1 + 1, 0, none⟩) rfl _) (by omega)) (fun hHeld => ?_)
            clear hK K hHeld
            try simp only [Act.put, List.setIfInBounds_toArray, List.set_cons_zero, List.set_cons_succ]
            refine wpAnyH_done (by kernel_rfl) ?_ _
            clear hW10
            have e1 := f1.cell
            have e2 := f2.cell
            have e3 := f3.cell
            have e4 := f3.frozen
            by_cases hlim : pre.length + 1 ≤ 40 ∧ nodesOf (pre ++ [x]) ≤ 640
            · gi_wp2
              all_goals first | (exfalso; omega) | skip
              exact ⟨hK10, by simpa using f1, f2, f3, hB11, by simp [j5, goodS, hfit, hd], by simpa using hlim.1, hlim.2⟩
            · gi_wp2
              all_goals first | (exfalso; omega) | skip
              all_goals exact ⟨hK10.setCell (by dsimp only; omega) _, f3.set _, taskI_long hpre (by simpa using hlim)⟩
    · gi_wp2
      refine ⟨trivial, ?_⟩
      gi_wp2
      all_goals
        refine ⟨fun _ _ => trivial, ?_⟩
        gi_wp2
        exact ⟨(Kept.refl _ _).setCell (by dsimp only; omega) _, j3.set _, taskI_bad hpre (by simp [goodS]; omega)⟩
  case hdone =>
    rintro D X hD ⟨h1, h2, h3, h4, h5, h6, h7⟩ hkX hdX
    have hc2 := h3.cell
    have hf2 := h3.frozen
    have hokI : taskI ks = true := by simp [taskI, h5, h6, h7]
    have hb2 := h3.set (.bool true)
    have hKX : Kept (fun k => w.heap.size ≤ k ∧ k < w.heap.size + 3) W5 (X.setCell ⟨w.heap.size, 0, none⟩ (.bool true)) := hkX.setCell (by dsimp only; omega) _
    gi_wp2
    refine leave_marks [D] _ (by simp) (fun E hE => ?_) (fun W' hk' => ⟨.bool (taskI ks), ?_, rfl, ?_⟩)
    · rw [List.mem_singleton.1 hE]
      exact (Below.heap_setCell _ _ _ _ (by dsimp only; omega)).trans hdX
    · have hb3 : Boxed W' w.heap.size 4 (.bool true) := (hk'.block _ hb2.lt (by simp; omega)).trans hb2
      have hc3 := hb3.cell
      rw [hokI]
      simp [results, Tryz.results134, go_sem, hc3]
    · exact hB5.trans (((hKX.mono (T := fun k => w.heap.size ≤ k) (fun k _ h => h.1)).join hk' (T := fun k => k ∈ [D]) (fun k h1 h2 => by simp at h2; omega)).below (by omega) (fun k h => h))
  case hstop =>
    rintro D pre X hD hpre ⟨h1, h2⟩ hkX hdX
    refine leave_marks [D] X (by simp) (fun E hE => ?_) (fun W' hk' => ⟨.bool (taskI ks), ?_, rfl, ?_⟩)
    · rw [List.mem_singleton.1 hE]
      exact hdX
    · have hb3 : Boxed W' w.heap.size 4 (.bool false) := (hk'.block _ h1.lt (by simp; omega)).trans h1
      have hc3 := hb3.cell
      rw [h2]
      simp [results, Tryz.results134, go_sem, hc3]
    · exact hB5.trans (((hkX.mono (T := fun k => w.heap.size ≤ k) (fun k _ h => h.1)).join hk' (T := fun k => k ∈ [D]) (fun k h1 h2 => by simp at h2; omega)).below (by omega) (fun k h => h))
end Go.Proofs.YtaajdoipjalgmaaGreatDoor
