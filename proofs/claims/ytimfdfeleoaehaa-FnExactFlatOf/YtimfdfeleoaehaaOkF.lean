/-
  What the program answers of one statement of each kind, but for those within it.
-/
import Derived.Test.YtimfdfeleoaehaaOkE
namespace Go.Proofs.Ytimfdfeleoaehaa
open Go.RowKit Go.Shelf
set_option linter.unusedSimpArgs false
set_option linter.unusedVariables false
attribute [local go_sem] Oper.semAt_some
set_option maxRecDepth 10000 in
set_option maxHeartbeats 4000000 in
theorem SX.fitSet (s : SX) (hm : SmallS s) (ok : Nat → Prop) (w : World) (hok : ∀ b, ok b → b < w.heap.size) (hL : LiesS ok w s) :
    Calls Try.prog 102 #[s.val] w fun e w' => e = .returned (.bool (nameB s.name && (s.onlyE && s.noL))) ∧ Below w.heap.size w w' := by
  obtain ⟨m1, m2, m3, m4, -, -⟩ := hm.parts
  obtain ⟨W1, hW1⟩ : ∃ W1, w.alloc (.cells #[.int .i64 s.kind, .string s.name, .int .i64 s.e.kind, .int .i64 s.e.num, .string s.e.name, .slice s.e.base s.e.kids.length s.e.cap, .int .i64 s.f.kind, .int .i64 s.f.num, .string s.f.name, .slice s.f.base s.f.kids.length s.f.cap, .slice s.abase s.la.length s.acap, .slice s.bbase s.lb.length s.bcap] 119) = W1 := ⟨_, rfl⟩
  have hs1 : w.heap.size + 1 = W1.heap.size := by rw [← hW1]; simp
  have hB1 : Below w.heap.size w W1 := by rw [← hW1]; exact (Below.refl _ w).alloc (Nat.le_refl _) _
  have hC : Cells12 W1 w.heap.size 0 s := by rw [← hW1]; exact Cells12.new w s _
  have hok1 : ∀ b, ok b → b < W1.heap.size := fun b hb => by have := hok b hb; omega
  have hL1 := hL.under hB1 hok
  have hX := Below.refl W1.heap.size W1
  obtain ⟨c0, c1, c2, c3, c4, c5, c6, c7, c8, c9, c10, c11⟩ := hC.below hX (by omega)
  have HOE : Hid (∀ (x : World), Below W1.heap.size W1 x → Calls Try.prog 104 #[s.val] x fun e w' => e = .returned (.bool s.onlyE) ∧ Below x.heap.size x w') := fun x hx => SX.hasOnlyE s hm ok x (fun b hb => Nat.lt_of_lt_of_le (hok1 b hb) hx.size) (hL1.under hx hok1)
  have HNL : Hid (∀ (x : World), Below W1.heap.size W1 x → Calls Try.prog 58 #[s.val] x fun e w' => e = .returned (.bool s.noL) ∧ Below x.heap.size x w') := fun x hx => SX.hasNoLists s hm ok x (fun b hb => Nat.lt_of_lt_of_le (hok1 b hb) hx.size) (hL1.under hx hok1)
  cases q0 : (nameB s.name)
  · go_enter Try.func102, Try.ntmps102
    go_wp2_with (first | (go_at_call 104; refine (HOE.out _ hX).mono ?_; rintro e wn ⟨rfl, hb⟩; (replace hX := bstep hX hb); (obtain ⟨c0, c1, c2, c3, c4, c5, c6, c7, c8, c9, c10, c11⟩ := hC.below hX (by omega)); (clear hb)) | (go_at_call 58; refine (HNL.out _ hX).mono ?_; rintro e wn ⟨rfl, hb⟩; (replace hX := bstep hX hb); (obtain ⟨c0, c1, c2, c3, c4, c5, c6, c7, c8, c9, c10, c11⟩ := hC.below hX (by omega)); (clear hb)) | (go_at_call 103; refine (implName s.name _ m1).mono ?_; rintro e wn ⟨rfl, hw⟩; subst wn))
    all_goals
      go_returns
      refine ⟨ret_bool ?_, hB1.trans (hX.mono (by omega))⟩
      first | rfl | (simp_all; done) | (rw [Bool.eq_iff_iff]; simp_all; done) | (rw [Bool.eq_iff_iff]; simp_all; omega)
  · skip
    cases q1 : (s.onlyE)
    · go_enter Try.func102, Try.ntmps102
      go_wp2_with (first | (go_at_call 104; refine (HOE.out _ hX).mono ?_; rintro e wn ⟨rfl, hb⟩; (replace hX := bstep hX hb); (obtain ⟨c0, c1, c2, c3, c4, c5, c6, c7, c8, c9, c10, c11⟩ := hC.below hX (by omega)); (clear hb)) | (go_at_call 58; refine (HNL.out _ hX).mono ?_; rintro e wn ⟨rfl, hb⟩; (replace hX := bstep hX hb); (obtain ⟨c0, c1, c2, c3, c4, c5, c6, c7, c8, c9, c10, c11⟩ := hC.below hX (by omega)); (clear hb)) | (go_at_call 103; refine (implName s.name _ m1).mono ?_; rintro e wn ⟨rfl, hw⟩; subst wn))
      all_goals
        go_returns
        refine ⟨ret_bool ?_, hB1.trans (hX.mono (by omega))⟩
        first | rfl | (simp_all; done) | (rw [Bool.eq_iff_iff]; simp_all; done) | (rw [Bool.eq_iff_iff]; simp_all; omega)
    · skip
      cases q2 : (s.noL)
      · go_enter Try.func102, Try.ntmps102
        go_wp2_with (first | (go_at_call 104; refine (HOE.out _ hX).mono ?_; rintro e wn ⟨rfl, hb⟩; (replace hX := bstep hX hb); (obtain ⟨c0, c1, c2, c3, c4, c5, c6, c7, c8, c9, c10, c11⟩ := hC.below hX (by omega)); (clear hb)) | (go_at_call 58; refine (HNL.out _ hX).mono ?_; rintro e wn ⟨rfl, hb⟩; (replace hX := bstep hX hb); (obtain ⟨c0, c1, c2, c3, c4, c5, c6, c7, c8, c9, c10, c11⟩ := hC.below hX (by omega)); (clear hb)) | (go_at_call 103; refine (implName s.name _ m1).mono ?_; rintro e wn ⟨rfl, hw⟩; subst wn))
        all_goals
          go_returns
          refine ⟨ret_bool ?_, hB1.trans (hX.mono (by omega))⟩
          first | rfl | (simp_all; done) | (rw [Bool.eq_iff_iff]; simp_all; done) | (rw [Bool.eq_iff_iff]; simp_all; omega)
      · skip
        go_enter Try.func102, Try.ntmps102
        go_wp2_with (first | (go_at_call 104; refine (HOE.out _ hX).mono ?_; rintro e wn ⟨rfl, hb⟩; (replace hX := bstep hX hb); (obtain ⟨c0, c1, c2, c3, c4, c5, c6, c7, c8, c9, c10, c11⟩ := hC.below hX (by omega)); (clear hb)) | (go_at_call 58; refine (HNL.out _ hX).mono ?_; rintro e wn ⟨rfl, hb⟩; (replace hX := bstep hX hb); (obtain ⟨c0, c1, c2, c3, c4, c5, c6, c7, c8, c9, c10, c11⟩ := hC.below hX (by omega)); (clear hb)) | (go_at_call 103; refine (implName s.name _ m1).mono ?_; rintro e wn ⟨rfl, hw⟩; subst wn))
        all_goals
          go_returns
          refine ⟨ret_bool ?_, hB1.trans (hX.mono (by omega))⟩
          first | rfl | (simp_all; done) | (rw [Bool.eq_iff_iff]; simp_all; done) | (rw [Bool.eq_iff_iff]; simp_all; omega)
set_option maxRecDepth 10000 in
set_option maxHeartbeats 4000000 in
theorem SX.fitPut (s : SX) (hm : SmallS s) (ok : Nat → Prop) (w : World) (hok : ∀ b, ok b → b < w.heap.size) (hL : LiesS ok w s) :
    Calls Try.prog 110 #[s.val] w fun e w' => e = .returned (.bool (nameB s.name && (s.e.okI && (s.f.okI && s.noL)))) ∧ Below w.heap.size w w' := by
  obtain ⟨m1, m2, m3, m4, -, -⟩ := hm.parts
  obtain ⟨W1, hW1⟩ : ∃ W1, w.alloc (.cells #[.int .i64 s.kind, .string s.name, .int .i64 s.e.kind, .int .i64 s.e.num, .string s.e.name, .slice s.e.base s.e.kids.length s.e.cap, .int .i64 s.f.kind, .int .i64 s.f.num, .string s.f.name, .slice s.f.base s.f.kids.length s.f.cap, .slice s.abase s.la.length s.acap, .slice s.bbase s.lb.length s.bcap] 120) = W1 := ⟨_, rfl⟩
  have hs1 : w.heap.size + 1 = W1.heap.size := by rw [← hW1]; simp
  have hB1 : Below w.heap.size w W1 := by rw [← hW1]; exact (Below.refl _ w).alloc (Nat.le_refl _) _
  have hC : Cells12 W1 w.heap.size 0 s := by rw [← hW1]; exact Cells12.new w s _
  have hok1 : ∀ b, ok b → b < W1.heap.size := fun b hb => by have := hok b hb; omega
  have hL1 := hL.under hB1 hok
  have hX := Below.refl W1.heap.size W1
  obtain ⟨c0, c1, c2, c3, c4, c5, c6, c7, c8, c9, c10, c11⟩ := hC.below hX (by omega)
  have hEE : s.e.size ≤ 1099511627776 ∧ Good s.e ∧ Lies ok W1 s.e := ⟨by have := m2.1; omega, m2.2, hL1.parts.1⟩
  have hFF : s.f.size ≤ 1099511627776 ∧ Good s.f ∧ Lies ok W1 s.f := ⟨by have := m3.1; omega, m3.2, hL1.parts.2.1⟩
  have HT : Hid (∀ (t : XT) (x : World), Below W1.heap.size W1 x → (t.size ≤ 1099511627776 ∧ Good t ∧ Lies ok W1 t) → Calls Try.prog 106 #[t.val] x fun e w' => e = .returned (.bool t.okI) ∧ Below x.heap.size x w') := fun t x hx ht => implOk1 t ht.1 ht.2.1 ok x (fun b hb => Nat.lt_of_lt_of_le (hok1 b hb) hx.size) (ht.2.2.under hx hok1)
  have HNL : Hid (∀ (x : World), Below W1.heap.size W1 x → Calls Try.prog 58 #[s.val] x fun e w' => e = .returned (.bool s.noL) ∧ Below x.heap.size x w') := fun x hx => SX.hasNoLists s hm ok x (fun b hb => Nat.lt_of_lt_of_le (hok1 b hb) hx.size) (hL1.under hx hok1)
  cases q0 : (nameB s.name)
  · go_enter Try.func110, Try.ntmps110
    go_wp2_with (first | (go_at_call 106; refine (HT.out _ _ hX (by first | exact hEE | exact hFF)).mono ?_; rintro e wn ⟨rfl, hb⟩; (replace hX := bstep hX hb); (obtain ⟨c0, c1, c2, c3, c4, c5, c6, c7, c8, c9, c10, c11⟩ := hC.below hX (by omega)); (clear hb)) | (go_at_call 58; refine (HNL.out _ hX).mono ?_; rintro e wn ⟨rfl, hb⟩; (replace hX := bstep hX hb); (obtain ⟨c0, c1, c2, c3, c4, c5, c6, c7, c8, c9, c10, c11⟩ := hC.below hX (by omega)); (clear hb)) | (go_at_call 103; refine (implName s.name _ m1).mono ?_; rintro e wn ⟨rfl, hw⟩; subst wn))
    all_goals
      go_returns
      refine ⟨ret_bool ?_, hB1.trans (hX.mono (by omega))⟩
      first | rfl | (simp_all; done) | (rw [Bool.eq_iff_iff]; simp_all; done) | (rw [Bool.eq_iff_iff]; simp_all; omega)
  · skip
    cases q1 : (s.e.okI)
    · go_enter Try.func110, Try.ntmps110
      go_wp2_with (first | (go_at_call 106; refine (HT.out _ _ hX (by first | exact hEE | exact hFF)).mono ?_; rintro e wn ⟨rfl, hb⟩; (replace hX := bstep hX hb); (obtain ⟨c0, c1, c2, c3, c4, c5, c6, c7, c8, c9, c10, c11⟩ := hC.below hX (by omega)); (clear hb)) | (go_at_call 58; refine (HNL.out _ hX).mono ?_; rintro e wn ⟨rfl, hb⟩; (replace hX := bstep hX hb); (obtain ⟨c0, c1, c2, c3, c4, c5, c6, c7, c8, c9, c10, c11⟩ := hC.below hX (by omega)); (clear hb)) | (go_at_call 103; refine (implName s.name _ m1).mono ?_; rintro e wn ⟨rfl, hw⟩; subst wn))
      all_goals
        go_returns
        refine ⟨ret_bool ?_, hB1.trans (hX.mono (by omega))⟩
        first | rfl | (simp_all; done) | (rw [Bool.eq_iff_iff]; simp_all; done) | (rw [Bool.eq_iff_iff]; simp_all; omega)
    · skip
      cases q2 : (s.f.okI)
      · go_enter Try.func110, Try.ntmps110
        go_wp2_with (first | (go_at_call 106; refine (HT.out _ _ hX (by first | exact hEE | exact hFF)).mono ?_; rintro e wn ⟨rfl, hb⟩; (replace hX := bstep hX hb); (obtain ⟨c0, c1, c2, c3, c4, c5, c6, c7, c8, c9, c10, c11⟩ := hC.below hX (by omega)); (clear hb)) | (go_at_call 58; refine (HNL.out _ hX).mono ?_; rintro e wn ⟨rfl, hb⟩; (replace hX := bstep hX hb); (obtain ⟨c0, c1, c2, c3, c4, c5, c6, c7, c8, c9, c10, c11⟩ := hC.below hX (by omega)); (clear hb)) | (go_at_call 103; refine (implName s.name _ m1).mono ?_; rintro e wn ⟨rfl, hw⟩; subst wn))
        all_goals
          go_returns
          refine ⟨ret_bool ?_, hB1.trans (hX.mono (by omega))⟩
          first | rfl | (simp_all; done) | (rw [Bool.eq_iff_iff]; simp_all; done) | (rw [Bool.eq_iff_iff]; simp_all; omega)
      · skip
        cases q3 : (s.noL)
        · go_enter Try.func110, Try.ntmps110
          go_wp2_with (first | (go_at_call 106; refine (HT.out _ _ hX (by first | exact hEE | exact hFF)).mono ?_; rintro e wn ⟨rfl, hb⟩; (replace hX := bstep hX hb); (obtain ⟨c0, c1, c2, c3, c4, c5, c6, c7, c8, c9, c10, c11⟩ := hC.below hX (by omega)); (clear hb)) | (go_at_call 58; refine (HNL.out _ hX).mono ?_; rintro e wn ⟨rfl, hb⟩; (replace hX := bstep hX hb); (obtain ⟨c0, c1, c2, c3, c4, c5, c6, c7, c8, c9, c10, c11⟩ := hC.below hX (by omega)); (clear hb)) | (go_at_call 103; refine (implName s.name _ m1).mono ?_; rintro e wn ⟨rfl, hw⟩; subst wn))
          all_goals
            go_returns
            refine ⟨ret_bool ?_, hB1.trans (hX.mono (by omega))⟩
            first | rfl | (simp_all; done) | (rw [Bool.eq_iff_iff]; simp_all; done) | (rw [Bool.eq_iff_iff]; simp_all; omega)
        · skip
          go_enter Try.func110, Try.ntmps110
          go_wp2_with (first | (go_at_call 106; refine (HT.out _ _ hX (by first | exact hEE | exact hFF)).mono ?_; rintro e wn ⟨rfl, hb⟩; (replace hX := bstep hX hb); (obtain ⟨c0, c1, c2, c3, c4, c5, c6, c7, c8, c9, c10, c11⟩ := hC.below hX (by omega)); (clear hb)) | (go_at_call 58; refine (HNL.out _ hX).mono ?_; rintro e wn ⟨rfl, hb⟩; (replace hX := bstep hX hb); (obtain ⟨c0, c1, c2, c3, c4, c5, c6, c7, c8, c9, c10, c11⟩ := hC.below hX (by omega)); (clear hb)) | (go_at_call 103; refine (implName s.name _ m1).mono ?_; rintro e wn ⟨rfl, hw⟩; subst wn))
          all_goals
            go_returns
            refine ⟨ret_bool ?_, hB1.trans (hX.mono (by omega))⟩
            first | rfl | (simp_all; done) | (rw [Bool.eq_iff_iff]; simp_all; done) | (rw [Bool.eq_iff_iff]; simp_all; omega)
set_option maxRecDepth 10000 in
set_option maxHeartbeats 4000000 in
theorem SX.fitIf (s : SX) (hm : SmallS s) (ok : Nat → Prop) (w : World) (hok : ∀ b, ok b → b < w.heap.size) (hL : LiesS ok w s) :
    Calls Try.prog 111 #[s.val] w fun e w' => e = .returned (.bool (s.name.toList.isEmpty && s.onlyE)) ∧ Below w.heap.size w w' := by
  obtain ⟨m1, m2, m3, m4, -, -⟩ := hm.parts
  obtain ⟨W1, hW1⟩ : ∃ W1, w.alloc (.cells #[.int .i64 s.kind, .string s.name, .int .i64 s.e.kind, .int .i64 s.e.num, .string s.e.name, .slice s.e.base s.e.kids.length s.e.cap, .int .i64 s.f.kind, .int .i64 s.f.num, .string s.f.name, .slice s.f.base s.f.kids.length s.f.cap, .slice s.abase s.la.length s.acap, .slice s.bbase s.lb.length s.bcap] 121) = W1 := ⟨_, rfl⟩
  have hs1 : w.heap.size + 1 = W1.heap.size := by rw [← hW1]; simp
  have hB1 : Below w.heap.size w W1 := by rw [← hW1]; exact (Below.refl _ w).alloc (Nat.le_refl _) _
  have hC : Cells12 W1 w.heap.size 0 s := by rw [← hW1]; exact Cells12.new w s _
  have hok1 : ∀ b, ok b → b < W1.heap.size := fun b hb => by have := hok b hb; omega
  have hL1 := hL.under hB1 hok
  have hX := Below.refl W1.heap.size W1
  obtain ⟨c0, c1, c2, c3, c4, c5, c6, c7, c8, c9, c10, c11⟩ := hC.below hX (by omega)
  have HOE : Hid (∀ (x : World), Below W1.heap.size W1 x → Calls Try.prog 104 #[s.val] x fun e w' => e = .returned (.bool s.onlyE) ∧ Below x.heap.size x w') := fun x hx => SX.hasOnlyE s hm ok x (fun b hb => Nat.lt_of_lt_of_le (hok1 b hb) hx.size) (hL1.under hx hok1)
  cases q0 : (s.onlyE)
  · go_enter Try.func111, Try.ntmps111
    go_wp2_with (first | (go_at_call 104; refine (HOE.out _ hX).mono ?_; rintro e wn ⟨rfl, hb⟩; (replace hX := bstep hX hb); (obtain ⟨c0, c1, c2, c3, c4, c5, c6, c7, c8, c9, c10, c11⟩ := hC.below hX (by omega)); (clear hb)) | (go_at_call 103; refine (implName s.name _ m1).mono ?_; rintro e wn ⟨rfl, hw⟩; subst wn))
    all_goals
      go_returns
      refine ⟨ret_bool ?_, hB1.trans (hX.mono (by omega))⟩
      first | rfl | (simp_all; done) | (rw [Bool.eq_iff_iff]; simp_all; done) | (rw [Bool.eq_iff_iff]; simp_all; omega)
  · skip
    go_enter Try.func111, Try.ntmps111
    go_wp2_with (first | (go_at_call 104; refine (HOE.out _ hX).mono ?_; rintro e wn ⟨rfl, hb⟩; (replace hX := bstep hX hb); (obtain ⟨c0, c1, c2, c3, c4, c5, c6, c7, c8, c9, c10, c11⟩ := hC.below hX (by omega)); (clear hb)) | (go_at_call 103; refine (implName s.name _ m1).mono ?_; rintro e wn ⟨rfl, hw⟩; subst wn))
    all_goals
      go_returns
      refine ⟨ret_bool ?_, hB1.trans (hX.mono (by omega))⟩
      first | rfl | (simp_all; done) | (rw [Bool.eq_iff_iff]; simp_all; done) | (rw [Bool.eq_iff_iff]; simp_all; omega)
set_option maxRecDepth 10000 in
set_option maxHeartbeats 4000000 in
theorem SX.fitWhile (s : SX) (hm : SmallS s) (ok : Nat → Prop) (w : World) (hok : ∀ b, ok b → b < w.heap.size) (hL : LiesS ok w s) :
    Calls Try.prog 112 #[s.val] w fun e w' => e = .returned (.bool (s.name.toList.isEmpty && (s.onlyE && decide (s.lb.length = 0)))) ∧ Below w.heap.size w w' := by
  obtain ⟨m1, m2, m3, m4, -, -⟩ := hm.parts
  obtain ⟨W1, hW1⟩ : ∃ W1, w.alloc (.cells #[.int .i64 s.kind, .string s.name, .int .i64 s.e.kind, .int .i64 s.e.num, .string s.e.name, .slice s.e.base s.e.kids.length s.e.cap, .int .i64 s.f.kind, .int .i64 s.f.num, .string s.f.name, .slice s.f.base s.f.kids.length s.f.cap, .slice s.abase s.la.length s.acap, .slice s.bbase s.lb.length s.bcap] 122) = W1 := ⟨_, rfl⟩
  have hs1 : w.heap.size + 1 = W1.heap.size := by rw [← hW1]; simp
  have hB1 : Below w.heap.size w W1 := by rw [← hW1]; exact (Below.refl _ w).alloc (Nat.le_refl _) _
  have hC : Cells12 W1 w.heap.size 0 s := by rw [← hW1]; exact Cells12.new w s _
  have hok1 : ∀ b, ok b → b < W1.heap.size := fun b hb => by have := hok b hb; omega
  have hL1 := hL.under hB1 hok
  have hX := Below.refl W1.heap.size W1
  obtain ⟨c0, c1, c2, c3, c4, c5, c6, c7, c8, c9, c10, c11⟩ := hC.below hX (by omega)
  have HOE : Hid (∀ (x : World), Below W1.heap.size W1 x → Calls Try.prog 104 #[s.val] x fun e w' => e = .returned (.bool s.onlyE) ∧ Below x.heap.size x w') := fun x hx => SX.hasOnlyE s hm ok x (fun b hb => Nat.lt_of_lt_of_le (hok1 b hb) hx.size) (hL1.under hx hok1)
  cases q0 : (s.onlyE)
  · go_enter Try.func112, Try.ntmps112
    go_wp2_with (first | (go_at_call 104; refine (HOE.out _ hX).mono ?_; rintro e wn ⟨rfl, hb⟩; (replace hX := bstep hX hb); (obtain ⟨c0, c1, c2, c3, c4, c5, c6, c7, c8, c9, c10, c11⟩ := hC.below hX (by omega)); (clear hb)) | (go_at_call 103; refine (implName s.name _ m1).mono ?_; rintro e wn ⟨rfl, hw⟩; subst wn))
    all_goals
      go_returns
      refine ⟨ret_bool ?_, hB1.trans (hX.mono (by omega))⟩
      first | rfl | (simp_all; done) | (rw [Bool.eq_iff_iff]; simp_all; done) | (rw [Bool.eq_iff_iff]; simp_all; omega)
  · skip
    go_enter Try.func112, Try.ntmps112
    go_wp2_with (first | (go_at_call 104; refine (HOE.out _ hX).mono ?_; rintro e wn ⟨rfl, hb⟩; (replace hX := bstep hX hb); (obtain ⟨c0, c1, c2, c3, c4, c5, c6, c7, c8, c9, c10, c11⟩ := hC.below hX (by omega)); (clear hb)) | (go_at_call 103; refine (implName s.name _ m1).mono ?_; rintro e wn ⟨rfl, hw⟩; subst wn))
    all_goals
      go_returns
      refine ⟨ret_bool ?_, hB1.trans (hX.mono (by omega))⟩
      first | rfl | (simp_all; done) | (rw [Bool.eq_iff_iff]; simp_all; done) | (rw [Bool.eq_iff_iff]; simp_all; omega)
set_option maxRecDepth 10000 in
set_option maxHeartbeats 4000000 in
theorem SX.fitLock (s : SX) (hm : SmallS s) (ok : Nat → Prop) (w : World) (hok : ∀ b, ok b → b < w.heap.size) (hL : LiesS ok w s) :
    Calls Try.prog 113 #[s.val] w fun e w' => e = .returned (.bool s.onlyN) ∧ Below w.heap.size w w' := by
  obtain ⟨m1, m2, m3, m4, -, -⟩ := hm.parts
  obtain ⟨W1, hW1⟩ : ∃ W1, w.alloc (.cells #[.int .i64 s.kind, .string s.name, .int .i64 s.e.kind, .int .i64 s.e.num, .string s.e.name, .slice s.e.base s.e.kids.length s.e.cap, .int .i64 s.f.kind, .int .i64 s.f.num, .string s.f.name, .slice s.f.base s.f.kids.length s.f.cap, .slice s.abase s.la.length s.acap, .slice s.bbase s.lb.length s.bcap] 123) = W1 := ⟨_, rfl⟩
  have hs1 : w.heap.size + 1 = W1.heap.size := by rw [← hW1]; simp
  have hB1 : Below w.heap.size w W1 := by rw [← hW1]; exact (Below.refl _ w).alloc (Nat.le_refl _) _
  have hC : Cells12 W1 w.heap.size 0 s := by rw [← hW1]; exact Cells12.new w s _
  have hok1 : ∀ b, ok b → b < W1.heap.size := fun b hb => by have := hok b hb; omega
  have hL1 := hL.under hB1 hok
  have hX := Below.refl W1.heap.size W1
  obtain ⟨c0, c1, c2, c3, c4, c5, c6, c7, c8, c9, c10, c11⟩ := hC.below hX (by omega)
  have HON : Hid (∀ (x : World), Below W1.heap.size W1 x → Calls Try.prog 114 #[s.val] x fun e w' => e = .returned (.bool s.onlyN) ∧ Below x.heap.size x w') := fun x hx => SX.hasOnlyName s hm ok x (fun b hb => Nat.lt_of_lt_of_le (hok1 b hb) hx.size) (hL1.under hx hok1)
  cases q0 : (s.onlyN)
  · go_enter Try.func113, Try.ntmps113
    go_wp2_with (first | (go_at_call 114; refine (HON.out _ hX).mono ?_; rintro e wn ⟨rfl, hb⟩; (replace hX := bstep hX hb); (obtain ⟨c0, c1, c2, c3, c4, c5, c6, c7, c8, c9, c10, c11⟩ := hC.below hX (by omega)); (clear hb)) | (go_at_call 103; refine (implName s.name _ m1).mono ?_; rintro e wn ⟨rfl, hw⟩; subst wn))
    all_goals
      go_returns
      refine ⟨ret_bool ?_, hB1.trans (hX.mono (by omega))⟩
      first | rfl | (simp_all; done) | (rw [Bool.eq_iff_iff]; simp_all; done) | (rw [Bool.eq_iff_iff]; simp_all; omega)
  · skip
    go_enter Try.func113, Try.ntmps113
    go_wp2_with (first | (go_at_call 114; refine (HON.out _ hX).mono ?_; rintro e wn ⟨rfl, hb⟩; (replace hX := bstep hX hb); (obtain ⟨c0, c1, c2, c3, c4, c5, c6, c7, c8, c9, c10, c11⟩ := hC.below hX (by omega)); (clear hb)) | (go_at_call 103; refine (implName s.name _ m1).mono ?_; rintro e wn ⟨rfl, hw⟩; subst wn))
    all_goals
      go_returns
      refine ⟨ret_bool ?_, hB1.trans (hX.mono (by omega))⟩
      first | rfl | (simp_all; done) | (rw [Bool.eq_iff_iff]; simp_all; done) | (rw [Bool.eq_iff_iff]; simp_all; omega)
set_option maxRecDepth 10000 in
set_option maxHeartbeats 4000000 in
theorem SX.fitUnlock (s : SX) (hm : SmallS s) (ok : Nat → Prop) (w : World) (hok : ∀ b, ok b → b < w.heap.size) (hL : LiesS ok w s) :
    Calls Try.prog 115 #[s.val] w fun e w' => e = .returned (.bool s.onlyN) ∧ Below w.heap.size w w' := by
  obtain ⟨m1, m2, m3, m4, -, -⟩ := hm.parts
  obtain ⟨W1, hW1⟩ : ∃ W1, w.alloc (.cells #[.int .i64 s.kind, .string s.name, .int .i64 s.e.kind, .int .i64 s.e.num, .string s.e.name, .slice s.e.base s.e.kids.length s.e.cap, .int .i64 s.f.kind, .int .i64 s.f.num, .string s.f.name, .slice s.f.base s.f.kids.length s.f.cap, .slice s.abase s.la.length s.acap, .slice s.bbase s.lb.length s.bcap] 124) = W1 := ⟨_, rfl⟩
  have hs1 : w.heap.size + 1 = W1.heap.size := by rw [← hW1]; simp
  have hB1 : Below w.heap.size w W1 := by rw [← hW1]; exact (Below.refl _ w).alloc (Nat.le_refl _) _
  have hC : Cells12 W1 w.heap.size 0 s := by rw [← hW1]; exact Cells12.new w s _
  have hok1 : ∀ b, ok b → b < W1.heap.size := fun b hb => by have := hok b hb; omega
  have hL1 := hL.under hB1 hok
  have hX := Below.refl W1.heap.size W1
  obtain ⟨c0, c1, c2, c3, c4, c5, c6, c7, c8, c9, c10, c11⟩ := hC.below hX (by omega)
  have HON : Hid (∀ (x : World), Below W1.heap.size W1 x → Calls Try.prog 114 #[s.val] x fun e w' => e = .returned (.bool s.onlyN) ∧ Below x.heap.size x w') := fun x hx => SX.hasOnlyName s hm ok x (fun b hb => Nat.lt_of_lt_of_le (hok1 b hb) hx.size) (hL1.under hx hok1)
  cases q0 : (s.onlyN)
  · go_enter Try.func115, Try.ntmps115
    go_wp2_with (first | (go_at_call 114; refine (HON.out _ hX).mono ?_; rintro e wn ⟨rfl, hb⟩; (replace hX := bstep hX hb); (obtain ⟨c0, c1, c2, c3, c4, c5, c6, c7, c8, c9, c10, c11⟩ := hC.below hX (by omega)); (clear hb)) | (go_at_call 103; refine (implName s.name _ m1).mono ?_; rintro e wn ⟨rfl, hw⟩; subst wn))
    all_goals
      go_returns
      refine ⟨ret_bool ?_, hB1.trans (hX.mono (by omega))⟩
      first | rfl | (simp_all; done) | (rw [Bool.eq_iff_iff]; simp_all; done) | (rw [Bool.eq_iff_iff]; simp_all; omega)
  · skip
    go_enter Try.func115, Try.ntmps115
    go_wp2_with (first | (go_at_call 114; refine (HON.out _ hX).mono ?_; rintro e wn ⟨rfl, hb⟩; (replace hX := bstep hX hb); (obtain ⟨c0, c1, c2, c3, c4, c5, c6, c7, c8, c9, c10, c11⟩ := hC.below hX (by omega)); (clear hb)) | (go_at_call 103; refine (implName s.name _ m1).mono ?_; rintro e wn ⟨rfl, hw⟩; subst wn))
    all_goals
      go_returns
      refine ⟨ret_bool ?_, hB1.trans (hX.mono (by omega))⟩
      first | rfl | (simp_all; done) | (rw [Bool.eq_iff_iff]; simp_all; done) | (rw [Bool.eq_iff_iff]; simp_all; omega)
set_option maxRecDepth 10000 in
set_option maxHeartbeats 4000000 in
theorem SX.fitSend (s : SX) (hm : SmallS s) (ok : Nat → Prop) (w : World) (hok : ∀ b, ok b → b < w.heap.size) (hL : LiesS ok w s) :
    Calls Try.prog 116 #[s.val] w fun e w' => e = .returned (.bool (nameB s.name && (s.onlyE && s.noL))) ∧ Below w.heap.size w w' := by
  obtain ⟨m1, m2, m3, m4, -, -⟩ := hm.parts
  obtain ⟨W1, hW1⟩ : ∃ W1, w.alloc (.cells #[.int .i64 s.kind, .string s.name, .int .i64 s.e.kind, .int .i64 s.e.num, .string s.e.name, .slice s.e.base s.e.kids.length s.e.cap, .int .i64 s.f.kind, .int .i64 s.f.num, .string s.f.name, .slice s.f.base s.f.kids.length s.f.cap, .slice s.abase s.la.length s.acap, .slice s.bbase s.lb.length s.bcap] 125) = W1 := ⟨_, rfl⟩
  have hs1 : w.heap.size + 1 = W1.heap.size := by rw [← hW1]; simp
  have hB1 : Below w.heap.size w W1 := by rw [← hW1]; exact (Below.refl _ w).alloc (Nat.le_refl _) _
  have hC : Cells12 W1 w.heap.size 0 s := by rw [← hW1]; exact Cells12.new w s _
  have hok1 : ∀ b, ok b → b < W1.heap.size := fun b hb => by have := hok b hb; omega
  have hL1 := hL.under hB1 hok
  have hX := Below.refl W1.heap.size W1
  obtain ⟨c0, c1, c2, c3, c4, c5, c6, c7, c8, c9, c10, c11⟩ := hC.below hX (by omega)
  have HOE : Hid (∀ (x : World), Below W1.heap.size W1 x → Calls Try.prog 104 #[s.val] x fun e w' => e = .returned (.bool s.onlyE) ∧ Below x.heap.size x w') := fun x hx => SX.hasOnlyE s hm ok x (fun b hb => Nat.lt_of_lt_of_le (hok1 b hb) hx.size) (hL1.under hx hok1)
  have HNL : Hid (∀ (x : World), Below W1.heap.size W1 x → Calls Try.prog 58 #[s.val] x fun e w' => e = .returned (.bool s.noL) ∧ Below x.heap.size x w') := fun x hx => SX.hasNoLists s hm ok x (fun b hb => Nat.lt_of_lt_of_le (hok1 b hb) hx.size) (hL1.under hx hok1)
  cases q0 : (nameB s.name)
  · go_enter Try.func116, Try.ntmps116
    go_wp2_with (first | (go_at_call 104; refine (HOE.out _ hX).mono ?_; rintro e wn ⟨rfl, hb⟩; (replace hX := bstep hX hb); (obtain ⟨c0, c1, c2, c3, c4, c5, c6, c7, c8, c9, c10, c11⟩ := hC.below hX (by omega)); (clear hb)) | (go_at_call 58; refine (HNL.out _ hX).mono ?_; rintro e wn ⟨rfl, hb⟩; (replace hX := bstep hX hb); (obtain ⟨c0, c1, c2, c3, c4, c5, c6, c7, c8, c9, c10, c11⟩ := hC.below hX (by omega)); (clear hb)) | (go_at_call 103; refine (implName s.name _ m1).mono ?_; rintro e wn ⟨rfl, hw⟩; subst wn))
    all_goals
      go_returns
      refine ⟨ret_bool ?_, hB1.trans (hX.mono (by omega))⟩
      first | rfl | (simp_all; done) | (rw [Bool.eq_iff_iff]; simp_all; done) | (rw [Bool.eq_iff_iff]; simp_all; omega)
  · skip
    cases q1 : (s.onlyE)
    · go_enter Try.func116, Try.ntmps116
      go_wp2_with (first | (go_at_call 104; refine (HOE.out _ hX).mono ?_; rintro e wn ⟨rfl, hb⟩; (replace hX := bstep hX hb); (obtain ⟨c0, c1, c2, c3, c4, c5, c6, c7, c8, c9, c10, c11⟩ := hC.below hX (by omega)); (clear hb)) | (go_at_call 58; refine (HNL.out _ hX).mono ?_; rintro e wn ⟨rfl, hb⟩; (replace hX := bstep hX hb); (obtain ⟨c0, c1, c2, c3, c4, c5, c6, c7, c8, c9, c10, c11⟩ := hC.below hX (by omega)); (clear hb)) | (go_at_call 103; refine (implName s.name _ m1).mono ?_; rintro e wn ⟨rfl, hw⟩; subst wn))
      all_goals
        go_returns
        refine ⟨ret_bool ?_, hB1.trans (hX.mono (by omega))⟩
        first | rfl | (simp_all; done) | (rw [Bool.eq_iff_iff]; simp_all; done) | (rw [Bool.eq_iff_iff]; simp_all; omega)
    · skip
      cases q2 : (s.noL)
      · go_enter Try.func116, Try.ntmps116
        go_wp2_with (first | (go_at_call 104; refine (HOE.out _ hX).mono ?_; rintro e wn ⟨rfl, hb⟩; (replace hX := bstep hX hb); (obtain ⟨c0, c1, c2, c3, c4, c5, c6, c7, c8, c9, c10, c11⟩ := hC.below hX (by omega)); (clear hb)) | (go_at_call 58; refine (HNL.out _ hX).mono ?_; rintro e wn ⟨rfl, hb⟩; (replace hX := bstep hX hb); (obtain ⟨c0, c1, c2, c3, c4, c5, c6, c7, c8, c9, c10, c11⟩ := hC.below hX (by omega)); (clear hb)) | (go_at_call 103; refine (implName s.name _ m1).mono ?_; rintro e wn ⟨rfl, hw⟩; subst wn))
        all_goals
          go_returns
          refine ⟨ret_bool ?_, hB1.trans (hX.mono (by omega))⟩
          first | rfl | (simp_all; done) | (rw [Bool.eq_iff_iff]; simp_all; done) | (rw [Bool.eq_iff_iff]; simp_all; omega)
      · skip
        go_enter Try.func116, Try.ntmps116
        go_wp2_with (first | (go_at_call 104; refine (HOE.out _ hX).mono ?_; rintro e wn ⟨rfl, hb⟩; (replace hX := bstep hX hb); (obtain ⟨c0, c1, c2, c3, c4, c5, c6, c7, c8, c9, c10, c11⟩ := hC.below hX (by omega)); (clear hb)) | (go_at_call 58; refine (HNL.out _ hX).mono ?_; rintro e wn ⟨rfl, hb⟩; (replace hX := bstep hX hb); (obtain ⟨c0, c1, c2, c3, c4, c5, c6, c7, c8, c9, c10, c11⟩ := hC.below hX (by omega)); (clear hb)) | (go_at_call 103; refine (implName s.name _ m1).mono ?_; rintro e wn ⟨rfl, hw⟩; subst wn))
        all_goals
          go_returns
          refine ⟨ret_bool ?_, hB1.trans (hX.mono (by omega))⟩
          first | rfl | (simp_all; done) | (rw [Bool.eq_iff_iff]; simp_all; done) | (rw [Bool.eq_iff_iff]; simp_all; omega)
set_option maxRecDepth 10000 in
set_option maxHeartbeats 4000000 in
theorem SX.fitRecv (s : SX) (hm : SmallS s) (ok : Nat → Prop) (w : World) (hok : ∀ b, ok b → b < w.heap.size) (hL : LiesS ok w s) :
    Calls Try.prog 117 #[s.val] w fun e w' => e = .returned (.bool (nameB s.name && ((s.e.kind == 2) && (s.onlyE && s.noL)))) ∧ Below w.heap.size w w' := by
  obtain ⟨m1, m2, m3, m4, -, -⟩ := hm.parts
  obtain ⟨W1, hW1⟩ : ∃ W1, w.alloc (.cells #[.int .i64 s.kind, .string s.name, .int .i64 s.e.kind, .int .i64 s.e.num, .string s.e.name, .slice s.e.base s.e.kids.length s.e.cap, .int .i64 s.f.kind, .int .i64 s.f.num, .string s.f.name, .slice s.f.base s.f.kids.length s.f.cap, .slice s.abase s.la.length s.acap, .slice s.bbase s.lb.length s.bcap] 126) = W1 := ⟨_, rfl⟩
  have hs1 : w.heap.size + 1 = W1.heap.size := by rw [← hW1]; simp
  have hB1 : Below w.heap.size w W1 := by rw [← hW1]; exact (Below.refl _ w).alloc (Nat.le_refl _) _
  have hC : Cells12 W1 w.heap.size 0 s := by rw [← hW1]; exact Cells12.new w s _
  have hok1 : ∀ b, ok b → b < W1.heap.size := fun b hb => by have := hok b hb; omega
  have hL1 := hL.under hB1 hok
  have hX := Below.refl W1.heap.size W1
  obtain ⟨c0, c1, c2, c3, c4, c5, c6, c7, c8, c9, c10, c11⟩ := hC.below hX (by omega)
  have HOE : Hid (∀ (x : World), Below W1.heap.size W1 x → Calls Try.prog 104 #[s.val] x fun e w' => e = .returned (.bool s.onlyE) ∧ Below x.heap.size x w') := fun x hx => SX.hasOnlyE s hm ok x (fun b hb => Nat.lt_of_lt_of_le (hok1 b hb) hx.size) (hL1.under hx hok1)
  have HNL : Hid (∀ (x : World), Below W1.heap.size W1 x → Calls Try.prog 58 #[s.val] x fun e w' => e = .returned (.bool s.noL) ∧ Below x.heap.size x w') := fun x hx => SX.hasNoLists s hm ok x (fun b hb => Nat.lt_of_lt_of_le (hok1 b hb) hx.size) (hL1.under hx hok1)
  cases q9 : (s.e.kind == 2)
  all_goals
    cases q0 : (nameB s.name)
    · go_enter Try.func117, Try.ntmps117
      go_wp2_with (first | (go_at_call 104; refine (HOE.out _ hX).mono ?_; rintro e wn ⟨rfl, hb⟩; (replace hX := bstep hX hb); (obtain ⟨c0, c1, c2, c3, c4, c5, c6, c7, c8, c9, c10, c11⟩ := hC.below hX (by omega)); (clear hb)) | (go_at_call 58; refine (HNL.out _ hX).mono ?_; rintro e wn ⟨rfl, hb⟩; (replace hX := bstep hX hb); (obtain ⟨c0, c1, c2, c3, c4, c5, c6, c7, c8, c9, c10, c11⟩ := hC.below hX (by omega)); (clear hb)) | (go_at_call 103; refine (implName s.name _ m1).mono ?_; rintro e wn ⟨rfl, hw⟩; subst wn))
      all_goals
        go_returns
        refine ⟨ret_bool ?_, hB1.trans (hX.mono (by omega))⟩
        first | rfl | (simp_all; done) | (rw [Bool.eq_iff_iff]; simp_all; done) | (rw [Bool.eq_iff_iff]; simp_all; omega)
    · skip
      cases q1 : (s.onlyE)
      · go_enter Try.func117, Try.ntmps117
        go_wp2_with (first | (go_at_call 104; refine (HOE.out _ hX).mono ?_; rintro e wn ⟨rfl, hb⟩; (replace hX := bstep hX hb); (obtain ⟨c0, c1, c2, c3, c4, c5, c6, c7, c8, c9, c10, c11⟩ := hC.below hX (by omega)); (clear hb)) | (go_at_call 58; refine (HNL.out _ hX).mono ?_; rintro e wn ⟨rfl, hb⟩; (replace hX := bstep hX hb); (obtain ⟨c0, c1, c2, c3, c4, c5, c6, c7, c8, c9, c10, c11⟩ := hC.below hX (by omega)); (clear hb)) | (go_at_call 103; refine (implName s.name _ m1).mono ?_; rintro e wn ⟨rfl, hw⟩; subst wn))
        all_goals
          go_returns
          refine ⟨ret_bool ?_, hB1.trans (hX.mono (by omega))⟩
          first | rfl | (simp_all; done) | (rw [Bool.eq_iff_iff]; simp_all; done) | (rw [Bool.eq_iff_iff]; simp_all; omega)
      · skip
        cases q2 : (s.noL)
        · go_enter Try.func117, Try.ntmps117
          go_wp2_with (first | (go_at_call 104; refine (HOE.out _ hX).mono ?_; rintro e wn ⟨rfl, hb⟩; (replace hX := bstep hX hb); (obtain ⟨c0, c1, c2, c3, c4, c5, c6, c7, c8, c9, c10, c11⟩ := hC.below hX (by omega)); (clear hb)) | (go_at_call 58; refine (HNL.out _ hX).mono ?_; rintro e wn ⟨rfl, hb⟩; (replace hX := bstep hX hb); (obtain ⟨c0, c1, c2, c3, c4, c5, c6, c7, c8, c9, c10, c11⟩ := hC.below hX (by omega)); (clear hb)) | (go_at_call 103; refine (implName s.name _ m1).mono ?_; rintro e wn ⟨rfl, hw⟩; subst wn))
          all_goals
            go_returns
            refine ⟨ret_bool ?_, hB1.trans (hX.mono (by omega))⟩
            first | rfl | (simp_all; done) | (rw [Bool.eq_iff_iff]; simp_all; done) | (rw [Bool.eq_iff_iff]; simp_all; omega)
        · skip
          go_enter Try.func117, Try.ntmps117
          go_wp2_with (first | (go_at_call 104; refine (HOE.out _ hX).mono ?_; rintro e wn ⟨rfl, hb⟩; (replace hX := bstep hX hb); (obtain ⟨c0, c1, c2, c3, c4, c5, c6, c7, c8, c9, c10, c11⟩ := hC.below hX (by omega)); (clear hb)) | (go_at_call 58; refine (HNL.out _ hX).mono ?_; rintro e wn ⟨rfl, hb⟩; (replace hX := bstep hX hb); (obtain ⟨c0, c1, c2, c3, c4, c5, c6, c7, c8, c9, c10, c11⟩ := hC.below hX (by omega)); (clear hb)) | (go_at_call 103; refine (implName s.name _ m1).mono ?_; rintro e wn ⟨rfl, hw⟩; subst wn))
          all_goals
            go_returns
            refine ⟨ret_bool ?_, hB1.trans (hX.mono (by omega))⟩
            first | rfl | (simp_all; done) | (rw [Bool.eq_iff_iff]; simp_all; done) | (rw [Bool.eq_iff_iff]; simp_all; omega)
set_option maxRecDepth 10000 in
set_option maxHeartbeats 4000000 in
theorem SX.fitAssert (s : SX) (hm : SmallS s) (ok : Nat → Prop) (w : World) (hok : ∀ b, ok b → b < w.heap.size) (hL : LiesS ok w s) :
    Calls Try.prog 118 #[s.val] w fun e w' => e = .returned (.bool (s.name.toList.isEmpty && (s.onlyE && s.noL))) ∧ Below w.heap.size w w' := by
  obtain ⟨m1, m2, m3, m4, -, -⟩ := hm.parts
  obtain ⟨W1, hW1⟩ : ∃ W1, w.alloc (.cells #[.int .i64 s.kind, .string s.name, .int .i64 s.e.kind, .int .i64 s.e.num, .string s.e.name, .slice s.e.base s.e.kids.length s.e.cap, .int .i64 s.f.kind, .int .i64 s.f.num, .string s.f.name, .slice s.f.base s.f.kids.length s.f.cap, .slice s.abase s.la.length s.acap, .slice s.bbase s.lb.length s.bcap] 127) = W1 := ⟨_, rfl⟩
  have hs1 : w.heap.size + 1 = W1.heap.size := by rw [← hW1]; simp
  have hB1 : Below w.heap.size w W1 := by rw [← hW1]; exact (Below.refl _ w).alloc (Nat.le_refl _) _
  have hC : Cells12 W1 w.heap.size 0 s := by rw [← hW1]; exact Cells12.new w s _
  have hok1 : ∀ b, ok b → b < W1.heap.size := fun b hb => by have := hok b hb; omega
  have hL1 := hL.under hB1 hok
  have hX := Below.refl W1.heap.size W1
  obtain ⟨c0, c1, c2, c3, c4, c5, c6, c7, c8, c9, c10, c11⟩ := hC.below hX (by omega)
  have HOE : Hid (∀ (x : World), Below W1.heap.size W1 x → Calls Try.prog 104 #[s.val] x fun e w' => e = .returned (.bool s.onlyE) ∧ Below x.heap.size x w') := fun x hx => SX.hasOnlyE s hm ok x (fun b hb => Nat.lt_of_lt_of_le (hok1 b hb) hx.size) (hL1.under hx hok1)
  have HNL : Hid (∀ (x : World), Below W1.heap.size W1 x → Calls Try.prog 58 #[s.val] x fun e w' => e = .returned (.bool s.noL) ∧ Below x.heap.size x w') := fun x hx => SX.hasNoLists s hm ok x (fun b hb => Nat.lt_of_lt_of_le (hok1 b hb) hx.size) (hL1.under hx hok1)
  cases q0 : (s.onlyE)
  · go_enter Try.func118, Try.ntmps118
    go_wp2_with (first | (go_at_call 104; refine (HOE.out _ hX).mono ?_; rintro e wn ⟨rfl, hb⟩; (replace hX := bstep hX hb); (obtain ⟨c0, c1, c2, c3, c4, c5, c6, c7, c8, c9, c10, c11⟩ := hC.below hX (by omega)); (clear hb)) | (go_at_call 58; refine (HNL.out _ hX).mono ?_; rintro e wn ⟨rfl, hb⟩; (replace hX := bstep hX hb); (obtain ⟨c0, c1, c2, c3, c4, c5, c6, c7, c8, c9, c10, c11⟩ := hC.below hX (by omega)); (clear hb)) | (go_at_call 103; refine (implName s.name _ m1).mono ?_; rintro e wn ⟨rfl, hw⟩; subst wn))
    all_goals
      go_returns
      refine ⟨ret_bool ?_, hB1.trans (hX.mono (by omega))⟩
      first | rfl | (simp_all; done) | (rw [Bool.eq_iff_iff]; simp_all; done) | (rw [Bool.eq_iff_iff]; simp_all; omega)
  · skip
    cases q1 : (s.noL)
    · go_enter Try.func118, Try.ntmps118
      go_wp2_with (first | (go_at_call 104; refine (HOE.out _ hX).mono ?_; rintro e wn ⟨rfl, hb⟩; (replace hX := bstep hX hb); (obtain ⟨c0, c1, c2, c3, c4, c5, c6, c7, c8, c9, c10, c11⟩ := hC.below hX (by omega)); (clear hb)) | (go_at_call 58; refine (HNL.out _ hX).mono ?_; rintro e wn ⟨rfl, hb⟩; (replace hX := bstep hX hb); (obtain ⟨c0, c1, c2, c3, c4, c5, c6, c7, c8, c9, c10, c11⟩ := hC.below hX (by omega)); (clear hb)) | (go_at_call 103; refine (implName s.name _ m1).mono ?_; rintro e wn ⟨rfl, hw⟩; subst wn))
      all_goals
        go_returns
        refine ⟨ret_bool ?_, hB1.trans (hX.mono (by omega))⟩
        first | rfl | (simp_all; done) | (rw [Bool.eq_iff_iff]; simp_all; done) | (rw [Bool.eq_iff_iff]; simp_all; omega)
    · skip
      go_enter Try.func118, Try.ntmps118
      go_wp2_with (first | (go_at_call 104; refine (HOE.out _ hX).mono ?_; rintro e wn ⟨rfl, hb⟩; (replace hX := bstep hX hb); (obtain ⟨c0, c1, c2, c3, c4, c5, c6, c7, c8, c9, c10, c11⟩ := hC.below hX (by omega)); (clear hb)) | (go_at_call 58; refine (HNL.out _ hX).mono ?_; rintro e wn ⟨rfl, hb⟩; (replace hX := bstep hX hb); (obtain ⟨c0, c1, c2, c3, c4, c5, c6, c7, c8, c9, c10, c11⟩ := hC.below hX (by omega)); (clear hb)) | (go_at_call 103; refine (implName s.name _ m1).mono ?_; rintro e wn ⟨rfl, hw⟩; subst wn))
      all_goals
        go_returns
        refine ⟨ret_bool ?_, hB1.trans (hX.mono (by omega))⟩
        first | rfl | (simp_all; done) | (rw [Bool.eq_iff_iff]; simp_all; done) | (rw [Bool.eq_iff_iff]; simp_all; omega)
set_option maxRecDepth 10000 in
set_option maxHeartbeats 4000000 in
theorem SX.fitShow (s : SX) (hm : SmallS s) (ok : Nat → Prop) (w : World) (hok : ∀ b, ok b → b < w.heap.size) (hL : LiesS ok w s) :
    Calls Try.prog 119 #[s.val] w fun e w' => e = .returned (.bool (s.name.toList.isEmpty && (s.onlyE && s.noL))) ∧ Below w.heap.size w w' := by
  obtain ⟨m1, m2, m3, m4, -, -⟩ := hm.parts
  obtain ⟨W1, hW1⟩ : ∃ W1, w.alloc (.cells #[.int .i64 s.kind, .string s.name, .int .i64 s.e.kind, .int .i64 s.e.num, .string s.e.name, .slice s.e.base s.e.kids.length s.e.cap, .int .i64 s.f.kind, .int .i64 s.f.num, .string s.f.name, .slice s.f.base s.f.kids.length s.f.cap, .slice s.abase s.la.length s.acap, .slice s.bbase s.lb.length s.bcap] 128) = W1 := ⟨_, rfl⟩
  have hs1 : w.heap.size + 1 = W1.heap.size := by rw [← hW1]; simp
  have hB1 : Below w.heap.size w W1 := by rw [← hW1]; exact (Below.refl _ w).alloc (Nat.le_refl _) _
  have hC : Cells12 W1 w.heap.size 0 s := by rw [← hW1]; exact Cells12.new w s _
  have hok1 : ∀ b, ok b → b < W1.heap.size := fun b hb => by have := hok b hb; omega
  have hL1 := hL.under hB1 hok
  have hX := Below.refl W1.heap.size W1
  obtain ⟨c0, c1, c2, c3, c4, c5, c6, c7, c8, c9, c10, c11⟩ := hC.below hX (by omega)
  have HOE : Hid (∀ (x : World), Below W1.heap.size W1 x → Calls Try.prog 104 #[s.val] x fun e w' => e = .returned (.bool s.onlyE) ∧ Below x.heap.size x w') := fun x hx => SX.hasOnlyE s hm ok x (fun b hb => Nat.lt_of_lt_of_le (hok1 b hb) hx.size) (hL1.under hx hok1)
  have HNL : Hid (∀ (x : World), Below W1.heap.size W1 x → Calls Try.prog 58 #[s.val] x fun e w' => e = .returned (.bool s.noL) ∧ Below x.heap.size x w') := fun x hx => SX.hasNoLists s hm ok x (fun b hb => Nat.lt_of_lt_of_le (hok1 b hb) hx.size) (hL1.under hx hok1)
  cases q0 : (s.onlyE)
  · go_enter Try.func119, Try.ntmps119
    go_wp2_with (first | (go_at_call 104; refine (HOE.out _ hX).mono ?_; rintro e wn ⟨rfl, hb⟩; (replace hX := bstep hX hb); (obtain ⟨c0, c1, c2, c3, c4, c5, c6, c7, c8, c9, c10, c11⟩ := hC.below hX (by omega)); (clear hb)) | (go_at_call 58; refine (HNL.out _ hX).mono ?_; rintro e wn ⟨rfl, hb⟩; (replace hX := bstep hX hb); (obtain ⟨c0, c1, c2, c3, c4, c5, c6, c7, c8, c9, c10, c11⟩ := hC.below hX (by omega)); (clear hb)) | (go_at_call 103; refine (implName s.name _ m1).mono ?_; rintro e wn ⟨rfl, hw⟩; subst wn))
    all_goals
      go_returns
      refine ⟨ret_bool ?_, hB1.trans (hX.mono (by omega))⟩
      first | rfl | (simp_all; done) | (rw [Bool.eq_iff_iff]; simp_all; done) | (rw [Bool.eq_iff_iff]; simp_all; omega)
  · skip
    cases q1 : (s.noL)
    · go_enter Try.func119, Try.ntmps119
      go_wp2_with (first | (go_at_call 104; refine (HOE.out _ hX).mono ?_; rintro e wn ⟨rfl, hb⟩; (replace hX := bstep hX hb); (obtain ⟨c0, c1, c2, c3, c4, c5, c6, c7, c8, c9, c10, c11⟩ := hC.below hX (by omega)); (clear hb)) | (go_at_call 58; refine (HNL.out _ hX).mono ?_; rintro e wn ⟨rfl, hb⟩; (replace hX := bstep hX hb); (obtain ⟨c0, c1, c2, c3, c4, c5, c6, c7, c8, c9, c10, c11⟩ := hC.below hX (by omega)); (clear hb)) | (go_at_call 103; refine (implName s.name _ m1).mono ?_; rintro e wn ⟨rfl, hw⟩; subst wn))
      all_goals
        go_returns
        refine ⟨ret_bool ?_, hB1.trans (hX.mono (by omega))⟩
        first | rfl | (simp_all; done) | (rw [Bool.eq_iff_iff]; simp_all; done) | (rw [Bool.eq_iff_iff]; simp_all; omega)
    · skip
      go_enter Try.func119, Try.ntmps119
      go_wp2_with (first | (go_at_call 104; refine (HOE.out _ hX).mono ?_; rintro e wn ⟨rfl, hb⟩; (replace hX := bstep hX hb); (obtain ⟨c0, c1, c2, c3, c4, c5, c6, c7, c8, c9, c10, c11⟩ := hC.below hX (by omega)); (clear hb)) | (go_at_call 58; refine (HNL.out _ hX).mono ?_; rintro e wn ⟨rfl, hb⟩; (replace hX := bstep hX hb); (obtain ⟨c0, c1, c2, c3, c4, c5, c6, c7, c8, c9, c10, c11⟩ := hC.below hX (by omega)); (clear hb)) | (go_at_call 103; refine (implName s.name _ m1).mono ?_; rintro e wn ⟨rfl, hw⟩; subst wn))
      all_goals
        go_returns
        refine ⟨ret_bool ?_, hB1.trans (hX.mono (by omega))⟩
        first | rfl | (simp_all; done) | (rw [Bool.eq_iff_iff]; simp_all; done) | (rw [Bool.eq_iff_iff]; simp_all; omega)
set_option maxRecDepth 10000 in
set_option maxHeartbeats 4000000 in
theorem SX.fitNo (s : SX) (hm : SmallS s) (ok : Nat → Prop) (w : World) (hok : ∀ b, ok b → b < w.heap.size) (hL : LiesS ok w s) :
    Calls Try.prog 120 #[s.val] w fun e w' => e = .returned (.bool false) ∧ Below w.heap.size w w' := by
  obtain ⟨m1, m2, m3, m4, -, -⟩ := hm.parts
  obtain ⟨W1, hW1⟩ : ∃ W1, w.alloc (.cells #[.int .i64 s.kind, .string s.name, .int .i64 s.e.kind, .int .i64 s.e.num, .string s.e.name, .slice s.e.base s.e.kids.length s.e.cap, .int .i64 s.f.kind, .int .i64 s.f.num, .string s.f.name, .slice s.f.base s.f.kids.length s.f.cap, .slice s.abase s.la.length s.acap, .slice s.bbase s.lb.length s.bcap] 129) = W1 := ⟨_, rfl⟩
  have hs1 : w.heap.size + 1 = W1.heap.size := by rw [← hW1]; simp
  have hB1 : Below w.heap.size w W1 := by rw [← hW1]; exact (Below.refl _ w).alloc (Nat.le_refl _) _
  have hC : Cells12 W1 w.heap.size 0 s := by rw [← hW1]; exact Cells12.new w s _
  have hok1 : ∀ b, ok b → b < W1.heap.size := fun b hb => by have := hok b hb; omega
  have hL1 := hL.under hB1 hok
  have hX := Below.refl W1.heap.size W1
  obtain ⟨c0, c1, c2, c3, c4, c5, c6, c7, c8, c9, c10, c11⟩ := hC.below hX (by omega)
  go_enter Try.func120, Try.ntmps120
  go_wp2_with (first | (go_at_call 103; refine (implName s.name _ m1).mono ?_; rintro e wn ⟨rfl, hw⟩; subst wn))
  all_goals
    go_returns
    refine ⟨ret_bool ?_, hB1.trans (hX.mono (by omega))⟩
    first | rfl | (simp_all; done) | (rw [Bool.eq_iff_iff]; simp_all; done) | (rw [Bool.eq_iff_iff]; simp_all; omega)
end Go.Proofs.Ytimfdfeleoaehaa
