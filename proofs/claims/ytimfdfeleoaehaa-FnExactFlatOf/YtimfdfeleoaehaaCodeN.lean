/-
  Lists of instructions copied, as the program makes them.
  Copies of instructions, as the program makes them.
-/
import Derived.Test.YtimfdfeleoaehaaCodeE
import Derived.Test.YtimfdfeleoaehaaStmtsA
namespace Go.Proofs.Ytimfdfeleoaehaa
open Go.RowKit Go.Shelf
set_option linter.unusedSimpArgs false
set_option linter.unusedVariables false
attribute [local go_sem] Oper.semAt_some

set_option maxRecDepth 10000 in
set_option maxHeartbeats 8000000 in
theorem eachI (ks : List IX) (a : Option Addr) (c : Nat) (ok : Nat → Prop) (w : World) (hok : ∀ b, ok b → b < w.heap.size) (hcl : IX.Row ok w a ks) (hlen : ks.length ≤ 8388609)
    (H : ∀ (i : Nat) (k : IX), ks[i]? = some k → ∀ (w' : World), Below w.heap.size w w' →
      Calls Try.prog 31 #[k.val] w' fun e w'' => ∃ t : IX, e = .returned t.val ∧ IX.Same k t ∧ OwnS1 w'' w'.heap.size w''.heap.size t.s ∧ Below w'.heap.size w' w'') :
    Calls Try.prog 30 #[.slice a ks.length c, .func (.func 31) #[] #[]] w fun e w' => ∃ (v : Value) (us : List IX) (l h : Nat → Nat), e = .returned v ∧ us.length = ks.length ∧ (∀ (i : Nat) (x y : IX), ks[i]? = some x → us[i]? = some y → IX.Same x y) ∧ AccI w' w.heap.size v us l h ∧ Below w.heap.size w w' := by
  obtain ⟨len, hl⟩ : ∃ len, ks.length = len := ⟨_, rfl⟩
  rw [hl] at hlen ⊢
  obtain ⟨i0, hi0, hz0, hz1, hz2⟩ := info_parts infoI
  go_enter Try.func30, Try.ntmps30
  go_wp2_with fail
  go_loopw [5, 10] (fun v5 v10 wr => ∃ (i : Nat) (us : List IX) (l h : Nat → Nat), v10 = .int .i64 i ∧ i ≤ len ∧ us.length = i ∧ Hid (∀ (j : Nat) (x y : IX), ks[j]? = some x → us[j]? = some y → IX.Same x y) ∧ Hid (AccI wr w.heap.size v5 us l h) ∧ Below w.heap.size w wr) (fun _ v10 _ => len - (intOf v10).toNat)
  case atStart => exact ⟨0, [], _, _, rfl, by omega, rfl, fun j x y _ hy => by simp at hy, AccI.nil _ _, Below.refl _ _⟩
  case round =>
    obtain ⟨i, us, l, h, rfl, hi, hul, hsm, hA, hB⟩ := hrel
    obtain ⟨v, rfl⟩ : ∃ v, v = u5 := ⟨_, rfl⟩
    by_cases hlt : i < len
    · obtain ⟨x, hx⟩ : ∃ x, ks[i]? = some x := ⟨_, List.getElem?_eq_getElem (by omega)⟩
      obtain ⟨b1, o1, hbase1, hok1, hc1⟩ := hcl i x hx
      obtain ⟨c0, c1, c2, c3, c4', c5, c6, c7, c8, c9, c10, c11, c12, c13⟩ := hc1.below hB (hok b1 hok1)
      obtain ⟨W1, hW1⟩ : ∃ W1, wr.alloc (.cells #[.int .i64 x.op, .int .i64 x.s.kind, .string x.s.name, .int .i64 x.s.e.kind, .int .i64 x.s.e.num, .string x.s.e.name, .slice x.s.e.base x.s.e.kids.length x.s.e.cap, .int .i64 x.s.f.kind, .int .i64 x.s.f.num, .string x.s.f.name, .slice x.s.f.base x.s.f.kids.length x.s.f.cap, .slice x.s.abase x.s.la.length x.s.acap, .slice x.s.bbase x.s.lb.length x.s.bcap, .int .i64 x.dst] 52) = W1 := ⟨_, rfl⟩
      have hB1 : Below wr.heap.size wr W1 := by rw [← hW1]; exact (Below.refl _ _).alloc (Nat.le_refl _) _
      have hs1 : wr.heap.size + 1 = W1.heap.size := by rw [← hW1]; simp
      have hC1 : Cells14 W1 wr.heap.size 0 x := by rw [← hW1]; exact Cells14.new wr x _
      have hcall : Hid (Calls Try.prog 31 #[x.val] W1 fun e w'' => ∃ t : IX, e = .returned t.val ∧ IX.Same x t ∧ OwnS1 w'' W1.heap.size w''.heap.size t.s ∧ Below W1.heap.size W1 w'') := H i x hx W1 (bstep hB hB1)
      obtain ⟨d0, d1, d2, d3, d4, d5, d6, d7, d8, d9, d10, d11, d12, d13⟩ := hC1
      have hA1 := hA.out.below hB1
      subst hbase1
      go_wp2_with fail
      go_at_call 31
      refine hcall.out.mono ?_
      rintro e w2 ⟨t, rfl, hxt, hO, hB2⟩
      clear c0 c1 c2 c3 c4' c5 c6 c7 c8 c9 c10 c11 c12 c13 d0 d1 d2 d3 d4 d5 d6 d7 d8 d9 d10 d11 d12 d13 hcall hW1
      have hA2 := hA1.below hB2
      have hz2' := hB2.size
      obtain ⟨W3, hW3⟩ : ∃ W3, w2.alloc (.cells #[.int .i64 t.op, .int .i64 t.s.kind, .string t.s.name, .int .i64 t.s.e.kind, .int .i64 t.s.e.num, .string t.s.e.name, .slice t.s.e.base t.s.e.kids.length t.s.e.cap, .int .i64 t.s.f.kind, .int .i64 t.s.f.num, .string t.s.f.name, .slice t.s.f.base t.s.f.kids.length t.s.f.cap, .slice t.s.abase t.s.la.length t.s.acap, .slice t.s.bbase t.s.lb.length t.s.bcap, .int .i64 t.dst] 52) = W3 := ⟨_, rfl⟩
      have hB3 : Below w2.heap.size w2 W3 := by rw [← hW3]; exact (Below.refl _ _).alloc (Nat.le_refl _) _
      have hs3 : w2.heap.size + 1 = W3.heap.size := by rw [← hW3]; simp
      have hnewH : Hid (∀ j u, t.vals[j]? = some u → W3.cell? ((⟨w2.heap.size, 0, none⟩ : Addr).add j) = some u) := by
        have h := news14 w2 t
        rw [hW3] at h
        exact h
      have hA3 := hA2.below hB3
      have hO3 : OwnS1 W3 W1.heap.size w2.heap.size t.s := hO.mono (fun b q1 q2 => hB3.block b q2)
      have hzw := hB.size
      have hown3 : Hid (W3.ownsRow w.heap.size 52 14 v us.length (fl14 us)) := hA3.own
      go_wp2_with (at_builtin; refine wpList_append_back _ rfl _ _ 24 rfl w.heap.size 52 i0 _ 14 200 Try.underlying24 hi0 hz0 hz1 hz2 rfl (by decide) v us.length (fl14 us) rfl hown3.out ⟨w2.heap.size, 0, none⟩ 1 1 t.vals rfl rfl hnewH.out (by simp [Value.oneCell']) (by unfold maxLen; omega) (by omega) (by omega) (by omega) ?_; intro v' w4 hown' hback)
      have hP := hA3.push rfl hO3 (fun j hj => by have := (hA1.int j hj).2.1; omega) (by omega) (by omega) (fun g hg => by have := (hA1.own.lt g hg).2; omega) (by omega) hown' hback
      have hB4 : Below w.heap.size w w4 := by
        have h0 : Below w.heap.size w W3 := bstep (bstep (bstep hB hB1) hB2) hB3
        refine h0.trans (hback.kept.below (by omega) (fun k hk => ?_))
        rcases hk with hk | hk
        · exact (hA3.own.lt k hk).1
        · exact (hown'.lt k hk).1
      refine ⟨⟨i + 1, us ++ [t], _, _, by go_num, by omega, by simp [hul], ?_, hP, hB4⟩, by simp [intOf]; omega⟩
      intro j y z hy hz
      by_cases hj : j < us.length
      · rw [List.getElem?_append_left hj] at hz
        exact hsm.out j y z hy hz
      · have hji : j = i := by
          have := (List.getElem?_eq_some_iff.1 hz).1
          simp at this
          omega
        subst hji
        rw [List.getElem?_append_right (by omega)] at hz
        simp [hul] at hz
        subst hz
        rw [hx] at hy
        cases hy
        exact hxt
    · have he : i = len := by omega
      go_wp2_with fail
      go_returns
      exact ⟨v, us, l, h, rfl, by omega, hsm.out, hA.out, hB⟩
end Go.Proofs.Ytimfdfeleoaehaa
namespace Go.Proofs.Ytimfdfeleoaehaa
open Go.RowKit Go.Shelf
set_option linter.unusedSimpArgs false
set_option linter.unusedVariables false
attribute [local go_sem] Oper.semAt_some

set_option maxRecDepth 10000 in
set_option maxHeartbeats 8000000 in
theorem copyI (x : IX) (hm : SmallS x.s) (ok : Nat → Prop) (w : World) (hok : ∀ b, ok b → b < w.heap.size) (hL : LiesS ok w x.s) :
    Calls Try.prog 31 #[x.val] w fun e w' => ∃ t : IX, e = .returned t.val ∧ IX.Same x t ∧ OwnS1 w' w.heap.size w'.heap.size t.s ∧ Below w.heap.size w w' := by
  obtain ⟨W1, hW1⟩ : ∃ W1, w.alloc (.cells #[.int .i64 x.op, .int .i64 x.s.kind, .string x.s.name, .int .i64 x.s.e.kind, .int .i64 x.s.e.num, .string x.s.e.name, .slice x.s.e.base x.s.e.kids.length x.s.e.cap, .int .i64 x.s.f.kind, .int .i64 x.s.f.num, .string x.s.f.name, .slice x.s.f.base x.s.f.kids.length x.s.f.cap, .slice x.s.abase x.s.la.length x.s.acap, .slice x.s.bbase x.s.lb.length x.s.bcap, .int .i64 x.dst] 52) = W1 := ⟨_, rfl⟩
  obtain ⟨W2, hW2⟩ : ∃ W2, W1.alloc (.cells #[.int .i64 0, .int .i64 0, .string ⟨#[]⟩, .int .i64 0, .int .i64 0, .string ⟨#[]⟩, .slice none 0 0, .int .i64 0, .int .i64 0, .string ⟨#[]⟩, .slice none 0 0, .slice none 0 0, .slice none 0 0, .int .i64 0] 52) = W2 := ⟨_, rfl⟩
  have s1 : w.heap.size + 1 = W1.heap.size := by rw [← hW1]; simp
  have s2 : W1.heap.size + 1 = W2.heap.size := by rw [← hW2]; simp
  have hB1 : Below w.heap.size w W1 := by rw [← hW1]; exact (Below.refl _ w).alloc (Nat.le_refl _) _
  have hB12 : Below W1.heap.size W1 W2 := by rw [← hW2]; exact (Below.refl _ W1).alloc (Nat.le_refl _) _
  have hB2 : Below w.heap.size w W2 := bstep hB1 hB12
  have hC1 : Cells14 W1 w.heap.size 0 x := by rw [← hW1]; exact Cells14.new w x _
  have hC : Cells14 W2 w.heap.size 0 x := hC1.below hB12 (by omega)
  have hR1 : RowAt W2 w.heap.size 14 52 := by
    have h := RowAt.new w #[.int .i64 x.op, .int .i64 x.s.kind, .string x.s.name, .int .i64 x.s.e.kind, .int .i64 x.s.e.num, .string x.s.e.name, .slice x.s.e.base x.s.e.kids.length x.s.e.cap, .int .i64 x.s.f.kind, .int .i64 x.s.f.num, .string x.s.f.name, .slice x.s.f.base x.s.f.kids.length x.s.f.cap, .slice x.s.abase x.s.la.length x.s.acap, .slice x.s.bbase x.s.lb.length x.s.bcap, .int .i64 x.dst] 52
    rw [hW1] at h
    exact h.of_block (hB12.block _ (by omega))
  have hR2 : RowAt W2 W1.heap.size 14 52 := by
    have h := RowAt.new W1 #[.int .i64 0, .int .i64 0, .string ⟨#[]⟩, .int .i64 0, .int .i64 0, .string ⟨#[]⟩, .slice none 0 0, .int .i64 0, .int .i64 0, .string ⟨#[]⟩, .slice none 0 0, .slice none 0 0, .slice none 0 0, .int .i64 0] 52
    rw [hW2] at h
    exact h
  have hcall : Hid (Calls Try.prog 52 #[x.s.val] W2 fun e w' => ∃ s' : SX, e = .returned s'.val ∧ SameS x.s s' ∧ OwnS1 w' W2.heap.size w'.heap.size s' ∧ Below W2.heap.size W2 w') := copyS _ x.s (Nat.le_refl _) hm ok W2 (fun b hb => Nat.lt_of_lt_of_le (hok b hb) hB2.size) (hL.under hB2 hok)
  have hCk := hC
  obtain ⟨c0, c1, c2, c3, c4, c5, c6, c7, c8, c9, c10, c11, c12, c13⟩ := hC
  go_enter Try.func31, Try.ntmps31
  go_wp2_with fail
  go_at_call 52
  refine hcall.out.mono ?_
  rintro e w3 ⟨t, rfl, hst, hO, hB3⟩
  clear hcall c0 c1 c2 c3 c4 c5 c6 c7 c8 c9 c10 c11 c12 c13 hW1 hW2
  have hz3 := hB3.size
  have hR1' := hR1.of_block (hB3.block _ (by omega))
  have hR2' := hR2.of_block (hB3.block _ (by omega))
  obtain ⟨c0, c1, c2, c3, c4, c5, c6, c7, c8, c9, c10, c11, c12, c13⟩ := hCk.below hB3 (by omega)
  have z1 := hR1'.frozen 1; have z2 := hR1'.frozen 2; have z3 := hR1'.frozen 3; have z4 := hR1'.frozen 4; have z5 := hR1'.frozen 5; have z6 := hR1'.frozen 6; have z7 := hR1'.frozen 7; have z8 := hR1'.frozen 8; have z9 := hR1'.frozen 9; have z10 := hR1'.frozen 10; have z11 := hR1'.frozen 11; have z12 := hR1'.frozen 12
  have n0 := hR2'.frozen 0; have n1 := hR2'.frozen 1; have n2 := hR2'.frozen 2; have n3 := hR2'.frozen 3; have n4 := hR2'.frozen 4; have n5 := hR2'.frozen 5; have n6 := hR2'.frozen 6; have n7 := hR2'.frozen 7; have n8 := hR2'.frozen 8; have n9 := hR2'.frozen 9; have n10 := hR2'.frozen 10; have n11 := hR2'.frozen 11; have n12 := hR2'.frozen 12; have n13 := hR2'.frozen 13
  have hxx : Below w.heap.size w w3 := bstep hB2 hB3
  have hRw0 : RwI w.heap.size 14 0 w3 w3 x.vals := by
    refine ⟨hR1', fun o _ => rfl, fun j v hj => ?_⟩
    have hC3 := hCk.below hB3 (by omega)
    have h9 := hC3.vals j v hj
    simp only [Nat.zero_add, Nat.zero_mul] at h9 ⊢
    exact h9
  have hRw := ((((((((((((hRw0.set (by omega) 1 (by omega) (.int .i64 t.kind)).set (by omega) 2 (by omega) (.string t.name)).set (by omega) 3 (by omega) (.int .i64 t.e.kind)).set (by omega) 4 (by omega) (.int .i64 t.e.num)).set (by omega) 5 (by omega) (.string t.e.name)).set (by omega) 6 (by omega) (.slice t.e.base t.e.kids.length t.e.cap)).set (by omega) 7 (by omega) (.int .i64 t.f.kind)).set (by omega) 8 (by omega) (.int .i64 t.f.num)).set (by omega) 9 (by omega) (.string t.f.name)).set (by omega) 10 (by omega) (.slice t.f.base t.f.kids.length t.f.cap)).set (by omega) 11 (by omega) (.slice t.abase t.la.length t.acap)).set (by omega) 12 (by omega) (.slice t.bbase t.lb.length t.bcap))
  have hK1 := (((((((((((((Kept.refl (fun k => k = w.heap.size) w3).setCell (p := ⟨w.heap.size, 1, none⟩) rfl (.int .i64 t.kind)).setCell (p := ⟨w.heap.size, 2, none⟩) rfl (.string t.name)).setCell (p := ⟨w.heap.size, 3, none⟩) rfl (.int .i64 t.e.kind)).setCell (p := ⟨w.heap.size, 4, none⟩) rfl (.int .i64 t.e.num)).setCell (p := ⟨w.heap.size, 5, none⟩) rfl (.string t.e.name)).setCell (p := ⟨w.heap.size, 6, none⟩) rfl (.slice t.e.base t.e.kids.length t.e.cap)).setCell (p := ⟨w.heap.size, 7, none⟩) rfl (.int .i64 t.f.kind)).setCell (p := ⟨w.heap.size, 8, none⟩) rfl (.int .i64 t.f.num)).setCell (p := ⟨w.heap.size, 9, none⟩) rfl (.string t.f.name)).setCell (p := ⟨w.heap.size, 10, none⟩) rfl (.slice t.f.base t.f.kids.length t.f.cap)).setCell (p := ⟨w.heap.size, 11, none⟩) rfl (.slice t.abase t.la.length t.acap)).setCell (p := ⟨w.heap.size, 12, none⟩) rfl (.slice t.bbase t.lb.length t.bcap))
  have hC5 : Cells14 ((((((((((((w3.setCell ⟨w.heap.size, 1, none⟩ (.int .i64 t.kind)).setCell ⟨w.heap.size, 2, none⟩ (.string t.name)).setCell ⟨w.heap.size, 3, none⟩ (.int .i64 t.e.kind)).setCell ⟨w.heap.size, 4, none⟩ (.int .i64 t.e.num)).setCell ⟨w.heap.size, 5, none⟩ (.string t.e.name)).setCell ⟨w.heap.size, 6, none⟩ (.slice t.e.base t.e.kids.length t.e.cap)).setCell ⟨w.heap.size, 7, none⟩ (.int .i64 t.f.kind)).setCell ⟨w.heap.size, 8, none⟩ (.int .i64 t.f.num)).setCell ⟨w.heap.size, 9, none⟩ (.string t.f.name)).setCell ⟨w.heap.size, 10, none⟩ (.slice t.f.base t.f.kids.length t.f.cap)).setCell ⟨w.heap.size, 11, none⟩ (.slice t.abase t.la.length t.acap)).setCell ⟨w.heap.size, 12, none⟩ (.slice t.bbase t.lb.length t.bcap)) w.heap.size 0 ⟨x.op, t, x.dst⟩ := ⟨hRw.at_ 0 _ rfl, hRw.at_ 1 _ rfl, hRw.at_ 2 _ rfl, hRw.at_ 3 _ rfl, hRw.at_ 4 _ rfl, hRw.at_ 5 _ rfl, hRw.at_ 6 _ rfl, hRw.at_ 7 _ rfl, hRw.at_ 8 _ rfl, hRw.at_ 9 _ rfl, hRw.at_ 10 _ rfl, hRw.at_ 11 _ rfl, hRw.at_ 12 _ rfl, hRw.at_ 13 _ rfl⟩
  clear hRw hRw0
  go_upto_region 2 with fail
  generalize ((((((((((((w3.setCell ⟨w.heap.size, 1, none⟩ (.int .i64 t.kind)).setCell ⟨w.heap.size, 2, none⟩ (.string t.name)).setCell ⟨w.heap.size, 3, none⟩ (.int .i64 t.e.kind)).setCell ⟨w.heap.size, 4, none⟩ (.int .i64 t.e.num)).setCell ⟨w.heap.size, 5, none⟩ (.string t.e.name)).setCell ⟨w.heap.size, 6, none⟩ (.slice t.e.base t.e.kids.length t.e.cap)).setCell ⟨w.heap.size, 7, none⟩ (.int .i64 t.f.kind)).setCell ⟨w.heap.size, 8, none⟩ (.int .i64 t.f.num)).setCell ⟨w.heap.size, 9, none⟩ (.string t.f.name)).setCell ⟨w.heap.size, 10, none⟩ (.slice t.f.base t.f.kids.length t.f.cap)).setCell ⟨w.heap.size, 11, none⟩ (.slice t.abase t.la.length t.acap)).setCell ⟨w.heap.size, 12, none⟩ (.slice t.bbase t.lb.length t.bcap)) = W5 at hK1 hC5 ⊢
  clear c0 c1 c2 c3 c4 c5 c6 c7 c8 c9 c10 c11 c12 c13 z1 z2 z3 z4 z5 z6 z7 z8 z9 z10 z11 z12 n0 n1 n2 n3 n4 n5 n6 n7 n8 n9 n10 n11 n12 n13
  have hR5 := hR2'.of_block (hK1.block _ (by omega) (by omega))
  have hz5 := hK1.size
  have c0 : W5.cell? ⟨w.heap.size, 0, none⟩ = some (.int .i64 x.op) := hC5.c0; have c1 : W5.cell? ⟨w.heap.size, 1, none⟩ = some (.int .i64 t.kind) := hC5.c1; have c2 : W5.cell? ⟨w.heap.size, 2, none⟩ = some (.string t.name) := hC5.c2; have c3 : W5.cell? ⟨w.heap.size, 3, none⟩ = some (.int .i64 t.e.kind) := hC5.c3; have c4 : W5.cell? ⟨w.heap.size, 4, none⟩ = some (.int .i64 t.e.num) := hC5.c4; have c5 : W5.cell? ⟨w.heap.size, 5, none⟩ = some (.string t.e.name) := hC5.c5; have c6 : W5.cell? ⟨w.heap.size, 6, none⟩ = some (.slice t.e.base t.e.kids.length t.e.cap) := hC5.c6; have c7 : W5.cell? ⟨w.heap.size, 7, none⟩ = some (.int .i64 t.f.kind) := hC5.c7; have c8 : W5.cell? ⟨w.heap.size, 8, none⟩ = some (.int .i64 t.f.num) := hC5.c8; have c9 : W5.cell? ⟨w.heap.size, 9, none⟩ = some (.string t.f.name) := hC5.c9; have c10 : W5.cell? ⟨w.heap.size, 10, none⟩ = some (.slice t.f.base t.f.kids.length t.f.cap) := hC5.c10; have c11 : W5.cell? ⟨w.heap.size, 11, none⟩ = some (.slice t.abase t.la.length t.acap) := hC5.c11; have c12 : W5.cell? ⟨w.heap.size, 12, none⟩ = some (.slice t.bbase t.lb.length t.bcap) := hC5.c12; have c13 : W5.cell? ⟨w.heap.size, 13, none⟩ = some (.int .i64 x.dst) := hC5.c13
  have n0 := hR5.frozen 0; have n1 := hR5.frozen 1; have n2 := hR5.frozen 2; have n3 := hR5.frozen 3; have n4 := hR5.frozen 4; have n5 := hR5.frozen 5; have n6 := hR5.frozen 6; have n7 := hR5.frozen 7; have n8 := hR5.frozen 8; have n9 := hR5.frozen 9; have n10 := hR5.frozen 10; have n11 := hR5.frozen 11; have n12 := hR5.frozen 12; have n13 := hR5.frozen 13
  obtain ⟨y0, m0⟩ := hR5.cell (o := 0) (by omega); obtain ⟨y1, m1⟩ := hR5.cell (o := 1) (by omega); obtain ⟨y2, m2⟩ := hR5.cell (o := 2) (by omega); obtain ⟨y3, m3⟩ := hR5.cell (o := 3) (by omega); obtain ⟨y4, m4⟩ := hR5.cell (o := 4) (by omega); obtain ⟨y5, m5⟩ := hR5.cell (o := 5) (by omega); obtain ⟨y6, m6⟩ := hR5.cell (o := 6) (by omega); obtain ⟨y7, m7⟩ := hR5.cell (o := 7) (by omega); obtain ⟨y8, m8⟩ := hR5.cell (o := 8) (by omega); obtain ⟨y9, m9⟩ := hR5.cell (o := 9) (by omega); obtain ⟨y10, m10⟩ := hR5.cell (o := 10) (by omega); obtain ⟨y11, m11⟩ := hR5.cell (o := 11) (by omega); obtain ⟨y12, m12⟩ := hR5.cell (o := 12) (by omega); obtain ⟨y13, m13⟩ := hR5.cell (o := 13) (by omega)
  have hK2 := (((((((((((((((Kept.refl (fun k => k = W1.heap.size) W5).setCell (p := ⟨W1.heap.size, 0, none⟩) rfl (.int .i64 x.op)).setCell (p := ⟨W1.heap.size, 1, none⟩) rfl (.int .i64 t.kind)).setCell (p := ⟨W1.heap.size, 2, none⟩) rfl (.string t.name)).setCell (p := ⟨W1.heap.size, 3, none⟩) rfl (.int .i64 t.e.kind)).setCell (p := ⟨W1.heap.size, 4, none⟩) rfl (.int .i64 t.e.num)).setCell (p := ⟨W1.heap.size, 5, none⟩) rfl (.string t.e.name)).setCell (p := ⟨W1.heap.size, 6, none⟩) rfl (.slice t.e.base t.e.kids.length t.e.cap)).setCell (p := ⟨W1.heap.size, 7, none⟩) rfl (.int .i64 t.f.kind)).setCell (p := ⟨W1.heap.size, 8, none⟩) rfl (.int .i64 t.f.num)).setCell (p := ⟨W1.heap.size, 9, none⟩) rfl (.string t.f.name)).setCell (p := ⟨W1.heap.size, 10, none⟩) rfl (.slice t.f.base t.f.kids.length t.f.cap)).setCell (p := ⟨W1.heap.size, 11, none⟩) rfl (.slice t.abase t.la.length t.acap)).setCell (p := ⟨W1.heap.size, 12, none⟩) rfl (.slice t.bbase t.lb.length t.bcap)).setCell (p := ⟨W1.heap.size, 13, none⟩) rfl (.int .i64 x.dst))
  have hz6 := hK2.size
  have hown : Hid (OwnS1 ((((((((((((((W5.setCell ⟨W1.heap.size, 0, none⟩ (.int .i64 x.op)).setCell ⟨W1.heap.size, 1, none⟩ (.int .i64 t.kind)).setCell ⟨W1.heap.size, 2, none⟩ (.string t.name)).setCell ⟨W1.heap.size, 3, none⟩ (.int .i64 t.e.kind)).setCell ⟨W1.heap.size, 4, none⟩ (.int .i64 t.e.num)).setCell ⟨W1.heap.size, 5, none⟩ (.string t.e.name)).setCell ⟨W1.heap.size, 6, none⟩ (.slice t.e.base t.e.kids.length t.e.cap)).setCell ⟨W1.heap.size, 7, none⟩ (.int .i64 t.f.kind)).setCell ⟨W1.heap.size, 8, none⟩ (.int .i64 t.f.num)).setCell ⟨W1.heap.size, 9, none⟩ (.string t.f.name)).setCell ⟨W1.heap.size, 10, none⟩ (.slice t.f.base t.f.kids.length t.f.cap)).setCell ⟨W1.heap.size, 11, none⟩ (.slice t.abase t.la.length t.acap)).setCell ⟨W1.heap.size, 12, none⟩ (.slice t.bbase t.lb.length t.bcap)).setCell ⟨W1.heap.size, 13, none⟩ (.int .i64 x.dst)) w.heap.size (((((((((((((((W5.setCell ⟨W1.heap.size, 0, none⟩ (.int .i64 x.op)).setCell ⟨W1.heap.size, 1, none⟩ (.int .i64 t.kind)).setCell ⟨W1.heap.size, 2, none⟩ (.string t.name)).setCell ⟨W1.heap.size, 3, none⟩ (.int .i64 t.e.kind)).setCell ⟨W1.heap.size, 4, none⟩ (.int .i64 t.e.num)).setCell ⟨W1.heap.size, 5, none⟩ (.string t.e.name)).setCell ⟨W1.heap.size, 6, none⟩ (.slice t.e.base t.e.kids.length t.e.cap)).setCell ⟨W1.heap.size, 7, none⟩ (.int .i64 t.f.kind)).setCell ⟨W1.heap.size, 8, none⟩ (.int .i64 t.f.num)).setCell ⟨W1.heap.size, 9, none⟩ (.string t.f.name)).setCell ⟨W1.heap.size, 10, none⟩ (.slice t.f.base t.f.kids.length t.f.cap)).setCell ⟨W1.heap.size, 11, none⟩ (.slice t.abase t.la.length t.acap)).setCell ⟨W1.heap.size, 12, none⟩ (.slice t.bbase t.lb.length t.bcap)).setCell ⟨W1.heap.size, 13, none⟩ (.int .i64 x.dst))).heap.size t) := (hO.mono (fun b q1 q2 => (hK2.block b (by omega) (by omega)).trans (hK1.block b (by omega) (by omega)))).wide (by omega) (Nat.le_trans hz5 hz6)
  have hbel : Hid (Below w.heap.size w ((((((((((((((W5.setCell ⟨W1.heap.size, 0, none⟩ (.int .i64 x.op)).setCell ⟨W1.heap.size, 1, none⟩ (.int .i64 t.kind)).setCell ⟨W1.heap.size, 2, none⟩ (.string t.name)).setCell ⟨W1.heap.size, 3, none⟩ (.int .i64 t.e.kind)).setCell ⟨W1.heap.size, 4, none⟩ (.int .i64 t.e.num)).setCell ⟨W1.heap.size, 5, none⟩ (.string t.e.name)).setCell ⟨W1.heap.size, 6, none⟩ (.slice t.e.base t.e.kids.length t.e.cap)).setCell ⟨W1.heap.size, 7, none⟩ (.int .i64 t.f.kind)).setCell ⟨W1.heap.size, 8, none⟩ (.int .i64 t.f.num)).setCell ⟨W1.heap.size, 9, none⟩ (.string t.f.name)).setCell ⟨W1.heap.size, 10, none⟩ (.slice t.f.base t.f.kids.length t.f.cap)).setCell ⟨W1.heap.size, 11, none⟩ (.slice t.abase t.la.length t.acap)).setCell ⟨W1.heap.size, 12, none⟩ (.slice t.bbase t.lb.length t.bcap)).setCell ⟨W1.heap.size, 13, none⟩ (.int .i64 x.dst))) := (hxx.trans (hK1.below (by omega) (fun k e => by omega))).trans (hK2.below (by omega) (fun k e => by omega))
  clear hK2 hO hK1 hC5 hR5 hR1' hR2' hR1 hR2 hCk hL hm hxx hB3 hB2 hB12 hB1 hz5 hz6 hz3 hC1
  go_wp2
  first | go_returns | (refine bodyPost_ret (by simp [results, Try.results31, go_sem, *]; try rfl) rfl ?_)
  exact ⟨⟨x.op, t, x.dst⟩, rfl, ⟨rfl, hst, rfl⟩, hown.out, hbel.out⟩
end Go.Proofs.Ytimfdfeleoaehaa
