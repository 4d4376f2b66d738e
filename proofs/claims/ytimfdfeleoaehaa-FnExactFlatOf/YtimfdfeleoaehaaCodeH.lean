/-
  A place that is filled in later: how it is left open, and how it is filled in.
  The code of a branch and of a loop, as the program writes it.
  The code of a list of statements, as the program writes it.
-/
import Derived.Test.YtimfdfeleoaehaaCodeE
import Derived.Test.YtimfdfeleoaehaaOkL
namespace Go.Proofs.Ytimfdfeleoaehaa
open Go.RowKit Go.Shelf
set_option linter.unusedSimpArgs false
set_option linter.unusedVariables false
attribute [local go_sem] Oper.semAt_some

set_option maxRecDepth 10000 in
set_option maxHeartbeats 4000000 in
theorem implWriteOpen (x : IX) (bc : Nat) (v : Value) (xs : List IX) (w : World) (hC : Cod w bc v xs) (hlen : xs.length ≤ 8388608) :
    Calls Try.prog 64 #[.pointer (some ⟨bc, 0, none⟩), .agg #[.int .i64 x.op, .int .i64 x.s.kind, .string x.s.name, .int .i64 x.s.e.kind, .int .i64 x.s.e.num, .string x.s.e.name, .slice x.s.e.base x.s.e.kids.length x.s.e.cap, .int .i64 x.s.f.kind, .int .i64 x.s.f.num, .string x.s.f.name, .slice x.s.f.base x.s.f.kids.length x.s.f.cap, .slice x.s.abase x.s.la.length x.s.acap, .slice x.s.bbase x.s.lb.length x.s.bcap, .int .i64 x.dst]] w fun e w' => ∃ b1 b2 v', e = .returned (.func (.func 78) #[] #[.pointer (some ⟨b1, 0, none⟩), .pointer (some ⟨b2, 0, none⟩)]) ∧ Cod w' bc v' (xs ++ [x]) ∧ WrC bc w w' v v' ∧ Hole w' bc v' b1 b2 xs.length := by
  obtain ⟨W1, hW1⟩ : ∃ W1, w.alloc (.cells #[.pointer (some ⟨bc, 0, none⟩)] 91) = W1 := ⟨_, rfl⟩
  obtain ⟨W2, hW2⟩ : ∃ W2, W1.alloc (.cells #[.int .i64 x.op, .int .i64 x.s.kind, .string x.s.name, .int .i64 x.s.e.kind, .int .i64 x.s.e.num, .string x.s.e.name, .slice x.s.e.base x.s.e.kids.length x.s.e.cap, .int .i64 x.s.f.kind, .int .i64 x.s.f.num, .string x.s.f.name, .slice x.s.f.base x.s.f.kids.length x.s.f.cap, .slice x.s.abase x.s.la.length x.s.acap, .slice x.s.bbase x.s.lb.length x.s.bcap, .int .i64 x.dst] 52) = W2 := ⟨_, rfl⟩
  have hs1 : w.heap.size + 1 = W1.heap.size := by rw [← hW1]; simp
  have hs2 : W1.heap.size + 1 = W2.heap.size := by rw [← hW2]; simp
  have hB1 : Below w.heap.size w W1 := by rw [← hW1]; exact (Below.refl _ w).alloc (Nat.le_refl _) _
  have hB12 : Below W1.heap.size W1 W2 := by rw [← hW2]; exact (Below.refl _ _).alloc (Nat.le_refl _) _
  have hB2 : Below w.heap.size w W2 := hB1.trans (hB12.mono (by omega))
  have hD : Cells14 W2 W1.heap.size 0 x := by rw [← hW2]; exact Cells14.new W1 x _
  have p0 : W2.cell? ⟨w.heap.size, 0, none⟩ = some (.pointer (some ⟨bc, 0, none⟩)) := below_cell hB12 (by rw [← hW1]; exact World.cell?_alloc_new w _ _ 0) (by dsimp only; omega)
  have hC2 := hC.new hB2
  obtain ⟨av, cv, hv⟩ := hC.shape
  have hbl := hC.box.lt
  have hvl : ∀ g, v.ownBlock = some g → g < w.heap.size := fun g hg => (hC.own.lt g hg).2
  have hvlH : Hid (∀ g, v.ownBlock = some g → g < w.heap.size) := hvl
  have hC2H : Hid (Cod W2 bc v xs) := hC2
  have k1 := hC2.box.cell
  rw [hv] at k1
  have hh := implHere W2 bc av xs.length cv k1
  clear k1 hvl hC hC2
  go_enter Try.func64, Try.ntmps64
  go_wp2_with fail
  go_at_call 65
  refine hh.mono ?_
  clear hh
  rintro e w3 ⟨rfl, hB3⟩
  have hz3 := hB3.size
  obtain ⟨W4, hW4⟩ : ∃ W4, w3.alloc (.cells #[.int .i64 (xs.length : Int)] 3) = W4 := ⟨_, rfl⟩
  have hs4 : w3.heap.size + 1 = W4.heap.size := by rw [← hW4]; simp
  have hB4 : Below w3.heap.size w3 W4 := by rw [← hW4]; exact (Below.refl _ _).alloc (Nat.le_refl _) _
  have hB24 : Below W2.heap.size W2 W4 := hB3.trans (hB4.mono hB3.size)
  have q0 := below_cell hB24 p0 (by dsimp only; omega)
  obtain ⟨c0, c1, c2, c3, c4, c5, c6, c7, c8, c9, c10, c11, c12, c13⟩ := hD.below hB24 (by omega)
  have hC4 := hC2H.out.new hB24
  have r0 : W4.cell? ⟨w3.heap.size, 0, none⟩ = some (.int .i64 (xs.length : Int)) := by rw [← hW4]; exact World.cell?_alloc_new w3 _ _ 0
  have hH4 : Hid (Hole W4 bc v w.heap.size w3.heap.size xs.length) := ⟨q0, r0, ⟨by omega, by omega⟩, ⟨fun e => by have := hvlH.out _ e; omega, fun e => by have := hvlH.out _ e; omega⟩⟩
  have hwr := implWrite x bc v xs W4 hC4 hlen
  have hWn : Hid (WrC bc w W4 v v) := WrC.new (hB2.trans (hB24.mono (by omega)))
  clear hC4 r0 hv
  go_wp2_with fail
  go_at_call 27
  refine hwr.mono ?_
  clear hwr
  rintro e w5 ⟨r, v', rfl, hC5, hW5⟩
  have hC5H : Hid (Cod w5 bc v' (xs ++ [x])) := hC5
  have hW5H : Hid (WrC bc W4 w5 v v') := hW5
  clear hC5 hW5 q0 c0 c1 c2 c3 c4 c5 c6 c7 c8 c9 c10 c11 c12 c13
  go_wp2
  go_returns
  exact ⟨_, _, v', rfl, hC5H.out, hWn.out.trans hW5H.out, hH4.out.on hW5H.out⟩
theorem fl14_set {us : List IX} {i : Nat} {t : IX} (h : us[i]? = some t) (d : Int) : (fl14 us).set (i * 14 + 13) (.int .i64 d) = fl14 (us.set i ⟨t.op, t.s, d⟩) := by
  induction us generalizing i with
  | nil => simp at h
  | cons x xs ih =>
    cases i with
    | zero =>
      simp at h
      subst h
      simp only [List.set_cons_zero, fl14]
      rfl
    | succ i =>
      simp only [List.getElem?_cons_succ] at h
      have hx : x.vals.length = 14 := rfl
      rw [fl14, List.set_cons_succ, fl14, ← ih h, show (i + 1) * 14 + 13 = x.vals.length + (i * 14 + 13) by rw [hx]; omega, set_right]
set_option maxRecDepth 10000 in
set_option maxHeartbeats 4000000 in
theorem implFill (bc : Nat) (v : Value) (xs : List IX) (b1 b2 p : Nat) (x : IX) (w : World) (hC : Cod w bc v xs) (hlen : xs.length ≤ 8388608) (hH : Hole w bc v b1 b2 p) (hx : xs[p]? = some x) :
    Calls Try.prog 78 #[.pointer (some ⟨b1, 0, none⟩), .pointer (some ⟨b2, 0, none⟩)] w fun e w' => ∃ r, e = .returned r ∧ Cod w' bc v (xs.set p ⟨x.op, x.s, (xs.length : Int)⟩) ∧ WrC bc w w' v v := by
  have hp : p < xs.length := (List.getElem?_eq_some_iff.1 hx).1
  obtain ⟨n, hn⟩ : ∃ n, xs.length = n := ⟨_, rfl⟩
  have hown0 := hC.own
  rw [hn] at hown0 hp hlen
  obtain ⟨g, cap, rfl⟩ : ∃ g cap, v = .slice (some ⟨g, 0, none⟩) n cap := by
    rcases hown0.2 with ⟨-, h0⟩ | ⟨g, cap, cur, h9, -⟩
    · omega
    · exact ⟨g, cap, h9⟩
  have hset := fl14_set hx (n : Int)
  have HK : ∀ W, Below w.heap.size w W → W.cell? ⟨b1, 0, none⟩ = some (.pointer (some ⟨bc, 0, none⟩)) ∧ W.cell? ⟨b2, 0, none⟩ = some (.int .i64 (p : Int)) ∧ W.cell? ⟨bc, 0, none⟩ = some (.slice (some ⟨g, 0, none⟩) n cap) ∧ W.cell? ⟨g, p * 14 + 13, none⟩ = some (.int .i64 x.dst) ∧ W.frozen? ⟨g, p * 14 + 13, none⟩ = false := fun W hW => by
    have hCW := hC.new hW
    have h1 := hCW.own
    rw [hn] at h1
    refine ⟨below_cell hW hH.c1 (World.block_lt_of_cell? w _ hH.c1), below_cell hW hH.c2 (World.block_lt_of_cell? w _ hH.c2), hCW.box.cell, ?_, h1.frozenAt _⟩
    rw [h1.cellAt _ (by omega)]
    exact fl14_get hx rfl
  have HKH : Hid (∀ W, Below w.heap.size w W → W.cell? ⟨b1, 0, none⟩ = some (.pointer (some ⟨bc, 0, none⟩)) ∧ W.cell? ⟨b2, 0, none⟩ = some (.int .i64 (p : Int)) ∧ W.cell? ⟨bc, 0, none⟩ = some (.slice (some ⟨g, 0, none⟩) n cap) ∧ W.cell? ⟨g, p * 14 + 13, none⟩ = some (.int .i64 x.dst) ∧ W.frozen? ⟨g, p * 14 + 13, none⟩ = false) := HK
  have hCH : Hid (Cod w bc (.slice (some ⟨g, 0, none⟩) n cap) xs) := hC
  have hnH : Hid (xs.length = n) := hn
  have hsetH : Hid ((fl14 xs).set (p * 14 + 13) (.int .i64 (n : Int)) = fl14 (xs.set p ⟨x.op, x.s, (n : Int)⟩)) := hset
  obtain ⟨e1, e2, e3, e4, e5⟩ := HK w (Below.refl _ _)
  have hwd : Below w.heap.size w w.drew := (Below.refl _ w).drew
  rw [hn]
  clear HK hC hH hown0 hset hn hx
  go_enter Try.func78, Try.ntmps78
  go_wp2_with fail
  go_region_law (first | (go_simp; go_at_call 65; refine (implHere _ bc _ n cap (by first | exact (HKH.out _ hwd).2.2.1)).mono ?_; rintro e w1 ⟨rfl, hb1⟩; (have hX1 : Below w.heap.size w w1 := hwd.trans hb1); (obtain ⟨f1, f2, f3, f4, f5⟩ := HKH.out w1 hX1)))
  all_goals
    have hC1 := hCH.out.new hX1
    have hn := hnH.out
    have hst := hC1.own
    rw [hn] at hst
    have hs9 := (hst.stored (p * 14 + 13) (.int .i64 (n : Int))).1
    rw [hsetH.out] at hs9
    have hco : Hid (Cod (w1.setCell ⟨g, p * 14 + 13, none⟩ (.int .i64 (n : Int))) bc (.slice (some ⟨g, 0, none⟩) n cap) (xs.set p ⟨x.op, x.s, (n : Int)⟩)) := by
      refine ⟨(Below.heap_setCell _ _ _ _ (fun e => ?_)).trans hC1.box, ?_⟩
      · have h7 := hCH.out.ne
        exact h7 (by rw [show bc = g from e]; rfl)
      · rw [List.length_set, hn]
        exact hs9
    have hwr : Hid (WrC bc w (w1.setCell ⟨g, p * 14 + 13, none⟩ (.int .i64 (n : Int))) (.slice (some ⟨g, 0, none⟩) n cap) (.slice (some ⟨g, 0, none⟩) n cap)) := ⟨(Kept.of_new _ hX1).setCell (.inr rfl) _, fun q hq => .inl hq⟩
    clear hs9 hst hC1 hn
    go_wp2
    go_returns
    exact ⟨_, rfl, hco.out, hwr.out⟩
end Go.Proofs.Ytimfdfeleoaehaa
namespace Go.Proofs.Ytimfdfeleoaehaa
open Go.RowKit Go.Shelf
set_option linter.unusedSimpArgs false
set_option linter.unusedVariables false
attribute [local go_sem] Oper.semAt_some

theorem set_rt {α : Type} (xs ys : List α) (j : Nat) (u : α) : (xs ++ ys).set (xs.length + j) u = xs ++ ys.set j u := by
  induction xs with
  | nil => simp
  | cons x xs ih =>
    rw [List.cons_append, List.length_cons, show xs.length + 1 + j = (xs.length + j) + 1 by omega, List.set_cons_succ, ih, List.cons_append]
theorem shape_one {α : Type} (xs A : List α) (x x' y : α) : (((xs ++ [x]) ++ A) ++ [y]).set xs.length x' = xs ++ (x' :: (A ++ [y])) := by
  have h1 : ((xs ++ [x]) ++ A) ++ [y] = xs ++ (x :: (A ++ [y])) := by simp
  have h2 := set_rt xs (x :: (A ++ [y])) 0 x'
  rw [Nat.add_zero, List.set_cons_zero] at h2
  rw [h1, h2]
theorem shape_two {α : Type} (xs A B : List α) (x' y y' : α) : ((xs ++ (x' :: (A ++ [y]))) ++ B).set (xs.length + 1 + A.length) y' = xs ++ (x' :: (A ++ y' :: B)) := by
  have h1 : (xs ++ (x' :: (A ++ [y]))) ++ B = xs ++ (x' :: (A ++ (y :: B))) := by simp
  have h2 := set_rt xs (x' :: (A ++ (y :: B))) (1 + A.length) y'
  have h3 := set_rt A (y :: B) 0 y'
  rw [Nat.add_zero, List.set_cons_zero] at h3
  rw [h1, show xs.length + 1 + A.length = xs.length + (1 + A.length) by omega, h2, show 1 + A.length = A.length + 1 by omega, List.set_cons_succ, h3]
theorem at_one {α : Type} (xs A : List α) (x y : α) : (((xs ++ [x]) ++ A) ++ [y])[xs.length]? = some x := by
  have h1 : ((xs ++ [x]) ++ A) ++ [y] = xs ++ (x :: (A ++ [y])) := by simp
  rw [h1, List.getElem?_append_right (Nat.le_refl _), Nat.sub_self]
  rfl
theorem at_two {α : Type} (xs A B : List α) (x' y : α) : ((xs ++ (x' :: (A ++ [y]))) ++ B)[xs.length + 1 + A.length]? = some y := by
  have h1 : (xs ++ (x' :: (A ++ [y]))) ++ B = xs ++ (x' :: (A ++ (y :: B))) := by simp
  rw [h1, List.getElem?_append_right (by omega), show xs.length + 1 + A.length - xs.length = A.length + 1 by omega, List.getElem?_cons_succ, List.getElem?_append_right (Nat.le_refl _), Nat.sub_self]
  rfl
theorem openBare (k : Int) (n : ByteArray) (e f : XT) (bc : Nat) : (∀ (W : World) (v : Value) (ys : List IX), Cod W bc v ys → ys.length ≤ 8388608 → Calls Try.prog 64 #[Value.pointer (some ⟨bc, 0, none⟩), .agg #[.int .i64 2, .int .i64 k, .string n, .int .i64 e.kind, .int .i64 e.num, .string e.name, .slice e.base e.kids.length e.cap, .int .i64 f.kind, .int .i64 f.num, .string f.name, .slice f.base f.kids.length f.cap, .slice none 0 0, .slice none 0 0, .int .i64 0]] W fun r w' => ∃ b1 b2 v', r = .returned (.func (.func 78) #[] #[.pointer (some ⟨b1, 0, none⟩), .pointer (some ⟨b2, 0, none⟩)]) ∧ Cod w' bc v' (ys ++ [⟨2, bareX k n e f, 0⟩]) ∧ WrC bc W w' v v' ∧ Hole w' bc v' b1 b2 ys.length) := fun W v ys hC hl => implWriteOpen ⟨2, bareX k n e f, 0⟩ bc v ys W hC hl
theorem openJump (bc : Nat) (W : World) (v : Value) (ys : List IX) (hC : Cod W bc v ys) (hl : ys.length ≤ 8388608) : Calls Try.prog 64 #[Value.pointer (some ⟨bc, 0, none⟩), .agg #[.int .i64 3, .int .i64 0, .string ⟨#[]⟩, .int .i64 0, .int .i64 0, .string ⟨#[]⟩, .slice none 0 0, .int .i64 0, .int .i64 0, .string ⟨#[]⟩, .slice none 0 0, .slice none 0 0, .slice none 0 0, .int .i64 0]] W fun r w' => ∃ b1 b2 v', r = .returned (.func (.func 78) #[] #[.pointer (some ⟨b1, 0, none⟩), .pointer (some ⟨b2, 0, none⟩)]) ∧ Cod w' bc v' (ys ++ [⟨3, zS, 0⟩]) ∧ WrC bc W w' v v' ∧ Hole w' bc v' b1 b2 ys.length := implWriteOpen ⟨3, zS, 0⟩ bc v ys W hC hl
theorem writeJump (bc : Nat) (d : Int) (W : World) (v : Value) (ys : List IX) (hC : Cod W bc v ys) (hl : ys.length ≤ 8388608) : Calls Try.prog 27 #[Value.pointer (some ⟨bc, 0, none⟩), .agg #[.int .i64 3, .int .i64 0, .string ⟨#[]⟩, .int .i64 0, .int .i64 0, .string ⟨#[]⟩, .slice none 0 0, .int .i64 0, .int .i64 0, .string ⟨#[]⟩, .slice none 0 0, .slice none 0 0, .slice none 0 0, .int .i64 d]] W fun r w' => ∃ q v', r = .returned q ∧ Cod w' bc v' (ys ++ [⟨3, zS, d⟩]) ∧ WrC bc W w' v v' := implWrite ⟨3, zS, d⟩ bc v ys W hC hl
theorem writeBare (k : Int) (n : ByteArray) (e f : XT) (bc : Nat) (W : World) (v : Value) (ys : List IX) (hC : Cod W bc v ys) (hl : ys.length ≤ 8388608) : Calls Try.prog 27 #[Value.pointer (some ⟨bc, 0, none⟩), .agg #[.int .i64 1, .int .i64 k, .string n, .int .i64 e.kind, .int .i64 e.num, .string e.name, .slice e.base e.kids.length e.cap, .int .i64 f.kind, .int .i64 f.num, .string f.name, .slice f.base f.kids.length f.cap, .slice none 0 0, .slice none 0 0, .int .i64 0]] W fun r w' => ∃ q v', r = .returned q ∧ Cod w' bc v' (ys ++ [⟨1, bareX k n e f, 0⟩]) ∧ WrC bc W w' v v' := implWrite ⟨1, bareX k n e f, 0⟩ bc v ys W hC hl
theorem writeEnd (bc : Nat) (W : World) (v : Value) (ys : List IX) (hC : Cod W bc v ys) (hl : ys.length ≤ 8388608) : Calls Try.prog 27 #[Value.pointer (some ⟨bc, 0, none⟩), .agg #[.int .i64 4, .int .i64 0, .string ⟨#[]⟩, .int .i64 0, .int .i64 0, .string ⟨#[]⟩, .slice none 0 0, .int .i64 0, .int .i64 0, .string ⟨#[]⟩, .slice none 0 0, .slice none 0 0, .slice none 0 0, .int .i64 0]] W fun r w' => ∃ q v', r = .returned q ∧ Cod w' bc v' (ys ++ [⟨4, zS, 0⟩]) ∧ WrC bc W w' v v' := implWrite ⟨4, zS, 0⟩ bc v ys W hC hl
set_option maxRecDepth 10000 in
set_option maxHeartbeats 8000000 in
theorem implChoice (n : ByteArray) (e f : XT) (ab : Option Addr) (ac : Nat) (la : List SX) (bb : Option Addr) (bc' : Nat) (lb : List SX) (bc : Nat) (v0 : Value) (xs : List IX) (w : World) (hC : Cod w bc v0 xs) (hlen : xs.length + 2 * (1 + (SX.sizeAll la + SX.sizeAll lb)) ≤ 8388608) (HA : ∀ (W : World) (v : Value) (ys : List IX), Cod W bc v ys → WrC bc w W v0 v → ys.length + 2 * SX.sizeAll la ≤ 8388608 → Calls Try.prog 26 #[Value.pointer (some ⟨bc, 0, none⟩), .slice ab la.length ac] W fun r w' => ∃ q v', r = .returned q ∧ Cod w' bc v' (ys ++ codeL la ys.length) ∧ WrC bc W w' v v') (HB : ∀ (W : World) (v : Value) (ys : List IX), Cod W bc v ys → WrC bc w W v0 v → ys.length + 2 * SX.sizeAll lb ≤ 8388608 → Calls Try.prog 26 #[Value.pointer (some ⟨bc, 0, none⟩), .slice bb lb.length bc'] W fun r w' => ∃ q v', r = .returned q ∧ Cod w' bc v' (ys ++ codeL lb ys.length) ∧ WrC bc W w' v v') :
    Calls Try.prog 48 #[Value.pointer (some ⟨bc, 0, none⟩), .agg #[.int .i64 3, .string n, .int .i64 e.kind, .int .i64 e.num, .string e.name, .slice e.base e.kids.length e.cap, .int .i64 f.kind, .int .i64 f.num, .string f.name, .slice f.base f.kids.length f.cap, .slice ab la.length ac, .slice bb lb.length bc']] w fun r w' => ∃ q v', r = .returned q ∧ Cod w' bc v' (xs ++ codeS (.mk 3 n e f ab ac la bb bc' lb) xs.length) ∧ WrC bc w w' v0 v' := by
  obtain ⟨W1, hW1⟩ : ∃ W1, w.alloc (.cells #[.int .i64 3, .string n, .int .i64 e.kind, .int .i64 e.num, .string e.name, .slice e.base e.kids.length e.cap, .int .i64 f.kind, .int .i64 f.num, .string f.name, .slice f.base f.kids.length f.cap, .slice ab la.length ac, .slice bb lb.length bc'] 50) = W1 := ⟨_, rfl⟩
  have hs1 : w.heap.size + 1 = W1.heap.size := by rw [← hW1]; simp
  have hB1 : Below w.heap.size w W1 := by rw [← hW1]; exact (Below.refl _ w).alloc (Nat.le_refl _) _
  have hD : Cells12 W1 w.heap.size 0 (.mk 3 n e f ab ac la bb bc' lb) := by rw [← hW1]; exact Cells12.new w (.mk 3 n e f ab ac la bb bc' lb) _
  have hbl := hC.box.lt
  have hvl : ∀ g, v0.ownBlock = some g → g < w.heap.size := fun g hg => (hC.own.lt g hg).2
  have hDW : Hid (∀ (W : World) (v : Value), WrC bc w W v0 v → WrC bc W1 W v0 v → Cells12 W w.heap.size 0 (.mk 3 n e f ab ac la bb bc' lb)) := fun W v _ hw => hD.kept hw.kept (fun hs => hs.elim (fun q => by omega) (fun q => by have := hvl _ q; omega))
  have hC1 := hC.new hB1
  have hw1 : WrC bc w W1 v0 v0 := WrC.new hB1
  obtain ⟨m, hm⟩ : ∃ m, xs.length = m := ⟨_, rfl⟩
  have hla := codeL_len la (m + 1)
  have hcode : codeS (.mk 3 n e f ab ac la bb bc' lb) m = _ := codeS_eq (.mk 3 n e f ab ac la bb bc' lb) m
  simp only [SX.kind, SX.name, SX.e, SX.f, SX.la, SX.lb, if_true] at hcode
  have hlb := codeL_len lb (m + 2 + (codeL la (m + 1)).length)
  have hHA : Hid (∀ (W : World) (v : Value) (ys : List IX), Cod W bc v ys → WrC bc w W v0 v → ys.length + 2 * SX.sizeAll la ≤ 8388608 → Calls Try.prog 26 #[Value.pointer (some ⟨bc, 0, none⟩), .slice ab la.length ac] W fun r w' => ∃ q v', r = .returned q ∧ Cod w' bc v' (ys ++ codeL la ys.length) ∧ WrC bc W w' v v') := HA
  have hHB : Hid (∀ (W : World) (v : Value) (ys : List IX), Cod W bc v ys → WrC bc w W v0 v → ys.length + 2 * SX.sizeAll lb ≤ 8388608 → Calls Try.prog 26 #[Value.pointer (some ⟨bc, 0, none⟩), .slice bb lb.length bc'] W fun r w' => ∃ q v', r = .returned q ∧ Cod w' bc v' (ys ++ codeL lb ys.length) ∧ WrC bc W w' v v') := HB
  have hcodeH : Hid (codeS (.mk 3 n e f ab ac la bb bc' lb) m = _) := hcode
  have hmH : Hid (xs.length = m) := hm
  have hC1H : Hid (Cod W1 bc v0 xs) := hC1
  have hw1H : Hid (WrC bc w W1 v0 v0) := hw1
  obtain ⟨c0, c1, c2, c3, c4, c5, c6, c7, c8, c9, c10, c11⟩ := raw12 hD
  have hwd : Below W1.heap.size W1 W1.drew := (Below.refl _ W1).drew
  clear HA HB hcode hC1 hw1 hm hC
  go_enter Try.func48, Try.ntmps48
  go_wp2_with fail
  go_region_law (first | (go_simp; go_at_call 64; refine (openBare 3 n e f bc w2 v0 xs (by exact hC2H.out) (by have := hmH.out; omega)).mono ?_; rintro r w3 ⟨b1, b2, v3, rfl, hC3, hw3, hH3⟩; (have hC3H : Hid (Cod w3 bc v3 (xs ++ [⟨2, bareX 3 n e f, 0⟩])) := hC3); (have hw3H : Hid (WrC bc w2 w3 v0 v3) := hw3); (have hH3H : Hid (Hole w3 bc v3 b1 b2 xs.length) := hH3); (clear hC3 hw3 hH3)) | (go_simp; go_at_call 50; refine (implBare _ _ _ _ _ _ _ _ _ _ _).mono ?_; rintro r w2 ⟨rfl, hB2⟩; (have hC2H : Hid (Cod w2 bc v0 xs) := hC1H.out.new (hwd.trans hB2)); (have hw2H : Hid (WrC bc W1 w2 v0 v0) := WrC.new (hwd.trans hB2))))
  all_goals
    have hX3 : WrC bc w w3 v0 v3 := hw1H.out.trans (hw2H.out.trans hw3H.out)
    have hY3 : WrC bc W1 w3 v0 v3 := hw2H.out.trans hw3H.out
    clear c0 c1 c2 c3 c4 c5 c6 c7 c8 c9 c10 c11
    obtain ⟨c0, c1, c2, c3, c4, c5, c6, c7, c8, c9, c10, c11⟩ := raw12 (hDW.out w3 v3 hX3 hY3)
    have hm := hmH.out
    have hl3 : (xs ++ [(⟨2, bareX 3 n e f, 0⟩ : IX)]).length = m + 1 := by rw [List.length_append, hm]; rfl
    have hcA := hHA.out w3 v3 _ hC3H.out hX3 (by rw [hl3]; omega)
    rw [hl3] at hcA
    obtain ⟨xa, hxa⟩ : ∃ xa, codeL la (m + 1) = xa := ⟨_, rfl⟩
    rw [hxa] at hcA hla hlb
    have hcodeE := hcodeH.out
    rw [hxa] at hcodeE
    obtain ⟨na, hna⟩ : ∃ na, xa.length = na := ⟨_, rfl⟩
    rw [hna] at hla hlb hcodeE
    obtain ⟨xb, hxb⟩ : ∃ xb, codeL lb (m + 2 + na) = xb := ⟨_, rfl⟩
    rw [hxb] at hlb hcodeE
    have hcodeF : Hid (codeS (.mk 3 n e f ab ac la bb bc' lb) m = _) := hcodeE
    have hX3H : Hid (WrC bc w w3 v0 v3) := hX3
    have hY3H : Hid (WrC bc W1 w3 v0 v3) := hY3
    have hnaH : Hid (xa.length = na) := hna
    have hxbH : Hid (codeL lb (m + 2 + na) = xb) := hxb
    clear hcodeE hcodeH hX3 hY3 hl3 hxa hna hxb hm
    go_wp2_with fail
    go_at_call 26
    refine hcA.mono ?_
    clear hcA c0 c1 c2 c3 c4 c5 c6 c7 c8 c9 c10 c11
    rintro r w4 ⟨q4, v4, rfl, hC4, hw4⟩
    have hm := hmH.out
    have hl4 : ((xs ++ [(⟨2, bareX 3 n e f, 0⟩ : IX)]) ++ xa).length = m + 1 + na := by rw [List.length_append, List.length_append, hm, hnaH.out]; rfl
    have hcJ := openJump bc w4 v4 _ hC4 (by rw [hl4]; omega)
    rw [hl4] at hcJ
    have hw4H : Hid (WrC bc w3 w4 v3 v4) := hw4
    have hl4H : Hid (((xs ++ [(⟨2, bareX 3 n e f, 0⟩ : IX)]) ++ xa).length = m + 1 + na) := hl4
    clear hC4 hw4 hl4 hm
    go_wp2_with fail
    go_at_call 64
    refine hcJ.mono ?_
    clear hcJ
    rintro r w5 ⟨d1, d2, v5, rfl, hC5, hw5, hK5⟩
    have hm := hmH.out
    have hl5 : (((xs ++ [(⟨2, bareX 3 n e f, 0⟩ : IX)]) ++ xa) ++ [(⟨3, zS, 0⟩ : IX)]).length = m + 2 + na := by rw [List.length_append, hl4H.out]; show m + 1 + na + 1 = m + 2 + na; omega
    have hat := at_one xs xa (⟨2, bareX 3 n e f, 0⟩ : IX) (⟨3, zS, 0⟩ : IX)
    have hH5 : Hole w5 bc v5 b1 b2 xs.length := (hH3H.out.on hw4H.out).on hw5
    have hcF := implFill bc v5 _ b1 b2 xs.length (⟨2, bareX 3 n e f, 0⟩ : IX) w5 hC5 (by rw [hl5]; omega) hH5 hat
    rw [hl5, shape_one] at hcF
    have hK5H : Hid (Hole w5 bc v5 d1 d2 (m + 1 + na)) := hK5
    have hw5H : Hid (WrC bc w4 w5 v4 v5) := hw5
    clear hC5 hw5 hK5 hat hl5 hm hH5
    go_wp2_with fail
    go_at_call 78
    refine hcF.mono ?_
    clear hcF
    rintro r w6 ⟨q6, rfl, hC6, hw6⟩
    have hm := hmH.out
    have hX6 : WrC bc w w6 v0 v5 := ((hX3H.out.trans hw4H.out).trans hw5H.out).trans hw6
    have hY6 : WrC bc W1 w6 v0 v5 := ((hY3H.out.trans hw4H.out).trans hw5H.out).trans hw6
    obtain ⟨c0, c1, c2, c3, c4, c5, c6, c7, c8, c9, c10, c11⟩ := raw12 (hDW.out w6 v5 hX6 hY6)
    have hl6 : (xs ++ ((⟨2, bareX 3 n e f, ((m + 2 + na : Nat) : Int)⟩ : IX) :: (xa ++ [⟨3, zS, 0⟩]))).length = m + 2 + na := by rw [List.length_append, List.length_cons, List.length_append, hm, hnaH.out]; show m + (na + 1 + 1) = m + 2 + na; omega
    have hcB := hHB.out w6 v5 _ hC6 hX6 (by rw [hl6]; omega)
    rw [hl6, hxbH.out] at hcB
    have hX6H : Hid (WrC bc w w6 v0 v5) := hX6
    have hK6H : Hid (Hole w6 bc v5 d1 d2 (m + 1 + na)) := hK5H.out.on hw6
    have hl6H : Hid ((xs ++ ((⟨2, bareX 3 n e f, ((m + 2 + na : Nat) : Int)⟩ : IX) :: (xa ++ [⟨3, zS, 0⟩]))).length = m + 2 + na) := hl6
    clear hC6 hw6 hX6 hY6 hl6 hm
    go_wp2_with fail
    go_at_call 26
    refine hcB.mono ?_
    clear hcB c0 c1 c2 c3 c4 c5 c6 c7 c8 c9 c10 c11
    rintro r w7 ⟨q7, v7, rfl, hC7, hw7⟩
    have hm := hmH.out
    have hl7 : ((xs ++ ((⟨2, bareX 3 n e f, ((m + 2 + na : Nat) : Int)⟩ : IX) :: (xa ++ [⟨3, zS, 0⟩]))) ++ xb).length = m + 2 + na + xb.length := by rw [List.length_append, hl6H.out]
    have hat := at_two xs xa xb (⟨2, bareX 3 n e f, ((m + 2 + na : Nat) : Int)⟩ : IX) (⟨3, zS, 0⟩ : IX)
    rw [hm, hnaH.out] at hat
    have hcG := implFill bc v7 _ d1 d2 (m + 1 + na) (⟨3, zS, 0⟩ : IX) w7 hC7 (by rw [hl7]; omega) (hK6H.out.on hw7) hat
    have hsh := shape_two xs xa xb (⟨2, bareX 3 n e f, ((m + 2 + na : Nat) : Int)⟩ : IX) (⟨3, zS, 0⟩ : IX) (⟨3, zS, ((m + 2 + na + xb.length : Nat) : Int)⟩ : IX)
    rw [hm, hnaH.out] at hsh
    rw [hl7, hsh] at hcG
    have hw7H : Hid (WrC bc w6 w7 v5 v7) := hw7
    clear hC7 hw7 hat hl7 hm hsh
    go_wp2_with fail
    go_at_call 78
    refine hcG.mono ?_
    clear hcG
    rintro r w8 ⟨q8, rfl, hC8, hw8⟩
    have hC8H : Hid (Cod w8 bc v7 (xs ++ ((⟨2, bareX 3 n e f, ((m + 2 + na : Nat) : Int)⟩ : IX) :: (xa ++ (⟨3, zS, ((m + 2 + na + xb.length : Nat) : Int)⟩ : IX) :: xb)))) := hC8
    have hw8H : Hid (WrC bc w w8 v0 v7) := (hX6H.out.trans hw7H.out).trans hw8
    clear hC8 hw8
    go_wp2
    go_returns
    refine ⟨_, v7, rfl, ?_, hw8H.out⟩
    rw [hmH.out, hcodeF.out]
    exact hC8H.out
set_option maxRecDepth 10000 in
set_option maxHeartbeats 8000000 in
theorem implRound (n : ByteArray) (e f : XT) (ab : Option Addr) (ac : Nat) (la : List SX) (bb : Option Addr) (bc' : Nat) (lb : List SX) (bc : Nat) (v0 : Value) (xs : List IX) (w : World) (hC : Cod w bc v0 xs) (hlen : xs.length + 2 * (1 + (SX.sizeAll la + SX.sizeAll lb)) ≤ 8388608) (HA : ∀ (W : World) (v : Value) (ys : List IX), Cod W bc v ys → WrC bc w W v0 v → ys.length + 2 * SX.sizeAll la ≤ 8388608 → Calls Try.prog 26 #[Value.pointer (some ⟨bc, 0, none⟩), .slice ab la.length ac] W fun r w' => ∃ q v', r = .returned q ∧ Cod w' bc v' (ys ++ codeL la ys.length) ∧ WrC bc W w' v v') :
    Calls Try.prog 49 #[Value.pointer (some ⟨bc, 0, none⟩), .agg #[.int .i64 4, .string n, .int .i64 e.kind, .int .i64 e.num, .string e.name, .slice e.base e.kids.length e.cap, .int .i64 f.kind, .int .i64 f.num, .string f.name, .slice f.base f.kids.length f.cap, .slice ab la.length ac, .slice bb lb.length bc']] w fun r w' => ∃ q v', r = .returned q ∧ Cod w' bc v' (xs ++ codeS (.mk 4 n e f ab ac la bb bc' lb) xs.length) ∧ WrC bc w w' v0 v' := by
  obtain ⟨W1, hW1⟩ : ∃ W1, w.alloc (.cells #[.int .i64 4, .string n, .int .i64 e.kind, .int .i64 e.num, .string e.name, .slice e.base e.kids.length e.cap, .int .i64 f.kind, .int .i64 f.num, .string f.name, .slice f.base f.kids.length f.cap, .slice ab la.length ac, .slice bb lb.length bc'] 50) = W1 := ⟨_, rfl⟩
  have hs1 : w.heap.size + 1 = W1.heap.size := by rw [← hW1]; simp
  have hB1 : Below w.heap.size w W1 := by rw [← hW1]; exact (Below.refl _ w).alloc (Nat.le_refl _) _
  have hD : Cells12 W1 w.heap.size 0 (.mk 4 n e f ab ac la bb bc' lb) := by rw [← hW1]; exact Cells12.new w (.mk 4 n e f ab ac la bb bc' lb) _
  have hbl := hC.box.lt
  have hvl : ∀ g, v0.ownBlock = some g → g < w.heap.size := fun g hg => (hC.own.lt g hg).2
  have hDW : Hid (∀ (W : World) (v : Value), WrC bc w W v0 v → WrC bc W1 W v0 v → Cells12 W w.heap.size 0 (.mk 4 n e f ab ac la bb bc' lb)) := fun W v _ hw => hD.kept hw.kept (fun hs => hs.elim (fun q => by omega) (fun q => by have := hvl _ q; omega))
  have hC1 := hC.new hB1
  have hw1 : WrC bc w W1 v0 v0 := WrC.new hB1
  obtain ⟨m, hm⟩ : ∃ m, xs.length = m := ⟨_, rfl⟩
  have hla := codeL_len la (m + 1)
  have hcode : codeS (.mk 4 n e f ab ac la bb bc' lb) m = _ := codeS_eq (.mk 4 n e f ab ac la bb bc' lb) m
  simp only [SX.kind, SX.name, SX.e, SX.f, SX.la, SX.lb, if_true, if_false, Int.reduceEq] at hcode
  have hHA : Hid (∀ (W : World) (v : Value) (ys : List IX), Cod W bc v ys → WrC bc w W v0 v → ys.length + 2 * SX.sizeAll la ≤ 8388608 → Calls Try.prog 26 #[Value.pointer (some ⟨bc, 0, none⟩), .slice ab la.length ac] W fun r w' => ∃ q v', r = .returned q ∧ Cod w' bc v' (ys ++ codeL la ys.length) ∧ WrC bc W w' v v') := HA
  have hcodeH : Hid (codeS (.mk 4 n e f ab ac la bb bc' lb) m = _) := hcode
  have hmH : Hid (xs.length = m) := hm
  have hC1H : Hid (Cod W1 bc v0 xs) := hC1
  have hw1H : Hid (WrC bc w W1 v0 v0) := hw1
  have hDH : Hid (Cells12 W1 w.heap.size 0 (.mk 4 n e f ab ac la bb bc' lb)) := hD
  obtain ⟨av, cv, hv⟩ := hC1.shape
  have k1 := hC1.box.cell
  rw [hv, hm] at k1
  have hh := implHere W1 bc av m cv k1
  clear HA hcode hC1 hw1 hm hC hv k1 hD
  go_enter Try.func49, Try.ntmps49
  go_wp2_with fail
  go_at_call 65
  refine hh.mono ?_
  clear hh
  rintro r wh ⟨rfl, hBh⟩
  obtain ⟨c0, c1, c2, c3, c4, c5, c6, c7, c8, c9, c10, c11⟩ := raw12 (hDH.out.below hBh (by omega))
  have hwd : Below wh.heap.size wh wh.drew := (Below.refl _ wh).drew
  have hC1h : Hid (Cod wh bc v0 xs) := hC1H.out.new hBh
  have hwh : Hid (WrC bc W1 wh v0 v0) := WrC.new hBh
  go_wp2_with fail
  go_region_law (first | (go_simp; go_at_call 64; refine (openBare 4 n e f bc w2 v0 xs (by exact hC2H.out) (by have := hmH.out; omega)).mono ?_; rintro r w3 ⟨b1, b2, v3, rfl, hC3, hw3, hH3⟩; (have hC3H : Hid (Cod w3 bc v3 (xs ++ [⟨2, bareX 4 n e f, 0⟩])) := hC3); (have hw3H : Hid (WrC bc w2 w3 v0 v3) := hw3); (have hH3H : Hid (Hole w3 bc v3 b1 b2 xs.length) := hH3); (clear hC3 hw3 hH3)) | (go_simp; go_at_call 50; refine (implBare _ _ _ _ _ _ _ _ _ _ _).mono ?_; rintro r w2 ⟨rfl, hB2⟩; (have hC2H : Hid (Cod w2 bc v0 xs) := hC1h.out.new (hwd.trans hB2)); (have hw2H : Hid (WrC bc wh w2 v0 v0) := WrC.new (hwd.trans hB2))))
  all_goals
    have hY3 : WrC bc W1 w3 v0 v3 := (hwh.out.trans hw2H.out).trans hw3H.out
    have hX3 : WrC bc w w3 v0 v3 := hw1H.out.trans hY3
    clear c0 c1 c2 c3 c4 c5 c6 c7 c8 c9 c10 c11
    obtain ⟨c0, c1, c2, c3, c4, c5, c6, c7, c8, c9, c10, c11⟩ := raw12 (hDW.out w3 v3 hX3 hY3)
    have hm := hmH.out
    have hl3 : (xs ++ [(⟨2, bareX 4 n e f, 0⟩ : IX)]).length = m + 1 := by rw [List.length_append, hm]; rfl
    have hcA := hHA.out w3 v3 _ hC3H.out hX3 (by rw [hl3]; omega)
    rw [hl3] at hcA
    obtain ⟨xa, hxa⟩ : ∃ xa, codeL la (m + 1) = xa := ⟨_, rfl⟩
    rw [hxa] at hcA hla
    have hcodeE := hcodeH.out
    rw [hxa] at hcodeE
    obtain ⟨na, hna⟩ : ∃ na, xa.length = na := ⟨_, rfl⟩
    rw [hna] at hla hcodeE
    have hcodeF : Hid (codeS (.mk 4 n e f ab ac la bb bc' lb) m = _) := hcodeE
    have hX3H : Hid (WrC bc w w3 v0 v3) := hX3
    have hnaH : Hid (xa.length = na) := hna
    clear hcodeE hcodeH hX3 hY3 hl3 hxa hna hm
    go_wp2_with fail
    go_at_call 26
    refine hcA.mono ?_
    clear hcA c0 c1 c2 c3 c4 c5 c6 c7 c8 c9 c10 c11
    rintro r w4 ⟨q4, v4, rfl, hC4, hw4⟩
    have hm := hmH.out
    have hl4 : ((xs ++ [(⟨2, bareX 4 n e f, 0⟩ : IX)]) ++ xa).length = m + 1 + na := by rw [List.length_append, List.length_append, hm, hnaH.out]; rfl
    have hcJ := writeJump bc (m : Int) w4 v4 _ hC4 (by rw [hl4]; omega)
    have hw4H : Hid (WrC bc w3 w4 v3 v4) := hw4
    have hl4H : Hid (((xs ++ [(⟨2, bareX 4 n e f, 0⟩ : IX)]) ++ xa).length = m + 1 + na) := hl4
    clear hC4 hw4 hl4 hm
    go_wp2_with fail
    go_at_call 27
    refine hcJ.mono ?_
    clear hcJ
    rintro r w5 ⟨q5, v5, rfl, hC5, hw5⟩
    have hm := hmH.out
    have hl5 : (((xs ++ [(⟨2, bareX 4 n e f, 0⟩ : IX)]) ++ xa) ++ [(⟨3, zS, (m : Int)⟩ : IX)]).length = m + 2 + na := by rw [List.length_append, hl4H.out]; show m + 1 + na + 1 = m + 2 + na; omega
    have hat := at_one xs xa (⟨2, bareX 4 n e f, 0⟩ : IX) (⟨3, zS, (m : Int)⟩ : IX)
    have hH5 : Hole w5 bc v5 b1 b2 xs.length := (hH3H.out.on hw4H.out).on hw5
    have hcF := implFill bc v5 _ b1 b2 xs.length (⟨2, bareX 4 n e f, 0⟩ : IX) w5 hC5 (by rw [hl5]; omega) hH5 hat
    rw [hl5, shape_one] at hcF
    have hw5H : Hid (WrC bc w4 w5 v4 v5) := hw5
    clear hC5 hw5 hat hl5 hm hH5
    go_wp2_with fail
    go_at_call 78
    refine hcF.mono ?_
    clear hcF
    rintro r w6 ⟨q6, rfl, hC6, hw6⟩
    have hC6H : Hid (Cod w6 bc v5 (xs ++ ((⟨2, bareX 4 n e f, ((m + 2 + na : Nat) : Int)⟩ : IX) :: (xa ++ [(⟨3, zS, (m : Int)⟩ : IX)])))) := hC6
    have hw6H : Hid (WrC bc w w6 v0 v5) := ((hX3H.out.trans hw4H.out).trans hw5H.out).trans hw6
    clear hC6 hw6
    go_wp2
    go_returns
    refine ⟨_, v5, rfl, ?_, hw6H.out⟩
    rw [hmH.out, hcodeF.out]
    exact hC6H.out
end Go.Proofs.Ytimfdfeleoaehaa
namespace Go.Proofs.Ytimfdfeleoaehaa
open Go.RowKit Go.Shelf
set_option linter.unusedSimpArgs false
set_option linter.unusedVariables false
attribute [local go_sem] Oper.semAt_some

theorem raw12o {W : World} {b o : Nat} {k : Int} {n : ByteArray} {e f : XT} {ab : Option Addr} {ac : Nat} {la : List SX} {bb : Option Addr} {bc' : Nat} {lb : List SX} (h : Cells12 W b o (.mk k n e f ab ac la bb bc' lb)) : W.cell? ⟨b, o, none⟩ = some (.int .i64 k) ∧ W.cell? ⟨b, o + 1, none⟩ = some (.string n) ∧ W.cell? ⟨b, o + 2, none⟩ = some (.int .i64 e.kind) ∧ W.cell? ⟨b, o + 3, none⟩ = some (.int .i64 e.num) ∧ W.cell? ⟨b, o + 4, none⟩ = some (.string e.name) ∧ W.cell? ⟨b, o + 5, none⟩ = some (.slice e.base e.kids.length e.cap) ∧ W.cell? ⟨b, o + 6, none⟩ = some (.int .i64 f.kind) ∧ W.cell? ⟨b, o + 7, none⟩ = some (.int .i64 f.num) ∧ W.cell? ⟨b, o + 8, none⟩ = some (.string f.name) ∧ W.cell? ⟨b, o + 9, none⟩ = some (.slice f.base f.kids.length f.cap) ∧ W.cell? ⟨b, o + 10, none⟩ = some (.slice ab la.length ac) ∧ W.cell? ⟨b, o + 11, none⟩ = some (.slice bb lb.length bc') := ⟨h.c0, h.c1, h.c2, h.c3, h.c4, h.c5, h.c6, h.c7, h.c8, h.c9, h.c10, h.c11⟩
def Sep (ok : Nat → Prop) (W : World) (bc : Nat) (v : Value) : Prop := ∀ b, ok b → b < W.heap.size ∧ b ≠ bc ∧ v.ownBlock ≠ some b
theorem Sep.on {ok : Nat → Prop} {A B : World} {bc : Nat} {v v' : Value} (h : Sep ok A bc v) (k : WrC bc A B v v') : Sep ok B bc v' := fun b hb => by
  obtain ⟨h1, h2, h3⟩ := h b hb
  refine ⟨Nat.lt_of_lt_of_le h1 k.kept.size, h2, fun e => ?_⟩
  rcases k.own b e with q | q
  · exact h3 q
  · omega
theorem Sep.off {ok : Nat → Prop} {A : World} {bc : Nat} {v : Value} (h : Sep ok A bc v) : ∀ b, ok b → ¬ (b = bc ∨ v.ownBlock = some b) := fun b hb hs => by
  obtain ⟨h1, h2, h3⟩ := h b hb
  exact hs.elim h2 h3
set_option maxRecDepth 10000 in
set_option maxHeartbeats 8000000 in
theorem implCoder (sz : Nat) : ∀ ks : List SX, SX.sizeAll ks ≤ sz → ∀ (a : Option Addr) (c : Nat) (ok : Nat → Prop) (w : World), SRow ok w a ks → (∀ (i : Nat) (k : SX), ks[i]? = some k → LiesS ok w k) → ∀ (bc : Nat) (v0 : Value) (xs : List IX), Sep ok w bc v0 → Cod w bc v0 xs → xs.length + 2 * SX.sizeAll ks ≤ 8388608 →
    Calls Try.prog 26 #[Value.pointer (some ⟨bc, 0, none⟩), .slice a ks.length c] w fun r w' => ∃ q v', r = .returned q ∧ Cod w' bc v' (xs ++ codeL ks xs.length) ∧ WrC bc w w' v0 v' := by
  induction sz using Nat.strongRecOn with
  | _ sz ih =>
  intro ks hsz a c ok w hR hL bc v0 xs hS hC hlim
  obtain ⟨len, hl⟩ : ∃ len, ks.length = len := ⟨_, rfl⟩
  have hlen : len ≤ 4194304 := by have := SX.length_le ks; omega
  obtain ⟨m, hm⟩ : ∃ m, xs.length = m := ⟨_, rfl⟩
  have hmH : Hid (xs.length = m) := hm
  have hlH : Hid (ks.length = len) := hl
  have ihH : Hid (∀ (l : List SX), SX.sizeAll l < sz → ∀ (a : Option Addr) (c : Nat) (ok : Nat → Prop) (w : World), SRow ok w a l → (∀ (i : Nat) (k : SX), l[i]? = some k → LiesS ok w k) → ∀ (bc : Nat) (v0 : Value) (xs : List IX), Sep ok w bc v0 → Cod w bc v0 xs → xs.length + 2 * SX.sizeAll l ≤ 8388608 →
    Calls Try.prog 26 #[Value.pointer (some ⟨bc, 0, none⟩), .slice a l.length c] w fun r w' => ∃ q v', r = .returned q ∧ Cod w' bc v' (xs ++ codeL l xs.length) ∧ WrC bc w w' v0 v') := fun l hl => ih _ hl l (Nat.le_refl _)
  have hSH : Hid (Sep ok w bc v0) := hS
  have hLH : Hid (∀ (i : Nat) (k : SX), ks[i]? = some k → LiesS ok w k) := hL
  have hRH : Hid (SRow ok w a ks) := hR
  have hC0 : Hid (Cod w bc v0 (xs ++ codeL (ks.take 0) m)) := by
    rw [List.take_zero]
    show Cod w bc v0 (xs ++ codeL [] m)
    rw [codeL, List.append_nil]
    exact hC
  have hW0 : Hid (WrC bc w w v0 v0) := WrC.new (Below.refl _ _)
  have hszH : Hid (SX.sizeAll ks ≤ sz) := hsz
  rw [hl, hm]
  rw [hm] at hlim
  clear ih hS hL hR hC hl hm hsz
  go_enter Try.func26, Try.ntmps26
  go_wp2_with fail
  go_loopw [8] (fun v8 wr => ∃ (i : Nat) (v : Value), v8 = .int .i64 i ∧ i ≤ len ∧ Hid (Cod wr bc v (xs ++ codeL (ks.take i) m)) ∧ Hid (WrC bc w wr v0 v)) (fun v8 _ => len - (intOf v8).toNat)
  case atStart => exact ⟨0, v0, rfl, by omega, hC0, hW0⟩
  case round =>
    obtain ⟨i, v, rfl, hi, hC, hW⟩ := hrel
    by_cases hlt : i < len
    · obtain ⟨x, hx⟩ : ∃ x, ks[i]? = some x := ⟨_, List.getElem?_eq_getElem (by have := hlH.out; omega)⟩
      obtain ⟨b1, o1, hbase1, hok1, hc1⟩ := hRH.out i x hx
      have hct := codeL_take hx m
      have htl := codeL_take_len hx m
      have hxz := SX.size_get hx
      have hxe := x.size_eq
      have hxL := hLH.out i x hx
      obtain ⟨z, hz⟩ : ∃ z, (codeL (ks.take i) m).length = z := ⟨_, rfl⟩
      rw [hz] at hct htl
      have hyl : (xs ++ codeL (ks.take i) m).length = m + z := by rw [List.length_append, hmH.out, hz]
      have hctH : Hid (codeL (ks.take (i + 1)) m = codeL (ks.take i) m ++ codeS x (m + z)) := hct
      have hylH : Hid ((xs ++ codeL (ks.take i) m).length = m + z) := hyl
      clear hct hyl hz
      obtain ⟨k, n, e, f, ab, ac, la, bb, bc', lb⟩ := x
      obtain ⟨p1, p2, p3, p4, p5, p6⟩ := hxL.parts
      have hoff := hSH.out.off
      obtain ⟨c0, c1, c2, c3, c4, c5, c6, c7, c8, c9, c10, c11⟩ := raw12o (hc1.kept hW.out.kept (hoff b1 hok1))
      obtain ⟨W4, hW4⟩ : ∃ W4, wr.alloc (.cells #[.int .i64 k, .string n, .int .i64 e.kind, .int .i64 e.num, .string e.name, .slice e.base e.kids.length e.cap, .int .i64 f.kind, .int .i64 f.num, .string f.name, .slice f.base f.kids.length f.cap, .slice ab la.length ac, .slice bb lb.length bc'] 50) = W4 := ⟨_, rfl⟩
      have hB4 : Below wr.heap.size wr W4 := by rw [← hW4]; exact (Below.refl _ _).alloc (Nat.le_refl _) _
      have hD4 : Cells12 W4 wr.heap.size 0 (.mk k n e f ab ac la bb bc' lb) := by rw [← hW4]; exact Cells12.new wr (.mk k n e f ab ac la bb bc' lb) _
      have hC4 : Hid (Cod W4 bc v (xs ++ codeL (ks.take i) m)) := hC.out.new hB4
      have hWn : Hid (WrC bc w W4 v0 v) := hW.out.trans (WrC.new hB4)
      obtain ⟨d0, d1, d2, d3, d4, d5, d6, d7, d8, d9, d10, d11⟩ := raw12 hD4
      have hHA : Hid (∀ (W : World) (v2 : Value) (ys : List IX), Cod W bc v2 ys → WrC bc W4 W v v2 → ys.length + 2 * SX.sizeAll la ≤ 8388608 → Calls Try.prog 26 #[Value.pointer (some ⟨bc, 0, none⟩), .slice ab la.length ac] W fun r w' => ∃ q v', r = .returned q ∧ Cod w' bc v' (ys ++ codeL la ys.length) ∧ WrC bc W w' v2 v') := fun W v2 ys hCW hWW hlW => by
        have hWW' := hWn.out.trans hWW
        exact ihH.out la (by have := hszH.out; simp only [SX.la, SX.lb] at hxe; omega) ab ac ok W (SRow.mono p3 fun b' ho' hb' => ⟨ho', hWW'.kept.block b' hb' (hoff b' ho')⟩) (fun j y hy => (p5 j y hy).kept hWW'.kept hoff) bc v2 ys (hSH.out.on hWW') hCW hlW
      have hHB : Hid (∀ (W : World) (v2 : Value) (ys : List IX), Cod W bc v2 ys → WrC bc W4 W v v2 → ys.length + 2 * SX.sizeAll lb ≤ 8388608 → Calls Try.prog 26 #[Value.pointer (some ⟨bc, 0, none⟩), .slice bb lb.length bc'] W fun r w' => ∃ q v', r = .returned q ∧ Cod w' bc v' (ys ++ codeL lb ys.length) ∧ WrC bc W w' v2 v') := fun W v2 ys hCW hWW hlW => by
        have hWW' := hWn.out.trans hWW
        exact ihH.out lb (by have := hszH.out; simp only [SX.la, SX.lb] at hxe; omega) bb bc' ok W (SRow.mono p4 fun b' ho' hb' => ⟨ho', hWW'.kept.block b' hb' (hoff b' ho')⟩) (fun j y hy => (p6 j y hy).kept hWW'.kept hoff) bc v2 ys (hSH.out.on hWW') hCW hlW
      simp only [SX.la, SX.lb] at hxe
      subst hbase1
      clear hc1 hxL p1 p2 p3 p4 p5 p6 hx hoff hD4
      by_cases h3 : k = 3
      · subst h3
        have hch := implChoice n e f ab ac la bb bc' lb bc v _ W4 hC4.out (by rw [hylH.out]; omega) hHA.out hHB.out
        rw [hylH.out] at hch
        go_wp2_with fail
        all_goals first | (exfalso; omega) | skip
        go_at_call 48
        refine hch.mono ?_
        clear hch
        rintro r w5 ⟨q, v5, rfl, hC5, hw5⟩
        have hC5H : Hid (Cod w5 bc v5 (xs ++ codeL (ks.take (i + 1)) m)) := by
          rw [hctH.out, ← List.append_assoc]
          exact hC5
        have hw5H : Hid (WrC bc w w5 v0 v5) := hWn.out.trans hw5
        clear hC5 hw5
        go_wp2
        go_roundw
        case rel => exact ⟨i + 1, v5, by go_num, by omega, hC5H, hw5H⟩
        case measure => simp [intOf]; omega
      · by_cases h4 : k = 4
        · subst h4
          have hch := implRound n e f ab ac la bb bc' lb bc v _ W4 hC4.out (by rw [hylH.out]; omega) hHA.out
          rw [hylH.out] at hch
          go_wp2_with fail
          all_goals first | (exfalso; omega) | skip
          go_at_call 49
          refine hch.mono ?_
          clear hch
          rintro r w5 ⟨q, v5, rfl, hC5, hw5⟩
          have hC5H : Hid (Cod w5 bc v5 (xs ++ codeL (ks.take (i + 1)) m)) := by
            rw [hctH.out, ← List.append_assoc]
            exact hC5
          have hw5H : Hid (WrC bc w w5 v0 v5) := hWn.out.trans hw5
          clear hC5 hw5
          go_wp2
          go_roundw
          case rel => exact ⟨i + 1, v5, by go_num, by omega, hC5H, hw5H⟩
          case measure => simp [intOf]; omega
        · have hcd : Hid (codeS (.mk k n e f ab ac la bb bc' lb) (m + z) = [⟨1, bareX k n e f, 0⟩]) := by
            show _ = _
            rw [codeS, if_neg h3, if_neg h4]
          have hwd : Below W4.heap.size W4 W4.drew := (Below.refl _ W4).drew
          clear hHA hHB
          go_wp2_with fail
          all_goals first | (exfalso; omega) | skip
          go_region_law (first | (go_simp; go_at_call 27; refine (writeBare k n e f bc w5 v _ (by exact hC5H.out) (by rw [hylH.out]; omega)).mono ?_; rintro r w6 ⟨q6, v6, rfl, hC6, hw6⟩; (have hC6H : Hid (Cod w6 bc v6 ((xs ++ codeL (ks.take i) m) ++ [⟨1, bareX k n e f, 0⟩])) := hC6); (have hw6H : Hid (WrC bc w5 w6 v v6) := hw6); (clear hC6 hw6)) | (go_simp; go_at_call 50; refine (implBare _ _ _ _ _ _ _ _ _ _ _).mono ?_; rintro r w5 ⟨rfl, hB5⟩; (have hC5H : Hid (Cod w5 bc v (xs ++ codeL (ks.take i) m)) := hC4.out.new (hwd.trans hB5)); (have hw5H : Hid (WrC bc W4 w5 v v) := WrC.new (hwd.trans hB5))))
          all_goals
            have hC7H : Hid (Cod w6 bc v6 (xs ++ codeL (ks.take (i + 1)) m)) := by
              rw [hctH.out, hcd.out, ← List.append_assoc]
              exact hC6H.out
            have hw7H : Hid (WrC bc w w6 v0 v6) := (hWn.out.trans hw5H.out).trans hw6H.out
            go_wp2
            go_roundw
            case rel => exact ⟨i + 1, v6, by go_num, by omega, hC7H, hw7H⟩
            case measure => simp [intOf]; omega
    · have he : i = len := by omega
      have htk : ks.take i = ks := List.take_of_length_le (by have := hlH.out; omega)
      rw [htk] at hC
      go_wp2
      go_returns
      exact ⟨_, v, rfl, hC.out, hW.out⟩
end Go.Proofs.Ytimfdfeleoaehaa
