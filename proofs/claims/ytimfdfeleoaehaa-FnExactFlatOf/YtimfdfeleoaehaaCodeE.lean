/-
  The program's writer of instructions: what is written, and places that are filled in later.
-/
import Derived.Test.YtimfdfeleoaehaaCodeL
import Derived.Test.YtimfdfeleoaehaaInstG
import Derived.RangeFuncBox
import Derived.Deep.RegionLaw
import Derived.Deep.DeepCutAuto
import Derived.Deep.RegionHeld3
namespace Go.Proofs.Ytimfdfeleoaehaa
open Go.RowKit Go.Shelf
set_option linter.unusedSimpArgs false
set_option linter.unusedVariables false
attribute [local go_sem] Oper.semAt_some

theorem implBare (k : Int) (n : ByteArray) (e f : XT) (ab : Option Addr) (ac la : Nat) (bb : Option Addr) (bc lb : Nat) (w : World) :
    Calls Try.prog 50 #[.agg #[.int .i64 k, .string n, .int .i64 e.kind, .int .i64 e.num, .string e.name, .slice e.base e.kids.length e.cap, .int .i64 f.kind, .int .i64 f.num, .string f.name, .slice f.base f.kids.length f.cap, .slice ab la ac, .slice bb lb bc]] w fun r w' =>
      r = .returned (.agg #[.int .i64 k, .string n, .int .i64 e.kind, .int .i64 e.num, .string e.name, .slice e.base e.kids.length e.cap, .int .i64 f.kind, .int .i64 f.num, .string f.name, .slice f.base f.kids.length f.cap, .slice none 0 0, .slice none 0 0]) ∧ Below w.heap.size w w' := by
  go_enter Try.func50, Try.ntmps50
  go_wp2
  first | go_returns | (refine bodyPost_ret (by simp [results, Try.results50, go_sem, *]; try rfl) rfl ?_)
  refine ⟨rfl, ?_⟩
  repeat' (first | (with_reducible exact Below.refl _ _) | (with_reducible assumption) | (with_reducible refine balloc ?_ _) | (with_reducible refine bdrew ?_) | (with_reducible refine Below.setCell ?_ ?_ _) | (with_reducible refine bstep ?_ (by with_reducible assumption)) | go_size)
/-- the writer: what it has written so far -/
structure Cod (W : World) (bc : Nat) (v : Value) (xs : List IX) : Prop where
  box : Boxed W bc 60 v
  own : W.ownsRow (bc + 1) 52 14 v xs.length (fl14 xs)
structure WrC (bc : Nat) (A B : World) (v v' : Value) : Prop where
  kept : Kept (fun k => k = bc ∨ v.ownBlock = some k) A B
  own : ∀ g, v'.ownBlock = some g → v.ownBlock = some g ∨ A.heap.size ≤ g
theorem WrC.trans {bc : Nat} {A B C : World} {v v' v'' : Value} (h : WrC bc A B v v') (k : WrC bc B C v' v'') : WrC bc A C v v'' := by
  refine ⟨h.kept.join k.kept (fun q hq hs => ?_), fun g hg => ?_⟩
  · rcases hs with hs | hs
    · exact .inl hs
    · rcases h.own q hs with h1 | h1
      · exact .inr h1
      · omega
  · rcases k.own g hg with h1 | h1
    · exact h.own g h1
    · right
      have := h.kept.size
      omega
theorem WrC.new {bc : Nat} {A B : World} {v : Value} (h : Below A.heap.size A B) : WrC bc A B v v := ⟨Kept.of_new _ h, fun g hg => .inl hg⟩
theorem Cod.ne {W : World} {bc : Nat} {v : Value} {xs : List IX} (h : Cod W bc v xs) : v.ownBlock ≠ some bc := fun e => by
  have := (h.own.lt bc e).1
  omega
theorem Cod.new {A B : World} {bc : Nat} {v : Value} {xs : List IX} (h : Cod A bc v xs) (hb : Below A.heap.size A B) : Cod B bc v xs :=
  ⟨(hb.block _ h.box.lt).trans h.box, own_on h.own (fun g hg => hb.block g (h.own.lt g hg).2)⟩
/-- a place that is filled in later -/
structure Hole (W : World) (bc : Nat) (v : Value) (b1 b2 p : Nat) : Prop where
  c1 : W.cell? ⟨b1, 0, none⟩ = some (.pointer (some ⟨bc, 0, none⟩))
  c2 : W.cell? ⟨b2, 0, none⟩ = some (.int .i64 (p : Int))
  n1 : b1 ≠ bc ∧ b2 ≠ bc
  m1 : v.ownBlock ≠ some b1 ∧ v.ownBlock ≠ some b2
theorem Hole.on {A B : World} {bc b1 b2 p : Nat} {v v' : Value} (h : Hole A bc v b1 b2 p) (k : WrC bc A B v v') : Hole B bc v' b1 b2 p := by
  have l1 := World.block_lt_of_cell? A _ h.c1
  have l2 := World.block_lt_of_cell? A _ h.c2
  dsimp only at l1 l2
  refine ⟨k.kept.cell h.c1 (fun hs => ?_), k.kept.cell h.c2 (fun hs => ?_), h.n1, ⟨fun e => ?_, fun e => ?_⟩⟩
  · exact hs.elim h.n1.1 h.m1.1
  · exact hs.elim h.n1.2 h.m1.2
  · rcases k.own _ e with q | q
    · exact h.m1.1 q
    · omega
  · rcases k.own _ e with q | q
    · exact h.m1.2 q
    · omega
theorem implHere (W : World) (bc : Nat) (a : Option Addr) (n c : Nat) (hc : W.cell? ⟨bc, 0, none⟩ = some (.slice a n c)) :
    Calls Try.prog 65 #[.pointer (some ⟨bc, 0, none⟩)] W fun e w' => e = .returned (.int .i64 (n : Int)) ∧ Below W.heap.size W w' := by
  go_enter Try.func65, Try.ntmps65
  go_wp2
  go_returns
  exact ⟨rfl, Below.refl _ _⟩
theorem Cod.shape {W : World} {bc : Nat} {v : Value} {xs : List IX} (h : Cod W bc v xs) : ∃ a c, v = .slice a xs.length c := by
  rcases h.own.2 with ⟨h1, h2⟩ | ⟨g, cap, cur, h1, -⟩
  · exact ⟨none, 0, by rw [h1, h2]⟩
  · exact ⟨_, cap, h1⟩
theorem news14 (w : World) (x : IX) : ∀ j u, x.vals[j]? = some u → (w.alloc (.cells #[.int .i64 x.op, .int .i64 x.s.kind, .string x.s.name, .int .i64 x.s.e.kind, .int .i64 x.s.e.num, .string x.s.e.name, .slice x.s.e.base x.s.e.kids.length x.s.e.cap, .int .i64 x.s.f.kind, .int .i64 x.s.f.num, .string x.s.f.name, .slice x.s.f.base x.s.f.kids.length x.s.f.cap, .slice x.s.abase x.s.la.length x.s.acap, .slice x.s.bbase x.s.lb.length x.s.bcap, .int .i64 x.dst] 52)).cell? ((⟨w.heap.size, 0, none⟩ : Addr).add j) = some u := by
  intro j u hj
  have h := (Cells14.new w x 52).vals j u hj
  have hadd : (⟨w.heap.size, 0, none⟩ : Addr).add j = ⟨w.heap.size, 0 + j, none⟩ := by unfold Addr.add; split <;> simp_all
  rw [hadd]
  exact h
set_option maxRecDepth 10000 in
set_option maxHeartbeats 4000000 in
theorem implWrite (x : IX) (bc : Nat) (v : Value) (xs : List IX) (w : World) (hC : Cod w bc v xs) (hlen : xs.length ≤ 8388608) :
    Calls Try.prog 27 #[.pointer (some ⟨bc, 0, none⟩), .agg #[.int .i64 x.op, .int .i64 x.s.kind, .string x.s.name, .int .i64 x.s.e.kind, .int .i64 x.s.e.num, .string x.s.e.name, .slice x.s.e.base x.s.e.kids.length x.s.e.cap, .int .i64 x.s.f.kind, .int .i64 x.s.f.num, .string x.s.f.name, .slice x.s.f.base x.s.f.kids.length x.s.f.cap, .slice x.s.abase x.s.la.length x.s.acap, .slice x.s.bbase x.s.lb.length x.s.bcap, .int .i64 x.dst]] w fun e w' => ∃ r v', e = .returned r ∧ Cod w' bc v' (xs ++ [x]) ∧ WrC bc w w' v v' := by
  obtain ⟨i0, hi0, hz0, hz1, hz2⟩ := info_parts infoI
  obtain ⟨W1, hW1⟩ : ∃ W1, w.alloc (.cells #[.int .i64 x.op, .int .i64 x.s.kind, .string x.s.name, .int .i64 x.s.e.kind, .int .i64 x.s.e.num, .string x.s.e.name, .slice x.s.e.base x.s.e.kids.length x.s.e.cap, .int .i64 x.s.f.kind, .int .i64 x.s.f.num, .string x.s.f.name, .slice x.s.f.base x.s.f.kids.length x.s.f.cap, .slice x.s.abase x.s.la.length x.s.acap, .slice x.s.bbase x.s.lb.length x.s.bcap, .int .i64 x.dst] 52) = W1 := ⟨_, rfl⟩
  have hs1 : w.heap.size + 1 = W1.heap.size := by rw [← hW1]; simp
  have hB1 : Below w.heap.size w W1 := by rw [← hW1]; exact (Below.refl _ w).alloc (Nat.le_refl _) _
  have hD : Cells14 W1 w.heap.size 0 x := by rw [← hW1]; exact Cells14.new w x _
  have hC1 := hC.new hB1
  have hbl := hC.box.lt
  obtain ⟨n, hn⟩ : ∃ n, xs.length = n := ⟨_, rfl⟩
  have hC1H : Hid (Cod W1 bc v xs) := hC1
  have hCn : v.ownBlock ≠ some bc := hC.ne
  have hCnH : Hid (v.ownBlock ≠ some bc) := hCn
  obtain ⟨W2, hW2⟩ : ∃ W2, W1.drew.alloc (.cells #[.int .i64 x.op, .int .i64 x.s.kind, .string x.s.name, .int .i64 x.s.e.kind, .int .i64 x.s.e.num, .string x.s.e.name, .slice x.s.e.base x.s.e.kids.length x.s.e.cap, .int .i64 x.s.f.kind, .int .i64 x.s.f.num, .string x.s.f.name, .slice x.s.f.base x.s.f.kids.length x.s.f.cap, .slice x.s.abase x.s.la.length x.s.acap, .slice x.s.bbase x.s.lb.length x.s.bcap, .int .i64 x.dst] 52) = W2 := ⟨_, rfl⟩
  have hB2 : Below W1.heap.size W1 W2 := by rw [← hW2]; exact ((Below.refl _ W1).drew).alloc (Nat.le_refl _) _
  have hs2 : W1.heap.size + 1 = W2.heap.size := by rw [← hW2]; simp
  have hC2 := hC1.new hB2
  have hown : Hid (W2.ownsRow (bc + 1) 52 14 v n (fl14 xs)) := by
    have h9 := hC2.own
    rw [hn] at h9
    exact h9
  have hnew : Hid (∀ j u, x.vals[j]? = some u → W2.cell? ((⟨W1.heap.size, 0, none⟩ : Addr).add j) = some u) := by
    rw [← hW2]
    exact news14 W1.drew x
  have k1 := hC1.box.cell
  have k2 := hC2.box.cell
  have kf := hC2.box.frozen
  have hfd : Hid (Boxed W2 bc 60 v) := hC2.box
  have hnl : n ≤ 8388608 := by omega
  obtain ⟨c0, c1, c2, c3, c4, c5, c6, c7, c8, c9, c10, c11, c12, c13⟩ := hD
  clear hC hC1 hC2 hCn
  go_enter Try.func27, Try.ntmps27
  go_wp2_with fail
  go_region_law (first | (refine step_append_back _ rfl _ _ 24 rfl (bc + 1) 52 i0 _ 14 200 Try.underlying24 hi0 hz0 hz1 hz2 rfl (by decide) v n (fl14 xs) rfl hown.out ⟨W1.heap.size, 0, none⟩ 1 1 x.vals rfl rfl hnew.out (by simp [Value.oneCell']) (by unfold maxLen; omega) (by omega) (by omega) (by omega) ?_; intro v' w4 hown' hback; (obtain ⟨g', cap', hv'⟩ := ownsRow_succ hown'); (subst hv'); (have hb4 : Boxed w4 bc 60 v := (hback.kept.block _ hfd.out.lt (fun hs => hs.elim hCnH.out (fun h9 => by have := (hown'.lt bc h9).1; omega))).trans hfd.out); (have q1 := hb4.cell); (have q2 := hb4.frozen)))
  all_goals
    have hz4 := hback.kept.size
    have hfx : Hid (fl14 (xs ++ [x]) = fl14 xs ++ x.vals) := fl14_snoc xs x
    have hbx := hb4.set (.slice (some ⟨g', 0, none⟩) (n + 1) cap')
    have hox : (w4.setCell ⟨bc, 0, none⟩ (.slice (some ⟨g', 0, none⟩) (n + 1) cap')).ownsRow (bc + 1) 52 14 (.slice (some ⟨g', 0, none⟩) (n + 1) cap') (n + 1) (fl14 xs ++ x.vals) := own_on hown' (fun g hg => Below.heap_setCell _ _ _ _ (by have := (hown'.lt g hg).1; dsimp only; omega))
    have hco : Hid (Cod (w4.setCell ⟨bc, 0, none⟩ (.slice (some ⟨g', 0, none⟩) (n + 1) cap')) bc (.slice (some ⟨g', 0, none⟩) (n + 1) cap') (xs ++ [x])) := ⟨hbx, by rw [hfx.out, List.length_append, hn]; exact hox⟩
    have hwr : Hid (WrC bc w (w4.setCell ⟨bc, 0, none⟩ (.slice (some ⟨g', 0, none⟩) (n + 1) cap')) v (.slice (some ⟨g', 0, none⟩) (n + 1) cap')) := by
      refine ⟨?_, fun g hg => ?_⟩
      · have q1 : Kept (fun k => k = bc ∨ v.ownBlock = some k) w W2 := Kept.of_new _ (hB1.trans (hB2.mono hB1.size))
        have q2 : Kept (fun k => k = bc ∨ v.ownBlock = some k) w w4 := by
          refine q1.join hback.kept (fun k hk hs => ?_)
          rcases hs with hs | hs
          · exact .inr hs
          · rcases hback with ⟨e1, -, -, -⟩ | ⟨e1, -⟩
            · rw [e1] at hs; exact .inr hs
            · rw [e1] at hs; cases hs; omega
        exact q2.setCell (.inl rfl) _
      · rcases hback with ⟨e1, -, -, -⟩ | ⟨e1, -⟩
        · rw [e1] at hg; exact .inl hg
        · rw [e1] at hg; cases hg; right; omega
    clear hbx hox hback hown'
    go_wp2
    go_returns
    exact ⟨_, _, rfl, hco.out, hwr.out⟩
end Go.Proofs.Ytimfdfeleoaehaa
