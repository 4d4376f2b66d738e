/-
  The reader of drawn bytes: what a call that moves it on by some places leaves of memory, and what its reader's pick answers: a number from 0 to n - 1, whatever the bytes.
-/
import Derived.Test.YtkjgclpeeicbbaaSpanA
import Derived.Deep.RegionHeld3
import Derived.Deep.DeepCutAuto
import Derived.Deep.QuietTactic
import Derived.BigQuiet
import Derived.WalkSmall
namespace Go.Proofs.Ytkjgclpeeicbbaa
open Go.RowKit
set_option linter.unusedSimpArgs false
set_option linter.unusedVariables false

/-- All that was there is as it was, but for block g. -/
structure Adv (g : Nat) (w w' : World) : Prop where
  os : w'.os = w.os
  tape : w'.tape = w.tape
  output : w'.output = w.output
  size : w.heap.size ≤ w'.heap.size
  block : ∀ k, k < w.heap.size → k ≠ g → w'.heap[k]? = w.heap[k]?
theorem Adv.refl (g : Nat) (w : World) : Adv g w w := ⟨rfl, rfl, rfl, Nat.le_refl _, fun _ _ _ => rfl⟩
theorem Adv.trans {g : Nat} {a b c : World} (h : Adv g a b) (k : Adv g b c) : Adv g a c :=
  ⟨k.os.trans h.os, k.tape.trans h.tape, k.output.trans h.output, Nat.le_trans h.size k.size, fun i hi hg => (k.block i (Nat.lt_of_lt_of_le hi h.size) hg).trans (h.block i hi hg)⟩
theorem Adv.below {g : Nat} {a b c : World} (h : Adv g a b) (k : Below b.heap.size b c) : Adv g a c :=
  ⟨k.os.trans h.os, k.tape.trans h.tape, k.output.trans h.output, Nat.le_trans h.size k.size, fun i hi hg => (k.block i (Nat.lt_of_lt_of_le hi h.size)).trans (h.block i hi hg)⟩
theorem Adv.alloc {g : Nat} {a b : World} (h : Adv g a b) (o : Obj) : Adv g a (b.alloc o) := h.below ((Below.refl _ _).alloc (Nat.le_refl _) o)
theorem Adv.drew {g : Nat} {a b : World} (h : Adv g a b) : Adv g a b.drew := h.below (Below.refl _ _).drew
theorem Adv.drewN {g : Nat} {a b : World} (h : Adv g a b) (n : Nat) : Adv g a (b.drewN n) := h.below (below_drewN (Below.refl _ _) n)
theorem Adv.set {g : Nat} {a b : World} (h : Adv g a b) (o : Nat) (v : Value) : Adv g a (b.setCell ⟨g, o, none⟩ v) :=
  ⟨h.os, h.tape, h.output, by simpa using h.size, fun i hi hg => (Below.heap_setCell b ⟨g, o, none⟩ v i hg).trans (h.block i hi hg)⟩
theorem Adv.setNew {g : Nat} {a b : World} (h : Adv g a b) {p : Addr} (hp : a.heap.size ≤ p.block) (v : Value) : Adv g a (b.setCell p v) :=
  ⟨h.os, h.tape, h.output, by simpa using h.size, fun i hi hg => (Below.heap_setCell b p v i (by omega)).trans (h.block i hi hg)⟩
theorem Adv.cell {g : Nat} {w w' : World} (h : Adv g w w') {p : Addr} {v : Value} (hg : p.block ≠ g) (hc : w.cell? p = some v) : w'.cell? p = some v :=
  (World.cell?_of_block (w := w) (h.block p.block (World.block_lt_of_cell? w p hc) hg)).trans hc
theorem Adv.frozen {g : Nat} {w w' : World} (h : Adv g w w') {p : Addr} (hg : p.block ≠ g) (hp : p.block < w.heap.size) : w'.frozen? p = w.frozen? p :=
  World.frozen?_of_block (w := w) (h.block p.block hp hg)
theorem Adv.onto {B g : Nat} {a b c : World} (h : Below B a b) (hg : B ≤ g) (hB : B ≤ b.heap.size) (k : Adv g b c) : Below B a c :=
  ⟨k.os.trans h.os, k.tape.trans h.tape, k.output.trans h.output, Nat.le_trans h.size k.size, fun i hi => (k.block i (by omega) (by omega)).trans (h.block i hi)⟩

/-- The bytes of a slice that came in: none, or a row of cells in one block below B. -/
def Row (B : Nat) (w : World) (sa : Option Addr) (len : Nat) : Prop := len = 0 ∨ ∃ sb so : Nat, sa = some ⟨sb, so, none⟩ ∧ sb < B ∧ ∀ i, i < len → ∃ v : Int, w.cell? ⟨sb, so + i, none⟩ = some (.int .u8 v) ∧ 0 ≤ v ∧ v ≤ 255
/-- The reader in block g, from B on, stands at k, over such a row. -/
structure Rd (B g : Nat) (sa : Option Addr) (len cap : Nat) (k : Int) (w : World) : Prop where
  code : w.cell? ⟨g, 0, none⟩ = some (.slice sa len cap)
  pos : w.cell? ⟨g, 1, none⟩ = some (.int .i64 k)
  free : w.frozen? ⟨g, 1, none⟩ = false
  k0 : 0 ≤ k
  lim : len ≤ 2000
  row : Row B w sa len
  hB : B ≤ g

theorem Row.kept {B g : Nat} {w w' : World} {sa : Option Addr} {len : Nat} (h : Row B w sa len) (hA : Adv g w w') (hB : B ≤ g) : Row B w' sa len := by
  rcases h with h | ⟨sb, so, rfl, hb, hr⟩
  · exact .inl h
  · refine .inr ⟨sb, so, rfl, hb, fun i hi => ?_⟩
    obtain ⟨v, hv, h0, h1⟩ := hr i hi
    exact ⟨v, hA.cell (p := ⟨sb, so + i, none⟩) (show sb ≠ g by omega) hv, h0, h1⟩
theorem Rd.step {B g : Nat} {sa : Option Addr} {len cap : Nat} {k : Int} {w : World} (R : Rd B g sa len cap k w) : Rd B g sa len cap (k + 1) (w.setCell ⟨g, 1, none⟩ (.int .i64 (k + 1))) :=
  ⟨(World.cell?_setCell_other w ⟨g, 1, none⟩ ⟨g, 0, none⟩ _ (by simp)).trans R.code, World.cell?_setCell_same w ⟨g, 1, none⟩ _ R.pos, by simpa using R.free, by have := R.k0; omega, R.lim, R.row.kept ((Adv.refl g w).set 1 _) R.hB, R.hB⟩
theorem Rd.lt {B g : Nat} {sa : Option Addr} {len cap : Nat} {k : Int} {w : World} (R : Rd B g sa len cap k w) : g < w.heap.size := World.block_lt_of_cell? _ _ R.code
theorem Rd.below {B g : Nat} {sa : Option Addr} {len cap : Nat} {k : Int} {w w' : World} (R : Rd B g sa len cap k w) (hb : Below w.heap.size w w') : Rd B g sa len cap k w' :=
  ⟨(hb.cell (p := ⟨g, 0, none⟩) R.lt).trans R.code, (hb.cell (p := ⟨g, 1, none⟩) R.lt).trans R.pos, (hb.frozen (p := ⟨g, 1, none⟩) R.lt).trans R.free, R.k0, R.lim, R.row.kept ((Adv.refl g w).below hb) R.hB, R.hB⟩
theorem Rd.alloc {B g : Nat} {sa : Option Addr} {len cap : Nat} {k : Int} {w : World} (R : Rd B g sa len cap k w) (o : Obj) : Rd B g sa len cap k (w.alloc o) := R.below ((Below.refl _ _).alloc (Nat.le_refl _) o)
theorem Rd.drew {B g : Nat} {sa : Option Addr} {len cap : Nat} {k : Int} {w : World} (R : Rd B g sa len cap k w) : Rd B g sa len cap k w.drew := R.below (Below.refl _ _).drew
theorem Rd.set {B g : Nat} {sa : Option Addr} {len cap : Nat} {k : Int} {w : World} (R : Rd B g sa len cap k w) {p : Addr} (hp : p.block ≠ g) (hq : B ≤ p.block) (v : Value) : Rd B g sa len cap k (w.setCell p v) :=
  ⟨(World.cell?_setCell_other w p ⟨g, 0, none⟩ v (fun h => hp (by rw [h]))).trans R.code, (World.cell?_setCell_other w p ⟨g, 1, none⟩ v (fun h => hp (by rw [h]))).trans R.pos, by simpa using R.free, R.k0, R.lim, by
    rcases R.row with h | ⟨sb, so, rfl, hb, hr⟩
    · exact .inl h
    · refine .inr ⟨sb, so, rfl, hb, fun i hi => ?_⟩
      obtain ⟨x, hx, h0, h1⟩ := hr i hi
      exact ⟨x, (World.cell?_setCell_other w p ⟨sb, so + i, none⟩ v (fun h => by rw [h] at hq; simp at hq; omega)).trans hx, h0, h1⟩, R.hB⟩

theorem xor_nn (x : Int) (h0 : 0 ≤ x) (h1 : x ≤ 1000000000) : 0 ≤ bits .xor .i64 x (x / 64) := by
  obtain ⟨a, rfl⟩ := Int.eq_ofNat_of_zero_le h0
  have hx : a ^^^ (a / 64) < 2 ^ 62 := Nat.xor_lt_two_pow (by omega) (by omega)
  have e1 : (BitVec.ofInt 64 (a : Int)).toNat = a := by
    rw [BitVec.ofInt_natCast, BitVec.toNat_ofNat]; exact Nat.mod_eq_of_lt (by omega)
  have e2 : (BitVec.ofInt 64 ((a : Int) / 64)).toNat = a / 64 := by
    have : ((a : Int) / 64) = ((a / 64 : Nat) : Int) := by omega
    rw [this, BitVec.ofInt_natCast, BitVec.toNat_ofNat]; exact Nat.mod_eq_of_lt (by omega)
  show 0 ≤ IntKind.i64.wrap ((BitVec.ofInt 64 (a : Int) ^^^ BitVec.ofInt 64 ((a : Int) / 64)).toNat : Int)
  rw [BitVec.toNat_xor, e1, e2, IntKind.wrap_i64]
  omega

set_option maxHeartbeats 1000000 in
theorem pick (B g : Nat) (sa : Option Addr) (len cap : Nat) (k n : Int) (w : World) (R : Rd B g sa len cap k w) (hk : k ≤ 1000000) (hn : 1 ≤ n) (hn2 : n ≤ 1000000) :
    Calls Try.prog 8 #[.pointer (some ⟨g, 0, none⟩), .int .i64 n] w fun e w' => ∃ v : Int, e = .returned (.int .i64 v) ∧ 0 ≤ v ∧ v < n ∧ Adv g w w' ∧ Rd B g sa len cap (k + 1) w' := by
  have HR : Hid (Rd B g sa len cap k w) := R
  obtain ⟨hcode, hpos, hfree, hk0, hlim, hrow, hBg⟩ := R
  by_cases hl : len = 0
  · subst hl
    go_enter Try.func8, Try.ntmps8
    go_wp2
    go_returns
    exact ⟨0, rfl, by omega, by omega, (Adv.refl g w).set 1 _, HR.out.step⟩
  · rcases hrow with h | ⟨sb, so, rfl, hsb, hr⟩
    · exact absurd h hl
    have hne : ¬ g = sb := by omega
    have hlen : (1 : Int) ≤ (len : Int) := by omega
    have hl0 : ((len : Int) == 0) = false := by simp; omega
    have hn0 : decide (n < 1) = false := by simp; omega
    by_cases hkl : k < (len : Int)
    · obtain ⟨v, hv, hv0, hv1⟩ := hr k.toNat (by omega)
      clear hr
      go_enter Try.func8, Try.ntmps8
      go_wp2
      go_returns
      exact ⟨v % n, rfl, Int.emod_nonneg _ (by omega), Int.emod_lt_of_pos _ (by omega), (Adv.refl g w).set 1 _, HR.out.step⟩
    · have hm0 : 0 ≤ k % (len : Int) := Int.emod_nonneg _ (by omega)
      have hm1 : k % (len : Int) < (len : Int) := Int.emod_lt_of_pos _ (by omega)
      have hq0 : 0 ≤ (k * 7 + 3) % (len : Int) := Int.emod_nonneg _ (by omega)
      have hq1 : (k * 7 + 3) % (len : Int) < (len : Int) := Int.emod_lt_of_pos _ (by omega)
      have hd0 : 0 ≤ k / (len : Int) := Int.ediv_nonneg hk0 (by omega)
      have hd1 : k / (len : Int) ≤ k := Int.ediv_le_self _ hk0
      obtain ⟨v, hv, hv0, hv1⟩ := hr (k % (len : Int)).toNat (by omega)
      obtain ⟨u, hu, hu0, hu1⟩ := hr ((k * 7 + 3) % (len : Int)).toNat (by omega)
      clear hr
      go_enter Try.func8, Try.ntmps8
      go_wp2
      go_quiet (fail)
      go_wp2
      go_returns
      generalize k / (len : Int) = q at hd0 hd1 ⊢
      exact ⟨_, rfl, Int.tmod_nonneg _ (xor_nn _ (by omega) (by omega)), Int.tmod_lt_of_pos _ (by omega), ((Adv.refl g w).set 1 _).drewN nq, HR.out.step.below (below_drewN (Below.refl _ _) nq)⟩
end Go.Proofs.Ytkjgclpeeicbbaa
