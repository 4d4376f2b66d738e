/-
  What the program answers of lists of variables, channels and words: whether all are right.
-/
import Derived.Test.YtaajdoipjalgmaaGreatDoorOkB
namespace Go.Proofs.YtaajdoipjalgmaaGreatDoor
open Go.RowKit
set_option linter.unusedSimpArgs false
set_option linter.unusedVariables false
attribute [local go_sem] Oper.semAt_some

theorem all_take {α : Type} (f : α → Bool) {ks : List α} {i : Nat} {x : α} (h : ks[i]? = some x) (ha : (ks.take i).all f = true) (hx : f x = true) : (ks.take (i + 1)).all f = true := by
  rw [List.take_add_one, h, List.all_append, ha]
  simp [hx]
theorem all_bad {α : Type} (f : α → Bool) {ks : List α} {i : Nat} {x : α} (h : ks[i]? = some x) (hx : f x = false) : ks.all f = false := by
  rw [List.all_eq_false]
  exact ⟨x, List.mem_of_getElem? h, by simp [hx]⟩
set_option maxHeartbeats 2000000 in
theorem VX.clos (v : VX) (hn : v.name.size ≤ 1048576) (hl : v.lock.size ≤ 1048576) (b tl tc : Nat) (tb : Option Addr) (w : World) (hp : w.cell? ⟨b, 3, none⟩ = some (.slice tb tl tc)) : Calls Tryz.prog 127 #[v.val, .pointer (some ⟨b, 0, none⟩)] w fun e w' => e = .returned (.bool (v.okB (mxI tl 1))) ∧ Below w.heap.size w w' := by
  have hB1 : ∀ o, Below w.heap.size w (w.alloc o) := fun o => (Below.refl _ w).alloc (Nat.le_refl _) o
  have hp1 : ∀ o, (w.alloc o).cell? ⟨b, 3, none⟩ = some (.slice tb tl tc) := fun o => below_cell (hB1 o) hp (World.block_lt_of_cell? w _ hp)
  go_enter Tryz.func127, Tryz.ntmps127
  go_wp2_with (go_at_call 128; refine (VX.implOk v hn hl _ _).mono ?_; rintro e w4 ⟨rfl, hB4⟩)
  go_returns
  exact ⟨rfl, bstep (hB1 _) hB4⟩
set_option maxHeartbeats 2000000 in
theorem VX.all (ks : List VX) (a : Option Addr) (c : Nat) (b tl tc : Nat) (tb : Option Addr) (ok : Nat → Prop) (w : World) (hok : ∀ b, ok b → b < w.heap.size) (hcl : VX.Row ok w a ks) (hlen : ks.length ≤ 1048577) (hm : ∀ (i : Nat) (v : VX), ks[i]? = some v → v.name.size ≤ 1048576 ∧ v.lock.size ≤ 1048576) (hp : w.cell? ⟨b, 3, none⟩ = some (.slice tb tl tc)) :
    Calls Tryz.prog 126 #[.slice a ks.length c, .func (.func 127) #[] #[.pointer (some ⟨b, 0, none⟩)]] w fun e w' => e = .returned (.bool (ks.all (fun v => v.okB (mxI tl 1)))) ∧ Below w.heap.size w w' := by
  obtain ⟨len, hl⟩ : ∃ len, ks.length = len := ⟨_, rfl⟩
  rw [hl] at hlen ⊢
  go_enter Tryz.func126, Tryz.ntmps126
  go_wp2
  go_loopw [9] (fun v9 wr => ∃ (i : Nat), v9 = .int .i64 i ∧ i ≤ len ∧ (ks.take i).all (fun v => v.okB (mxI tl 1)) = true ∧ Below w.heap.size w wr) (fun v9 _ => len - (intOf v9).toNat)
  case atStart => exact ⟨0, rfl, by omega, by simp, Below.refl _ _⟩
  case round =>
    obtain ⟨i, rfl, hi, hall, hB⟩ := hrel
    by_cases hlt : i < len
    · obtain ⟨v, hx⟩ : ∃ x, ks[i]? = some x := ⟨_, List.getElem?_eq_getElem (by omega)⟩
      obtain ⟨b1, o1, hbase1, hok1, hc1⟩ := hcl i v hx
      have hsm := hm i v hx
      obtain ⟨c0, c1, c2, c3, c4, c5, c6⟩ := hc1.below hB (hok b1 hok1)
      subst hbase1
      obtain ⟨W4, hW4⟩ : ∃ W4, wr.alloc (.cells #[.string v.name, .int .i64 v.size, .int .i64 v.init, .int .i64 v.lo, .int .i64 v.hi, .string v.lock, .int .i64 v.task] 58) = W4 := ⟨_, rfl⟩
      have hB4 : Below w.heap.size w W4 := by rw [← hW4]; exact balloc hB _
      have d0 : W4.cell? ⟨wr.heap.size, 0, none⟩ = some (.string v.name) := by rw [← hW4]; exact World.cell?_alloc_new wr _ _ 0
      have d1 : W4.cell? ⟨wr.heap.size, 1, none⟩ = some (.int .i64 v.size) := by rw [← hW4]; exact World.cell?_alloc_new wr _ _ 1
      have d2 : W4.cell? ⟨wr.heap.size, 2, none⟩ = some (.int .i64 v.init) := by rw [← hW4]; exact World.cell?_alloc_new wr _ _ 2
      have d3 : W4.cell? ⟨wr.heap.size, 3, none⟩ = some (.int .i64 v.lo) := by rw [← hW4]; exact World.cell?_alloc_new wr _ _ 3
      have d4 : W4.cell? ⟨wr.heap.size, 4, none⟩ = some (.int .i64 v.hi) := by rw [← hW4]; exact World.cell?_alloc_new wr _ _ 4
      have d5 : W4.cell? ⟨wr.heap.size, 5, none⟩ = some (.string v.lock) := by rw [← hW4]; exact World.cell?_alloc_new wr _ _ 5
      have d6 : W4.cell? ⟨wr.heap.size, 6, none⟩ = some (.int .i64 v.task) := by rw [← hW4]; exact World.cell?_alloc_new wr _ _ 6
      have hp4 := below_cell hB4 hp (World.block_lt_of_cell? w _ hp)
      cases hv : v.okB (mxI tl 1)
      · go_wp2_with (go_at_call 127; refine (VX.clos v hsm.1 hsm.2 b tl tc tb _ hp4).mono ?_; rintro e w5 ⟨rfl, hb⟩; rw [hv])
        go_returns
        exact ⟨ret_bool (all_bad (fun v => v.okB (mxI tl 1)) hx hv).symm, (bstep hB4 hb)⟩
      · go_wp2_with (go_at_call 127; refine (VX.clos v hsm.1 hsm.2 b tl tc tb _ hp4).mono ?_; rintro e w5 ⟨rfl, hb⟩; rw [hv])
        refine ⟨⟨i + 1, by go_num, by omega, all_take (fun v => v.okB (mxI tl 1)) hx hall hv, (bstep hB4 hb)⟩, ?_⟩
        simp [intOf]
        omega
    · have he : i = len := by omega
      have hfull : ks.take i = ks := List.take_of_length_le (by omega)
      rw [hfull] at hall
      go_wp2
      go_returns
      exact ⟨ret_bool hall.symm, hB⟩
set_option maxHeartbeats 2000000 in
theorem CX.all (ks : List CX) (a : Option Addr) (c : Nat) (ok : Nat → Prop) (w : World) (hok : ∀ b, ok b → b < w.heap.size) (hcl : CX.Row ok w a ks) (hlen : ks.length ≤ 1048577) (hm : ∀ (i : Nat) (v : CX), ks[i]? = some v → v.name.size ≤ 1048576) :
    Calls Tryz.prog 129 #[.slice a ks.length c, .func (.func 130) #[] #[]] w fun e w' => e = .returned (.bool (ks.all (fun v => v.okB))) ∧ Below w.heap.size w w' := by
  obtain ⟨len, hl⟩ : ∃ len, ks.length = len := ⟨_, rfl⟩
  rw [hl] at hlen ⊢
  go_enter Tryz.func129, Tryz.ntmps129
  go_wp2
  go_loopw [9] (fun v9 wr => ∃ (i : Nat), v9 = .int .i64 i ∧ i ≤ len ∧ (ks.take i).all (fun v => v.okB) = true ∧ Below w.heap.size w wr) (fun v9 _ => len - (intOf v9).toNat)
  case atStart => exact ⟨0, rfl, by omega, by simp, Below.refl _ _⟩
  case round =>
    obtain ⟨i, rfl, hi, hall, hB⟩ := hrel
    by_cases hlt : i < len
    · obtain ⟨v, hx⟩ : ∃ x, ks[i]? = some x := ⟨_, List.getElem?_eq_getElem (by omega)⟩
      obtain ⟨b1, o1, hbase1, hok1, hc1⟩ := hcl i v hx
      have hsm := hm i v hx
      obtain ⟨c0, c1, c2, c3⟩ := hc1.below hB (hok b1 hok1)
      subst hbase1
      obtain ⟨W4, hW4⟩ : ∃ W4, wr.alloc (.cells #[.string v.name, .int .i64 v.cap, .int .i64 v.lo, .int .i64 v.hi] 101) = W4 := ⟨_, rfl⟩
      have hB4 : Below w.heap.size w W4 := by rw [← hW4]; exact balloc hB _
      have d0 : W4.cell? ⟨wr.heap.size, 0, none⟩ = some (.string v.name) := by rw [← hW4]; exact World.cell?_alloc_new wr _ _ 0
      have d1 : W4.cell? ⟨wr.heap.size, 1, none⟩ = some (.int .i64 v.cap) := by rw [← hW4]; exact World.cell?_alloc_new wr _ _ 1
      have d2 : W4.cell? ⟨wr.heap.size, 2, none⟩ = some (.int .i64 v.lo) := by rw [← hW4]; exact World.cell?_alloc_new wr _ _ 2
      have d3 : W4.cell? ⟨wr.heap.size, 3, none⟩ = some (.int .i64 v.hi) := by rw [← hW4]; exact World.cell?_alloc_new wr _ _ 3
      cases hv : v.okB
      · go_wp2_with (go_at_call 130; refine (CX.implOk v hsm _).mono ?_; rintro e w5 ⟨rfl, hb⟩; rw [hv])
        go_returns
        exact ⟨ret_bool (all_bad (fun v => v.okB) hx hv).symm, (bstep hB4 hb)⟩
      · go_wp2_with (go_at_call 130; refine (CX.implOk v hsm _).mono ?_; rintro e w5 ⟨rfl, hb⟩; rw [hv])
        refine ⟨⟨i + 1, by go_num, by omega, all_take (fun v => v.okB) hx hall hv, (bstep hB4 hb)⟩, ?_⟩
        simp [intOf]
        omega
    · have he : i = len := by omega
      have hfull : ks.take i = ks := List.take_of_length_le (by omega)
      rw [hfull] at hall
      go_wp2
      go_returns
      exact ⟨ret_bool hall.symm, hB⟩
set_option maxHeartbeats 2000000 in
theorem allN (ks : List ByteArray) (a : Option Addr) (c : Nat) (ok : Nat → Prop) (w : World) (hok : ∀ b, ok b → b < w.heap.size) (hcl : NRow ok w a ks) (hlen : ks.length ≤ 1048577) (hm : ∀ (i : Nat) (v : ByteArray), ks[i]? = some v → v.size ≤ 1048576) :
    Calls Tryz.prog 131 #[.slice a ks.length c, .func (.func 132) #[] #[]] w fun e w' => e = .returned (.bool (ks.all (fun v => nameB v))) ∧ Below w.heap.size w w' := by
  obtain ⟨len, hl⟩ : ∃ len, ks.length = len := ⟨_, rfl⟩
  rw [hl] at hlen ⊢
  go_enter Tryz.func131, Tryz.ntmps131
  go_wp2
  go_loopw [9] (fun v9 wr => ∃ (i : Nat), v9 = .int .i64 i ∧ i ≤ len ∧ (ks.take i).all (fun v => nameB v) = true ∧ Below w.heap.size w wr) (fun v9 _ => len - (intOf v9).toNat)
  case atStart => exact ⟨0, rfl, by omega, by simp, Below.refl _ _⟩
  case round =>
    obtain ⟨i, rfl, hi, hall, hB⟩ := hrel
    by_cases hlt : i < len
    · obtain ⟨v, hx⟩ : ∃ x, ks[i]? = some x := ⟨_, List.getElem?_eq_getElem (by omega)⟩
      obtain ⟨b1, o1, hbase1, hok1, hc1⟩ := hcl i v hx
      have hsm := hm i v hx
      have c0 := below_cell hB hc1 (hok b1 hok1)
      subst hbase1
      have hB4 := hB
      cases hv : nameB v
      · go_wp2_with (go_at_call 132; refine (implName v _ hsm).mono ?_; rintro e w5 ⟨rfl, hb⟩; rw [hv])
        go_returns
        exact ⟨ret_bool (all_bad (fun v => nameB v) hx hv).symm, (hb ▸ hB4)⟩
      · go_wp2_with (go_at_call 132; refine (implName v _ hsm).mono ?_; rintro e w5 ⟨rfl, hb⟩; rw [hv])
        refine ⟨⟨i + 1, by go_num, by omega, all_take (fun v => nameB v) hx hall hv, (hb ▸ hB4)⟩, ?_⟩
        simp [intOf]
        omega
    · have he : i = len := by omega
      have hfull : ks.take i = ks := List.take_of_length_le (by omega)
      rw [hfull] at hall
      go_wp2
      go_returns
      exact ⟨ret_bool hall.symm, hB⟩
end Go.Proofs.YtaajdoipjalgmaaGreatDoor
