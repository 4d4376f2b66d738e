/-
  A strings.Builder within a struct of the program's own: what its methods answer.
-/
import Derived.Test.YtijblhnjhpmedaaDoorTreeS
import Derived.Shelf.Strings.BuilderK
namespace Go.Proofs.YtijblhnjhpmedaaDoor
open Go.RowKit Go.Shelf
set_option linter.unusedSimpArgs false
set_option linter.unusedVariables false

theorem sizeB : (Tryd.prog.info? 44).map (·.size) = some 2 := by kernel_rfl
theorem liesB : liesAt Tryd.prog Tryd.prog.depth 46 (2 / Tryd.prog.cellsOf 46) 0 44 1 = true := by kernel_rfl
theorem infoByte : (Tryd.prog.info? 5).map (fun i => (i.zero, i.size, i.bytes)) = some (some (.int .u8 0), 1, 1) := by kernel_rfl
set_option maxRecDepth 100000 in
theorem copyFresh (b : Nat) (w : World) (h0 : w.cell? ⟨b, 0, none⟩ = some (.pointer none)) (hsh : w.shape? b = some (46, 2)) (hfz : w.frozen? ⟨b, 0, none⟩ = false) :
    Calls Tryd.prog 25 #[.pointer (some ⟨b, 0, none⟩)] w fun e w' => e = .returned (.tuple #[]) ∧ w' = w.setCell ⟨b, 0, none⟩ (.pointer (some ⟨b, 0, none⟩)) := by
  obtain ⟨j, hj, hjs⟩ := Option.map_eq_some_iff.1 sizeB
  go_enter Tryd.func25, Tryd.ntmps25
  go_wp2
  rw [Lib.run_to_unsafe w ⟨b, 0, none⟩ Tryd.underlying41 Tryd.underlying63 hj (by rw [hjs]; decide) hsh (Nat.zero_lt_succ 1)]
  simp only [Result.andThen]
  rw [Oper.upon_value]
  go_wp2
  rw [run_callFunc_extern Tryd.func27 (by kernel_rfl) (by kernel_rfl) (by kernel_rfl) (e := Extern.AbiNoEscape.same) (by kernel_rfl)]
  rw [Lib.run_noEscape]
  simp only [Result.andThen]
  rw [Oper.upon_value]
  go_wp2
  rw [Lib.run_from_unsafe w ⟨b, 0, none⟩ Tryd.underlying63 Tryd.underlying41 hj hsh liesB]
  simp only [Result.andThen]
  rw [Oper.upon_value]
  go_wp2
  go_end0
  exact ⟨rfl, rfl⟩
set_option maxRecDepth 100000 in
theorem copyUsed (b : Nat) (w : World) (h0 : w.cell? ⟨b, 0, none⟩ = some (.pointer (some ⟨b, 0, none⟩))) :
    Calls Tryd.prog 25 #[.pointer (some ⟨b, 0, none⟩)] w fun e w' => e = .returned (.tuple #[]) ∧ w' = w := by
  obtain ⟨j, hj, hjs⟩ := Option.map_eq_some_iff.1 sizeB
  go_enter Tryd.func25, Tryd.ntmps25
  go_wp2
  rw [Lib.run_neq_ptr_same w _ Tryd.underlying41 hj]
  go_wp2
  go_end0
  exact ⟨rfl, rfl⟩
/-- The teller in block b, from B on, holds the bytes bs; it holds no row as long as it holds none. -/
def Tl (B b : Nat) (bs : List Value) (w : World) : Prop := ∃ p v, (p = .pointer none ∨ p = .pointer (some ⟨b, 0, none⟩)) ∧ B ≤ b ∧ w.heap[b]? = some (.cells #[p, v] 46 (0, 0)) ∧ w.ownsRowF B 5 1 v bs.length bs ∧ v.ownBlock ≠ some b ∧ (bs = [] → v = .slice none 0 0)
theorem rowF_on {A C : World} {base : Nat} {e : TypeId} {size n : Nat} {v : Value} {xs : List Value} (h : A.ownsRowF base e size v n xs) (hb : ∀ g, v.ownBlock = some g → C.heap[g]? = A.heap[g]?) : C.ownsRowF base e size v n xs := by
  refine ⟨h.1, ?_⟩
  rcases h.2 with hn | ⟨g, cap, cur, fz, rfl, h1, h2, h3⟩
  · exact .inl hn
  · exact .inr ⟨g, cap, cur, fz, rfl, h1, (hb g rfl).trans h2, h3⟩
theorem rowF_lt {A : World} {base : Nat} {e : TypeId} {size n : Nat} {v : Value} {xs : List Value} (h : A.ownsRowF base e size v n xs) : ∀ g, v.ownBlock = some g → base ≤ g ∧ g < A.heap.size := by
  intro g hg
  rcases h.2 with ⟨rfl, -⟩ | ⟨g', cap, cur, fz, rfl, h1, h2, h3⟩
  · simp [Value.ownBlock] at hg
  · simp [Value.ownBlock] at hg
    subst hg
    exact ⟨h1, (Array.getElem?_eq_some_iff.1 h2).1⟩
theorem Tl.new (w : World) : Tl w.heap.size w.heap.size [] (w.alloc (.cells #[.pointer none, .slice none 0 0] 46)) :=
  ⟨_, _, .inl rfl, Nat.le_refl _, World.alloc_heap_new w _, ⟨rfl, .inl ⟨rfl, rfl⟩⟩, by simp [Value.ownBlock], fun _ => rfl⟩
theorem Tl.below {B b : Nat} {bs : List Value} {A C : World} (h : Tl B b bs A) (hb : Below A.heap.size A C) : Tl B b bs C := by
  obtain ⟨p, v, h1, h2, h3, h4, h5, h6⟩ := h
  exact ⟨p, v, h1, h2, (hb.block b (Array.getElem?_eq_some_iff.1 h3).1).trans h3, rowF_on h4 (fun g hg => hb.block g (rowF_lt h4 g hg).2), h5, h6⟩
theorem Tl.le {B b : Nat} {bs : List Value} {w : World} (h : Tl B b bs w) : B ≤ w.heap.size := by
  obtain ⟨p, v, h1, h2, h3, h4, h5, h6⟩ := h
  have := (Array.getElem?_eq_some_iff.1 h3).1
  omega
theorem ok_new {b : Option Nat} {A C : World} (h : Below A.heap.size A C) : Lib.OthersKept 5 b A C := fun k o hk _ _ => (h.block k (Array.getElem?_eq_some_iff.1 hk).1).trans hk
theorem tlCopy (B b : Nat) (bs : List Value) (w : World) (h : Tl B b bs w) :
    Calls Tryd.prog 25 #[.pointer (some ⟨b, 0, none⟩)] w fun e w' => e = .returned (.tuple #[]) ∧ (∃ v, B ≤ b ∧ w'.heap[b]? = some (.cells #[.pointer (some ⟨b, 0, none⟩), v] 46 (0, 0)) ∧ w'.ownsRowF B 5 1 v bs.length bs ∧ v.ownBlock ≠ some b ∧ (bs = [] → v = .slice none 0 0)) ∧ Below B w w' ∧ Lib.OthersKept 5 (some b) w w' := by
  obtain ⟨p, v, hp, h2, h3, h4, h5, h6⟩ := h
  rcases hp with rfl | rfl
  · refine (copyFresh b w (by simp [World.cell?, h3]) (by simp [World.shape?, h3]) (by simp [World.frozen?, h3])).mono ?_
    rintro e w' ⟨rfl, rfl⟩
    refine ⟨rfl, ⟨v, h2, by simp [World.setCell, Array.getElem?_modify, h3], rowF_on h4 (fun g hg => Below.heap_setCell _ _ _ _ (fun e => h5 (by rw [hg]; exact congrArg some e))), h5, h6⟩, (Below.refl B w).setCell (p := ⟨b, 0, none⟩) h2 _, (Lib.OthersKept.refl _ _ w).setCell ⟨b, 0, none⟩ rfl _⟩
  · refine (copyUsed b w (by simp [World.cell?, h3])).mono ?_
    rintro e w' ⟨rfl, rfl⟩
    exact ⟨rfl, ⟨v, h2, h3, h4, h5, h6⟩, Below.refl _ _, Lib.OthersKept.refl _ _ _⟩
set_option maxHeartbeats 2000000 in
set_option maxRecDepth 100000 in
theorem tlString (B b : Nat) (bs : List Value) (s : ByteArray) (w : World) (h : Tl B b bs w) (hlen : bs.length + s.size ≤ 140737488355328) :
    Calls Tryd.prog 21 #[.pointer (some ⟨b, 0, none⟩), .string s] w fun e w' => (∃ v, e = .returned v) ∧ Tl B b (bs ++ Lib.strCells s) w' ∧ Below B w w' ∧ Lib.OthersKept 5 (some b) w w' := by
  obtain ⟨i0, hi, hz0, hz1, hz2⟩ := info_parts infoByte
  have hBw := h.le
  go_enter Tryd.func21, Tryd.ntmps21
  go_wp2_with fail
  go_at_call 25
  refine (tlCopy B b bs w h).mono ?_
  rintro e w1 ⟨rfl, ⟨v, q1, q2, q3, q4, q5⟩, hb1, ho1⟩
  have hz := hb1.size
  have c0 : w1.cell? ⟨b, 0, none⟩ = some (.pointer (some ⟨b, 0, none⟩)) := by simp [World.cell?, q2]
  have c1 : w1.cell? ⟨b, 1, none⟩ = some v := by simp [World.cell?, q2]
  have hb : b < w1.heap.size := (Array.getElem?_eq_some_iff.1 q2).1
  go_wp2_with (at_builtin; refine Lib.wpList_append_own_stringF _ rfl _ _ 42 9 rfl B 5 i0 Tryd.underlying42 Tryd.underlying9 hi hz0 hz1 hz2 v bs.length bs rfl q3 s rfl (by unfold maxLen; omega) (by omega) (by omega) ?_; intro v' w2 hown hgrow hnil; (have q6 : w2.heap[b]? = some (.cells #[.pointer (some ⟨b, 0, none⟩), v] 46 (0, 0)) := (hgrow.block b hb (fun e => q4 e.symm)).trans q2); (have d0 : w2.cell? ⟨b, 0, none⟩ = some (.pointer (some ⟨b, 0, none⟩)) := by simp [World.cell?, q6]); (have d1 : w2.cell? ⟨b, 1, none⟩ = some v := by simp [World.cell?, q6]); (have f1 : ∀ i, w2.frozen? ⟨b, i, none⟩ = false := fun i => by simp [World.frozen?, q6]); (obtain ⟨ao, n', cap', rfl⟩ : ∃ ao n' cap, v' = .slice ao n' cap := by rcases hown.2 with ⟨hv, -⟩ | ⟨g, cap, cur, fz, hv, -⟩; exact ⟨_, _, _, hv⟩; exact ⟨_, _, _, hv⟩))
  have hne := Lib.ownBlock_neF hown q6 (by decide)
  first | go_returns | (refine bodyPost_ret (by simp [results, Tryd.results21, go_sem, *]; try rfl) rfl ?_)
  refine ⟨⟨_, rfl⟩, ⟨_, _, .inr rfl, q1, heap_setCell_same _ _ 1 _ _ _ q6, ?_, hne, ?_⟩, ?_, (ho1.grown hgrow (Lib.ownsRowF_kind q3)).setCell ⟨b, 1, none⟩ rfl _⟩
  · rw [List.length_append, Lib.strCells_length]
    exact rowF_on hown (fun g hg => Below.heap_setCell _ _ _ _ (fun e => hne (by rw [hg]; exact congrArg some e)))
  · intro h0
    have h1 : bs.length + s.size = 0 := by
      have h2 := congrArg List.length h0
      rw [List.length_append, Lib.strCells_length] at h2
      exact h2
    exact hnil.2 ⟨q5 (List.length_eq_zero_iff.1 (by omega)), by omega⟩
  · exact (hb1.grown hgrow (by omega) (fun k hk => (rowF_lt q3 k hk).1)).setCell (p := ⟨b, 1, none⟩) q1 _
set_option maxHeartbeats 2000000 in
set_option maxRecDepth 100000 in
theorem tlByte (B b : Nat) (bs : List Value) (c : Int) (w : World) (h : Tl B b bs w) (hlen : bs.length + 1 ≤ 140737488355328) :
    Calls Tryd.prog 23 #[.pointer (some ⟨b, 0, none⟩), .int .u8 c] w fun e w' => (∃ v, e = .returned v) ∧ Tl B b (bs ++ [.int .u8 c]) w' ∧ Below B w w' ∧ Lib.OthersKept 5 (some b) w w' := by
  obtain ⟨i0, hi, hz0, hz1, hz2⟩ := info_parts infoByte
  have hBw := h.le
  go_enter Tryd.func23, Tryd.ntmps23
  go_wp2_with fail
  go_at_call 25
  refine (tlCopy B b bs w h).mono ?_
  rintro e w1 ⟨rfl, ⟨v, q1, q2, q3, q4, q5⟩, hb1, ho1⟩
  have hz := hb1.size
  have c0 : w1.cell? ⟨b, 0, none⟩ = some (.pointer (some ⟨b, 0, none⟩)) := by simp [World.cell?, q2]
  have c1 : w1.cell? ⟨b, 1, none⟩ = some v := by simp [World.cell?, q2]
  have hb : b < w1.heap.size := (Array.getElem?_eq_some_iff.1 q2).1
  obtain ⟨W2, hW2⟩ : ∃ W2, w1.alloc (.cells #[.int .u8 c] 5) = W2 := ⟨_, rfl⟩
  have hB2 : Below w1.heap.size w1 W2 := by rw [← hW2]; exact (Below.refl _ _).alloc (Nat.le_refl _) _
  have hs2 := hB2.size
  have r3 : W2.ownsRowF B 5 1 v bs.length bs := rowF_on q3 (fun g hg => hB2.block g (rowF_lt q3 g hg).2)
  have r2 := (hB2.block b hb).trans q2
  have hnew : ∀ j u, [Value.int .u8 c][j]? = some u → W2.cell? ((⟨w1.heap.size, 0, none⟩ : Addr).add j) = some u := by
    intro j u hj
    match j, hj with
    | 0, hj =>
      simp at hj
      subst hj
      rw [← hW2]
      have hadd : (⟨w1.heap.size, 0, none⟩ : Addr).add 0 = ⟨w1.heap.size, 0, none⟩ := by unfold Addr.add; split <;> simp_all
      rw [hadd]
      exact World.cell?_alloc_new w1 _ _ 0
  go_wp2_with (at_builtin; (refine wpList_append_ownF _ rfl _ _ 42 rfl B 5 i0 (.int .u8 0) 1 1 Tryd.underlying42 hi hz0 hz1 hz2 rfl (by decide) v bs.length bs rfl r3 ⟨w1.heap.size, 0, none⟩ 1 1 [.int .u8 c] rfl rfl hnew (by simp [Value.oneCell']) (by unfold maxLen; omega) (by omega) (by omega) ?_); intro v' w2 hown hgrow hnil; (have q6 : w2.heap[b]? = some (.cells #[.pointer (some ⟨b, 0, none⟩), v] 46 (0, 0)) := (hgrow.block b (by omega) (fun e => q4 e.symm)).trans r2); (have d0 : w2.cell? ⟨b, 0, none⟩ = some (.pointer (some ⟨b, 0, none⟩)) := by simp [World.cell?, q6]); (have d1 : w2.cell? ⟨b, 1, none⟩ = some v := by simp [World.cell?, q6]); (have f1 : ∀ i, w2.frozen? ⟨b, i, none⟩ = false := fun i => by simp [World.frozen?, q6]); (obtain ⟨ao, n', cap', rfl⟩ : ∃ ao n' cap, v' = .slice ao n' cap := by rcases hown.2 with ⟨hv, -⟩ | ⟨g, cap, cur, fz, hv, -⟩; exact ⟨_, _, _, hv⟩; exact ⟨_, _, _, hv⟩))
  have hne := Lib.ownBlock_neF hown q6 (by decide)
  have hob := ho1.trans (ok_new (b := some b) hB2)
  first | go_returns | (refine bodyPost_ret (by simp [results, Tryd.results23, go_sem, *]; try rfl) rfl ?_)
  refine ⟨⟨_, rfl⟩, ⟨_, _, .inr rfl, q1, heap_setCell_same _ _ 1 _ _ _ q6, ?_, hne, ?_⟩, ?_, (hob.grown hgrow (Lib.ownsRowF_kind r3)).setCell ⟨b, 1, none⟩ rfl _⟩
  · rw [List.length_append, List.length_singleton]
    exact rowF_on hown (fun g hg => Below.heap_setCell _ _ _ _ (fun e => hne (by rw [hg]; exact congrArg some e)))
  · intro h0
    simp at h0
  · exact ((hb1.trans (hB2.mono (by omega))).grown hgrow (by omega) (fun k hk => (rowF_lt r3 k hk).1)).setCell (p := ⟨b, 1, none⟩) q1 _
theorem cellsByte : Tryd.prog.cellsOf 5 = 1 := by kernel_rfl
set_option maxHeartbeats 2000000 in
set_option maxRecDepth 100000 in
theorem tlRead (B b : Nat) (l : List UInt8) (w : World) (h : Tl B b (Lib.byteCells l) w) (hl : l.length ≤ 1099511627776) :
    Calls Tryd.prog 16 #[.pointer (some ⟨b, 0, none⟩)] w fun e w' => e = .returned (.string ⟨l.toArray⟩) ∧ Below B w w' := by
  obtain ⟨p, v, h1, h2, h3, h4, h5, h6⟩ := h
  rw [Lib.byteCells_length] at h4
  have c1 : w.drew.cell? ⟨b, 1, none⟩ = some v := by
    have h7 : w.drew.heap[b]? = some (.cells #[p, v] 46 (0, 0)) := h3
    simp [World.cell?, h7]
  have mixed : Tryd.prog.follows .mixedOrders = true := by kernel_rfl
  by_cases h0 : l = []
  · subst h0
    obtain rfl := h6 rfl
    have hSD : (Builtin.unsafeSliceData_ #[42] 61 #[.slice none 0 0]).run Tryd.prog w.drew = .ok (.pointer none) w.drew := rfl
    have hUS := fun (W : World) (q : Option Addr) => Lib.run_unsafeString_none (P := Tryd.prog) W 61 3 9 q
    go_enter Tryd.func16, Tryd.ntmps16
    go_wp2
    go_region_o
    all_goals (go_wp2; go_returns; exact ⟨rfl, (Below.refl B w).drew⟩)
  · have hl0 : l.length ≠ 0 := by simpa using h0
    obtain ⟨g, cap, cur, fz, rfl, hbg, hg, hfz, hnc, hcm, hcs, htake⟩ : ∃ g cap cur fz, v = .slice (some ⟨g, 0, none⟩) l.length cap ∧ B ≤ g ∧ w.heap[g]? = some (.cells cur 5 fz) ∧ fz.2 ≤ l.length * 1 ∧ l.length ≤ cap ∧ cap ≤ maxLen ∧ cur.size = cap * 1 ∧ cur.toList.take (l.length * 1) = Lib.byteCells l := by
      rcases h4.2 with ⟨_, hz⟩ | ⟨g, cap, cur, fz, hv, r⟩
      · exact absurd hz hl0
      · exact ⟨g, cap, cur, fz, hv, r⟩
    have hSD : (Builtin.unsafeSliceData_ #[42] 61 #[.slice (some ⟨g, 0, none⟩) l.length cap]).run Tryd.prog w.drew = .ok (.pointer (some ⟨g, 0, none⟩)) w.drew := Lib.run_unsafeSliceData_row _ _ _ _ _ _ (by omega)
    have hUS : (Builtin.unsafeString_ #[61, 3] 9 #[.pointer (some ⟨g, 0, none⟩), .int .i64 l.length]).run Tryd.prog w.drew = .ok (.string ⟨l.toArray⟩) (w.drew.freeze ⟨g, 0, none⟩ l.length) := by
      have hg' : w.drew.heap[g]? = some (.cells cur 5 fz) := hg
      refine Lib.run_unsafeString_row w.drew 61 3 9 5 Tryd.underlying61 cellsByte g cur.size (by simp [World.shape?, hg']) l h0 (by omega) (by omega) ?_
      intro j x hx
      exact h4.cells (g := g) rfl j (.int .u8 x.toNat) (by simp [Lib.byteCells, hx])
    go_enter Tryd.func16, Tryd.ntmps16
    go_wp2
    go_region_o
    all_goals (go_wp2; go_returns; exact ⟨rfl, Lib.below_freeze (Below.drew (Below.refl B w)) (p := ⟨g, 0, none⟩) hbg _⟩)
end Go.Proofs.YtijblhnjhpmedaaDoor
