/-
  What the program tells of what an expression has within it; an expression that lies in memory as a tree does not hold itself, as it is told.
-/
import Derived.Test.YtijblhnjhpmedaaDoorTellD
import Derived.Test.YtijblhnjhpmedaaDoorHoldB
import Derived.Deep.RegionHeld3
namespace Go.Proofs.YtijblhnjhpmedaaDoor
open Go.RowKit Go.Shelf
set_option linter.unusedSimpArgs false
set_option linter.unusedVariables false
attribute [local go_sem] Oper.semAt_some

theorem emptyStr (l : List UInt8) (b : Bool) (h : (l == []) = b) : ((ba l).toList == (⟨#[]⟩ : ByteArray).toList) = b := by
  rw [← h, ByteArray.toList_eq, ByteArray.toList_eq]
set_option maxRecDepth 10000 in
theorem toldE (k n : Int) (s : ByteArray) (a : Option Addr) (len c : Nat) (w : World) :
    Calls Tryd.prog 14 #[.agg #[.int .i64 k, .int .i64 n, .string s, .slice a len c]] w fun e w' => Below w.heap.size w w' ∧ (e = .returned (.slice none 0 0) ∨ ∃ g, e = .returned (.slice (some ⟨g, 0, none⟩) 1 1) ∧ w.heap.size ≤ g ∧ w'.cell? ⟨g, 0, none⟩ = some (.slice a len c)) := by
  obtain ⟨W1, hW1⟩ : ∃ W1, w.alloc (.cells #[.int .i64 k, .int .i64 n, .string s, .slice a len c] 29) = W1 := ⟨_, rfl⟩
  have hB1 : Below w.heap.size w W1 := by rw [← hW1]; exact (Below.refl _ w).alloc (Nat.le_refl _) _
  have s1 : w.heap.size + 1 = W1.heap.size := by rw [← hW1]; simp
  have c0 : W1.cell? ⟨w.heap.size, 0, none⟩ = some (.int .i64 k) := by rw [← hW1]; exact World.cell?_alloc_new w _ _ 0
  have c3 : W1.cell? ⟨w.heap.size, 3, none⟩ = some (.slice a len c) := by rw [← hW1]; exact World.cell?_alloc_new w _ _ 3
  obtain ⟨b, hb⟩ : ∃ b, (wordE k == []) = b := ⟨_, rfl⟩
  have he := emptyStr _ _ hb
  go_enter Tryd.func14, Tryd.ntmps14
  go_wp2_with fail
  refine wp_region_held_drew (S := fun w' => w'.cell? ⟨w.heap.size, 0, none⟩ = some (.int .i64 k)) (by kernel_rfl) c0 (fun hHeld => ?_)
  refine wpAnyH_take (i := 1) (oi := _) (v := ?_) rfl (by kernel_rfl) (by kernel_rfl) (by kernel_rfl) (fun _ _ _ h => h) (Or.inl ⟨by rfl, ?_⟩) (by assumption) ?_
  rotate_left
  · (intro w hSw; go_simp; (try with_reducible rfl))
  try simp only [Act.put, List.setIfInBounds_toArray, List.set_cons_zero, List.set_cons_succ]
  refine wpAnyH_take (i := 2) (oi := _) (v := ?_) rfl (by kernel_rfl) (by kernel_rfl) (by kernel_rfl) (fun _ _ _ h => h) (Or.inl ⟨by rfl, ?_⟩) (by assumption) ?_
  rotate_left
  · (intro w hSw; go_simp; (try with_reducible rfl))
  try simp only [Act.put, List.setIfInBounds_toArray, List.set_cons_zero, List.set_cons_succ]
  refine wpAnyH_ready (rs := [0]) (by kernel_rfl) (by simp) ?_
  refine AllReadyH.cons (o := _) rfl (fun K hK => ?_) AllReadyH.nil
  go_simp
  go_at_call 20
  refine (wordKind k _).mono ?_
  rintro e x1 ⟨rfl, hb1, hw⟩
  have hw' : ∀ W, Below x1.heap.size x1 W → Calls Tryd.prog 19 #[.slice (some ⟨W1.heap.size, 0, none⟩) 13 13, .int .i64 k] W fun e w' => e = .returned (.string (ba (wordE k))) ∧ w' = W := hw
  have k0 : x1.cell? ⟨w.heap.size, 0, none⟩ = some (.int .i64 k) := below_cell hb1 (show W1.drew.cell? ⟨w.heap.size, 0, none⟩ = _ from c0) (by show w.heap.size < W1.heap.size; omega)
  have k3 : x1.cell? ⟨w.heap.size, 3, none⟩ = some (.slice a len c) := below_cell hb1 (show W1.drew.cell? ⟨w.heap.size, 3, none⟩ = _ from c3) (by show w.heap.size < W1.heap.size; omega)
  try go_wp2_with fail
  refine hK.out _ _ k0 (fun hHeld => ?_)
  clear hK K
  try simp only [Act.put, List.setIfInBounds_toArray, List.set_cons_zero, List.set_cons_succ]
  refine wpAnyH_ready (rs := [3]) (by kernel_rfl) (by simp) ?_
  refine AllReadyH.cons (o := _) rfl (fun K hK => ?_) AllReadyH.nil
  go_simp
  go_at_call 19
  refine (hw' _ (Below.refl _ _)).mono ?_
  rintro e x2 ⟨rfl, hx2⟩
  subst x2
  try go_wp2_with fail
  refine hK.out _ _ k0 (fun hHeld => ?_)
  clear hK K
  try simp only [Act.put, List.setIfInBounds_toArray, List.set_cons_zero, List.set_cons_succ]
  refine wpAnyH_take (i := 4) (oi := _) (v := ?_) rfl (by kernel_rfl) (by kernel_rfl) (by kernel_rfl) (fun _ _ _ h => h) (Or.inl ⟨by rfl, ?_⟩) (by assumption) ?_
  rotate_left
  · (intro w hSw; go_simp; (try with_reducible rfl))
  try simp only [Act.put, List.setIfInBounds_toArray, List.set_cons_zero, List.set_cons_succ]
  refine wpAnyH_done (by kernel_rfl) ?_ _
  have hbd : Below W1.heap.size W1 x1 := (Below.drew (Below.refl W1.heap.size W1)).trans hb1
  have hBx : Below w.heap.size w x1 := hB1.trans (hbd.mono (by omega))
  have hxz := hbd.size
  clear hW1 hw hw' hb1 c0 c3
  cases b
  · go_wp2_with fail
    go_returns
    exact ⟨hBx.alloc hBx.size _, .inr ⟨x1.heap.size, rfl, hBx.size, World.cell?_alloc_new x1 _ _ 0⟩⟩
  · go_wp2_with fail
    go_returns
    exact ⟨hBx, .inl rfl⟩
theorem ERow.under {ok : Nat → Prop} {n : Nat} {A B : World} {a : Option Addr} {l : List XT} (h : ERow ok A a l) (hk : Below n A B) (hs : ∀ b, ok b → b < n) : ERow ok B a l := by
  intro i k hi
  obtain ⟨b, o, h1, h2, h3⟩ := h i k hi
  exact ⟨b, o, h1, h2, h3.below hk (hs b h2)⟩
def psOf {α : Type} (xs : List (Nat × Nat × α)) : List (Nat × Nat) := xs.map (fun x => (x.1, x.2.1))
theorem psOf_snoc {α : Type} (xs : List (Nat × Nat × α)) (x : Nat × Nat × α) : psOf (xs ++ [x]) = psOf xs ++ [(x.1, x.2.1)] := by simp [psOf]
theorem kept_below {S : Nat → Prop} {A B : World} {N : Nat} (h : Kept S A B) (hN : N ≤ A.heap.size) (hs : ∀ k, S k → N ≤ k) : Below N A B := h.below hN hs
theorem cell_one_new (w : World) (v : Value) (T : TypeId) : ∀ j u, [v][j]? = some u → (w.alloc (.cells #[v] T)).cell? ((⟨w.heap.size, 0, none⟩ : Addr).add j) = some u := by
  intro j u h
  cases j with
  | zero =>
    simp at h
    subst h
    have hadd : (⟨w.heap.size, 0, none⟩ : Addr).add 0 = ⟨w.heap.size, 0, none⟩ := by unfold Addr.add; split <;> simp_all
    rw [hadd]
    exact World.cell?_alloc_new w #[v] T 0
  | succ j => simp at h
theorem infoPE : (Tryd.prog.info? 51).map (fun i => (i.zero, i.size, i.bytes)) = some (some (.pointer none), 1, 8) := by kernel_rfl
structure ArndE (ok : Nat → Prop) (W : World) (N : Nat) (v : Value) (xs : List (Nat × Nat × XT)) (m : Nat) : Prop where
  own : W.ownsRow N 51 1 v (psOf xs).length ((psOf xs).map ptrV)
  lie : ∀ x ∈ xs, Cells4 W x.1 x.2.1 x.2.2 ∧ Lies ok W x.2.2 ∧ ok x.1 ∧ m < x.2.2.size
set_option maxRecDepth 20000 in
set_option maxHeartbeats 8000000 in
theorem holdsT (sz : Nat) : ∀ ks : List XT, XT.sizeAll ks ≤ sz → ks.length ≤ 1099511627776 → ∀ (a : Option Addr) (c : Nat) (ok : Nat → Prop) (N : Nat) (v : Value) (xs : List (Nat × Nat × XT)) (w : World), (∀ b, ok b → b < N ∧ Pl w b) → N ≤ w.heap.size →
    ERow ok w a ks → (∀ (i : Nat) (k : XT), ks[i]? = some k → Lies ok w k) → ArndE ok w N v xs (XT.sizeAll ks) → xs.length + XT.sizeAll ks ≤ 4194304 →
    Calls Tryd.prog 13 #[.slice a ks.length c, .func (.func 14) #[] #[], v] w fun e w' => e = .returned (.bool false) ∧ Kept (fun k => v.ownBlock = some k) w w' ∧ w'.ownsRow N 51 1 v (psOf xs).length ((psOf xs).map ptrV) := by
  induction sz using Nat.strongRecOn with
  | _ sz ih =>
  intro ks hsz hlen a c ok N v xs w hok hN hR hL hA htot
  obtain ⟨i0, hi0, hz0, hz1, hz2⟩ := info_parts infoPE
  obtain ⟨len, hl⟩ : ∃ len, ks.length = len := ⟨_, rfl⟩
  rw [hl] at hlen ⊢
  have hxl : (psOf xs).length = xs.length := by simp [psOf]
  have hvN : ∀ g, v.ownBlock = some g → N ≤ g := fun g hg => (hA.own.lt g hg).1
  have hown0 : Hid (w.ownsRow N 51 1 v (psOf xs).length ((psOf xs).map ptrV)) := hA.own
  -- what is known of a world in which all but the list of pointers is as it was
  have facts : Hid (∀ wr : World, Kept (fun k => v.ownBlock = some k) w wr → ∀ (i : Nat) (x : XT), ks[i]? = some x → ∃ b o, a = some ⟨b, o, none⟩ ∧ ok b ∧ Cells4 wr b (o + i * 4) x ∧ Lies ok wr x ∧ (∀ b, ok b → b < N ∧ Pl wr b) ∧ (∀ y ∈ xs, Cells4 wr y.1 y.2.1 y.2.2 ∧ Lies ok wr y.2.2 ∧ ok y.1 ∧ XT.sizeAll ks < y.2.2.size) ∧ (∀ p ∈ psOf xs, p ≠ (b, o + i * 4)) ∧ (∀ p ∈ psOf xs, Pl wr p.1)) := by
    intro wr hk i x hx
    have hBN : Below N w wr := kept_below hk hN (fun k h => hvN k h)
    obtain ⟨b, o, h1, h2, h3⟩ := hR i x hx
    have hcx := h3.below hBN (hok b h2).1
    have hLx := (hL i x hx).under hBN (fun b hb => (hok b hb).1)
    have hlie : ∀ y ∈ xs, Cells4 wr y.1 y.2.1 y.2.2 ∧ Lies ok wr y.2.2 ∧ ok y.1 ∧ XT.sizeAll ks < y.2.2.size := by
      intro y hy
      obtain ⟨l1, l2, l3, l4⟩ := hA.lie y hy
      exact ⟨l1.below hBN (hok _ l3).1, l2.under hBN (fun b hb => (hok b hb).1), l3, l4⟩
    refine ⟨b, o, h1, h2, hcx, hLx, fun b hb => ⟨(hok b hb).1, (hok b hb).2.below hBN (hok b hb).1⟩, hlie, ?_, ?_⟩
    · intro p hp e
      subst e
      simp only [psOf, List.mem_map] at hp
      obtain ⟨y, hy, e⟩ := hp
      obtain ⟨l1, l2, l3, l4⟩ := hlie y hy
      obtain ⟨y1, y2, y3⟩ := y
      cases e
      have := Lies.one _ _ _ (Nat.le_refl _) (l1.heads hcx) l2 hLx
      dsimp only at this l4
      rw [this] at l4
      have h5 := XT.size_get hx
      omega
    · intro p hp
      simp only [psOf, List.mem_map] at hp
      obtain ⟨y, hy, rfl⟩ := hp
      obtain ⟨l1, l2, l3, l4⟩ := hlie y hy
      exact (hok _ l3).2.below hBN (hok _ l3).1
  have ih' : Hid (∀ m < sz, ∀ ks : List XT, XT.sizeAll ks ≤ m → ks.length ≤ 1099511627776 → ∀ (a : Option Addr) (c : Nat) (ok : Nat → Prop) (N : Nat) (v : Value) (xs : List (Nat × Nat × XT)) (w : World), (∀ b, ok b → b < N ∧ Pl w b) → N ≤ w.heap.size →
    ERow ok w a ks → (∀ (i : Nat) (k : XT), ks[i]? = some k → Lies ok w k) → ArndE ok w N v xs (XT.sizeAll ks) → xs.length + XT.sizeAll ks ≤ 4194304 →
    Calls Tryd.prog 13 #[.slice a ks.length c, .func (.func 14) #[] #[], v] w fun e w' => e = .returned (.bool false) ∧ Kept (fun k => v.ownBlock = some k) w w' ∧ w'.ownsRow N 51 1 v (psOf xs).length ((psOf xs).map ptrV)) := ih
  clear ih hR hL hA hok
  go_enter Tryd.func13, Tryd.ntmps13
  go_wp2_with fail
  go_loopw [13] (fun v13 wr => ∃ (i : Nat), v13 = .int .i64 i ∧ i ≤ len ∧ Kept (fun k => v.ownBlock = some k) w wr ∧ Hid (wr.ownsRow N 51 1 v (psOf xs).length ((psOf xs).map ptrV))) (fun v13 _ => len - (intOf v13).toNat)
  case atStart => exact ⟨0, rfl, by omega, Kept.refl _ _, hown0⟩
  case round =>
    obtain ⟨i, rfl, hi, hK, hown⟩ := hrel
    rename World => wo
    by_cases hlt : i < len
    · obtain ⟨x, hx⟩ : ∃ x, ks[i]? = some x := ⟨_, List.getElem?_eq_getElem (by omega)⟩
      obtain ⟨b, o, hbase, hokb, hcx, hLx, hokr, hlie, hne, hpl⟩ := facts.out wo hK i x hx
      have hct : Hid (Calls Tryd.prog 18 #[v, .pointer (some ⟨b, o + i * 4, none⟩)] wo fun e w' => e = .returned (.bool false) ∧ w' = wo) := containsE b (o + i * 4) v (psOf xs) N 51 wo hown.out hne hpl (hokr b hokb).2 (by omega)
      have hcx' : Hid (Cells4 wo b (o + i * 4) x) := hcx
      have hN' : N ≤ wo.heap.size := Nat.le_trans hN hK.size
      have hbN := (hokr b hokb).1
      have hss := XT.size_get hx
      have hsq := x.size_eq
      have hlt0 := x.length_le
      have hlt1 := x.length_le
      obtain ⟨c0, c1, c2, c3⟩ := hcx
      have hlieH : Hid (∀ y ∈ xs, Cells4 wo y.1 y.2.1 y.2.2 ∧ Lies ok wo y.2.2 ∧ ok y.1 ∧ XT.sizeAll ks < y.2.2.size) := hlie
      have hokH : Hid (∀ b, ok b → b < N ∧ Pl wo b) := hokr
      have hLH : Hid (Lies ok wo x) := hLx
      clear hlie hne hpl hokr hLx
      subst hbase
      go_wp2_with (go_at_call 18; refine hct.out.mono ?_; rintro e w5 ⟨rfl, hw⟩; subst w5)
      go_at_call 14
      refine (toldE _ _ _ _ _ _ _).mono ?_
      rintro e W2 ⟨hB2, hcases⟩
      have hs2 := hB2.size
      clear c0 c1 c2 c3
      have hK2 : Kept (fun k => v.ownBlock = some k) w W2 := hK.trans (Kept.of_new _ hB2)
      have hown2 : Hid (W2.ownsRow N 51 1 v (psOf xs).length ((psOf xs).map ptrV)) := own_on hown.out (fun g hg => hB2.block g (hown.out.lt g hg).2)
      have hgw : ∀ g, v.ownBlock = some g → g < wo.heap.size := fun g hg => (hown.out.lt g hg).2
      rcases hcases with rfl | ⟨g, rfl, hgw2, hcell⟩
      · go_wp2_with fail
        go_loopw [28] (fun v28 wr => v28 = .int .i64 0 ∧ Kept (fun k => v.ownBlock = some k) W2 wr ∧ Hid (wr.ownsRow N 51 1 v (psOf xs).length ((psOf xs).map ptrV))) (fun v28 _ => 0)
        case atStart => exact ⟨rfl, Kept.refl _ _, hown2⟩
        case round =>
          obtain ⟨rfl, hKj, hownj⟩ := hrel
          go_wp2_with fail
          refine ⟨⟨i + 1, by go_num, by omega, hK2.trans hKj, hownj⟩, ?_⟩
          simp [intOf]
          omega
      · go_wp2_with fail
        go_loopw [28] (fun v28 wr => ∃ (j : Nat), v28 = .int .i64 j ∧ j ≤ 1 ∧ Kept (fun k => v.ownBlock = some k) W2 wr ∧ Hid (wr.ownsRow N 51 1 v (psOf xs).length ((psOf xs).map ptrV))) (fun v28 _ => 1 - (intOf v28).toNat)
        case atStart => exact ⟨0, rfl, by omega, Kept.refl _ _, hown2⟩
        case round =>
          obtain ⟨j, rfl, hj, hKj, hownj⟩ := hrel
          have hzj := hKj.size
          by_cases hjl : j < 1
          · have step : Hid (∀ (la : List XT) (ba : Option Addr) (ca : Nat), XT.sizeAll la < x.size → la.length ≤ 1099511627776 → (∀ W, Lies ok W x → ERow ok W ba la ∧ ∀ (i : Nat) (k : XT), la[i]? = some k → Lies ok W k) → ∀ (v' : Value) (w2 : World), w2.ownsRow N 51 1 v' ((psOf xs).length + 1) ((psOf xs).map ptrV ++ [ptrV (b, o + i * 4)]) → Kept (fun k => v.ownBlock = some k ∨ v'.ownBlock = some k) wo w2 → (∀ g, v'.ownBlock = some g → N ≤ g) →
                Calls Tryd.prog 13 #[.slice ba la.length ca, .func (.func 14) #[] #[], v'] w2 fun e w' => e = .returned (.bool false) ∧ Kept (fun k => v'.ownBlock = some k) w2 w' ∧ w'.ownsRow N 51 1 v' ((psOf xs).length + 1) ((psOf xs).map ptrV ++ [ptrV (b, o + i * 4)])) := by
              intro la ba ca hsl hll hrow v' w2 ho2 hk2 hv'
              have hBN : Below N wo w2 := kept_below hk2 hN' (fun k h => h.elim (fun h => hvN k h) (fun h => hv' k h))
              obtain ⟨r1, r2⟩ := hrow w2 (hLH.out.under hBN (fun b hb => (hokH.out b hb).1))
              have hp : (psOf (xs ++ [(b, o + i * 4, x)])) = psOf xs ++ [(b, o + i * 4)] := psOf_snoc xs _
              have hq := ih'.out (XT.sizeAll la) (by omega) la (Nat.le_refl _) hll ba ca ok N v' (xs ++ [(b, o + i * 4, x)]) w2 (fun b hb => ⟨(hokH.out b hb).1, (hokH.out b hb).2.below hBN (hokH.out b hb).1⟩) (Nat.le_trans hN' hk2.size) r1 r2 ⟨by rw [hp]; simpa using ho2, ?_⟩ (by simp; omega)
              · rw [hp] at hq
                simpa using hq
              · intro y hy
                rcases List.mem_append.1 hy with hy | hy
                · obtain ⟨l1, l2, l3, l4⟩ := hlieH.out y hy
                  exact ⟨l1.below hBN (hokH.out _ l3).1, l2.under hBN (fun b hb => (hokH.out b hb).1), l3, by omega⟩
                · simp only [List.mem_singleton] at hy
                  subst hy
                  exact ⟨hcx'.out.below hBN hbN, hLH.out.under hBN (fun b hb => (hokH.out b hb).1), hokb, hsl⟩
            have hVN : ∀ g, (∀ (v' : Value) (w2 : World), w2.ownsRow N 51 1 v' ((psOf xs).length + 1) ((psOf xs).map ptrV ++ [ptrV (b, o + i * 4)]) → v'.ownBlock = some g → N ≤ g) := fun g v' w2 h hg => (h.lt g hg).1
            obtain rfl : j = 0 := by omega
            have d0 := hKj.cell hcell (fun h => by have := hgw _ h; dsimp only at this; omega)
            have howna : Hid ((wr.alloc (.cells #[ptrV (b, o + i * 4)] 51)).ownsRow N 51 1 v (psOf xs).length ((psOf xs).map ptrV)) := own_on hownj.out (fun g hg => Below.heap_alloc _ _ _ ((hownj.out.lt g hg).2))
            go_wp2_with (at_builtin; refine wpList_append_back _ rfl _ _ 50 rfl N 51 i0 _ 1 8 Tryd.underlying50 hi0 hz0 hz1 hz2 rfl (by decide) v (psOf xs).length ((psOf xs).map ptrV) rfl howna.out ⟨wr.heap.size, 0, none⟩ 1 1 [ptrV (b, o + i * 4)] rfl rfl (cell_one_new _ _ _) (by simp [Value.oneCell']) (by unfold maxLen; omega) (by omega) (by rw [World.size_alloc]; omega) (by omega) ?_; intro v' w2 hown' hback)
            go_at_call 13
            refine (step.out x.kids x.base x.cap (by omega) (by omega) (fun W h => ⟨h.cells, h.kid⟩) v' w2 hown' ?k2 (fun g hg => (hown'.lt g hg).1)).mono ?_
            case k2 => exact ((Kept.of_new _ hB2).trans (hKj.mono (fun k _ h => .inl h))).trans (((Kept.refl _ wr).alloc _).trans hback.kept)
            rintro e w3 ⟨rfl, hk3, ho3⟩
            obtain ⟨hk4, ho4⟩ := hback.on howna.out hk3 ho3
            clear hown' hback hk3 ho3
            go_wp2
            exact ⟨⟨0 + 1, by go_num, by omega, (hKj.alloc _).trans hk4, ho4⟩, by simp [intOf]⟩
          · go_wp2_with fail
            all_goals first | (exfalso; omega) | skip
            refine ⟨⟨i + 1, by go_num, by omega, hK2.trans hKj, hownj⟩, ?_⟩
            simp [intOf]
            omega
    · go_wp2_with fail
      go_returns
      exact ⟨rfl, hK, hown⟩
end Go.Proofs.YtijblhnjhpmedaaDoor
