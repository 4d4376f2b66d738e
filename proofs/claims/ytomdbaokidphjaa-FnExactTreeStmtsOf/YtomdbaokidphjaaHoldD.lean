/-
  A statement that lies in memory as a tree does not hold itself: the program's look for it says no.
-/
import Derived.Test.YtomdbaokidphjaaHoldB
import Derived.Test.YtomdbaokidphjaaHoldC
import Derived.Test.YtomdbaokidphjaaOkI
namespace Go.Proofs.Ytomdbaokidphjaa
open Go.RowKit Go.Shelf
set_option linter.unusedSimpArgs false
set_option linter.unusedVariables false
attribute [local go_sem] Oper.semAt_some

theorem infoPS : (Try.prog.info? 69).map (fun i => (i.zero, i.size, i.bytes)) = some (some (.pointer none), 1, 8) := by kernel_rfl
structure ArndS (ok : Nat → Prop) (W : World) (N : Nat) (v : Value) (xs : List (Nat × Nat × SX)) (m : Nat) : Prop where
  own : W.ownsRow N 69 1 v (psOf xs).length ((psOf xs).map ptrV)
  lie : ∀ x ∈ xs, Cells12 W x.1 x.2.1 x.2.2 ∧ LiesS ok W x.2.2 ∧ ok x.1 ∧ m < x.2.2.size
set_option maxRecDepth 20000 in
set_option maxHeartbeats 8000000 in
theorem holdsS (sz : Nat) : ∀ ks : List SX, SX.sizeAll ks ≤ sz → ks.length ≤ 1099511627776 → ∀ (a : Option Addr) (c : Nat) (ok : Nat → Prop) (N : Nat) (v : Value) (xs : List (Nat × Nat × SX)) (w : World), (∀ b, ok b → b < N ∧ Pl w b) → N ≤ w.heap.size →
    SRow ok w a ks → (∀ (i : Nat) (k : SX), ks[i]? = some k → LiesS ok w k) → ArndS ok w N v xs (SX.sizeAll ks) → xs.length + SX.sizeAll ks ≤ 4194304 →
    Calls Try.prog 25 #[.slice a ks.length c, .func (.func 26) #[] #[], v] w fun e w' => e = .returned (.bool false) ∧ Kept (fun k => v.ownBlock = some k) w w' ∧ w'.ownsRow N 69 1 v (psOf xs).length ((psOf xs).map ptrV) := by
  induction sz using Nat.strongRecOn with
  | _ sz ih =>
  intro ks hsz hlen a c ok N v xs w hok hN hR hL hA htot
  obtain ⟨i0, hi0, hz0, hz1, hz2⟩ := info_parts infoPS
  obtain ⟨len, hl⟩ : ∃ len, ks.length = len := ⟨_, rfl⟩
  rw [hl] at hlen ⊢
  have hxl : (psOf xs).length = xs.length := by simp [psOf]
  have hvN : ∀ g, v.ownBlock = some g → N ≤ g := fun g hg => (hA.own.lt g hg).1
  have hown0 : Hid (w.ownsRow N 69 1 v (psOf xs).length ((psOf xs).map ptrV)) := hA.own
  -- what is known of a world in which all but the list of pointers is as it was
  have facts : Hid (∀ wr : World, Kept (fun k => v.ownBlock = some k) w wr → ∀ (i : Nat) (x : SX), ks[i]? = some x → ∃ b o, a = some ⟨b, o, none⟩ ∧ ok b ∧ Cells12 wr b (o + i * 12) x ∧ LiesS ok wr x ∧ (∀ b, ok b → b < N ∧ Pl wr b) ∧ (∀ y ∈ xs, Cells12 wr y.1 y.2.1 y.2.2 ∧ LiesS ok wr y.2.2 ∧ ok y.1 ∧ SX.sizeAll ks < y.2.2.size) ∧ (∀ p ∈ psOf xs, p ≠ (b, o + i * 12)) ∧ (∀ p ∈ psOf xs, Pl wr p.1)) := by
    intro wr hk i x hx
    have hBN : Below N w wr := kept_below hk hN (fun k h => hvN k h)
    obtain ⟨b, o, h1, h2, h3⟩ := hR i x hx
    have hcx := h3.below hBN (hok b h2).1
    have hLx := (hL i x hx).under hBN (fun b hb => (hok b hb).1)
    have hlie : ∀ y ∈ xs, Cells12 wr y.1 y.2.1 y.2.2 ∧ LiesS ok wr y.2.2 ∧ ok y.1 ∧ SX.sizeAll ks < y.2.2.size := by
      intro y hy
      obtain ⟨l1, l2, l3, l4⟩ := hA.lie y hy
      exact ⟨l1.below hBN (hok _ l3).1, l2.under hBN (fun b hb => (hok b hb).1), l3, l4⟩
    refine ⟨b, o, h1, h2, hcx, hLx, fun b hb => ⟨(hok b hb).1, (hok b hb).2.below hBN (hok b hb).1⟩, hlie, ?_, ?_⟩
    · intro p hp e
      subst e
      simp only [psOf, List.mem_map] at hp
      obtain ⟨y, hy, e⟩ := hp
      obtain ⟨l1, l2, l3, l4⟩ := hlie y hy
      obtain ⟨y1, y2, y3⟩ := y
      cases e
      have := LiesS.one _ _ _ (Nat.le_refl _) ⟨_, _, l1, hcx⟩ l2 hLx
      dsimp only at this l4
      rw [this] at l4
      have h5 := SX.size_get hx
      omega
    · intro p hp
      simp only [psOf, List.mem_map] at hp
      obtain ⟨y, hy, rfl⟩ := hp
      obtain ⟨l1, l2, l3, l4⟩ := hlie y hy
      exact (hok _ l3).2.below hBN (hok _ l3).1
  have ih' : Hid (∀ m < sz, ∀ ks : List SX, SX.sizeAll ks ≤ m → ks.length ≤ 1099511627776 → ∀ (a : Option Addr) (c : Nat) (ok : Nat → Prop) (N : Nat) (v : Value) (xs : List (Nat × Nat × SX)) (w : World), (∀ b, ok b → b < N ∧ Pl w b) → N ≤ w.heap.size →
    SRow ok w a ks → (∀ (i : Nat) (k : SX), ks[i]? = some k → LiesS ok w k) → ArndS ok w N v xs (SX.sizeAll ks) → xs.length + SX.sizeAll ks ≤ 4194304 →
    Calls Try.prog 25 #[.slice a ks.length c, .func (.func 26) #[] #[], v] w fun e w' => e = .returned (.bool false) ∧ Kept (fun k => v.ownBlock = some k) w w' ∧ w'.ownsRow N 69 1 v (psOf xs).length ((psOf xs).map ptrV)) := ih
  clear ih hR hL hA hok
  go_enter Try.func25, Try.ntmps25
  go_wp2_with fail
  go_loopw [13] (fun v13 wr => ∃ (i : Nat), v13 = .int .i64 i ∧ i ≤ len ∧ Kept (fun k => v.ownBlock = some k) w wr ∧ Hid (wr.ownsRow N 69 1 v (psOf xs).length ((psOf xs).map ptrV))) (fun v13 _ => len - (intOf v13).toNat)
  case atStart => exact ⟨0, rfl, by omega, Kept.refl _ _, hown0⟩
  case round =>
    obtain ⟨i, rfl, hi, hK, hown⟩ := hrel
    rename World => wo
    by_cases hlt : i < len
    · obtain ⟨x, hx⟩ : ∃ x, ks[i]? = some x := ⟨_, List.getElem?_eq_getElem (by omega)⟩
      obtain ⟨b, o, hbase, hokb, hcx, hLx, hokr, hlie, hne, hpl⟩ := facts.out wo hK i x hx
      have hct : Hid (Calls Try.prog 35 #[v, .pointer (some ⟨b, o + i * 12, none⟩)] wo fun e w' => e = .returned (.bool false) ∧ w' = wo) := containsS b (o + i * 12) v (psOf xs) N 69 wo hown.out hne hpl (hokr b hokb).2 (by omega)
      have hcx' : Hid (Cells12 wo b (o + i * 12) x) := hcx
      have hN' : N ≤ wo.heap.size := Nat.le_trans hN hK.size
      have hbN := (hokr b hokb).1
      have hss := SX.size_get hx
      have hsq := x.size_eq
      have hlt0 := SX.length_le x.la
      have hlt1 := SX.length_le x.lb
      obtain ⟨c0, c1, c2, c3, c4, c5, c6, c7, c8, c9, c10, c11⟩ := hcx
      have hlieH : Hid (∀ y ∈ xs, Cells12 wo y.1 y.2.1 y.2.2 ∧ LiesS ok wo y.2.2 ∧ ok y.1 ∧ SX.sizeAll ks < y.2.2.size) := hlie
      have hokH : Hid (∀ b, ok b → b < N ∧ Pl wo b) := hokr
      have hLH : Hid (LiesS ok wo x) := hLx
      clear hlie hne hpl hokr hLx
      subst hbase
      obtain ⟨W2, hW2⟩ : ∃ W2, (wo.alloc (.cells #[.int .i64 x.kind, .string x.name, .int .i64 x.e.kind, .int .i64 x.e.num, .string x.e.name, .slice x.e.base x.e.kids.length x.e.cap, .int .i64 x.f.kind, .int .i64 x.f.num, .string x.f.name, .slice x.f.base x.f.kids.length x.f.cap, .slice x.abase x.la.length x.acap, .slice x.bbase x.lb.length x.bcap] 40)).alloc (.cells #[.slice x.abase x.la.length x.acap, .slice x.bbase x.lb.length x.bcap] 24) = W2 := ⟨_, rfl⟩
      have hB2 : Below wo.heap.size wo W2 := by rw [← hW2]; exact ((Below.refl _ wo).alloc (Nat.le_refl _) _).alloc (by simp) _
      have hs2 : W2.heap.size = wo.heap.size + 2 := by rw [← hW2]; simp
      have hl0 : W2.cell? ⟨wo.heap.size + 1, 0, none⟩ = some (.slice x.abase x.la.length x.acap) := by
        have h1 := World.cell?_alloc_new (wo.alloc (.cells #[.int .i64 x.kind, .string x.name, .int .i64 x.e.kind, .int .i64 x.e.num, .string x.e.name, .slice x.e.base x.e.kids.length x.e.cap, .int .i64 x.f.kind, .int .i64 x.f.num, .string x.f.name, .slice x.f.base x.f.kids.length x.f.cap, .slice x.abase x.la.length x.acap, .slice x.bbase x.lb.length x.bcap] 40)) #[.slice x.abase x.la.length x.acap, .slice x.bbase x.lb.length x.bcap] 24 0
        rw [World.size_alloc, hW2] at h1
        exact h1
      have hl1 : W2.cell? ⟨wo.heap.size + 1, 1, none⟩ = some (.slice x.bbase x.lb.length x.bcap) := by
        have h1 := World.cell?_alloc_new (wo.alloc (.cells #[.int .i64 x.kind, .string x.name, .int .i64 x.e.kind, .int .i64 x.e.num, .string x.e.name, .slice x.e.base x.e.kids.length x.e.cap, .int .i64 x.f.kind, .int .i64 x.f.num, .string x.f.name, .slice x.f.base x.f.kids.length x.f.cap, .slice x.abase x.la.length x.acap, .slice x.bbase x.lb.length x.bcap] 40)) #[.slice x.abase x.la.length x.acap, .slice x.bbase x.lb.length x.bcap] 24 1
        rw [World.size_alloc, hW2] at h1
        exact h1
      go_wp2_with (first | (go_at_call 35; refine hct.out.mono ?_; rintro e w5 ⟨rfl, hw⟩; subst w5) | (go_at_call 26; refine (listsS0 _ _ _ _ _ _ _ _ _ _ _ _ _ _ _ _ _ _ _ _ _).mono ?_; rintro e w6 ⟨rfl, hw⟩; subst w6))
      clear c0 c1 c2 c3 c4 c5 c6 c7 c8 c9 c10 c11 hW2
      have hK2 : Kept (fun k => v.ownBlock = some k) w W2 := hK.trans (Kept.of_new _ hB2)
      have hown2 : Hid (W2.ownsRow N 69 1 v (psOf xs).length ((psOf xs).map ptrV)) := own_on hown.out (fun g hg => hB2.block g (hown.out.lt g hg).2)
      have hgw : ∀ g, v.ownBlock = some g → g < wo.heap.size := fun g hg => (hown.out.lt g hg).2
      go_loopw [28] (fun v28 wr => ∃ (j : Nat), v28 = .int .i64 j ∧ j ≤ 2 ∧ Kept (fun k => v.ownBlock = some k) W2 wr ∧ Hid (wr.ownsRow N 69 1 v (psOf xs).length ((psOf xs).map ptrV))) (fun v28 _ => 2 - (intOf v28).toNat)
      case atStart => exact ⟨0, rfl, by omega, Kept.refl _ _, hown2⟩
      case round =>
        obtain ⟨j, rfl, hj, hKj, hownj⟩ := hrel
        have hzj := hKj.size
        by_cases hjl : j < 2
        · have step : Hid (∀ (la : List SX) (ba : Option Addr) (ca : Nat), SX.sizeAll la < x.size → la.length ≤ 1099511627776 → (∀ W, LiesS ok W x → SRow ok W ba la ∧ ∀ (i : Nat) (k : SX), la[i]? = some k → LiesS ok W k) → ∀ (v' : Value) (w2 : World), w2.ownsRow N 69 1 v' ((psOf xs).length + 1) ((psOf xs).map ptrV ++ [ptrV (b, o + i * 12)]) → Kept (fun k => v.ownBlock = some k ∨ v'.ownBlock = some k) wo w2 → (∀ g, v'.ownBlock = some g → N ≤ g) →
              Calls Try.prog 25 #[.slice ba la.length ca, .func (.func 26) #[] #[], v'] w2 fun e w' => e = .returned (.bool false) ∧ Kept (fun k => v'.ownBlock = some k) w2 w' ∧ w'.ownsRow N 69 1 v' ((psOf xs).length + 1) ((psOf xs).map ptrV ++ [ptrV (b, o + i * 12)])) := by
            intro la ba ca hsl hll hrow v' w2 ho2 hk2 hv'
            have hBN : Below N wo w2 := kept_below hk2 hN' (fun k h => h.elim (fun h => hvN k h) (fun h => hv' k h))
            obtain ⟨r1, r2⟩ := hrow w2 (hLH.out.under hBN (fun b hb => (hokH.out b hb).1))
            have hp : (psOf (xs ++ [(b, o + i * 12, x)])) = psOf xs ++ [(b, o + i * 12)] := psOf_snoc xs _
            have hq := ih'.out (SX.sizeAll la) (by omega) la (Nat.le_refl _) hll ba ca ok N v' (xs ++ [(b, o + i * 12, x)]) w2 (fun b hb => ⟨(hokH.out b hb).1, (hokH.out b hb).2.below hBN (hokH.out b hb).1⟩) (Nat.le_trans hN' hk2.size) r1 r2 ⟨by rw [hp]; simpa using ho2, ?_⟩ (by simp; omega)
            · rw [hp] at hq
              simpa using hq
            · intro y hy
              rcases List.mem_append.1 hy with hy | hy
              · obtain ⟨l1, l2, l3, l4⟩ := hlieH.out y hy
                exact ⟨l1.below hBN (hokH.out _ l3).1, l2.under hBN (fun b hb => (hokH.out b hb).1), l3, by omega⟩
              · simp only [List.mem_singleton] at hy
                subst hy
                exact ⟨hcx'.out.below hBN hbN, hLH.out.under hBN (fun b hb => (hokH.out b hb).1), hokb, hsl⟩
          have hVN : ∀ g, (∀ (v' : Value) (w2 : World), w2.ownsRow N 69 1 v' ((psOf xs).length + 1) ((psOf xs).map ptrV ++ [ptrV (b, o + i * 12)]) → v'.ownBlock = some g → N ≤ g) := fun g v' w2 h hg => (h.lt g hg).1
          rcases (show j = 0 ∨ j = 1 by omega) with rfl | rfl
          · skip
            have d0 := hKj.cell hl0 (fun h => by have := hgw _ h; dsimp only at this; omega)
            have howna : Hid ((wr.alloc (.cells #[ptrV (b, o + i * 12)] 69)).ownsRow N 69 1 v (psOf xs).length ((psOf xs).map ptrV)) := own_on hownj.out (fun g hg => Below.heap_alloc _ _ _ ((hownj.out.lt g hg).2))
            go_wp2_with (at_builtin; refine wpList_append_back _ rfl _ _ 68 rfl N 69 i0 _ 1 8 Try.underlying68 hi0 hz0 hz1 hz2 rfl (by decide) v (psOf xs).length ((psOf xs).map ptrV) rfl howna.out ⟨wr.heap.size, 0, none⟩ 1 1 [ptrV (b, o + i * 12)] rfl rfl (cell_one_new _ _ _) (by simp [Value.oneCell']) (by unfold maxLen; omega) (by omega) (by rw [World.size_alloc]; omega) (by omega) ?_; intro v' w2 hown' hback)
            go_at_call 25
            refine (step.out x.la x.abase x.acap (by omega) (by omega) (fun W h => ⟨h.parts.2.2.1, h.parts.2.2.2.2.1⟩) v' w2 hown' ?k2 (fun g hg => (hown'.lt g hg).1)).mono ?_
            case k2 => exact ((Kept.of_new _ hB2).trans (hKj.mono (fun k _ h => .inl h))).trans (((Kept.refl _ wr).alloc _).trans hback.kept)
            rintro e w3 ⟨rfl, hk3, ho3⟩
            obtain ⟨hk4, ho4⟩ := hback.on howna.out hk3 ho3
            clear hown' hback hk3 ho3
            go_wp2
            exact ⟨⟨0 + 1, by go_num, by omega, (hKj.alloc _).trans hk4, ho4⟩, by simp [intOf]⟩
          · skip
            have d0 := hKj.cell hl1 (fun h => by have := hgw _ h; dsimp only at this; omega)
            have howna : Hid ((wr.alloc (.cells #[ptrV (b, o + i * 12)] 69)).ownsRow N 69 1 v (psOf xs).length ((psOf xs).map ptrV)) := own_on hownj.out (fun g hg => Below.heap_alloc _ _ _ ((hownj.out.lt g hg).2))
            go_wp2_with (at_builtin; refine wpList_append_back _ rfl _ _ 68 rfl N 69 i0 _ 1 8 Try.underlying68 hi0 hz0 hz1 hz2 rfl (by decide) v (psOf xs).length ((psOf xs).map ptrV) rfl howna.out ⟨wr.heap.size, 0, none⟩ 1 1 [ptrV (b, o + i * 12)] rfl rfl (cell_one_new _ _ _) (by simp [Value.oneCell']) (by unfold maxLen; omega) (by omega) (by rw [World.size_alloc]; omega) (by omega) ?_; intro v' w2 hown' hback)
            go_at_call 25
            refine (step.out x.lb x.bbase x.bcap (by omega) (by omega) (fun W h => ⟨h.parts.2.2.2.1, h.parts.2.2.2.2.2⟩) v' w2 hown' ?k2 (fun g hg => (hown'.lt g hg).1)).mono ?_
            case k2 => exact ((Kept.of_new _ hB2).trans (hKj.mono (fun k _ h => .inl h))).trans (((Kept.refl _ wr).alloc _).trans hback.kept)
            rintro e w3 ⟨rfl, hk3, ho3⟩
            obtain ⟨hk4, ho4⟩ := hback.on howna.out hk3 ho3
            clear hown' hback hk3 ho3
            go_wp2
            exact ⟨⟨1 + 1, by go_num, by omega, (hKj.alloc _).trans hk4, ho4⟩, by simp [intOf]⟩
        · go_wp2_with fail
          all_goals first | (exfalso; omega) | skip
          refine ⟨⟨i + 1, by go_num, by omega, hK2.trans hKj, hownj⟩, ?_⟩
          simp [intOf]
          omega
    · go_wp2_with fail
      go_returns
      exact ⟨rfl, hK, hown⟩
end Go.Proofs.Ytomdbaokidphjaa
