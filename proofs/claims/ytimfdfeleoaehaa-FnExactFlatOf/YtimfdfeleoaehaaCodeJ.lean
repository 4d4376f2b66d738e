/-
  The lists that a statement has of its own; a list that lies in memory as a tree does not hold itself by them.
  A walk through the expressions of each instruction of the code of statements comes to an end: the program says so.
-/
import Derived.Test.YtimfdfeleoaehaaHoldE
import Derived.Test.YtimfdfeleoaehaaCodeL
namespace Go.Proofs.Ytimfdfeleoaehaa
open Go.RowKit Go.Shelf
set_option linter.unusedSimpArgs false
set_option linter.unusedVariables false
attribute [local go_sem] Oper.semAt_some

set_option maxRecDepth 10000 in
theorem ownS (k : Int) (n : ByteArray) (ek en : Int) (es : ByteArray) (eb : Option Addr) (el ec : Nat) (fk fn : Int) (fs : ByteArray) (fb : Option Addr) (fl fc : Nat) (ab : Option Addr) (al ac : Nat) (bb : Option Addr) (bl bc : Nat) (w : World) :
    Calls Try.prog 25 #[.agg #[.int .i64 k, .string n, .int .i64 ek, .int .i64 en, .string es, .slice eb el ec, .int .i64 fk, .int .i64 fn, .string fs, .slice fb fl fc, .slice ab al ac, .slice bb bl bc]] w fun e w' => Below w.heap.size w w' ∧ (e = .returned (.slice none 0 0) ∨ (∃ g, e = .returned (.slice (some ⟨g, 0, none⟩) 1 1) ∧ w.heap.size ≤ g ∧ w'.cell? ⟨g, 0, none⟩ = some (.slice ab al ac)) ∨ (∃ g, e = .returned (.slice (some ⟨g, 0, none⟩) 2 2) ∧ w.heap.size ≤ g ∧ w'.cell? ⟨g, 0, none⟩ = some (.slice ab al ac) ∧ w'.cell? ⟨g, 1, none⟩ = some (.slice bb bl bc))) := by
  obtain ⟨W1, hW1⟩ : ∃ W1, w.alloc (.cells #[.int .i64 k, .string n, .int .i64 ek, .int .i64 en, .string es, .slice eb el ec, .int .i64 fk, .int .i64 fn, .string fs, .slice fb fl fc, .slice ab al ac, .slice bb bl bc] 50) = W1 := ⟨_, rfl⟩
  have hB1 : Below w.heap.size w W1 := by rw [← hW1]; exact (Below.refl _ w).alloc (Nat.le_refl _) _
  have s1 : w.heap.size + 1 = W1.heap.size := by rw [← hW1]; simp
  have c0 : W1.cell? ⟨w.heap.size, 0, none⟩ = some (.int .i64 k) := by rw [← hW1]; exact World.cell?_alloc_new w _ _ 0
  have c10 : W1.cell? ⟨w.heap.size, 10, none⟩ = some (.slice ab al ac) := by rw [← hW1]; exact World.cell?_alloc_new w _ _ 10
  have c11 : W1.cell? ⟨w.heap.size, 11, none⟩ = some (.slice bb bl bc) := by rw [← hW1]; exact World.cell?_alloc_new w _ _ 11
  go_enter Try.func25, Try.ntmps25
  by_cases h3 : k = 3
  · subst h3
    go_wp2_with fail
    go_returns
    exact ⟨hB1.alloc (by omega) _, .inr (.inr ⟨W1.heap.size, rfl, by omega, World.cell?_alloc_new W1 _ _ 0, World.cell?_alloc_new W1 _ _ 1⟩)⟩
  · by_cases h4 : k = 4
    · subst h4
      go_wp2_with fail
      all_goals first | (exfalso; omega) | skip
      go_returns
      exact ⟨hB1.alloc (by omega) _, .inr (.inl ⟨W1.heap.size, rfl, by omega, World.cell?_alloc_new W1 _ _ 0⟩)⟩
    · go_wp2_with fail
      all_goals first | (exfalso; omega) | skip
      go_returns
      exact ⟨hB1, .inl rfl⟩
set_option maxRecDepth 20000 in
set_option maxHeartbeats 8000000 in
theorem holdsO (sz : Nat) : ∀ ks : List SX, SX.sizeAll ks ≤ sz → ks.length ≤ 1099511627776 → ∀ (a : Option Addr) (c : Nat) (ok : Nat → Prop) (N : Nat) (v : Value) (xs : List (Nat × Nat × SX)) (w : World), (∀ b, ok b → b < N ∧ Pl w b) → N ≤ w.heap.size →
    SRow ok w a ks → (∀ (i : Nat) (k : SX), ks[i]? = some k → LiesS ok w k) → ArndS ok w N v xs (SX.sizeAll ks) → xs.length + SX.sizeAll ks ≤ 4194304 →
    Calls Try.prog 24 #[.slice a ks.length c, .func (.func 25) #[] #[], v] w fun e w' => e = .returned (.bool false) ∧ Kept (fun k => v.ownBlock = some k) w w' ∧ w'.ownsRow N 85 1 v (psOf xs).length ((psOf xs).map ptrV) := by
  induction sz using Nat.strongRecOn with
  | _ sz ih =>
  intro ks hsz hlen a c ok N v xs w hok hN hR hL hA htot
  obtain ⟨i0, hi0, hz0, hz1, hz2⟩ := info_parts infoPS
  obtain ⟨len, hl⟩ : ∃ len, ks.length = len := ⟨_, rfl⟩
  rw [hl] at hlen ⊢
  have hxl : (psOf xs).length = xs.length := by simp [psOf]
  have hvN : ∀ g, v.ownBlock = some g → N ≤ g := fun g hg => (hA.own.lt g hg).1
  have hown0 : Hid (w.ownsRow N 85 1 v (psOf xs).length ((psOf xs).map ptrV)) := hA.own
  -- what is known of a world in which all but the list of pointers is as it was
  have facts : Hid (∀ wr : World, Kept (fun k => v.ownBlock = some k) w wr → ∀ (i : Nat) (x : SX), ks[i]? = some x → ∃ b o, a = some ⟨b, o, none⟩ ∧ ok b ∧ Cells12 wr b (o + i * 12) x ∧ LiesS ok wr x ∧ (∀ b, ok b → b < N ∧ Pl wr b) ∧ (∀ y ∈ xs, Cells12 wr y.1 y.2.1 y.2.2 ∧ LiesS ok wr y.2.2 ∧ ok y.1 ∧ SX.sizeAll ks < y.2.2.size) ∧ (∀ p ∈ psOf xs, p ≠ (b, o + i * 12)) ∧ (∀ p ∈ psOf xs, Pl wr p.1)) := by
    intro wr hk i x hx
    have hBN : Below N w wr := kept_below hk hN (fun k h => hvN k h)
    obtain ⟨b, o, h1, h2, h3⟩ := hR i x hx
    have hcx := h3.below hBN (hok b h2).1
    have hLx := (hL i x hx).under hBN (fun b hb => (hok b hb).1)
    have hlie : ∀ y ∈ xs, Cells12 wr y.1 y.2.1 y.2.2 ∧ LiesS ok wr y.2.2 ∧ ok y.1 ∧ SX.sizeAll ks < y.2.2.size := by
      intro y hy
      obtain ⟨l1, l2, l3, l4⟩ := hA.lie y hy
      exact ⟨l1.below hBN (hok _ l3).1, l2.under hBN (fun b hb => (hok b hb).1), l3, l4⟩
    refine ⟨b, o, h1, h2, hcx, hLx, fun b hb => ⟨(hok b hb).1, (hok b hb).2.below hBN (hok b hb).1⟩, hlie, ?_, ?_⟩
    · intro p hp e
      subst e
      simp only [psOf, List.mem_map] at hp
      obtain ⟨y, hy, e⟩ := hp
      obtain ⟨l1, l2, l3, l4⟩ := hlie y hy
      obtain ⟨y1, y2, y3⟩ := y
      cases e
      have := LiesS.one _ _ _ (Nat.le_refl _) ⟨_, _, l1, hcx⟩ l2 hLx
      dsimp only at this l4
      rw [this] at l4
      have h5 := SX.size_get hx
      omega
    · intro p hp
      simp only [psOf, List.mem_map] at hp
      obtain ⟨y, hy, rfl⟩ := hp
      obtain ⟨l1, l2, l3, l4⟩ := hlie y hy
      exact (hok _ l3).2.below hBN (hok _ l3).1
  have ih' : Hid (∀ m < sz, ∀ ks : List SX, SX.sizeAll ks ≤ m → ks.length ≤ 1099511627776 → ∀ (a : Option Addr) (c : Nat) (ok : Nat → Prop) (N : Nat) (v : Value) (xs : List (Nat × Nat × SX)) (w : World), (∀ b, ok b → b < N ∧ Pl w b) → N ≤ w.heap.size →
    SRow ok w a ks → (∀ (i : Nat) (k : SX), ks[i]? = some k → LiesS ok w k) → ArndS ok w N v xs (SX.sizeAll ks) → xs.length + SX.sizeAll ks ≤ 4194304 →
    Calls Try.prog 24 #[.slice a ks.length c, .func (.func 25) #[] #[], v] w fun e w' => e = .returned (.bool false) ∧ Kept (fun k => v.ownBlock = some k) w w' ∧ w'.ownsRow N 85 1 v (psOf xs).length ((psOf xs).map ptrV)) := ih
  clear ih hR hL hA hok
  go_enter Try.func24, Try.ntmps24
  go_wp2_with fail
  go_loopw [13] (fun v13 wr => ∃ (i : Nat), v13 = .int .i64 i ∧ i ≤ len ∧ Kept (fun k => v.ownBlock = some k) w wr ∧ Hid (wr.ownsRow N 85 1 v (psOf xs).length ((psOf xs).map ptrV))) (fun v13 _ => len - (intOf v13).toNat)
  case atStart => exact ⟨0, rfl, by omega, Kept.refl _ _, hown0⟩
  case round =>
    obtain ⟨i, rfl, hi, hK, hown⟩ := hrel
    rename World => wo
    by_cases hlt : i < len
    · obtain ⟨x, hx⟩ : ∃ x, ks[i]? = some x := ⟨_, List.getElem?_eq_getElem (by omega)⟩
      obtain ⟨b, o, hbase, hokb, hcx, hLx, hokr, hlie, hne, hpl⟩ := facts.out wo hK i x hx
      have hct : Hid (Calls Try.prog 47 #[v, .pointer (some ⟨b, o + i * 12, none⟩)] wo fun e w' => e = .returned (.bool false) ∧ w' = wo) := containsS b (o + i * 12) v (psOf xs) N 85 wo hown.out hne hpl (hokr b hokb).2 (by omega)
      have hcx' : Hid (Cells12 wo b (o + i * 12) x) := hcx
      have hN' : N ≤ wo.heap.size := Nat.le_trans hN hK.size
      have hbN := (hokr b hokb).1
      have hss := SX.size_get hx
      have hsq := x.size_eq
      have hlt0 := SX.length_le x.la
      have hlt1 := SX.length_le x.lb
      obtain ⟨c0, c1, c2, c3, c4, c5, c6, c7, c8, c9, c10, c11⟩ := hcx
      have hlieH : Hid (∀ y ∈ xs, Cells12 wo y.1 y.2.1 y.2.2 ∧ LiesS ok wo y.2.2 ∧ ok y.1 ∧ SX.sizeAll ks < y.2.2.size) := hlie
      have hokH : Hid (∀ b, ok b → b < N ∧ Pl wo b) := hokr
      have hLH : Hid (LiesS ok wo x) := hLx
      clear hlie hne hpl hokr hLx
      subst hbase
      go_wp2_with (go_at_call 47; refine hct.out.mono ?_; rintro e w5 ⟨rfl, hw⟩; subst w5)
      go_at_call 25
      refine (ownS _ _ _ _ _ _ _ _ _ _ _ _ _ _ _ _ _ _ _ _ _).mono ?_
      rintro e W2 ⟨hB2, hcases⟩
      have hs2 := hB2.size
      clear c0 c1 c2 c3 c4 c5 c6 c7 c8 c9 c10 c11
      have hK2 : Kept (fun k => v.ownBlock = some k) w W2 := hK.trans (Kept.of_new _ hB2)
      have hown2 : Hid (W2.ownsRow N 85 1 v (psOf xs).length ((psOf xs).map ptrV)) := own_on hown.out (fun g hg => hB2.block g (hown.out.lt g hg).2)
      have hgw : ∀ g, v.ownBlock = some g → g < wo.heap.size := fun g hg => (hown.out.lt g hg).2
      rcases hcases with rfl | ⟨g, rfl, hgw2, hl0⟩ | ⟨g, rfl, hgw2, hl0, hl1⟩
      · go_wp2_with fail
        go_loopw [28] (fun v28 wr => v28 = .int .i64 0 ∧ Kept (fun k => v.ownBlock = some k) W2 wr ∧ Hid (wr.ownsRow N 85 1 v (psOf xs).length ((psOf xs).map ptrV))) (fun v28 _ => 0)
        case atStart => exact ⟨rfl, Kept.refl _ _, hown2⟩
        case round =>
          obtain ⟨rfl, hKj, hownj⟩ := hrel
          go_wp2_with fail
          refine ⟨⟨i + 1, by go_num, by omega, hK2.trans hKj, hownj⟩, ?_⟩
          simp [intOf]
          omega
      · go_wp2_with fail
        go_loopw [28] (fun v28 wr => ∃ (j : Nat), v28 = .int .i64 j ∧ j ≤ 1 ∧ Kept (fun k => v.ownBlock = some k) W2 wr ∧ Hid (wr.ownsRow N 85 1 v (psOf xs).length ((psOf xs).map ptrV))) (fun v28 _ => 1 - (intOf v28).toNat)
        case atStart => exact ⟨0, rfl, by omega, Kept.refl _ _, hown2⟩
        case round =>
          obtain ⟨j, rfl, hj, hKj, hownj⟩ := hrel
          have hzj := hKj.size
          by_cases hjl : j < 1
          · have step : Hid (∀ (la : List SX) (ba : Option Addr) (ca : Nat), SX.sizeAll la < x.size → la.length ≤ 1099511627776 → (∀ W, LiesS ok W x → SRow ok W ba la ∧ ∀ (i : Nat) (k : SX), la[i]? = some k → LiesS ok W k) → ∀ (v' : Value) (w2 : World), w2.ownsRow N 85 1 v' ((psOf xs).length + 1) ((psOf xs).map ptrV ++ [ptrV (b, o + i * 12)]) → Kept (fun k => v.ownBlock = some k ∨ v'.ownBlock = some k) wo w2 → (∀ g, v'.ownBlock = some g → N ≤ g) →
                Calls Try.prog 24 #[.slice ba la.length ca, .func (.func 25) #[] #[], v'] w2 fun e w' => e = .returned (.bool false) ∧ Kept (fun k => v'.ownBlock = some k) w2 w' ∧ w'.ownsRow N 85 1 v' ((psOf xs).length + 1) ((psOf xs).map ptrV ++ [ptrV (b, o + i * 12)])) := by
              intro la ba ca hsl hll hrow v' w2 ho2 hk2 hv'
              have hBN : Below N wo w2 := kept_below hk2 hN' (fun k h => h.elim (fun h => hvN k h) (fun h => hv' k h))
              obtain ⟨r1, r2⟩ := hrow w2 (hLH.out.under hBN (fun b hb => (hokH.out b hb).1))
              have hp : (psOf (xs ++ [(b, o + i * 12, x)])) = psOf xs ++ [(b, o + i * 12)] := psOf_snoc xs _
              have hq := ih'.out (SX.sizeAll la) (by omega) la (Nat.le_refl _) hll ba ca ok N v' (xs ++ [(b, o + i * 12, x)]) w2 (fun b hb => ⟨(hokH.out b hb).1, (hokH.out b hb).2.below hBN (hokH.out b hb).1⟩) (Nat.le_trans hN' hk2.size) r1 r2 ⟨by rw [hp]; simpa using ho2, ?_⟩ (by simp; omega)
              · rw [hp] at hq
                simpa using hq
              · intro y hy
                rcases List.mem_append.1 hy with hy | hy
                · obtain ⟨l1, l2, l3, l4⟩ := hlieH.out y hy
                  exact ⟨l1.below hBN (hokH.out _ l3).1, l2.under hBN (fun b hb => (hokH.out b hb).1), l3, by omega⟩
                · simp only [List.mem_singleton] at hy
                  subst hy
                  exact ⟨hcx'.out.below hBN hbN, hLH.out.under hBN (fun b hb => (hokH.out b hb).1), hokb, hsl⟩
            have hVN : ∀ g, (∀ (v' : Value) (w2 : World), w2.ownsRow N 85 1 v' ((psOf xs).length + 1) ((psOf xs).map ptrV ++ [ptrV (b, o + i * 12)]) → v'.ownBlock = some g → N ≤ g) := fun g v' w2 h hg => (h.lt g hg).1
            obtain rfl : j = 0 := by omega
            · skip
              have d0 := hKj.cell hl0 (fun h => by have := hgw _ h; dsimp only at this; omega)
              have howna : Hid ((wr.alloc (.cells #[ptrV (b, o + i * 12)] 85)).ownsRow N 85 1 v (psOf xs).length ((psOf xs).map ptrV)) := own_on hownj.out (fun g hg => Below.heap_alloc _ _ _ ((hownj.out.lt g hg).2))
              go_wp2_with (at_builtin; refine wpList_append_back _ rfl _ _ 84 rfl N 85 i0 _ 1 8 Try.underlying84 hi0 hz0 hz1 hz2 rfl (by decide) v (psOf xs).length ((psOf xs).map ptrV) rfl howna.out ⟨wr.heap.size, 0, none⟩ 1 1 [ptrV (b, o + i * 12)] rfl rfl (cell_one_new _ _ _) (by simp [Value.oneCell']) (by unfold maxLen; omega) (by omega) (by rw [World.size_alloc]; omega) (by omega) ?_; intro v' w2 hown' hback)
              go_at_call 24
              refine (step.out x.la x.abase x.acap (by omega) (by omega) (fun W h => ⟨h.parts.2.2.1, h.parts.2.2.2.2.1⟩) v' w2 hown' ?k2 (fun g hg => (hown'.lt g hg).1)).mono ?_
              case k2 => exact ((Kept.of_new _ hB2).trans (hKj.mono (fun k _ h => .inl h))).trans (((Kept.refl _ wr).alloc _).trans hback.kept)
              rintro e w3 ⟨rfl, hk3, ho3⟩
              obtain ⟨hk4, ho4⟩ := hback.on howna.out hk3 ho3
              clear hown' hback hk3 ho3
              go_wp2
              exact ⟨⟨0 + 1, by go_num, by omega, (hKj.alloc _).trans hk4, ho4⟩, by simp [intOf]⟩
          · go_wp2_with fail
            all_goals first | (exfalso; omega) | skip
            refine ⟨⟨i + 1, by go_num, by omega, hK2.trans hKj, hownj⟩, ?_⟩
            simp [intOf]
            omega
      · go_wp2_with fail
        go_loopw [28] (fun v28 wr => ∃ (j : Nat), v28 = .int .i64 j ∧ j ≤ 2 ∧ Kept (fun k => v.ownBlock = some k) W2 wr ∧ Hid (wr.ownsRow N 85 1 v (psOf xs).length ((psOf xs).map ptrV))) (fun v28 _ => 2 - (intOf v28).toNat)
        case atStart => exact ⟨0, rfl, by omega, Kept.refl _ _, hown2⟩
        case round =>
          obtain ⟨j, rfl, hj, hKj, hownj⟩ := hrel
          have hzj := hKj.size
          by_cases hjl : j < 2
          · have step : Hid (∀ (la : List SX) (ba : Option Addr) (ca : Nat), SX.sizeAll la < x.size → la.length ≤ 1099511627776 → (∀ W, LiesS ok W x → SRow ok W ba la ∧ ∀ (i : Nat) (k : SX), la[i]? = some k → LiesS ok W k) → ∀ (v' : Value) (w2 : World), w2.ownsRow N 85 1 v' ((psOf xs).length + 1) ((psOf xs).map ptrV ++ [ptrV (b, o + i * 12)]) → Kept (fun k => v.ownBlock = some k ∨ v'.ownBlock = some k) wo w2 → (∀ g, v'.ownBlock = some g → N ≤ g) →
                Calls Try.prog 24 #[.slice ba la.length ca, .func (.func 25) #[] #[], v'] w2 fun e w' => e = .returned (.bool false) ∧ Kept (fun k => v'.ownBlock = some k) w2 w' ∧ w'.ownsRow N 85 1 v' ((psOf xs).length + 1) ((psOf xs).map ptrV ++ [ptrV (b, o + i * 12)])) := by
              intro la ba ca hsl hll hrow v' w2 ho2 hk2 hv'
              have hBN : Below N wo w2 := kept_below hk2 hN' (fun k h => h.elim (fun h => hvN k h) (fun h => hv' k h))
              obtain ⟨r1, r2⟩ := hrow w2 (hLH.out.under hBN (fun b hb => (hokH.out b hb).1))
              have hp : (psOf (xs ++ [(b, o + i * 12, x)])) = psOf xs ++ [(b, o + i * 12)] := psOf_snoc xs _
              have hq := ih'.out (SX.sizeAll la) (by omega) la (Nat.le_refl _) hll ba ca ok N v' (xs ++ [(b, o + i * 12, x)]) w2 (fun b hb => ⟨(hokH.out b hb).1, (hokH.out b hb).2.below hBN (hokH.out b hb).1⟩) (Nat.le_trans hN' hk2.size) r1 r2 ⟨by rw [hp]; simpa using ho2, ?_⟩ (by simp; omega)
              · rw [hp] at hq
                simpa using hq
              · intro y hy
                rcases List.mem_append.1 hy with hy | hy
                · obtain ⟨l1, l2, l3, l4⟩ := hlieH.out y hy
                  exact ⟨l1.below hBN (hokH.out _ l3).1, l2.under hBN (fun b hb => (hokH.out b hb).1), l3, by omega⟩
                · simp only [List.mem_singleton] at hy
                  subst hy
                  exact ⟨hcx'.out.below hBN hbN, hLH.out.under hBN (fun b hb => (hokH.out b hb).1), hokb, hsl⟩
            have hVN : ∀ g, (∀ (v' : Value) (w2 : World), w2.ownsRow N 85 1 v' ((psOf xs).length + 1) ((psOf xs).map ptrV ++ [ptrV (b, o + i * 12)]) → v'.ownBlock = some g → N ≤ g) := fun g v' w2 h hg => (h.lt g hg).1
            rcases (show j = 0 ∨ j = 1 by omega) with rfl | rfl
            · skip
              have d0 := hKj.cell hl0 (fun h => by have := hgw _ h; dsimp only at this; omega)
              have howna : Hid ((wr.alloc (.cells #[ptrV (b, o + i * 12)] 85)).ownsRow N 85 1 v (psOf xs).length ((psOf xs).map ptrV)) := own_on hownj.out (fun g hg => Below.heap_alloc _ _ _ ((hownj.out.lt g hg).2))
              go_wp2_with (at_builtin; refine wpList_append_back _ rfl _ _ 84 rfl N 85 i0 _ 1 8 Try.underlying84 hi0 hz0 hz1 hz2 rfl (by decide) v (psOf xs).length ((psOf xs).map ptrV) rfl howna.out ⟨wr.heap.size, 0, none⟩ 1 1 [ptrV (b, o + i * 12)] rfl rfl (cell_one_new _ _ _) (by simp [Value.oneCell']) (by unfold maxLen; omega) (by omega) (by rw [World.size_alloc]; omega) (by omega) ?_; intro v' w2 hown' hback)
              go_at_call 24
              refine (step.out x.la x.abase x.acap (by omega) (by omega) (fun W h => ⟨h.parts.2.2.1, h.parts.2.2.2.2.1⟩) v' w2 hown' ?k2 (fun g hg => (hown'.lt g hg).1)).mono ?_
              case k2 => exact ((Kept.of_new _ hB2).trans (hKj.mono (fun k _ h => .inl h))).trans (((Kept.refl _ wr).alloc _).trans hback.kept)
              rintro e w3 ⟨rfl, hk3, ho3⟩
              obtain ⟨hk4, ho4⟩ := hback.on howna.out hk3 ho3
              clear hown' hback hk3 ho3
              go_wp2
              exact ⟨⟨0 + 1, by go_num, by omega, (hKj.alloc _).trans hk4, ho4⟩, by simp [intOf]⟩
            · skip
              have d0 := hKj.cell hl1 (fun h => by have := hgw _ h; dsimp only at this; omega)
              have howna : Hid ((wr.alloc (.cells #[ptrV (b, o + i * 12)] 85)).ownsRow N 85 1 v (psOf xs).length ((psOf xs).map ptrV)) := own_on hownj.out (fun g hg => Below.heap_alloc _ _ _ ((hownj.out.lt g hg).2))
              go_wp2_with (at_builtin; refine wpList_append_back _ rfl _ _ 84 rfl N 85 i0 _ 1 8 Try.underlying84 hi0 hz0 hz1 hz2 rfl (by decide) v (psOf xs).length ((psOf xs).map ptrV) rfl howna.out ⟨wr.heap.size, 0, none⟩ 1 1 [ptrV (b, o + i * 12)] rfl rfl (cell_one_new _ _ _) (by simp [Value.oneCell']) (by unfold maxLen; omega) (by omega) (by rw [World.size_alloc]; omega) (by omega) ?_; intro v' w2 hown' hback)
              go_at_call 24
              refine (step.out x.lb x.bbase x.bcap (by omega) (by omega) (fun W h => ⟨h.parts.2.2.2.1, h.parts.2.2.2.2.2⟩) v' w2 hown' ?k2 (fun g hg => (hown'.lt g hg).1)).mono ?_
              case k2 => exact ((Kept.of_new _ hB2).trans (hKj.mono (fun k _ h => .inl h))).trans (((Kept.refl _ wr).alloc _).trans hback.kept)
              rintro e w3 ⟨rfl, hk3, ho3⟩
              obtain ⟨hk4, ho4⟩ := hback.on howna.out hk3 ho3
              clear hown' hback hk3 ho3
              go_wp2
              exact ⟨⟨1 + 1, by go_num, by omega, (hKj.alloc _).trans hk4, ho4⟩, by simp [intOf]⟩
          · go_wp2_with fail
            all_goals first | (exfalso; omega) | skip
            refine ⟨⟨i + 1, by go_num, by omega, hK2.trans hKj, hownj⟩, ?_⟩
            simp [intOf]
            omega
    · go_wp2_with fail
      go_returns
      exact ⟨rfl, hK, hown⟩
theorem holdsO0 (ks : List SX) (hsz : SX.sizeAll ks ≤ 2097152) (a : Option Addr) (c : Nat) (ok : Nat → Prop) (w : World) (hok : ∀ b, ok b → b < w.heap.size ∧ Pl w b) (hR : SRow ok w a ks) (hL : ∀ (i : Nat) (k : SX), ks[i]? = some k → LiesS ok w k) (x : World) (hx : Below w.heap.size w x) :
    Calls Try.prog 24 #[.slice a ks.length c, .func (.func 25) #[] #[], .slice none 0 0] x fun e w' => e = .returned (.bool false) ∧ Below x.heap.size x w' := by
  have hlen := SX.length_le ks
  have h := holdsO _ ks (Nat.le_refl _) (by omega) a c ok w.heap.size (.slice none 0 0) [] x (fun b hb => ⟨(hok b hb).1, (hok b hb).2.below hx (hok b hb).1⟩) hx.size (hR.under hx (fun b hb => (hok b hb).1)) (fun i k hk => (hL i k hk).under hx (fun b hb => (hok b hb).1)) ⟨World.ownsRow_nil _ _ _ _, fun y hy => by simp at hy⟩ (by simp; omega)
  exact h.mono fun e w' ⟨h1, h2, _⟩ => ⟨h1, kept_none h2⟩
end Go.Proofs.Ytimfdfeleoaehaa
namespace Go.Proofs.Ytimfdfeleoaehaa
open Go.RowKit Go.Shelf
set_option linter.unusedSimpArgs false
set_option linter.unusedVariables false
attribute [local go_sem] Oper.semAt_some

theorem code_all (R : SX → Prop) (Q : IX → Prop) (hz : ∀ op d : Int, Q ⟨op, zS, d⟩) (hR : ∀ s, R s → (∀ op d : Int, Q ⟨op, bareX s.kind s.name s.e s.f, d⟩) ∧ (∀ (i : Nat) (k : SX), s.la[i]? = some k → R k) ∧ (∀ (i : Nat) (k : SX), s.lb[i]? = some k → R k)) (sz : Nat) : ∀ ks : List SX, SX.sizeAll ks ≤ sz → (∀ (i : Nat) (k : SX), ks[i]? = some k → R k) → ∀ p, ∀ x ∈ codeL ks p, Q x := by
  induction sz with
  | zero =>
    intro ks h _ p x hx
    match ks, h, hx with
    | [], _, hx => simp [codeL] at hx
    | t :: ts, h, _ =>
      simp only [SX.sizeAll] at h
      have := t.size_eq
      omega
  | succ sz ih =>
    intro ks
    induction ks with
    | nil => intro _ _ p x hx; simp [codeL] at hx
    | cons t ts iht =>
      intro h hk p x hx
      simp only [SX.sizeAll] at h
      have hzt := t.size_eq
      rw [codeL, List.mem_append] at hx
      obtain ⟨q1, q2, q3⟩ := hR t (hk 0 t rfl)
      have ha : ∀ p, ∀ x ∈ codeL t.la p, Q x := ih t.la (by omega) q2
      have hb : ∀ p, ∀ x ∈ codeL t.lb p, Q x := ih t.lb (by omega) q3
      rcases hx with hx | hx
      · rw [codeS_eq] at hx
        split at hx
        · simp only [List.mem_cons, List.mem_append] at hx
          rcases hx with rfl | hx | rfl | hx
          · exact q1 _ _
          · exact ha _ _ hx
          · exact hz _ _
          · exact hb _ _ hx
        · split at hx
          · simp only [List.mem_cons, List.mem_append, List.not_mem_nil, or_false] at hx
            rcases hx with rfl | hx | rfl
            · exact q1 _ _
            · exact ha _ _ hx
            · exact hz _ _
          · simp only [List.mem_singleton] at hx
            subst hx
            exact q1 _ _
      · exact iht (by omega) (fun i k hi => hk (i + 1) k (by simpa using hi)) _ x hx
theorem zE_lies (ok : Nat → Prop) (W : World) : Lies ok W zE := .mk zE (fun i k h => by simp [zE, XT.kids] at h) (fun i k h => by simp [zE, XT.kids] at h)
theorem flatL_all {ks : List SX} (hm : ∀ (i : Nat) (k : SX), ks[i]? = some k → SmallS k) (ok : Nat → Prop) (W : World) (hL : ∀ (i : Nat) (k : SX), ks[i]? = some k → LiesS ok W k) : ∀ x ∈ flatL ks, SmallS x.s ∧ LiesS ok W x.s ∧ x.s.size = 1 := by
  have hzs : SmallS zS := SX.small _ zS (Nat.le_refl _) (by decide)
  have hzl : LiesS ok W zS := .mk zS (zE_lies ok W) (zE_lies ok W) (fun i k h => by simp [zS, SX.la] at h) (fun i k h => by simp [zS, SX.lb] at h) (fun i k h => by simp [zS, SX.la] at h) (fun i k h => by simp [zS, SX.lb] at h)
  intro x hx
  rw [flatL, List.mem_append] at hx
  rcases hx with hx | hx
  · refine code_all (fun s => SmallS s ∧ LiesS ok W s) (fun x => SmallS x.s ∧ LiesS ok W x.s ∧ x.s.size = 1) (fun op d => ⟨hzs, hzl, rfl⟩) (fun s hs => ⟨fun op d => ⟨?_, ?_, rfl⟩, fun i k hk => ⟨hs.1.parts.2.2.2.2.1 i k hk, hs.2.parts.2.2.2.2.1 i k hk⟩, fun i k hk => ⟨hs.1.parts.2.2.2.2.2 i k hk, hs.2.parts.2.2.2.2.2 i k hk⟩⟩) _ ks (Nat.le_refl _) (fun i k hk => ⟨hm i k hk, hL i k hk⟩) 0 x hx
    · exact .mk _ hs.1.parts.1 hs.1.parts.2.1 hs.1.parts.2.2.1 ⟨Nat.zero_le _, Nat.zero_le _⟩ (fun i k h => by simp [bareX, SX.la] at h) (fun i k h => by simp [bareX, SX.lb] at h)
    · exact .mk _ hs.2.parts.1 hs.2.parts.2.1 (fun i k h => by simp [bareX, SX.la] at h) (fun i k h => by simp [bareX, SX.lb] at h) (fun i k h => by simp [bareX, SX.la] at h) (fun i k h => by simp [bareX, SX.lb] at h)
  · simp only [List.mem_singleton] at hx
    subst hx
    exact ⟨hzs, hzl, rfl⟩
set_option maxRecDepth 10000 in
set_option maxHeartbeats 4000000 in
theorem endsOne (x : IX) (hm : SmallS x.s) (hz : x.s.size = 1) (ok : Nat → Prop) (w : World) (hok : ∀ b, ok b → b < w.heap.size ∧ Pl w b) (hL : LiesS ok w x.s) :
    Calls Try.prog 29 #[x.val] w fun e w' => e = .returned (.bool true) ∧ Below w.heap.size w w' := by
  obtain ⟨W1, hW1⟩ : ∃ W1, w.alloc (.cells #[.int .i64 x.op, .int .i64 x.s.kind, .string x.s.name, .int .i64 x.s.e.kind, .int .i64 x.s.e.num, .string x.s.e.name, .slice x.s.e.base x.s.e.kids.length x.s.e.cap, .int .i64 x.s.f.kind, .int .i64 x.s.f.num, .string x.s.f.name, .slice x.s.f.base x.s.f.kids.length x.s.f.cap, .slice x.s.abase x.s.la.length x.s.acap, .slice x.s.bbase x.s.lb.length x.s.bcap, .int .i64 x.dst] 52) = W1 := ⟨_, rfl⟩
  obtain ⟨W2, hW2⟩ : ∃ W2, W1.alloc (.cells #[.int .i64 x.s.kind, .string x.s.name, .int .i64 x.s.e.kind, .int .i64 x.s.e.num, .string x.s.e.name, .slice x.s.e.base x.s.e.kids.length x.s.e.cap, .int .i64 x.s.f.kind, .int .i64 x.s.f.num, .string x.s.f.name, .slice x.s.f.base x.s.f.kids.length x.s.f.cap, .slice x.s.abase x.s.la.length x.s.acap, .slice x.s.bbase x.s.lb.length x.s.bcap] 50) = W2 := ⟨_, rfl⟩
  have s1 : w.heap.size + 1 = W1.heap.size := by rw [← hW1]; simp
  have s2 : W1.heap.size + 1 = W2.heap.size := by rw [← hW2]; simp
  have hB1 : Below w.heap.size w W1 := by rw [← hW1]; exact (Below.refl _ w).alloc (Nat.le_refl _) _
  have hB12 : Below W1.heap.size W1 W2 := by rw [← hW2]; exact (Below.refl _ W1).alloc (Nat.le_refl _) _
  have hB2 : Below w.heap.size w W2 := bstep hB1 hB12
  have hC : Cells14 W1 w.heap.size 0 x := by rw [← hW1]; exact Cells14.new w x _
  have hD : Cells12 W2 W1.heap.size 0 x.s := by rw [← hW2]; exact Cells12.new W1 x.s _
  have hPl : Pl W2 W1.heap.size := by rw [← hW2]; exact ⟨_, _, World.alloc_heap_new W1 _⟩
  have hcall : Hid (Calls Try.prog 51 #[.slice (some ⟨W1.heap.size, 0, none⟩) 1 1] W2 fun e w' => e = .returned (.bool true) ∧ Below W2.heap.size W2 w') := by
    refine (ends [x.s] (by simp [SX.sizeAll, hz]) (fun i k hk => ?_) (some ⟨W1.heap.size, 0, none⟩) 1 (fun b => ok b ∨ b = W1.heap.size) W2 (fun b hb => ?_) (fun i k hk => ?_) (fun i k hk => ?_) : _)
    · have : i = 0 := by have := (List.getElem?_eq_some_iff.1 hk).1; simpa using this
      subst this
      simp at hk
      subst hk
      exact hm
    · rcases hb with hb | rfl
      · exact ⟨by have := (hok b hb).1; omega, (hok b hb).2.below hB2 (hok b hb).1⟩
      · exact ⟨by omega, hPl⟩
    · have : i = 0 := by have := (List.getElem?_eq_some_iff.1 hk).1; simpa using this
      subst this
      simp at hk
      subst hk
      exact ⟨_, 0, rfl, .inr rfl, hD⟩
    · have : i = 0 := by have := (List.getElem?_eq_some_iff.1 hk).1; simpa using this
      subst this
      simp at hk
      subst hk
      exact hL.mono fun b hb hbz => ⟨.inl hb, hB2.block b (hok b hb).1⟩
  obtain ⟨c0, c1, c2, c3, c4, c5, c6, c7, c8, c9, c10, c11, c12, c13⟩ := hC
  clear hD
  go_enter Try.func29, Try.ntmps29
  go_wp2_with fail
  go_at_call 51
  refine hcall.out.mono ?_
  rintro e w3 ⟨rfl, hB3⟩
  go_wp2_with fail
  go_returns
  exact ⟨rfl, bstep hB2 hB3⟩
set_option maxHeartbeats 4000000 in
theorem endsAll (ks : List IX) (a : Option Addr) (c : Nat) (okr ok : Nat → Prop) (w : World) (hokr : ∀ b, okr b → b < w.heap.size) (hok : ∀ b, ok b → b < w.heap.size ∧ Pl w b) (hcl : IX.Row okr w a ks) (hlen : ks.length ≤ 8388609) (hm : ∀ (i : Nat) (x : IX), ks[i]? = some x → SmallS x.s ∧ LiesS ok w x.s ∧ x.s.size = 1) :
    Calls Try.prog 28 #[.slice a ks.length c, .func (.func 29) #[] #[]] w fun e w' => e = .returned (.bool true) ∧ Below w.heap.size w w' := by
  obtain ⟨len, hl⟩ : ∃ len, ks.length = len := ⟨_, rfl⟩
  rw [hl] at hlen ⊢
  go_enter Try.func28, Try.ntmps28
  go_wp2
  go_loopw [9] (fun v9 wr => ∃ (i : Nat), v9 = .int .i64 i ∧ i ≤ len ∧ Below w.heap.size w wr) (fun v9 _ => len - (intOf v9).toNat)
  case atStart => exact ⟨0, rfl, by omega, Below.refl _ _⟩
  case round =>
    obtain ⟨i, rfl, hi, hB⟩ := hrel
    by_cases hlt : i < len
    · obtain ⟨v, hx⟩ : ∃ x, ks[i]? = some x := ⟨_, List.getElem?_eq_getElem (by omega)⟩
      obtain ⟨b1, o1, hbase1, hok1, hc1⟩ := hcl i v hx
      obtain ⟨m1, m2, m3⟩ := hm i v hx
      obtain ⟨c0, c1, c2, c3, c4, c5, c6, c7, c8, c9, c10, c11, c12, c13⟩ := hc1.below hB (hokr b1 hok1)
      subst hbase1
      obtain ⟨W4, hW4⟩ : ∃ W4, wr.alloc (.cells #[.int .i64 v.op, .int .i64 v.s.kind, .string v.s.name, .int .i64 v.s.e.kind, .int .i64 v.s.e.num, .string v.s.e.name, .slice v.s.e.base v.s.e.kids.length v.s.e.cap, .int .i64 v.s.f.kind, .int .i64 v.s.f.num, .string v.s.f.name, .slice v.s.f.base v.s.f.kids.length v.s.f.cap, .slice v.s.abase v.s.la.length v.s.acap, .slice v.s.bbase v.s.lb.length v.s.bcap, .int .i64 v.dst] 52) = W4 := ⟨_, rfl⟩
      have hB4 : Below w.heap.size w W4 := by rw [← hW4]; exact balloc hB _
      have hD4 : Cells14 W4 wr.heap.size 0 v := by rw [← hW4]; exact Cells14.new wr v _
      obtain ⟨d0, d1, d2, d3, d4, d5, d6, d7, d8, d9, d10, d11, d12, d13⟩ := hD4
      have hcall : Hid (Calls Try.prog 29 #[v.val] W4 fun e w' => e = .returned (.bool true) ∧ Below W4.heap.size W4 w') := endsOne v m1 m3 ok W4 (fun b hb => ⟨Nat.lt_of_lt_of_le (hok b hb).1 hB4.size, (hok b hb).2.below hB4 (hok b hb).1⟩) (m2.under hB4 (fun b hb => (hok b hb).1))
      clear m1 m2 m3
      go_wp2_with fail
      go_at_call 29
      refine hcall.out.mono ?_
      rintro e w5 ⟨rfl, hb⟩
      clear hcall
      go_wp2_with fail
      refine ⟨⟨i + 1, by go_num, by omega, (bstep hB4 hb)⟩, ?_⟩
      simp [intOf]
      omega
    · have he : i = len := by omega
      go_wp2
      go_returns
      exact ⟨rfl, hB⟩
end Go.Proofs.Ytimfdfeleoaehaa
