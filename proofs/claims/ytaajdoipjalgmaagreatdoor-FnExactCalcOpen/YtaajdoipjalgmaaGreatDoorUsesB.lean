/-
  The walk through the uses of names in a list of statements: the program's iterator yields them in order, of each statement its own and then those of its two expressions.
-/
import Derived.Test.YtaajdoipjalgmaaGreatDoorUsesA
import Derived.Test.YtaajdoipjalgmaaGreatDoorOkJ
import Derived.Shelf.RegionOpen
namespace Go.Proofs.YtaajdoipjalgmaaGreatDoor
open Go.RowKit Go.Shelf
set_option linter.unusedSimpArgs false
set_option linter.unusedVariables false
attribute [local go_sem] Oper.semAt_some

def upU (s : SX) : Nat → List UX
  | 0 => [useS s]
  | 1 => useS s :: usesE s.e
  | _ => useS s :: (usesE s.e ++ usesE s.f)
theorem upU_pre (s : SX) (j : Nat) : upU s j <+: usesOf1 s := by
  match j with
  | 0 => simp [upU, usesOf1]
  | 1 => simp [upU, usesOf1]
  | (n + 2) => simp [upU, usesOf1]
/-- Two expressions that lie side by side. -/
structure Two (W : World) (g : Nat) (s : SX) : Prop where
  e : Cells4 W g 0 s.e
  f : Cells4 W g 4 s.f
theorem Two.kept {S : Nat → Prop} {A B : World} {g : Nat} {s : SX} (h : Two A g s) (hk : Kept S A B) (hs : ¬ S g) : Two B g s := ⟨h.e.kept hk hs, h.f.kept hk hs⟩
theorem Two.below {n : Nat} {A B : World} {g : Nat} {s : SX} (h : Two A g s) (hk : Below n A B) (hs : g < n) : Two B g s := ⟨h.e.below hk hs, h.f.below hk hs⟩
theorem Two.new (W : World) (s : SX) : Two (W.alloc (.cells #[.int .i64 s.e.kind, .int .i64 s.e.num, .string s.e.name, .slice s.e.base s.e.kids.length s.e.cap, .int .i64 s.f.kind, .int .i64 s.f.num, .string s.f.name, .slice s.f.base s.f.kids.length s.f.cap] 123)) W.heap.size s :=
  ⟨⟨World.cell?_alloc_new W _ _ 0, World.cell?_alloc_new W _ _ 1, World.cell?_alloc_new W _ _ 2, World.cell?_alloc_new W _ _ 3⟩, ⟨World.cell?_alloc_new W _ _ 4, World.cell?_alloc_new W _ _ 5, World.cell?_alloc_new W _ _ 6, World.cell?_alloc_new W _ _ 7⟩⟩
theorem Two.pick {W : World} {g : Nat} {s : SX} (h : Two W g s) {ok : Nat → Prop} (hL : LiesS ok W s) (hz : s.e.size ≤ 1099511627776 ∧ s.f.size ≤ 1099511627776) (j : Nat) (hj : j < 2) :
    ∃ t : XT, Cells4 W g (j * 4) t ∧ Lies ok W t ∧ t.size ≤ 1099511627776 ∧ upU s (j + 1) = upU s j ++ usesE t := by
  obtain ⟨p1, p2, -⟩ := hL.parts
  match j, hj with
  | 0, _ => exact ⟨s.e, h.e, p1, hz.1, by simp [upU]⟩
  | 1, _ => exact ⟨s.f, h.f, p2, hz.2, by simp [upU]⟩
set_option maxRecDepth 100000 in
set_option maxHeartbeats 8000000 in
theorem uses1 (ks : List SX) (hsz : SX.sizeAll ks ≤ 1099511627776) (hes : ∀ x ∈ SX.withinAll ks 0, x.2.e.size ≤ 1099511627776 ∧ x.2.f.size ≤ 1099511627776) (a : Option Addr) (c : Nat) (bl : Nat) (S ok : Nat → Prop) (W : World) (hS : ∀ k, S k → k < W.heap.size) (hok : ∀ b, ok b → ¬ S b ∧ b < W.heap.size)
    (hbl : W.cell? ⟨bl, 0, none⟩ = some (.slice a ks.length c)) (hsl : ¬ S bl) (hR : SRow ok W a ks) (hL : ∀ (i : Nat) (k : SX), ks[i]? = some k → LiesS ok W k) :
    Iter Tryz.prog 140 #[.pointer (some ⟨bl, 0, none⟩)] useV (usesL (SX.withinAll ks 0)) S W := by
  intro n l J Jx hJ hJx hY h0
  have hLW : ∀ x ∈ SX.withinAll ks 0, LiesS ok W x.2 := SX.within_all (fun s => LiesS ok W s) (fun s hs => ⟨hs.parts.2.2.2.2.1, hs.parts.2.2.2.2.2⟩) _ ks (Nat.le_refl _) hL 0
  refine callsIn_of_wp_marks Tryz.func140 rfl trivial ?_ rfl
  simp only [Tryz.ntmps140, List.size_toArray, List.length_cons, List.length_nil, Nat.reduceAdd, Nat.reduceSub, Array.replicate_succ, Array.replicate_zero, List.push_toArray, List.append_toArray, List.nil_append, List.cons_append]
  obtain ⟨W0, hW0⟩ : ∃ W0, W.alloc (.cells #[.func (.yield l) #[] #[]] 211) = W0 := ⟨_, rfl⟩
  have hb1 : Below W.heap.size W W0 := by rw [← hW0]; exact (Below.refl _ W).alloc (Nat.le_refl _) _
  have hs0 : W.heap.size + 1 = W0.heap.size := by rw [← hW0]; simp
  have hy0 : W0.cell? ⟨W.heap.size, 0, none⟩ = some (.func (.yield l) #[] #[]) := by rw [← hW0]; exact World.cell?_alloc_new W _ _ 0
  have hbll := World.block_lt_of_cell? W _ hbl
  dsimp only at hbll
  have c1 := below_cell hb1 hbl hbll
  have hsb : ¬ S W.heap.size := fun h => by have := hS _ h; omega
  gi_wp2
  refine ⟨trivial, (fun h => by cases h), (callsIn_wide.2 (stmtsOf a ks.length c 0 _)).mono ?_⟩
  rintro e w3 ⟨rfl, hw3⟩
  subst w3
  gi_wp2
  obtain ⟨W4, hW4⟩ : ∃ W4, W0.alloc (.cells #[.slice a ks.length c] 81) = W4 := ⟨_, rfl⟩
  obtain ⟨W5, hW5⟩ : ∃ W5, W4.alloc (.cells #[.int .i64 0] 3) = W5 := ⟨_, rfl⟩
  rw [hW4, hW5]
  have s4 : W4.heap.size = W0.heap.size + 1 := by rw [← hW4]; simp
  have s5 : W5.heap.size = W0.heap.size + 2 := by rw [← hW5]; simp [s4]
  have hbl5 : W5.cell? ⟨W0.heap.size, 0, none⟩ = some (.slice a ks.length c) := by
    have h := (Boxed.new W0 81 (.slice a ks.length c)).alloc (.cells #[.int .i64 0] 3)
    rw [hW4, hW5] at h
    exact h.cell
  have hbd5 : W5.cell? ⟨W0.heap.size + 1, 0, none⟩ = some (.int .i64 0) := by
    have h := Boxed.new W4 3 (.int .i64 0)
    rw [hW5, s4] at h
    exact h.cell
  have hB5 : Below W.heap.size W W5 := by
    rw [← hW5, ← hW4]
    exact (hb1.alloc (by omega) _).alloc (by simp; omega) _
  have hy5 : W5.cell? ⟨W.heap.size, 0, none⟩ = some (.func (.yield l) #[] #[]) := by
    rw [← hW5, ← hW4]
    exact below_cell (n := W0.heap.size) (((Below.refl _ _).alloc (Nat.le_refl _) _).alloc (by simp) _) hy0 (by dsimp only; omega)
  clear hW4 hW5
  refine range_lawM (gf := 175) (lb := #[.pointer (some ⟨W0.heap.size, 0, none⟩), .pointer (some ⟨W0.heap.size + 1, 0, none⟩)]) rfl (enters_of Tryz.func175 (by kernel_rfl) rfl) stmtE (fun _ => rfl) (SX.withinAll ks 0) S
    (fun pre X => J (usesL pre) X ∧ X.cell? ⟨W.heap.size, 0, none⟩ = some (.func (.yield l) #[] #[]) ∧ (∀ x ∈ SX.withinAll ks 0, LiesS ok X x.2))
    (fun pre X => ∃ q, q <+: usesL (SX.withinAll ks 0) ∧ Jx q X)
    (fun k h => by have := hS k h; omega)
    (fun pre A B h ⟨h1, h2, h3⟩ => ⟨hJ _ _ _ (h.mono (by omega)) h1, below_cell h h2 (by dsimp only; omega), fun x hx => (h3 x hx).under h (fun b hb => by have := (hok b hb).2; omega)⟩)
    (fun pre A B h ⟨q, h1, h2⟩ => ⟨q, h1, hJx _ _ _ (h.mono (by omega)) h2⟩)
    ⟨by simpa [usesL] using hJ _ _ _ hB5 h0, hy5, fun x hx => (hLW x hx).under hB5 (fun b hb => (hok b hb).2)⟩
    ?hit ?hround ?hdone ?hstop
  case hit =>
    intro W6 hB6 hs6
    refine stmts1 _ ks hsz (Nat.le_refl _) a c 0 _ _ _ ok W6 ?_ ?_ (below_cell hB6 hbd5 (by dsimp only; omega)) ?_ (below_cell hB6 hbl5 (by dsimp only; omega)) ?_ ?_
    · rintro j (h | h)
      · have := hS j h; omega
      · omega
    · intro b hb
      have := hok b hb
      refine ⟨?_, by omega⟩
      rintro (h | h)
      · exact this.1 h
      · omega
    · rintro (h | h)
      · have := hS _ h; omega
      · omega
    · exact (hR.under hB5 (fun b hb => (hok b hb).2)).under hB6 (fun b hb => by have := (hok b hb).2; omega)
    · exact fun i k hk => ((hL i k hk).under hB5 (fun b hb => (hok b hb).2)).under hB6 (fun b hb => by have := (hok b hb).2; omega)
  case hdone =>
    rintro D X hD ⟨h1, h2, h3⟩ hkX hdX
    gi_wp2
    refine leave_marks [D] X (by simp) (fun E hE => by rw [List.mem_singleton.1 hE]; exact hdX) (fun W' hk' => ⟨_, results_none rfl _ _ _, ⟨_, rfl⟩, ?_, .inl ?_⟩)
    · exact ((Kept.of_new S hB5).trans hkX).join hk' (fun k h1 h2 => by have := List.mem_singleton.1 h2; omega)
    · exact hJ _ _ _ (hk'.below (by have := hkX.size; omega) (fun k h2 => by have := List.mem_singleton.1 h2; omega)) h1
  case hstop =>
    rintro D pre X hD hpre ⟨q, h1, h2⟩ hkX hdX
    refine leave_marks [D] X (by simp) (fun E hE => by rw [List.mem_singleton.1 hE]; exact hdX) (fun W' hk' => ⟨_, results_none rfl _ _ _, ⟨_, rfl⟩, ?_, .inr ⟨q, h1, ?_⟩⟩)
    · exact ((Kept.of_new S hB5).trans hkX).join hk' (fun k h1 h2 => by have := List.mem_singleton.1 h2; omega)
    · exact hJx _ _ _ (hk'.below (by have := hkX.size; omega) (fun k h2 => by have := List.mem_singleton.1 h2; omega)) h2
  case hround =>
    rintro l' m pre x X hl' hlX hI hpre
    gi_wp2
    refine ⟨(Below.refl _ X).alloc (Nat.le_refl _) _, ?_⟩
    rintro w₂ hk2 ⟨r2, hr2⟩ ⟨j1, j2, j3⟩
    have hX7 : Cells12 w₂ X.heap.size 0 x.2 := (Cells12.new X x.2 _).kept hk2 (by omega)
    have hmix : Tryz.prog.follows .mixedOrders = true := by kernel_rfl
    have hz2 := hk2.size
    simp only [World.size_alloc] at hz2
    have hpx : ∀ q, q <+: usesOf1 x.2 → usesL pre ++ q <+: usesL (SX.withinAll ks 0) := by
      intro q hq
      obtain ⟨t, ht⟩ := hpre
      rw [← ht, usesL_append, usesL_append]
      have h1 : usesL [x] = usesOf1 x.2 := by simp [usesL]
      rw [h1, List.append_assoc]
      exact List.prefix_append_right_inj _ |>.2 (hq.trans (List.prefix_append _ _))
    gi_wp2
    refine wpIn_mono (Q := fun e A w5 => e = .normal ∧ ∃ (u13 u14 u15 : Value) (b : Bool), A = ⟨#[.func (.yield l) #[] #[], .pointer (some ⟨bl, 0, none⟩), .pointer (some ⟨W.heap.size, 0, none⟩), undef, .pointer (some ⟨X.heap.size, 0, none⟩), undef, undef, undef, undef, .slice a ks.length c, .func (.func 175) #[] #[.pointer (some ⟨W0.heap.size, 0, none⟩), .pointer (some ⟨W0.heap.size + 1, 0, none⟩)], .int .i64 x.1, x.2.val, u13, u14, u15, .bool b, .bool (!b), undef, undef, undef, undef, undef, undef, undef, undef, undef, undef, undef, undef, undef, undef, undef, undef, undef, undef, undef, undef], []⟩ ∧
      Kept S w₂ w5 ∧ ((b = true ∧ J (usesL pre ++ [useS x.2]) w5) ∨ (b = false ∧ Jx (usesL pre ++ [useS x.2]) w5))) ?_ ?_
    · obtain ⟨d0, d1, d2, d3, d4, d5, d6, d7, d8, d9, d10, d11⟩ := hX7
      gi_region_with_o (first | (refine ⟨trivial, (fun h => by cases h), (CallsIn.inRound l' (callsIn_wide.2 (implUseS x.2 _))).mono ?_⟩; rintro e wU ⟨rfl, hBU⟩; (have hBw := ((Below.refl w₂.heap.size w₂).drew).trans hBU); (have y5 := below_cell hBw j2 (by dsimp only; omega)); (obtain ⟨fn, tmps, assign, body, hyy, hR⟩ := hY (m - 1) _ (useS x.2) wU (hJ _ _ _ (hBw.mono (by omega)) j1) (hpx [useS x.2] (by simp [usesOf1]))); (dsimp only [useV] at hyy)) | (refine ⟨(fun h => by cases h), RoundIn.mono (F := Fence.wide.inRound l') hR ?_⟩; rintro e w5 ⟨hk5, hor⟩; (obtain ⟨b, rfl, hbb⟩ : ∃ b, e = .returned (.bool b) ∧ ((b = true ∧ J (usesL pre ++ [useS x.2]) w5) ∨ (b = false ∧ Jx (usesL pre ++ [useS x.2]) w5)) := by (rcases hor with ⟨h1, h2⟩ | ⟨h1, h2⟩; exact ⟨_, h1, .inl ⟨rfl, h2⟩⟩; exact ⟨_, h1, .inr ⟨rfl, h2⟩⟩))))
      all_goals exact ⟨rfl, _, _, _, b, rfl, (Kept.of_new S hBw).trans hk5, hbb⟩
    · rintro e A w5 ⟨rfl, u13, u14, u15, b, rfl, hk5, hb⟩
      rcases hb with ⟨rfl, hj⟩ | ⟨rfl, hx⟩
      case inr =>
        gi_wp2
        exact ⟨hk5, _, hpx [useS x.2] (by simp [usesOf1]), hx⟩
      have hsX : ¬ S X.heap.size := fun h => by have := hS _ h; omega
      have hX5 := hX7.kept hk5 hsX
      have y5 := hk5.cell j2 hsb
      have hz5 := hk5.size
      obtain ⟨d0, d1, d2, d3, d4, d5, d6, d7, d8, d9, d10, d11⟩ := hX5
      have hxm : x ∈ SX.withinAll ks 0 := by
        obtain ⟨t, ht⟩ := hpre
        rw [← ht]; simp
      have hlS : ¬ S l' := fun h => by have := hS _ h; omega
      obtain ⟨w6, hw6⟩ : ∃ w6, w5.alloc (.cells #[.int .i64 x.2.e.kind, .int .i64 x.2.e.num, .string x.2.e.name, .slice x.2.e.base x.2.e.kids.length x.2.e.cap, .int .i64 x.2.f.kind, .int .i64 x.2.f.num, .string x.2.f.name, .slice x.2.f.base x.2.f.kids.length x.2.f.cap] 123) = w6 := ⟨_, rfl⟩
      have hB6 : Below w5.heap.size w5 w6 := by rw [← hw6]; exact (Below.refl _ _).alloc (Nat.le_refl _) _
      have hT6 : Two w6 w5.heap.size x.2 := by rw [← hw6]; exact Two.new w5 x.2
      have hr5 := (hk5.block l' (by have := (Array.getElem?_eq_some_iff.1 hr2).1; omega) hlS).trans hr2
      have hr6 := (hB6.block l' ((Array.getElem?_eq_some_iff.1 hr5).1)).trans hr5
      have hK6 := hk5.trans (Kept.of_new S hB6)
      have hLW6 : ∀ y ∈ SX.withinAll ks 0, LiesS ok w6 y.2 := fun y hy => ((j3 y hy).kept hk5 (fun b hb => (hok b hb).1)).under hB6 (fun b hb => by have := (hok b hb).2; omega)
      gi_wp2
      try rw [hw6]
      refine wpIn_loop (fun A w' => ∃ (j : Nat) (u6 u13 u14 u15 u17 u25 u26 u27 u28 u29 u37 : Value), A = ⟨#[.func (.yield l) #[] #[], .pointer (some ⟨bl, 0, none⟩), .pointer (some ⟨W.heap.size, 0, none⟩), undef, .pointer (some ⟨X.heap.size, 0, none⟩), undef, u6, undef, undef, .slice a ks.length c, .func (.func 175) #[] #[.pointer (some ⟨W0.heap.size, 0, none⟩), .pointer (some ⟨W0.heap.size + 1, 0, none⟩)], .int .i64 x.1, x.2.val, u13, u14, u15, .bool true, u17,
          .pointer (some ⟨X.heap.size, 2, none⟩), x.2.e.val, .pointer (some ⟨X.heap.size, 6, none⟩), x.2.f.val, .slice (some ⟨w5.heap.size, 0, none⟩) 2 2, .int .i64 2, .int .i64 j, u25, u26, u27, u28, u29, undef, undef, undef, undef, undef, undef, undef, u37], []⟩ ∧
          j ≤ 2 ∧ J (usesL pre ++ upU x.2 j) w' ∧ Kept S w₂ w' ∧ w5.heap.size < w'.heap.size ∧ w'.cell? ⟨W.heap.size, 0, none⟩ = some (.func (.yield l) #[] #[]) ∧ Two w' w5.heap.size x.2 ∧ (∀ y ∈ SX.withinAll ks 0, LiesS ok w' y.2) ∧ w'.heap[l']? = some (.loop r2))
        (fun A _ => 2 - (intOf (A.tmps.getD 24 undef)).toNat) ?_ ?_
      · exact ⟨0, _, _, _, _, _, _, _, _, _, _, _, rfl, by omega, hJ _ _ _ (hB6.mono (by omega)) hj, hK6, hT6.e.lt, below_cell hB6 y5 (by dsimp only; omega), hT6, hLW6, hr6⟩
      · rintro A w' ⟨j, u6, u13, u14, u15, u17, u25, u26, u27, u28, u29, u37, rfl, hj2, hJ', hK', hgz, hy', hT', hLW', hr'⟩
        have hw' := hK'.size
        have hyl := World.block_lt_of_cell? w' _ hy'
        dsimp only at hyl
        by_cases hlt : j < 2
        case neg =>
          have hj : j = 2 := by omega
          subst hj
          gi_wp2
          refine ⟨hK', ?_, hy', hLW'⟩
          rw [usesL_append]
          have h1 : usesL [x] = upU x.2 2 := by simp [usesL, usesOf1, upU]
          rw [h1]
          exact hJ'
        obtain ⟨t, ⟨p0, p1, p2, p3⟩, hLt, htz, hup⟩ := hT'.pick (hLW' x hxm) (hes x hxm) j hlt
        gi_wp2
        refine ⟨trivial, (fun h => by cases h), (CallsIn.inRound l' (callsIn_wide.2 (partsOf t 1 _))).mono ?_⟩
        rintro e w3 ⟨rfl, hw3⟩
        subst w3
        gi_wp2
        obtain ⟨V1, hV1⟩ : ∃ V1, w'.alloc (.cells #[.int .i64 t.kind, .int .i64 t.num, .string t.name, .slice t.base t.kids.length t.cap] 123) = V1 := ⟨_, rfl⟩
        obtain ⟨V2, hV2⟩ : ∃ V2, V1.alloc (.cells #[.int .i64 t.kind, .int .i64 t.num, .string t.name, .slice t.base t.kids.length t.cap] 123) = V2 := ⟨_, rfl⟩
        obtain ⟨V3, hV3⟩ : ∃ V3, V2.alloc (.cells #[.int .i64 1] 3) = V3 := ⟨_, rfl⟩
        rw [hV1, hV2, hV3]
        have t1 : V1.heap.size = w'.heap.size + 1 := by rw [← hV1]; simp
        have t2 : V2.heap.size = w'.heap.size + 2 := by rw [← hV2]; simp [t1]
        have t3 : V3.heap.size = w'.heap.size + 3 := by rw [← hV3]; simp [t2]
        have hBV : Below w'.heap.size w' V3 := by rw [← hV3, ← hV2, ← hV1]; exact (((Below.refl _ w').alloc (Nat.le_refl _) _).alloc (by simp) _).alloc (by simp; omega) _
        have hk3 : Cells4 V3 (w'.heap.size + 1) 0 t := by
          have h1 := Cells4.new V1 t
          rw [hV2, t1] at h1
          rw [← hV3]
          exact h1.below (n := w'.heap.size + 2) ((Below.refl _ _).alloc (by omega) _) (by omega)
        have hd3 : V3.cell? ⟨w'.heap.size + 2, 0, none⟩ = some (.int .i64 1) := by
          have h1 := Boxed.new V2 3 (.int .i64 1)
          rw [hV3, t2] at h1
          exact h1.cell
        clear hV1 hV2 hV3 p0 p1 p2 p3
        have hpy : ∀ q y, q ++ [y] <+: t.parts 1 → usesL pre ++ (upU x.2 j ++ q.map (fun z => useE z.2)) ++ [useE y.2] <+: usesL (SX.withinAll ks 0) := by
          intro q y hq
          rw [List.append_assoc]
          refine hpx _ (List.IsPrefix.trans ?_ (upU_pre x.2 (j + 1)))
          rw [hup, List.append_assoc]
          refine List.prefix_append_right_inj _ |>.2 ?_
          have h1 := List.IsPrefix.map (fun z : Int × XT => useE z.2) hq
          simpa [usesE] using h1
        refine range_lawN (l₀ := l') (r₀ := r2) ((hBV.block l' (Array.getElem?_eq_some_iff.1 hr').1).trans hr') (gf := 177) (lb := #[.pointer (some ⟨w'.heap.size + 1 + 1, 0, none⟩), .pointer (some ⟨w'.heap.size + 1, 0, none⟩)]) rfl (enters_of Tryz.func177 (by kernel_rfl) rfl) partE (fun _ => rfl) (t.parts 1) S
          (fun q X2 => J (usesL pre ++ (upU x.2 j ++ q.map (fun z => useE z.2))) X2 ∧ X2.cell? ⟨W.heap.size, 0, none⟩ = some (.func (.yield l) #[] #[]) ∧ Two X2 w5.heap.size x.2 ∧ (∀ y ∈ SX.withinAll ks 0, LiesS ok X2 y.2) ∧ X2.heap[l']? = some (.loop r2))
          (fun q X2 => ∃ r, r <+: usesL (SX.withinAll ks 0) ∧ Jx r X2)
          (fun k h => by have := hS k h; omega)
          (fun q A B h ⟨h1, h2, h3, h4, h5⟩ => ⟨hJ _ _ _ (h.mono (by omega)) h1, below_cell h h2 (by dsimp only; omega), h3.below h (by omega), fun y hy => (h4 y hy).under h (fun b hb => by have := (hok b hb).2; omega), (h.block l' (by have := (Array.getElem?_eq_some_iff.1 hr').1; omega)).trans h5⟩)
          (fun q A B h ⟨r, h1, h2⟩ => ⟨r, h1, hJx _ _ _ (h.mono (by omega)) h2⟩)
          ⟨by simpa using hJ _ _ _ (hBV.mono (by omega)) hJ', below_cell hBV hy' (by dsimp only; omega), hT'.below hBV hgz, fun y hy => (hLW' y hy).under hBV (fun b hb => by have := (hok b hb).2; omega), (hBV.block l' (Array.getElem?_eq_some_iff.1 hr').1).trans hr'⟩
          ?hit2 ?hround2 ?hdone2 ?hstop2
        case hit2 =>
          intro W6 hB6' hs6'
          refine parts1 _ t htz (Nat.le_refl _) 1 _ _ _ ok W6 ?_ ?_ (below_cell hB6' hd3 (by dsimp only; omega)) ?_ (hk3.below hB6' (by omega)) ?_ ((hLt.under hBV (fun b hb => by have := (hok b hb).2; omega)).under hB6' (fun b hb => by have := (hok b hb).2; omega))
          · rintro i (h | h)
            · have := hS i h; omega
            · omega
          · intro b hb
            have := hok b hb
            refine ⟨?_, by omega⟩
            rintro (h | h)
            · exact this.1 h
            · omega
          · rintro (h | h)
            · have := hS _ h; omega
            · omega
          · rintro (h | h)
            · have := hS _ h; omega
            · omega
        case hdone2 =>
          rintro X2 ⟨h1, h2, h3, h4, h5⟩ hkX
          gi_wp2
          refine ⟨⟨j + 1, _, _, _, _, _, _, _, _, _, _, _, rfl, by omega, ?_, (hK'.trans (Kept.of_new S hBV)).trans hkX, by have := hkX.size; omega, h2, h3, h4, h5⟩, ?_⟩
          · rw [hup]
            exact h1
          · simp [intOf]
            omega
        case hstop2 =>
          rintro q X2 hq ⟨r, h1, h2⟩ hkX
          exact ⟨(hK'.trans (Kept.of_new S hBV)).trans hkX, r, h1, h2⟩
        case hround2 =>
          rintro l2 m2 q y X2 hl2 hlX2 hI2 hq
          gi_wp2
          refine ⟨(Below.refl _ X2).alloc (Nat.le_refl _) _, ?_⟩
          rintro w7 hk7 - ⟨i1, i2, i3, i4, i5⟩
          have hY7 : Cells4 w7 X2.heap.size 0 y.2 := (Cells4.new X2 y.2).kept hk7 (by omega)
          have hz7 := hk7.size
          simp only [World.size_alloc] at hz7
          gi_wp2
          refine wpIn_mono (Q := fun e A w8 => e = .normal ∧ ∃ (u32 u33 u34 : Value) (b : Bool), A = ⟨#[.func (.yield l) #[] #[], .pointer (some ⟨bl, 0, none⟩), .pointer (some ⟨W.heap.size, 0, none⟩), undef, .pointer (some ⟨X.heap.size, 0, none⟩), undef, .pointer (some ⟨w'.heap.size, 0, none⟩), undef, .pointer (some ⟨X2.heap.size, 0, none⟩), .slice a ks.length c, .func (.func 175) #[] #[.pointer (some ⟨W0.heap.size, 0, none⟩), .pointer (some ⟨W0.heap.size + 1, 0, none⟩)], .int .i64 x.1, x.2.val, u13, u14, u15, .bool true, u17,
              .pointer (some ⟨X.heap.size, 2, none⟩), x.2.e.val, .pointer (some ⟨X.heap.size, 6, none⟩), x.2.f.val, .slice (some ⟨w5.heap.size, 0, none⟩) 2 2, .int .i64 2, .int .i64 j, .bool true, .pointer (some ⟨w5.heap.size, j * 4, none⟩), t.val, t.val, .func (.func 177) #[] #[.pointer (some ⟨w'.heap.size + 1 + 1, 0, none⟩), .pointer (some ⟨w'.heap.size + 1, 0, none⟩)], .int .i64 y.1, y.2.val, u32, u33, u34, .bool b, .bool (!b), u37], []⟩ ∧
            Kept S w7 w8 ∧ ((b = true ∧ J (usesL pre ++ (upU x.2 j ++ q.map (fun z => useE z.2)) ++ [useE y.2]) w8) ∨ (b = false ∧ Jx (usesL pre ++ (upU x.2 j ++ q.map (fun z => useE z.2)) ++ [useE y.2]) w8))) ?_ ?_
          · obtain ⟨p0, p1, p2, p3⟩ := hY7
            gi_region_with_o (first | (refine ⟨trivial, (fun h => by cases h), (CallsIn.inRound l2 (callsIn_wide.2 (implUseE y.2 _))).mono ?_⟩; rintro e wU ⟨rfl, hBU⟩; (have hBw := ((Below.refl w7.heap.size w7).drew).trans hBU); (have y7 := below_cell hBw i2 (by dsimp only; omega)); (obtain ⟨fn, tmps, assign, body, hyy, hR⟩ := hY (m2 - 1) _ (useE y.2) wU (hJ _ _ _ (hBw.mono (by omega)) i1) (hpy q y hq)); (dsimp only [useV] at hyy)) | (refine ⟨(fun h => by cases h), RoundIn.mono (F := Fence.wide.inRound l2) hR ?_⟩; rintro e w8 ⟨hk8, hor⟩; (obtain ⟨b, rfl, hbb⟩ : ∃ b, e = .returned (.bool b) ∧ ((b = true ∧ J (usesL pre ++ (upU x.2 j ++ q.map (fun z => useE z.2)) ++ [useE y.2]) w8) ∨ (b = false ∧ Jx (usesL pre ++ (upU x.2 j ++ q.map (fun z => useE z.2)) ++ [useE y.2]) w8)) := by (rcases hor with ⟨h1, h2⟩ | ⟨h1, h2⟩; exact ⟨_, h1, .inl ⟨rfl, h2⟩⟩; exact ⟨_, h1, .inr ⟨rfl, h2⟩⟩))))
            all_goals exact ⟨rfl, _, _, _, b, rfl, (Kept.of_new S hBw).trans hk8, hbb⟩
          · rintro e A w8 ⟨rfl, u32, u33, u34, b, rfl, hk8, hb⟩
            have hgS : ¬ S w5.heap.size := fun h => by have := hS _ h; omega
            rcases hb with ⟨rfl, hj⟩ | ⟨rfl, hx⟩
            case inr =>
              gi_wp2
              exact ⟨hk8, _, hpy q y hq, hx⟩
            gi_wp2
            refine ⟨hk8, ?_, hk8.cell i2 hsb, i3.kept hk8 hgS, fun z hz => (i4 z hz).kept hk8 (fun b hb => (hok b hb).1), (hk8.block l' (by have := (Array.getElem?_eq_some_iff.1 i5).1; omega) hlS).trans i5⟩
            have h1 : q.map (fun z : Int × XT => useE z.2) ++ [useE y.2] = (q ++ [y]).map (fun z => useE z.2) := by simp
            rw [List.append_assoc, List.append_assoc, h1] at hj
            exact hj
end Go.Proofs.YtaajdoipjalgmaaGreatDoor
