/-
  All statements of a list: what the program answers.
-/
import Derived.Test.YtomdbaokidphjaaStmtsA
import Derived.Test.YtomdbaokidphjaaIterB
import Derived.Test.YtomdbaokidphjaaHoldE
namespace Go.Proofs.Ytomdbaokidphjaa
open Go.RowKit Go.Shelf
set_option linter.unusedSimpArgs false
set_option linter.unusedVariables false
attribute [local go_sem] Oper.semAt_some

mutual
theorem SX.within_le : ∀ (s : SX) (r : Int), (s.within r).length ≤ s.size
  | .mk k n e f a c la b d lb, r => by
    have h1 := SX.withinAll_le la (wrap64 (r + 1))
    have h2 := SX.withinAll_le lb (wrap64 (r + 1))
    simp [SX.within, SX.size_eq, SX.la, SX.lb]
    omega
theorem SX.withinAll_le : ∀ (ks : List SX) (r : Int), (SX.withinAll ks r).length ≤ SX.sizeAll ks
  | [], r => by simp [SX.withinAll]
  | t :: ts, r => by
    have h1 := SX.within_le t r
    have h2 := SX.withinAll_le ts r
    simp [SX.withinAll, SX.sizeAll]
    omega
end
/-- The state of the rounds: the list so far lies in the box; what it owns. -/
def StB (w : World) (base : Nat) (pre : List (Int × SX)) (O : Nat → Prop) (X : World) : Prop :=
  ∃ (v : Value) (us : List SX) (l h : Nat → Nat), Boxed X w.heap.size 24 v ∧ us.length = pre.length ∧ (∀ (i : Nat) (x : Int × SX) (y : SX), pre[i]? = some x → us[i]? = some y → SameS x.2 y) ∧ AccS X base v us l h ∧ Below w.heap.size w X ∧
    (∀ k, v.ownBlock = some k → O k) ∧ (∀ i k, i < us.length → l i ≤ k → k < h i → O k) ∧ ∀ k, O k → base ≤ k ∧ k < X.heap.size
theorem StB.stable {w : World} {base n : Nat} {pre : List (Int × SX)} {O : Nat → Prop} {A B : World} (hn : w.heap.size < n) (h : Kept (off n O) A B) (hA : StB w base pre O A) : StB w base pre O B := by
  obtain ⟨v, us, l, hh, h1, h2, h3, h4, h5, h6, h7, h8⟩ := hA
  refine ⟨v, us, l, hh, (off_block h h1.lt (.inl hn)).trans h1, h2, h3, h4.on h.size (fun k hk hq => off_block h hk (.inr ?_)), ⟨h.os.trans h5.os, h.tape.trans h5.tape, h.output.trans h5.output, Nat.le_trans h5.size h.size, fun k hk => (off_block h (Nat.lt_of_lt_of_le hk h5.size) (.inl (by omega))).trans (h5.block k hk)⟩, h6, h7, fun k hk => ⟨(h8 k hk).1, Nat.lt_of_lt_of_le (h8 k hk).2 h.size⟩⟩
  rcases hq with hq | ⟨i, q1, q2, q3⟩
  · exact h6 k hq
  · exact h7 i k q1 q2 q3

theorem operAppend {P : Program} (w : World) {o : Oper} {a : Act} {K : Act → World → Prop} {Q : Exit → Act → World → Prop} (s x : Operand) (t : TypeId)
    (ho : o.op = .call { callee := .builtin .append, args := #[s, x], argTypes := #[t, t] })
    (base : Nat) (e : TypeId) (i : TypeInfo) (z : Value) (size bytes : Nat) (ht : P.underlying t = some (.slice e)) (hi : P.info? e = some i) (hz : i.zero = some z)
    (hsize : i.size = size) (hby : i.bytes = bytes) (hzs : z.cells.size = size) (hsz : 0 < size)
    (v : Value) (n : Nat) (xs : List Value) (hs : a.eval s = v) (hown : w.ownsRow base e size v n xs)
    (ad : Addr) (m c : Nat) (news : List Value) (hx : a.eval x = .slice (some ad) m c) (hl : news.length = m * size) (hnews : ∀ j u, news[j]? = some u → w.cell? (ad.add j) = some u) (h1 : ∀ u ∈ news, u.oneCell' = true)
    (h63 : n + m ≤ maxLen) (hbytes : (n + m) * bytes ≤ 140737488355328) (hbase : base ≤ w.heap.size) (hm : 0 < m)
    (h : ∀ v' w', w'.ownsRow base e size v' (n + m) (xs ++ news) → Back w w' base e size n m v v' xs news → K (a.put o.dst v') w') : o.wp P a w K Q := by
  obtain ⟨v', w', hr, h2, h3⟩ := run_append_back (P := P) w base t o.type e i z size bytes ht hi hz hsize hby hzs hsz v n xs hown ad m c news hl hnews h1 h63 hbytes hbase hm
  unfold Oper.wp execOp
  simp only [ho, resolve, invoke, builtin, Sem.run_bind, Sem.run_pure, Result.andThen_ok, List.map_toArray, List.map_cons, List.map_nil, hs, hx, hr]
  exact h v' w' h2 h3
theorem boxKept {B : World} {b : Nat} {t : TypeId} {v : Value} (h : Boxed B b t v) (u : Value) : Kept (fun k => k = b) B (B.setCell ⟨b, 0, none⟩ u) := (Kept.refl (fun k => k = b) B).setCell (p := ⟨b, 0, none⟩) rfl u
theorem if_twice {n a b : Nat} {f : Nat → Nat} : (fun i => if i = n then a else if i = n then b else f i) = (fun i => if i = n then a else f i) := by
  funext i
  by_cases h : i = n <;> simp [h]
theorem rowCells {Z : World} {base n g cap : Nat} {us : List SX} {z : SX} (hn : us.length = n) (h : Z.ownsRow base 40 12 (.slice (some ⟨g, 0, none⟩) (n + 1) cap) (n + 1) (fl12 us ++ z.vals)) : Cells12 Z g (n * 12) z := by
  have hcell : ∀ (j : Nat) (u : Value), z.vals[j]? = some u → Z.cell? ⟨g, n * 12 + j, none⟩ = some u := by
    intro j u hj
    have h0 : (fl12 us ++ z.vals)[n * 12 + j]? = some u := by
      rw [List.getElem?_append_right (by rw [fl12_length, hn]; omega), fl12_length, hn]
      rw [show n * 12 + j - n * 12 = j by omega]
      exact hj
    have h1 := h.cells (g := g) rfl _ u h0
    have hadd : (⟨g, 0, none⟩ : Addr).add (n * 12 + j) = ⟨g, n * 12 + j, none⟩ := by unfold Addr.add; split <;> simp_all
    rw [hadd] at h1
    exact h1
  exact ⟨hcell 0 _ rfl, hcell 1 _ rfl, hcell 2 _ rfl, hcell 3 _ rfl, hcell 4 _ rfl, hcell 5 _ rfl, hcell 6 _ rfl, hcell 7 _ rfl, hcell 8 _ rfl, hcell 9 _ rfl, hcell 10 _ rfl, hcell 11 _ rfl⟩
theorem StB.step {w w₂ Z : World} {base n : Nat} {pre : List (Int × SX)} {x : Int × SX} {O : Nat → Prop} {v v' : Value} {us : List SX} {l h : Nat → Nat} {t : SX} {lo hi : Nat} (hn : us.length = n) (j2 : us.length = pre.length) (j3 : ∀ (i : Nat) (x : Int × SX) (y : SX), pre[i]? = some x → us[i]? = some y → SameS x.2 y) (j5 : Below w.heap.size w w₂)
    (j6 : ∀ k, v.ownBlock = some k → O k) (j7 : ∀ i k, i < us.length → l i ≤ k → k < h i → O k) (j8 : ∀ k, O k → base ≤ k ∧ k < w₂.heap.size)
    (hA : AccS Z base v' (us ++ [t]) (fun i => if i = n then lo else l i) (fun i => if i = n then hi else h i)) (hs : SameS x.2 t) (hb : Boxed Z w.heap.size 24 v') (hK : Kept (fun k => k = w.heap.size ∨ O k) w₂ Z)
    (hv : ∀ g, v'.ownBlock = some g → v.ownBlock = some g ∨ w₂.heap.size ≤ g) (hlo : w₂.heap.size ≤ lo) (hwb : w.heap.size ≤ base) :
    ∃ O' : Nat → Prop, (∀ k, O' k → O k ∨ w₂.heap.size ≤ k) ∧ Kept (fun k => k = w.heap.size ∨ O k) w₂ Z ∧ StB w base (pre ++ [x]) O' Z := by
  refine ⟨fun k => v'.ownBlock = some k ∨ ∃ i, i < (us ++ [t]).length ∧ (if i = n then lo else l i) ≤ k ∧ k < (if i = n then hi else h i), ?_, hK, v', us ++ [t], _, _, hb, by simp [j2], ?_, hA, ?_, fun k hk => .inl hk, fun i k h1 h2 h3 => .inr ⟨i, h1, h2, h3⟩, ?_⟩
  · rintro k (hk | ⟨i, h1, h2, h3⟩)
    · exact (hv k hk).imp (j6 k) id
    · by_cases e : i = n
      · simp only [e, if_true] at h2
        exact .inr (by omega)
      · simp only [e, if_false] at h2 h3
        exact .inl (j7 i k (by simp at h1; omega) h2 h3)
  · intro i y z hy hz
    by_cases hi' : i < us.length
    · rw [List.getElem?_append_left hi'] at hz
      rw [List.getElem?_append_left (by omega)] at hy
      exact j3 i y z hy hz
    · have hi2 := (List.getElem?_eq_some_iff.1 hz).1
      simp at hi2
      have e : i = us.length := by omega
      subst e
      rw [List.getElem?_append_right (by omega)] at hz
      rw [List.getElem?_append_right (by omega)] at hy
      simp [j2] at hz hy
      subst hz hy
      exact hs
  · exact ⟨hK.os.trans j5.os, hK.tape.trans j5.tape, hK.output.trans j5.output, Nat.le_trans j5.size hK.size, fun k hk => (hK.block k (Nat.lt_of_lt_of_le hk j5.size) (fun h => h.elim (fun h => by omega) (fun h => by have := (j8 k h).1; omega))).trans (j5.block k hk)⟩
  · rintro k (hk | ⟨i, h1, h2, h3⟩)
    · have := hA.own.lt k hk
      exact ⟨this.1, this.2⟩
    · obtain ⟨p1, p2, -⟩ := hA.int i h1
      exact ⟨by omega, by omega⟩

set_option maxRecDepth 100000 in
set_option maxHeartbeats 4000000 in
theorem implStmts (ks : List SX) (hsz : SX.sizeAll ks ≤ 2097152) (hsm : ∀ (i : Nat) (k : SX), ks[i]? = some k → SmallS k) (a : Option Addr) (c : Nat) (ok : Nat → Prop) (w : World) (hok : ∀ b, ok b → b < w.heap.size ∧ Pl w b) (hR : SRow ok w a ks) (hL : ∀ (i : Nat) (k : SX), ks[i]? = some k → LiesS ok w k) :
    Calls Try.prog 7 #[.slice a ks.length c] w fun e w' => ∃ (v : Value) (us : List SX) (l h : Nat → Nat), e = .returned v ∧ us.length = (SX.withinAll ks 0).length ∧ (∀ (i : Nat) (x : Int × SX) (y : SX), (SX.withinAll ks 0)[i]? = some x → us[i]? = some y → SameS x.2 y) ∧ AccS w' w.heap.size v us l h ∧ Below w.heap.size w w' := by
  have hok' : ∀ b, ok b → b < w.heap.size := fun b hb => (hok b hb).1
  have hLW : ∀ x ∈ SX.withinAll ks 0, LiesS ok w x.2 := SX.within_all (fun s => LiesS ok w s) (fun s hs => ⟨hs.parts.2.2.2.2.1, hs.parts.2.2.2.2.2⟩) _ ks (Nat.le_refl _) hL 0
  have hSW : ∀ x ∈ SX.withinAll ks 0, SmallS x.2 := SX.within_all SmallS (fun s hs => ⟨hs.parts.2.2.2.2.1, hs.parts.2.2.2.2.2⟩) _ ks (Nat.le_refl _) hsm 0
  have hwl := SX.withinAll_le ks 0
  have HE := ends ks hsz hsm a c ok w hok hR hL
  obtain ⟨i0, hi0, hz0, hz1, hz2⟩ := info_parts infoS
  obtain ⟨n, -⟩ : ∃ n : Nat, True := ⟨0, trivial⟩
  refine (callsIn_wide (n := n)).1 ?_
  refine callsIn_of_wp_marks Try.func7 rfl trivial ?_ rfl
  simp only [Try.ntmps7, List.size_toArray, List.length_cons, List.length_nil, Nat.reduceAdd, Nat.reduceSub, Array.replicate_succ, Array.replicate_zero, List.push_toArray, List.append_toArray, List.nil_append, List.cons_append]
  gi_wp2
  refine ⟨trivial, (fun h => by cases h), (callsIn_wide.2 HE).mono ?_⟩
  rintro e w2 ⟨rfl, hB2⟩
  have hz2' := hB2.size
  gi_wp2
  refine ⟨trivial, (fun h => by cases h), (callsIn_wide.2 (stmtsOf a ks.length c 0 _)).mono ?_⟩
  rintro e w3 ⟨rfl, hw3⟩
  subst w3
  gi_wp2
  obtain ⟨W3, hW3⟩ : ∃ W3, w2.alloc (.cells #[.slice none 0 0] 24) = W3 := ⟨_, rfl⟩
  obtain ⟨W4, hW4⟩ : ∃ W4, W3.alloc (.cells #[.slice a ks.length c] 24) = W4 := ⟨_, rfl⟩
  obtain ⟨W5, hW5⟩ : ∃ W5, W4.alloc (.cells #[.int .i64 0] 3) = W5 := ⟨_, rfl⟩
  rw [hW3, hW4, hW5]
  have s3 : W3.heap.size = w2.heap.size + 1 := by rw [← hW3]; simp
  have s4 : W4.heap.size = w2.heap.size + 2 := by rw [← hW4]; simp [s3]
  have s5 : W5.heap.size = w2.heap.size + 3 := by rw [← hW5]; simp [s4]
  have hbr : Boxed W5 w2.heap.size 24 (.slice none 0 0) := by
    have h := ((Boxed.new w2 24 (.slice none 0 0)).alloc (.cells #[.slice a ks.length c] 24)).alloc (.cells #[.int .i64 0] 3)
    rw [hW3, hW4, hW5] at h
    exact h
  have hbl : W5.cell? ⟨w2.heap.size + 1, 0, none⟩ = some (.slice a ks.length c) := by
    have h := (Boxed.new W3 24 (.slice a ks.length c)).alloc (.cells #[.int .i64 0] 3)
    rw [hW4, hW5, s3] at h
    exact h.cell
  have hbd : W5.cell? ⟨w2.heap.size + 2, 0, none⟩ = some (.int .i64 0) := by
    have h := Boxed.new W4 3 (.int .i64 0)
    rw [hW5, s4] at h
    exact h.cell
  have hB5 : Below w2.heap.size w2 W5 := by
    rw [← hW5, ← hW4, ← hW3]
    exact (((Below.refl _ w2).alloc (Nat.le_refl _) _).alloc (by simp) _).alloc (by simp; omega) _
  have hB05 : Below w.heap.size w W5 := hB2.trans (hB5.mono hz2')
  clear hW3 hW4 hW5
  refine range_law3 (gf := 29) (lb := #[.pointer (some ⟨w2.heap.size + 1, 0, none⟩), .pointer (some ⟨w2.heap.size + 1 + 1, 0, none⟩)]) rfl (enters_of Try.func29 (by kernel_rfl) rfl) stmtE (fun _ => rfl) (SX.withinAll ks 0) (fun k => k = w2.heap.size) (fun _ => False)
    (fun pre O X => StB w2 W5.heap.size pre O X)
    (fun pre O X => False)
    (fun k h => by omega)
    (fun pre O A B h hs => hs.stable (by omega) h)
    (fun pre O A B h h1 => h1.elim)
    (fun pre O A hs k hk => by obtain ⟨v, us, l, hh, -, -, -, -, -, -, -, h8⟩ := hs; exact (h8 k hk).2)
    ⟨_, [], _, _, hbr, rfl, fun i x y _ hy => by simp at hy, AccS.nil _ _, hB5, fun k hk => by simp [Value.ownBlock] at hk, fun i k hi => by simp at hi, fun k hk => hk.elim⟩
    ?hit ?hround ?hdone ?hstop
  case hit =>
    intro W6 hB6 hs6
    have hB56 := hB05.trans (hB6.mono (by omega))
    refine stmts3 _ ks (by omega) (Nat.le_refl _) a c 0 _ _ _ _ ok W6 ?_ ?_ (below_cell hB6 hbd (by dsimp only; omega)) ?_ (below_cell hB6 hbl (by dsimp only; omega)) (hR.under hB56 hok') (fun i k hk => (hL i k hk).under hB56 hok') (fun b _ h => h) (fun h => h)
    · intro k h; omega
    · intro b hb
      have := hok' b hb
      omega
    · omega
  case hstop =>
    rintro D pre O X hD hpre hO h1 hkX hdX
    exact h1.elim
  case hdone =>
    rintro D O X hD hO ⟨v, us, l, h, h1, h2, h3, h4, h5, h6, h7, h8⟩ hkX hdX
    have hc := h1.cell
    gi_wp2
    have hDO : ¬ O D := fun h => (hO _ h).elim id (fun h => by omega)
    refine leave_marks [D] _ (by simp) (fun E hE => ?_) (fun W' hk' => ⟨v, ?_, v, us, l, h, rfl, h2, h3, ?_, ?_⟩)
    · rw [List.mem_singleton.1 hE]
      exact hdX
    · simp [results, Try.results7, go_sem]
    · have hA := h4.on (B := W') hk'.size (fun k hk hq => hk'.block k hk (fun hm => by
        rw [List.mem_singleton] at hm
        subst hm
        rcases hq with hq | ⟨i, q1, q2, q3⟩
        · exact hDO (h6 _ hq)
        · exact hDO (h7 i _ q1 q2 q3)))
      refine ⟨own_le hA.own (by omega), fun i hi => ?_, hA.ord, hA.kid⟩
      obtain ⟨p1, p2, p3⟩ := hA.int i hi
      exact ⟨by omega, p2, p3⟩
    · exact hB2.trans ((h5.trans (hk'.below h5.size (fun k hk => by simp at hk; omega))).mono hz2')
  case hround =>
    rintro l m pre x O X hl hlX hnl hI hpre
    gi_wp2
    refine ⟨(Below.refl _ X).alloc (Nat.le_refl _) _, ?_⟩
    rintro w₂ hk2 ⟨v, us, lf, hf, j1, j2, j3, j4, j5, j6, j7, j8⟩
    obtain ⟨-, -, -, -, hXb, -, -, -, -, -, -, hXO⟩ := hI
    have hXs := hk2.size
    rw [World.size_alloc] at hXs
    have hX7 : Cells12 w₂ X.heap.size 0 x.2 := (Cells12.new X x.2 _).kept hk2 (by omega)
    have hxm : x ∈ SX.withinAll ks 0 := hpre.subset (by simp)
    have hxs := hSW x hxm
    have hxl := hLW x hxm
    have hpl : pre.length + 1 ≤ 2097152 := by
      have h3 := hpre.length_le
      rw [List.length_append, List.length_singleton] at h3
      omega
    obtain ⟨a0, cap0, rfl⟩ : ∃ a0 cap0, v = .slice a0 pre.length cap0 := by
      obtain ⟨a0, cap0, e, -⟩ := j4.done
      exact ⟨a0, cap0, by rw [e, j2]⟩
    obtain ⟨n, hn⟩ : ∃ n, pre.length = n := ⟨_, rfl⟩
    rw [hn] at j1 j4 j6 hpl
    have hnu : us.length = n := by omega
    obtain ⟨Z0, hZ0⟩ : ∃ Z0, w₂.drew = Z0 := ⟨_, rfl⟩
    have hheap : Z0.heap = w₂.heap := by rw [← hZ0]; rfl
    have z0 : w₂.heap.size = Z0.heap.size := by rw [hheap]
    have hB_0 : Boxed Z0 w2.heap.size 24 (.slice a0 n cap0) := by unfold Boxed; rw [hheap]; exact j1
    have hA_0 : AccS Z0 W5.heap.size (.slice a0 n cap0) us lf hf := j4.on (by omega) (fun k _ _ => by rw [hheap])
    have hK_0 : Kept (fun k => k = w2.heap.size ∨ O k) w₂ Z0 := by rw [← hZ0]; exact ⟨rfl, rfl, rfl, Nat.le_refl _, fun _ _ _ => rfl⟩
    have hH_0 : Cells12 Z0 X.heap.size 0 x.2 := by rw [← hZ0]; exact ⟨hX7.c0, hX7.c1, hX7.c2, hX7.c3, hX7.c4, hX7.c5, hX7.c6, hX7.c7, hX7.c8, hX7.c9, hX7.c10, hX7.c11⟩
    have hW_0 : Below w.heap.size w Z0 := by rw [← hZ0]; exact (hB2.trans (j5.mono hz2')).drew
    clear hX7 hheap
    gi_wp2
    refine region_round (fun w' => Cells12 w' X.heap.size 0 x.2) (by kernel_rfl) (by kernel_rfl) (by rintro ⟨a, w, h⟩; exact h) (by rw [hZ0]; exact hH_0) (fun hHeld => ?_)
    rw [hZ0] at hHeld ⊢
    refine wpAnyH_take (i := 1) (oi := _) (v := ?_) rfl (by kernel_rfl) (by kernel_rfl) (by kernel_rfl) (fun _ _ _ h => h) (Or.inl ⟨by rfl, ?_⟩) (by assumption) ?_
    rotate_left
    · (intro w hSw; obtain ⟨r0, r1, r2, r3, r4, r5, r6, r7, r8, r9, r10, r11⟩ := hSw; go_simp; (try with_reducible rfl))
    try simp only [Act.put, List.setIfInBounds_toArray, List.set_cons_zero, List.set_cons_succ]
    refine wpAnyH_ready (rs := [0, 2, 4]) (by kernel_rfl) (by simp) ?_
    refine AllReadyH.cons (o := _) rfl (fun K hK => ?_) (AllReadyH.cons (o := _) rfl (fun K hK => ?_) (AllReadyH.cons (o := _) rfl (fun K hK => ?_) AllReadyH.nil))
    · skip
      have hcb := hB_0.cell
      go_simp
      refine hK.out _ _ hHeld (fun hHeld => ?_)
      clear hK K hcb
      try simp only [Act.put, List.setIfInBounds_toArray, List.set_cons_zero, List.set_cons_succ]
      refine wpAnyH_take (i := 3) (oi := _) (v := ?_) rfl (by kernel_rfl) (by kernel_rfl) (by kernel_rfl) (fun _ _ _ h => h) (Or.inl ⟨by rfl, ?_⟩) (by assumption) ?_
      rotate_left
      · (intro w hSw; go_simp; (try with_reducible rfl))
      try simp only [Act.put, List.setIfInBounds_toArray, List.set_cons_zero, List.set_cons_succ]
      refine wpAnyH_ready (rs := [2, 4]) (by kernel_rfl) (by simp) ?_
      refine AllReadyH.cons (o := _) rfl (fun K hK => ?_) (AllReadyH.cons (o := _) rfl (fun K hK => ?_) AllReadyH.nil)
      · skip
        go_simp
        go_at_call 16
        refine (copyS _ x.2 (Nat.le_refl _) hxs ok Z0 (fun b hb => Nat.lt_of_lt_of_le (hok' b hb) hW_0.size) (hxl.under hW_0 hok')).mono ?_
        rintro e Z1 ⟨t, rfl, hst, hO, hb1⟩
        try go_wp2_with fail
        refine hK.out _ _ (hHeld.below hb1 hHeld.lt) (fun hHeld => ?_)
        clear hK K
        try simp only [Act.put, List.setIfInBounds_toArray, List.set_cons_zero, List.set_cons_succ]
        have hB_1 : Boxed Z1 w2.heap.size 24 (.slice a0 n cap0) := (hb1.block _ hB_0.lt).trans hB_0
        have hA_1 := hA_0.below hb1
        have hK_1 : Kept (fun k => k = w2.heap.size ∨ O k) w₂ Z1 := hK_0.trans (Kept.of_new _ hb1)
        have hW_1 : Below w.heap.size w Z1 := bstep hW_0 hb1
        have y1 := hb1.size
        obtain ⟨lo, hlo⟩ : ∃ lo, lo = Z0.heap.size := ⟨_, rfl⟩
        obtain ⟨hi, hhi⟩ : ∃ hi, hi = Z1.heap.size := ⟨_, rfl⟩
        have hO_1 : OwnS1 Z1 lo hi t := by rw [hlo, hhi]; exact hO
        have hq_1 : hi ≤ Z1.heap.size := by omega
        refine wpAnyH_ready (rs := [4]) (by kernel_rfl) (by simp) ?_
        refine AllReadyH.cons (o := _) rfl (fun K hK => ?_) AllReadyH.nil
        · skip
          obtain ⟨Z2, hZ2⟩ : ∃ Z2, Z1.alloc (.cells #[.int .i64 0, .string ⟨#[]⟩, .int .i64 0, .int .i64 0, .string ⟨#[]⟩, .slice none 0 0, .int .i64 0, .int .i64 0, .string ⟨#[]⟩, .slice none 0 0, .slice none 0 0, .slice none 0 0] 40) = Z2 := ⟨_, rfl⟩
          have hb2 : Below Z1.heap.size Z1 Z2 := by rw [← hZ2]; exact (Below.refl _ _).alloc (Nat.le_refl _) _
          go_simp
          try rw [hZ2]
          refine hK.out _ _ (hHeld.below hb2 hHeld.lt) (fun hHeld => ?_)
          clear hK K
          try simp only [Act.put, List.setIfInBounds_toArray, List.set_cons_zero, List.set_cons_succ]
          have hB_2 : Boxed Z2 w2.heap.size 24 (.slice a0 n cap0) := (hb2.block _ hB_1.lt).trans hB_1
          have hA_2 := hA_1.below hb2
          have hK_2 : Kept (fun k => k = w2.heap.size ∨ O k) w₂ Z2 := hK_1.trans (Kept.of_new _ hb2)
          have hW_2 : Below w.heap.size w Z2 := bstep hW_1 hb2
          have y2 := hb2.size
          have hO_2 : OwnS1 Z2 lo hi t := hO_1.mono (fun b q1 q2 => hb2.block b (by omega))
          have hq_2 : hi ≤ Z2.heap.size := by omega
          obtain ⟨zb, hzb⟩ : ∃ zb, Z1.heap.size = zb := ⟨_, rfl⟩
          try rw [hzb]
          have hN_2 : ∀ j u, zS.vals[j]? = some u → Z2.cell? ((⟨zb, 0, none⟩ : Addr).add j) = some u := by rw [← hzb, ← hZ2]; exact news12 Z1 zS _
          clear hZ2
          have hown : Hid (Z2.ownsRow W5.heap.size 40 12 (.slice a0 n cap0) n (fl12 us)) := by have h := hA_2.own; rw [hnu] at h; exact h
          refine wpAnyH_ready (rs := [5]) (by kernel_rfl) (by simp) ?_
          refine AllReadyH.cons (o := _) rfl (fun K hK => ?_) AllReadyH.nil
          rw [if_pos (by rfl)]
          refine operAppend _ (.tmp 13) (.tmp 17) 24 rfl W5.heap.size 40 i0 _ 12 184 Try.underlying24 hi0 hz0 hz1 hz2 rfl (by decide) (.slice a0 n cap0) n (fl12 us) rfl hown.out ⟨zb, 0, none⟩ 1 1 zS.vals rfl rfl hN_2 (by simp [Value.oneCell', SX.vals]) (by unfold maxLen; omega) (by omega) (by omega) (by omega) ?_
          intro v' Z4 hown' hback
          have hP := hA_2.push hnu (OwnS1.zero Z2 (Nat.le_refl Z2.heap.size)) (fun j hj => (hA_2.int j hj).2.1) (by omega) (Nat.le_refl _) (fun g hg => .inl (hA_2.own.lt g hg).2) (by omega) hown' hback
          obtain ⟨g, cap, rfl⟩ := ownsRow_succ hown'
          have hgb := hown'.lt g rfl
          have hgv : ∀ k, (Value.slice (some ⟨g, 0, none⟩) (n + 1) cap).ownBlock = some k → (Value.slice a0 n cap0).ownBlock = some k ∨ k = Z2.heap.size := by
            intro k hk
            rcases hback with ⟨q1, -⟩ | ⟨q1, -⟩
            · rw [q1] at hk; exact .inl hk
            · rw [q1] at hk; cases hk; exact .inr rfl
          have hvO : ∀ k, (Value.slice a0 n cap0).ownBlock = some k → W5.heap.size ≤ k ∧ k < w₂.heap.size ∧ k < X.heap.size := fun k hk => ⟨(j8 k (j6 k hk)).1, (j8 k (j6 k hk)).2, (hXO k (j6 k hk)).2⟩
          have hgg := hgv g rfl
          have hoff : ∀ k, k < Z2.heap.size → ((Value.slice a0 n cap0).ownBlock = some k → False) → Z4.heap[k]? = Z2.heap[k]? := fun k hk hv => hback.kept.block k hk (fun h => h.elim hv (fun h => (hgv k h).elim hv (fun h => by omega)))
          have hz4 := hback.kept.size
          have hB_4 : Boxed Z4 w2.heap.size 24 (.slice a0 n cap0) := (hoff _ hB_2.lt (fun h => by have := hvO _ h; omega)).trans hB_2
          have hHe : Cells12 Z4 X.heap.size 0 x.2 := hHeld.kept hback.kept (fun h => h.elim (fun h => by have := hvO _ h; omega) (fun h => (hgv _ h).elim (fun h => by have := hvO _ h; omega) (fun h => by omega)))
          have hK_4 : Kept (fun k => k = w2.heap.size ∨ O k) w₂ Z4 := hK_2.join hback.kept (fun k hk h => .inr (h.elim (j6 k) (fun h => (hgv k h).elim (j6 k) (fun h => by omega))))
          have hO_4 : OwnS1 Z4 lo hi t := hO_2.mono (fun b q1 q2 => hoff b (by omega) (fun h => by have := hvO _ h; omega))
          have hg2 : g < lo ∨ hi ≤ g := hgg.elim (fun h => by have := hvO _ h; omega) (fun h => by omega)
          refine hK.out _ _ hHe (fun hHeld => ?_)
          clear hK K
          try simp only [Act.put, List.setIfInBounds_toArray, List.set_cons_zero, List.set_cons_succ]
          refine wpAnyH_take (i := 6) (oi := _) (v := .pointer (some ⟨g, n * 12, none⟩)) rfl (by kernel_rfl) (by kernel_rfl) (by kernel_rfl) (fun _ _ _ h => h) (Or.inl ⟨by rfl, ?_⟩) (by assumption) ?_
          · (intro w hSw; go_simp; (intro h; exfalso; omega))
          try simp only [Act.put, List.setIfInBounds_toArray, List.set_cons_zero, List.set_cons_succ]
          have hgs : ¬ X.heap.size = g := hgg.elim (fun h => by have := hvO _ h; omega) (fun h => by omega)
          have hlo1 : ∀ j, j < n → (fun i => if i = n then Z2.heap.size else hf i) j ≤ lo := fun j hj => by
            have h2 := (hA_0.int j (by omega)).2.1
            have h3 : ¬ j = n := by omega
            simp only [h3, if_false]
            omega
          have hgT : ∀ k, k < w₂.heap.size → k = g → k = w2.heap.size ∨ O k := fun k hk h => .inr (by rcases hgg with h9 | h9; exact h ▸ j6 _ h9; omega)
          refine wpAnyH_ready (rs := [7, 8]) (by kernel_rfl) (by simp) ?_
          refine AllReadyH.cons (o := _) rfl (fun K hK => ?_) (AllReadyH.cons (o := _) rfl (fun K hK => ?_) AllReadyH.nil)
          · obtain ⟨k0, k1, k2, k3, k4, k5, k6, k7, k8, k9, k10, k11⟩ := rowCells hnu hown'
            have kf := World.ownsRow.frozenAt hown'
            obtain ⟨hrow, hKp⟩ := put12L t hnu hown' (n * 12) rfl
            go_simp
            refine hK.out _ _ (hHeld.kept hKp hgs) (fun hHeld => ?_)
            clear hK K k0 k1 k2 k3 k4 k5 k6 k7 k8 k9 k10 k11 kf
            try simp only [Act.put, List.setIfInBounds_toArray, List.set_cons_zero, List.set_cons_succ]
            have hfin := hP.put hnu rfl hO_4 hlo1 (by omega) (by omega) hg2 hKp hrow
            have hBox0 : Boxed _ w2.heap.size 24 (.slice a0 n cap0) := (hKp.block _ hB_4.lt (by omega)).trans hB_4
            have hK5 := hK_4.join hKp hgT
            refine wpAnyH_ready (rs := [8]) (by kernel_rfl) (by simp) ?_
            refine AllReadyH.cons (o := _) rfl (fun K hK => ?_) AllReadyH.nil
            have hcb := hBox0.cell
            have hfb := hBox0.frozen
            have hKb := boxKept hBox0 (.slice (some ⟨g, 0, none⟩) (n + 1) cap)
            have hHx := hHeld.kept hKb (by omega)
            have hBox := hBox0.set (.slice (some ⟨g, 0, none⟩) (n + 1) cap)
            have hKall := hK5.join hKb (fun k hk h => .inl h)
            have hfin2 := hfin.on hKb.size (fun k hk hq => hKb.block k hk (by
              have h9 : W5.heap.size ≤ k := by
                rcases hq with hq | ⟨j, q1, q2, q3⟩
                · exact (hfin.own.lt k hq).1
                · have := (hfin.int j q1).1; omega
              omega))
            go_simp
            refine hK.out _ _ hHx (fun hHeld => ?_)
            clear hK K hcb hfb
            refine wpAnyH_done (by kernel_rfl) ?_ _
            rw [if_twice, if_twice] at hfin2
            exact StB.step hnu j2 j3 j5 j6 j7 j8 hfin2 hst hBox hKall (fun k hk => (hgv k hk).imp id (fun h => by omega)) (by omega) (by omega)
          · obtain ⟨Z5, hZ5⟩ : ∃ Z5, Z4.setCell ⟨w2.heap.size, 0, none⟩ (.slice (some ⟨g, 0, none⟩) (n + 1) cap) = Z5 := ⟨_, rfl⟩
            have hKb : Kept (fun k => k = w2.heap.size) Z4 Z5 := by rw [← hZ5]; exact (Kept.refl (fun k => k = w2.heap.size) _).setCell (p := ⟨w2.heap.size, 0, none⟩) rfl _
            have hBox0 : Boxed Z5 w2.heap.size 24 (.slice (some ⟨g, 0, none⟩) (n + 1) cap) := by rw [← hZ5]; exact hB_4.set _
            have hcb := hB_4.cell
            have hfb := hB_4.frozen
            go_simp
            try rw [hZ5]
            refine hK.out _ _ (hHeld.kept hKb (by omega)) (fun hHeld => ?_)
            clear hK K hcb hfb hZ5
            try simp only [Act.put, List.setIfInBounds_toArray, List.set_cons_zero, List.set_cons_succ]
            have hown5 := own_on hown' (C := Z5) (fun k hk => hKb.block k (hown'.lt k hk).2 (by have := (hown'.lt k hk).1; omega))
            have hP5 := hP.on hKb.size (fun k hk hq => hKb.block k hk (by
              have h9 : W5.heap.size ≤ k := by
                rcases hq with hq | ⟨j, q1, q2, q3⟩
                · exact (hP.own.lt k hq).1
                · have := (hP.int j q1).1; omega
              omega))
            have hO5 : OwnS1 Z5 lo hi t := hO_4.mono (fun b q1 q2 => hKb.block b (by omega) (by omega))
            have hK5 := hK_4.join hKb (fun k hk h => .inl h)
            have hz5 := hKb.size
            refine wpAnyH_ready (rs := [7]) (by kernel_rfl) (by simp) ?_
            refine AllReadyH.cons (o := _) rfl (fun K hK => ?_) AllReadyH.nil
            obtain ⟨k0, k1, k2, k3, k4, k5, k6, k7, k8, k9, k10, k11⟩ := rowCells hnu hown5
            have kf := World.ownsRow.frozenAt hown5
            obtain ⟨hrow, hKp⟩ := put12L t hnu hown5 (n * 12) rfl
            have hfin2 := hP5.put hnu rfl hO5 hlo1 (by omega) (by omega) hg2 hKp hrow
            have hBox := (hKp.block _ hBox0.lt (by omega)).trans hBox0
            have hKall := hK5.join hKp hgT
            have hHx := hHeld.kept hKp hgs
            go_simp
            refine hK.out _ _ hHx (fun hHeld => ?_)
            clear hK K k0 k1 k2 k3 k4 k5 k6 k7 k8 k9 k10 k11 kf
            refine wpAnyH_done (by kernel_rfl) ?_ _
            rw [if_twice, if_twice] at hfin2
            exact StB.step hnu j2 j3 j5 j6 j7 j8 hfin2 hst hBox hKall (fun k hk => (hgv k hk).imp id (fun h => by omega)) (by omega) (by omega)
      · skip
        obtain ⟨Z1, hZ1⟩ : ∃ Z1, Z0.alloc (.cells #[.int .i64 0, .string ⟨#[]⟩, .int .i64 0, .int .i64 0, .string ⟨#[]⟩, .slice none 0 0, .int .i64 0, .int .i64 0, .string ⟨#[]⟩, .slice none 0 0, .slice none 0 0, .slice none 0 0] 40) = Z1 := ⟨_, rfl⟩
        have hb1 : Below Z0.heap.size Z0 Z1 := by rw [← hZ1]; exact (Below.refl _ _).alloc (Nat.le_refl _) _
        go_simp
        try rw [hZ1]
        refine hK.out _ _ (hHeld.below hb1 hHeld.lt) (fun hHeld => ?_)
        clear hK K
        try simp only [Act.put, List.setIfInBounds_toArray, List.set_cons_zero, List.set_cons_succ]
        have hB_1 : Boxed Z1 w2.heap.size 24 (.slice a0 n cap0) := (hb1.block _ hB_0.lt).trans hB_0
        have hA_1 := hA_0.below hb1
        have hK_1 : Kept (fun k => k = w2.heap.size ∨ O k) w₂ Z1 := hK_0.trans (Kept.of_new _ hb1)
        have hW_1 : Below w.heap.size w Z1 := bstep hW_0 hb1
        have y1 := hb1.size
        obtain ⟨zb, hzb⟩ : ∃ zb, Z0.heap.size = zb := ⟨_, rfl⟩
        try rw [hzb]
        have hN_1 : ∀ j u, zS.vals[j]? = some u → Z1.cell? ((⟨zb, 0, none⟩ : Addr).add j) = some u := by rw [← hzb, ← hZ1]; exact news12 Z0 zS _
        clear hZ1
        refine wpAnyH_ready (rs := [2]) (by kernel_rfl) (by simp) ?_
        refine AllReadyH.cons (o := _) rfl (fun K hK => ?_) AllReadyH.nil
        · skip
          go_simp
          go_at_call 16
          refine (copyS _ x.2 (Nat.le_refl _) hxs ok Z1 (fun b hb => Nat.lt_of_lt_of_le (hok' b hb) hW_1.size) (hxl.under hW_1 hok')).mono ?_
          rintro e Z2 ⟨t, rfl, hst, hO, hb2⟩
          try go_wp2_with fail
          refine hK.out _ _ (hHeld.below hb2 hHeld.lt) (fun hHeld => ?_)
          clear hK K
          try simp only [Act.put, List.setIfInBounds_toArray, List.set_cons_zero, List.set_cons_succ]
          have hB_2 : Boxed Z2 w2.heap.size 24 (.slice a0 n cap0) := (hb2.block _ hB_1.lt).trans hB_1
          have hA_2 := hA_1.below hb2
          have hK_2 : Kept (fun k => k = w2.heap.size ∨ O k) w₂ Z2 := hK_1.trans (Kept.of_new _ hb2)
          have hW_2 : Below w.heap.size w Z2 := bstep hW_1 hb2
          have y2 := hb2.size
          have hN_2 : ∀ j u, zS.vals[j]? = some u → Z2.cell? ((⟨zb, 0, none⟩ : Addr).add j) = some u := fun j u hj => below_cell hb2 (hN_1 j u hj) (World.block_lt_of_cell? Z1 _ (hN_1 j u hj))
          obtain ⟨lo, hlo⟩ : ∃ lo, lo = Z1.heap.size := ⟨_, rfl⟩
          obtain ⟨hi, hhi⟩ : ∃ hi, hi = Z2.heap.size := ⟨_, rfl⟩
          have hO_2 : OwnS1 Z2 lo hi t := by rw [hlo, hhi]; exact hO
          have hq_2 : hi ≤ Z2.heap.size := by omega
          have hown : Hid (Z2.ownsRow W5.heap.size 40 12 (.slice a0 n cap0) n (fl12 us)) := by have h := hA_2.own; rw [hnu] at h; exact h
          refine wpAnyH_ready (rs := [5]) (by kernel_rfl) (by simp) ?_
          refine AllReadyH.cons (o := _) rfl (fun K hK => ?_) AllReadyH.nil
          rw [if_pos (by rfl)]
          refine operAppend _ (.tmp 13) (.tmp 17) 24 rfl W5.heap.size 40 i0 _ 12 184 Try.underlying24 hi0 hz0 hz1 hz2 rfl (by decide) (.slice a0 n cap0) n (fl12 us) rfl hown.out ⟨zb, 0, none⟩ 1 1 zS.vals rfl rfl hN_2 (by simp [Value.oneCell', SX.vals]) (by unfold maxLen; omega) (by omega) (by omega) (by omega) ?_
          intro v' Z4 hown' hback
          have hP := hA_2.push hnu (OwnS1.zero Z2 (Nat.le_refl Z2.heap.size)) (fun j hj => (hA_2.int j hj).2.1) (by omega) (Nat.le_refl _) (fun g hg => .inl (hA_2.own.lt g hg).2) (by omega) hown' hback
          obtain ⟨g, cap, rfl⟩ := ownsRow_succ hown'
          have hgb := hown'.lt g rfl
          have hgv : ∀ k, (Value.slice (some ⟨g, 0, none⟩) (n + 1) cap).ownBlock = some k → (Value.slice a0 n cap0).ownBlock = some k ∨ k = Z2.heap.size := by
            intro k hk
            rcases hback with ⟨q1, -⟩ | ⟨q1, -⟩
            · rw [q1] at hk; exact .inl hk
            · rw [q1] at hk; cases hk; exact .inr rfl
          have hvO : ∀ k, (Value.slice a0 n cap0).ownBlock = some k → W5.heap.size ≤ k ∧ k < w₂.heap.size ∧ k < X.heap.size := fun k hk => ⟨(j8 k (j6 k hk)).1, (j8 k (j6 k hk)).2, (hXO k (j6 k hk)).2⟩
          have hgg := hgv g rfl
          have hoff : ∀ k, k < Z2.heap.size → ((Value.slice a0 n cap0).ownBlock = some k → False) → Z4.heap[k]? = Z2.heap[k]? := fun k hk hv => hback.kept.block k hk (fun h => h.elim hv (fun h => (hgv k h).elim hv (fun h => by omega)))
          have hz4 := hback.kept.size
          have hB_4 : Boxed Z4 w2.heap.size 24 (.slice a0 n cap0) := (hoff _ hB_2.lt (fun h => by have := hvO _ h; omega)).trans hB_2
          have hHe : Cells12 Z4 X.heap.size 0 x.2 := hHeld.kept hback.kept (fun h => h.elim (fun h => by have := hvO _ h; omega) (fun h => (hgv _ h).elim (fun h => by have := hvO _ h; omega) (fun h => by omega)))
          have hK_4 : Kept (fun k => k = w2.heap.size ∨ O k) w₂ Z4 := hK_2.join hback.kept (fun k hk h => .inr (h.elim (j6 k) (fun h => (hgv k h).elim (j6 k) (fun h => by omega))))
          have hO_4 : OwnS1 Z4 lo hi t := hO_2.mono (fun b q1 q2 => hoff b (by omega) (fun h => by have := hvO _ h; omega))
          have hg2 : g < lo ∨ hi ≤ g := hgg.elim (fun h => by have := hvO _ h; omega) (fun h => by omega)
          refine hK.out _ _ hHe (fun hHeld => ?_)
          clear hK K
          try simp only [Act.put, List.setIfInBounds_toArray, List.set_cons_zero, List.set_cons_succ]
          refine wpAnyH_take (i := 6) (oi := _) (v := .pointer (some ⟨g, n * 12, none⟩)) rfl (by kernel_rfl) (by kernel_rfl) (by kernel_rfl) (fun _ _ _ h => h) (Or.inl ⟨by rfl, ?_⟩) (by assumption) ?_
          · (intro w hSw; go_simp; (intro h; exfalso; omega))
          try simp only [Act.put, List.setIfInBounds_toArray, List.set_cons_zero, List.set_cons_succ]
          have hgs : ¬ X.heap.size = g := hgg.elim (fun h => by have := hvO _ h; omega) (fun h => by omega)
          have hlo1 : ∀ j, j < n → (fun i => if i = n then Z2.heap.size else hf i) j ≤ lo := fun j hj => by
            have h2 := (hA_0.int j (by omega)).2.1
            have h3 : ¬ j = n := by omega
            simp only [h3, if_false]
            omega
          have hgT : ∀ k, k < w₂.heap.size → k = g → k = w2.heap.size ∨ O k := fun k hk h => .inr (by rcases hgg with h9 | h9; exact h ▸ j6 _ h9; omega)
          refine wpAnyH_ready (rs := [7, 8]) (by kernel_rfl) (by simp) ?_
          refine AllReadyH.cons (o := _) rfl (fun K hK => ?_) (AllReadyH.cons (o := _) rfl (fun K hK => ?_) AllReadyH.nil)
          · obtain ⟨k0, k1, k2, k3, k4, k5, k6, k7, k8, k9, k10, k11⟩ := rowCells hnu hown'
            have kf := World.ownsRow.frozenAt hown'
            obtain ⟨hrow, hKp⟩ := put12L t hnu hown' (n * 12) rfl
            go_simp
            refine hK.out _ _ (hHeld.kept hKp hgs) (fun hHeld => ?_)
            clear hK K k0 k1 k2 k3 k4 k5 k6 k7 k8 k9 k10 k11 kf
            try simp only [Act.put, List.setIfInBounds_toArray, List.set_cons_zero, List.set_cons_succ]
            have hfin := hP.put hnu rfl hO_4 hlo1 (by omega) (by omega) hg2 hKp hrow
            have hBox0 : Boxed _ w2.heap.size 24 (.slice a0 n cap0) := (hKp.block _ hB_4.lt (by omega)).trans hB_4
            have hK5 := hK_4.join hKp hgT
            refine wpAnyH_ready (rs := [8]) (by kernel_rfl) (by simp) ?_
            refine AllReadyH.cons (o := _) rfl (fun K hK => ?_) AllReadyH.nil
            have hcb := hBox0.cell
            have hfb := hBox0.frozen
            have hKb := boxKept hBox0 (.slice (some ⟨g, 0, none⟩) (n + 1) cap)
            have hHx := hHeld.kept hKb (by omega)
            have hBox := hBox0.set (.slice (some ⟨g, 0, none⟩) (n + 1) cap)
            have hKall := hK5.join hKb (fun k hk h => .inl h)
            have hfin2 := hfin.on hKb.size (fun k hk hq => hKb.block k hk (by
              have h9 : W5.heap.size ≤ k := by
                rcases hq with hq | ⟨j, q1, q2, q3⟩
                · exact (hfin.own.lt k hq).1
                · have := (hfin.int j q1).1; omega
              omega))
            go_simp
            refine hK.out _ _ hHx (fun hHeld => ?_)
            clear hK K hcb hfb
            refine wpAnyH_done (by kernel_rfl) ?_ _
            rw [if_twice, if_twice] at hfin2
            exact StB.step hnu j2 j3 j5 j6 j7 j8 hfin2 hst hBox hKall (fun k hk => (hgv k hk).imp id (fun h => by omega)) (by omega) (by omega)
          · obtain ⟨Z5, hZ5⟩ : ∃ Z5, Z4.setCell ⟨w2.heap.size, 0, none⟩ (.slice (some ⟨g, 0, none⟩) (n + 1) cap) = Z5 := ⟨_, rfl⟩
            have hKb : Kept (fun k => k = w2.heap.size) Z4 Z5 := by rw [← hZ5]; exact (Kept.refl (fun k => k = w2.heap.size) _).setCell (p := ⟨w2.heap.size, 0, none⟩) rfl _
            have hBox0 : Boxed Z5 w2.heap.size 24 (.slice (some ⟨g, 0, none⟩) (n + 1) cap) := by rw [← hZ5]; exact hB_4.set _
            have hcb := hB_4.cell
            have hfb := hB_4.frozen
            go_simp
            try rw [hZ5]
            refine hK.out _ _ (hHeld.kept hKb (by omega)) (fun hHeld => ?_)
            clear hK K hcb hfb hZ5
            try simp only [Act.put, List.setIfInBounds_toArray, List.set_cons_zero, List.set_cons_succ]
            have hown5 := own_on hown' (C := Z5) (fun k hk => hKb.block k (hown'.lt k hk).2 (by have := (hown'.lt k hk).1; omega))
            have hP5 := hP.on hKb.size (fun k hk hq => hKb.block k hk (by
              have h9 : W5.heap.size ≤ k := by
                rcases hq with hq | ⟨j, q1, q2, q3⟩
                · exact (hP.own.lt k hq).1
                · have := (hP.int j q1).1; omega
              omega))
            have hO5 : OwnS1 Z5 lo hi t := hO_4.mono (fun b q1 q2 => hKb.block b (by omega) (by omega))
            have hK5 := hK_4.join hKb (fun k hk h => .inl h)
            have hz5 := hKb.size
            refine wpAnyH_ready (rs := [7]) (by kernel_rfl) (by simp) ?_
            refine AllReadyH.cons (o := _) rfl (fun K hK => ?_) AllReadyH.nil
            obtain ⟨k0, k1, k2, k3, k4, k5, k6, k7, k8, k9, k10, k11⟩ := rowCells hnu hown5
            have kf := World.ownsRow.frozenAt hown5
            obtain ⟨hrow, hKp⟩ := put12L t hnu hown5 (n * 12) rfl
            have hfin2 := hP5.put hnu rfl hO5 hlo1 (by omega) (by omega) hg2 hKp hrow
            have hBox := (hKp.block _ hBox0.lt (by omega)).trans hBox0
            have hKall := hK5.join hKp hgT
            have hHx := hHeld.kept hKp hgs
            go_simp
            refine hK.out _ _ hHx (fun hHeld => ?_)
            clear hK K k0 k1 k2 k3 k4 k5 k6 k7 k8 k9 k10 k11 kf
            refine wpAnyH_done (by kernel_rfl) ?_ _
            rw [if_twice, if_twice] at hfin2
            exact StB.step hnu j2 j3 j5 j6 j7 j8 hfin2 hst hBox hKall (fun k hk => (hgv k hk).imp id (fun h => by omega)) (by omega) (by omega)
    · skip
      go_simp
      go_at_call 16
      refine (copyS _ x.2 (Nat.le_refl _) hxs ok Z0 (fun b hb => Nat.lt_of_lt_of_le (hok' b hb) hW_0.size) (hxl.under hW_0 hok')).mono ?_
      rintro e Z1 ⟨t, rfl, hst, hO, hb1⟩
      try go_wp2_with fail
      refine hK.out _ _ (hHeld.below hb1 hHeld.lt) (fun hHeld => ?_)
      clear hK K
      try simp only [Act.put, List.setIfInBounds_toArray, List.set_cons_zero, List.set_cons_succ]
      have hB_1 : Boxed Z1 w2.heap.size 24 (.slice a0 n cap0) := (hb1.block _ hB_0.lt).trans hB_0
      have hA_1 := hA_0.below hb1
      have hK_1 : Kept (fun k => k = w2.heap.size ∨ O k) w₂ Z1 := hK_0.trans (Kept.of_new _ hb1)
      have hW_1 : Below w.heap.size w Z1 := bstep hW_0 hb1
      have y1 := hb1.size
      obtain ⟨lo, hlo⟩ : ∃ lo, lo = Z0.heap.size := ⟨_, rfl⟩
      obtain ⟨hi, hhi⟩ : ∃ hi, hi = Z1.heap.size := ⟨_, rfl⟩
      have hO_1 : OwnS1 Z1 lo hi t := by rw [hlo, hhi]; exact hO
      have hq_1 : hi ≤ Z1.heap.size := by omega
      refine wpAnyH_ready (rs := [0, 4]) (by kernel_rfl) (by simp) ?_
      refine AllReadyH.cons (o := _) rfl (fun K hK => ?_) (AllReadyH.cons (o := _) rfl (fun K hK => ?_) AllReadyH.nil)
      · skip
        have hcb := hB_1.cell
        go_simp
        refine hK.out _ _ hHeld (fun hHeld => ?_)
        clear hK K hcb
        try simp only [Act.put, List.setIfInBounds_toArray, List.set_cons_zero, List.set_cons_succ]
        refine wpAnyH_take (i := 3) (oi := _) (v := ?_) rfl (by kernel_rfl) (by kernel_rfl) (by kernel_rfl) (fun _ _ _ h => h) (Or.inl ⟨by rfl, ?_⟩) (by assumption) ?_
        rotate_left
        · (intro w hSw; go_simp; (try with_reducible rfl))
        try simp only [Act.put, List.setIfInBounds_toArray, List.set_cons_zero, List.set_cons_succ]
        refine wpAnyH_ready (rs := [4]) (by kernel_rfl) (by simp) ?_
        refine AllReadyH.cons (o := _) rfl (fun K hK => ?_) AllReadyH.nil
        · skip
          obtain ⟨Z2, hZ2⟩ : ∃ Z2, Z1.alloc (.cells #[.int .i64 0, .string ⟨#[]⟩, .int .i64 0, .int .i64 0, .string ⟨#[]⟩, .slice none 0 0, .int .i64 0, .int .i64 0, .string ⟨#[]⟩, .slice none 0 0, .slice none 0 0, .slice none 0 0] 40) = Z2 := ⟨_, rfl⟩
          have hb2 : Below Z1.heap.size Z1 Z2 := by rw [← hZ2]; exact (Below.refl _ _).alloc (Nat.le_refl _) _
          go_simp
          try rw [hZ2]
          refine hK.out _ _ (hHeld.below hb2 hHeld.lt) (fun hHeld => ?_)
          clear hK K
          try simp only [Act.put, List.setIfInBounds_toArray, List.set_cons_zero, List.set_cons_succ]
          have hB_2 : Boxed Z2 w2.heap.size 24 (.slice a0 n cap0) := (hb2.block _ hB_1.lt).trans hB_1
          have hA_2 := hA_1.below hb2
          have hK_2 : Kept (fun k => k = w2.heap.size ∨ O k) w₂ Z2 := hK_1.trans (Kept.of_new _ hb2)
          have hW_2 : Below w.heap.size w Z2 := bstep hW_1 hb2
          have y2 := hb2.size
          have hO_2 : OwnS1 Z2 lo hi t := hO_1.mono (fun b q1 q2 => hb2.block b (by omega))
          have hq_2 : hi ≤ Z2.heap.size := by omega
          obtain ⟨zb, hzb⟩ : ∃ zb, Z1.heap.size = zb := ⟨_, rfl⟩
          try rw [hzb]
          have hN_2 : ∀ j u, zS.vals[j]? = some u → Z2.cell? ((⟨zb, 0, none⟩ : Addr).add j) = some u := by rw [← hzb, ← hZ2]; exact news12 Z1 zS _
          clear hZ2
          have hown : Hid (Z2.ownsRow W5.heap.size 40 12 (.slice a0 n cap0) n (fl12 us)) := by have h := hA_2.own; rw [hnu] at h; exact h
          refine wpAnyH_ready (rs := [5]) (by kernel_rfl) (by simp) ?_
          refine AllReadyH.cons (o := _) rfl (fun K hK => ?_) AllReadyH.nil
          rw [if_pos (by rfl)]
          refine operAppend _ (.tmp 13) (.tmp 17) 24 rfl W5.heap.size 40 i0 _ 12 184 Try.underlying24 hi0 hz0 hz1 hz2 rfl (by decide) (.slice a0 n cap0) n (fl12 us) rfl hown.out ⟨zb, 0, none⟩ 1 1 zS.vals rfl rfl hN_2 (by simp [Value.oneCell', SX.vals]) (by unfold maxLen; omega) (by omega) (by omega) (by omega) ?_
          intro v' Z4 hown' hback
          have hP := hA_2.push hnu (OwnS1.zero Z2 (Nat.le_refl Z2.heap.size)) (fun j hj => (hA_2.int j hj).2.1) (by omega) (Nat.le_refl _) (fun g hg => .inl (hA_2.own.lt g hg).2) (by omega) hown' hback
          obtain ⟨g, cap, rfl⟩ := ownsRow_succ hown'
          have hgb := hown'.lt g rfl
          have hgv : ∀ k, (Value.slice (some ⟨g, 0, none⟩) (n + 1) cap).ownBlock = some k → (Value.slice a0 n cap0).ownBlock = some k ∨ k = Z2.heap.size := by
            intro k hk
            rcases hback with ⟨q1, -⟩ | ⟨q1, -⟩
            · rw [q1] at hk; exact .inl hk
            · rw [q1] at hk; cases hk; exact .inr rfl
          have hvO : ∀ k, (Value.slice a0 n cap0).ownBlock = some k → W5.heap.size ≤ k ∧ k < w₂.heap.size ∧ k < X.heap.size := fun k hk => ⟨(j8 k (j6 k hk)).1, (j8 k (j6 k hk)).2, (hXO k (j6 k hk)).2⟩
          have hgg := hgv g rfl
          have hoff : ∀ k, k < Z2.heap.size → ((Value.slice a0 n cap0).ownBlock = some k → False) → Z4.heap[k]? = Z2.heap[k]? := fun k hk hv => hback.kept.block k hk (fun h => h.elim hv (fun h => (hgv k h).elim hv (fun h => by omega)))
          have hz4 := hback.kept.size
          have hB_4 : Boxed Z4 w2.heap.size 24 (.slice a0 n cap0) := (hoff _ hB_2.lt (fun h => by have := hvO _ h; omega)).trans hB_2
          have hHe : Cells12 Z4 X.heap.size 0 x.2 := hHeld.kept hback.kept (fun h => h.elim (fun h => by have := hvO _ h; omega) (fun h => (hgv _ h).elim (fun h => by have := hvO _ h; omega) (fun h => by omega)))
          have hK_4 : Kept (fun k => k = w2.heap.size ∨ O k) w₂ Z4 := hK_2.join hback.kept (fun k hk h => .inr (h.elim (j6 k) (fun h => (hgv k h).elim (j6 k) (fun h => by omega))))
          have hO_4 : OwnS1 Z4 lo hi t := hO_2.mono (fun b q1 q2 => hoff b (by omega) (fun h => by have := hvO _ h; omega))
          have hg2 : g < lo ∨ hi ≤ g := hgg.elim (fun h => by have := hvO _ h; omega) (fun h => by omega)
          refine hK.out _ _ hHe (fun hHeld => ?_)
          clear hK K
          try simp only [Act.put, List.setIfInBounds_toArray, List.set_cons_zero, List.set_cons_succ]
          refine wpAnyH_take (i := 6) (oi := _) (v := .pointer (some ⟨g, n * 12, none⟩)) rfl (by kernel_rfl) (by kernel_rfl) (by kernel_rfl) (fun _ _ _ h => h) (Or.inl ⟨by rfl, ?_⟩) (by assumption) ?_
          · (intro w hSw; go_simp; (intro h; exfalso; omega))
          try simp only [Act.put, List.setIfInBounds_toArray, List.set_cons_zero, List.set_cons_succ]
          have hgs : ¬ X.heap.size = g := hgg.elim (fun h => by have := hvO _ h; omega) (fun h => by omega)
          have hlo1 : ∀ j, j < n → (fun i => if i = n then Z2.heap.size else hf i) j ≤ lo := fun j hj => by
            have h2 := (hA_0.int j (by omega)).2.1
            have h3 : ¬ j = n := by omega
            simp only [h3, if_false]
            omega
          have hgT : ∀ k, k < w₂.heap.size → k = g → k = w2.heap.size ∨ O k := fun k hk h => .inr (by rcases hgg with h9 | h9; exact h ▸ j6 _ h9; omega)
          refine wpAnyH_ready (rs := [7, 8]) (by kernel_rfl) (by simp) ?_
          refine AllReadyH.cons (o := _) rfl (fun K hK => ?_) (AllReadyH.cons (o := _) rfl (fun K hK => ?_) AllReadyH.nil)
          · obtain ⟨k0, k1, k2, k3, k4, k5, k6, k7, k8, k9, k10, k11⟩ := rowCells hnu hown'
            have kf := World.ownsRow.frozenAt hown'
            obtain ⟨hrow, hKp⟩ := put12L t hnu hown' (n * 12) rfl
            go_simp
            refine hK.out _ _ (hHeld.kept hKp hgs) (fun hHeld => ?_)
            clear hK K k0 k1 k2 k3 k4 k5 k6 k7 k8 k9 k10 k11 kf
            try simp only [Act.put, List.setIfInBounds_toArray, List.set_cons_zero, List.set_cons_succ]
            have hfin := hP.put hnu rfl hO_4 hlo1 (by omega) (by omega) hg2 hKp hrow
            have hBox0 : Boxed _ w2.heap.size 24 (.slice a0 n cap0) := (hKp.block _ hB_4.lt (by omega)).trans hB_4
            have hK5 := hK_4.join hKp hgT
            refine wpAnyH_ready (rs := [8]) (by kernel_rfl) (by simp) ?_
            refine AllReadyH.cons (o := _) rfl (fun K hK => ?_) AllReadyH.nil
            have hcb := hBox0.cell
            have hfb := hBox0.frozen
            have hKb := boxKept hBox0 (.slice (some ⟨g, 0, none⟩) (n + 1) cap)
            have hHx := hHeld.kept hKb (by omega)
            have hBox := hBox0.set (.slice (some ⟨g, 0, none⟩) (n + 1) cap)
            have hKall := hK5.join hKb (fun k hk h => .inl h)
            have hfin2 := hfin.on hKb.size (fun k hk hq => hKb.block k hk (by
              have h9 : W5.heap.size ≤ k := by
                rcases hq with hq | ⟨j, q1, q2, q3⟩
                · exact (hfin.own.lt k hq).1
                · have := (hfin.int j q1).1; omega
              omega))
            go_simp
            refine hK.out _ _ hHx (fun hHeld => ?_)
            clear hK K hcb hfb
            refine wpAnyH_done (by kernel_rfl) ?_ _
            rw [if_twice, if_twice] at hfin2
            exact StB.step hnu j2 j3 j5 j6 j7 j8 hfin2 hst hBox hKall (fun k hk => (hgv k hk).imp id (fun h => by omega)) (by omega) (by omega)
          · obtain ⟨Z5, hZ5⟩ : ∃ Z5, Z4.setCell ⟨w2.heap.size, 0, none⟩ (.slice (some ⟨g, 0, none⟩) (n + 1) cap) = Z5 := ⟨_, rfl⟩
            have hKb : Kept (fun k => k = w2.heap.size) Z4 Z5 := by rw [← hZ5]; exact (Kept.refl (fun k => k = w2.heap.size) _).setCell (p := ⟨w2.heap.size, 0, none⟩) rfl _
            have hBox0 : Boxed Z5 w2.heap.size 24 (.slice (some ⟨g, 0, none⟩) (n + 1) cap) := by rw [← hZ5]; exact hB_4.set _
            have hcb := hB_4.cell
            have hfb := hB_4.frozen
            go_simp
            try rw [hZ5]
            refine hK.out _ _ (hHeld.kept hKb (by omega)) (fun hHeld => ?_)
            clear hK K hcb hfb hZ5
            try simp only [Act.put, List.setIfInBounds_toArray, List.set_cons_zero, List.set_cons_succ]
            have hown5 := own_on hown' (C := Z5) (fun k hk => hKb.block k (hown'.lt k hk).2 (by have := (hown'.lt k hk).1; omega))
            have hP5 := hP.on hKb.size (fun k hk hq => hKb.block k hk (by
              have h9 : W5.heap.size ≤ k := by
                rcases hq with hq | ⟨j, q1, q2, q3⟩
                · exact (hP.own.lt k hq).1
                · have := (hP.int j q1).1; omega
              omega))
            have hO5 : OwnS1 Z5 lo hi t := hO_4.mono (fun b q1 q2 => hKb.block b (by omega) (by omega))
            have hK5 := hK_4.join hKb (fun k hk h => .inl h)
            have hz5 := hKb.size
            refine wpAnyH_ready (rs := [7]) (by kernel_rfl) (by simp) ?_
            refine AllReadyH.cons (o := _) rfl (fun K hK => ?_) AllReadyH.nil
            obtain ⟨k0, k1, k2, k3, k4, k5, k6, k7, k8, k9, k10, k11⟩ := rowCells hnu hown5
            have kf := World.ownsRow.frozenAt hown5
            obtain ⟨hrow, hKp⟩ := put12L t hnu hown5 (n * 12) rfl
            have hfin2 := hP5.put hnu rfl hO5 hlo1 (by omega) (by omega) hg2 hKp hrow
            have hBox := (hKp.block _ hBox0.lt (by omega)).trans hBox0
            have hKall := hK5.join hKp hgT
            have hHx := hHeld.kept hKp hgs
            go_simp
            refine hK.out _ _ hHx (fun hHeld => ?_)
            clear hK K k0 k1 k2 k3 k4 k5 k6 k7 k8 k9 k10 k11 kf
            refine wpAnyH_done (by kernel_rfl) ?_ _
            rw [if_twice, if_twice] at hfin2
            exact StB.step hnu j2 j3 j5 j6 j7 j8 hfin2 hst hBox hKall (fun k hk => (hgv k hk).imp id (fun h => by omega)) (by omega) (by omega)
      · skip
        obtain ⟨Z2, hZ2⟩ : ∃ Z2, Z1.alloc (.cells #[.int .i64 0, .string ⟨#[]⟩, .int .i64 0, .int .i64 0, .string ⟨#[]⟩, .slice none 0 0, .int .i64 0, .int .i64 0, .string ⟨#[]⟩, .slice none 0 0, .slice none 0 0, .slice none 0 0] 40) = Z2 := ⟨_, rfl⟩
        have hb2 : Below Z1.heap.size Z1 Z2 := by rw [← hZ2]; exact (Below.refl _ _).alloc (Nat.le_refl _) _
        go_simp
        try rw [hZ2]
        refine hK.out _ _ (hHeld.below hb2 hHeld.lt) (fun hHeld => ?_)
        clear hK K
        try simp only [Act.put, List.setIfInBounds_toArray, List.set_cons_zero, List.set_cons_succ]
        have hB_2 : Boxed Z2 w2.heap.size 24 (.slice a0 n cap0) := (hb2.block _ hB_1.lt).trans hB_1
        have hA_2 := hA_1.below hb2
        have hK_2 : Kept (fun k => k = w2.heap.size ∨ O k) w₂ Z2 := hK_1.trans (Kept.of_new _ hb2)
        have hW_2 : Below w.heap.size w Z2 := bstep hW_1 hb2
        have y2 := hb2.size
        have hO_2 : OwnS1 Z2 lo hi t := hO_1.mono (fun b q1 q2 => hb2.block b (by omega))
        have hq_2 : hi ≤ Z2.heap.size := by omega
        obtain ⟨zb, hzb⟩ : ∃ zb, Z1.heap.size = zb := ⟨_, rfl⟩
        try rw [hzb]
        have hN_2 : ∀ j u, zS.vals[j]? = some u → Z2.cell? ((⟨zb, 0, none⟩ : Addr).add j) = some u := by rw [← hzb, ← hZ2]; exact news12 Z1 zS _
        clear hZ2
        refine wpAnyH_ready (rs := [0]) (by kernel_rfl) (by simp) ?_
        refine AllReadyH.cons (o := _) rfl (fun K hK => ?_) AllReadyH.nil
        · skip
          have hcb := hB_2.cell
          go_simp
          refine hK.out _ _ hHeld (fun hHeld => ?_)
          clear hK K hcb
          try simp only [Act.put, List.setIfInBounds_toArray, List.set_cons_zero, List.set_cons_succ]
          refine wpAnyH_take (i := 3) (oi := _) (v := ?_) rfl (by kernel_rfl) (by kernel_rfl) (by kernel_rfl) (fun _ _ _ h => h) (Or.inl ⟨by rfl, ?_⟩) (by assumption) ?_
          rotate_left
          · (intro w hSw; go_simp; (try with_reducible rfl))
          try simp only [Act.put, List.setIfInBounds_toArray, List.set_cons_zero, List.set_cons_succ]
          have hown : Hid (Z2.ownsRow W5.heap.size 40 12 (.slice a0 n cap0) n (fl12 us)) := by have h := hA_2.own; rw [hnu] at h; exact h
          refine wpAnyH_ready (rs := [5]) (by kernel_rfl) (by simp) ?_
          refine AllReadyH.cons (o := _) rfl (fun K hK => ?_) AllReadyH.nil
          rw [if_pos (by rfl)]
          refine operAppend _ (.tmp 13) (.tmp 17) 24 rfl W5.heap.size 40 i0 _ 12 184 Try.underlying24 hi0 hz0 hz1 hz2 rfl (by decide) (.slice a0 n cap0) n (fl12 us) rfl hown.out ⟨zb, 0, none⟩ 1 1 zS.vals rfl rfl hN_2 (by simp [Value.oneCell', SX.vals]) (by unfold maxLen; omega) (by omega) (by omega) (by omega) ?_
          intro v' Z4 hown' hback
          have hP := hA_2.push hnu (OwnS1.zero Z2 (Nat.le_refl Z2.heap.size)) (fun j hj => (hA_2.int j hj).2.1) (by omega) (Nat.le_refl _) (fun g hg => .inl (hA_2.own.lt g hg).2) (by omega) hown' hback
          obtain ⟨g, cap, rfl⟩ := ownsRow_succ hown'
          have hgb := hown'.lt g rfl
          have hgv : ∀ k, (Value.slice (some ⟨g, 0, none⟩) (n + 1) cap).ownBlock = some k → (Value.slice a0 n cap0).ownBlock = some k ∨ k = Z2.heap.size := by
            intro k hk
            rcases hback with ⟨q1, -⟩ | ⟨q1, -⟩
            · rw [q1] at hk; exact .inl hk
            · rw [q1] at hk; cases hk; exact .inr rfl
          have hvO : ∀ k, (Value.slice a0 n cap0).ownBlock = some k → W5.heap.size ≤ k ∧ k < w₂.heap.size ∧ k < X.heap.size := fun k hk => ⟨(j8 k (j6 k hk)).1, (j8 k (j6 k hk)).2, (hXO k (j6 k hk)).2⟩
          have hgg := hgv g rfl
          have hoff : ∀ k, k < Z2.heap.size → ((Value.slice a0 n cap0).ownBlock = some k → False) → Z4.heap[k]? = Z2.heap[k]? := fun k hk hv => hback.kept.block k hk (fun h => h.elim hv (fun h => (hgv k h).elim hv (fun h => by omega)))
          have hz4 := hback.kept.size
          have hB_4 : Boxed Z4 w2.heap.size 24 (.slice a0 n cap0) := (hoff _ hB_2.lt (fun h => by have := hvO _ h; omega)).trans hB_2
          have hHe : Cells12 Z4 X.heap.size 0 x.2 := hHeld.kept hback.kept (fun h => h.elim (fun h => by have := hvO _ h; omega) (fun h => (hgv _ h).elim (fun h => by have := hvO _ h; omega) (fun h => by omega)))
          have hK_4 : Kept (fun k => k = w2.heap.size ∨ O k) w₂ Z4 := hK_2.join hback.kept (fun k hk h => .inr (h.elim (j6 k) (fun h => (hgv k h).elim (j6 k) (fun h => by omega))))
          have hO_4 : OwnS1 Z4 lo hi t := hO_2.mono (fun b q1 q2 => hoff b (by omega) (fun h => by have := hvO _ h; omega))
          have hg2 : g < lo ∨ hi ≤ g := hgg.elim (fun h => by have := hvO _ h; omega) (fun h => by omega)
          refine hK.out _ _ hHe (fun hHeld => ?_)
          clear hK K
          try simp only [Act.put, List.setIfInBounds_toArray, List.set_cons_zero, List.set_cons_succ]
          refine wpAnyH_take (i := 6) (oi := _) (v := .pointer (some ⟨g, n * 12, none⟩)) rfl (by kernel_rfl) (by kernel_rfl) (by kernel_rfl) (fun _ _ _ h => h) (Or.inl ⟨by rfl, ?_⟩) (by assumption) ?_
          · (intro w hSw; go_simp; (intro h; exfalso; omega))
          try simp only [Act.put, List.setIfInBounds_toArray, List.set_cons_zero, List.set_cons_succ]
          have hgs : ¬ X.heap.size = g := hgg.elim (fun h => by have := hvO _ h; omega) (fun h => by omega)
          have hlo1 : ∀ j, j < n → (fun i => if i = n then Z2.heap.size else hf i) j ≤ lo := fun j hj => by
            have h2 := (hA_0.int j (by omega)).2.1
            have h3 : ¬ j = n := by omega
            simp only [h3, if_false]
            omega
          have hgT : ∀ k, k < w₂.heap.size → k = g → k = w2.heap.size ∨ O k := fun k hk h => .inr (by rcases hgg with h9 | h9; exact h ▸ j6 _ h9; omega)
          refine wpAnyH_ready (rs := [7, 8]) (by kernel_rfl) (by simp) ?_
          refine AllReadyH.cons (o := _) rfl (fun K hK => ?_) (AllReadyH.cons (o := _) rfl (fun K hK => ?_) AllReadyH.nil)
          · obtain ⟨k0, k1, k2, k3, k4, k5, k6, k7, k8, k9, k10, k11⟩ := rowCells hnu hown'
            have kf := World.ownsRow.frozenAt hown'
            obtain ⟨hrow, hKp⟩ := put12L t hnu hown' (n * 12) rfl
            go_simp
            refine hK.out _ _ (hHeld.kept hKp hgs) (fun hHeld => ?_)
            clear hK K k0 k1 k2 k3 k4 k5 k6 k7 k8 k9 k10 k11 kf
            try simp only [Act.put, List.setIfInBounds_toArray, List.set_cons_zero, List.set_cons_succ]
            have hfin := hP.put hnu rfl hO_4 hlo1 (by omega) (by omega) hg2 hKp hrow
            have hBox0 : Boxed _ w2.heap.size 24 (.slice a0 n cap0) := (hKp.block _ hB_4.lt (by omega)).trans hB_4
            have hK5 := hK_4.join hKp hgT
            refine wpAnyH_ready (rs := [8]) (by kernel_rfl) (by simp) ?_
            refine AllReadyH.cons (o := _) rfl (fun K hK => ?_) AllReadyH.nil
            have hcb := hBox0.cell
            have hfb := hBox0.frozen
            have hKb := boxKept hBox0 (.slice (some ⟨g, 0, none⟩) (n + 1) cap)
            have hHx := hHeld.kept hKb (by omega)
            have hBox := hBox0.set (.slice (some ⟨g, 0, none⟩) (n + 1) cap)
            have hKall := hK5.join hKb (fun k hk h => .inl h)
            have hfin2 := hfin.on hKb.size (fun k hk hq => hKb.block k hk (by
              have h9 : W5.heap.size ≤ k := by
                rcases hq with hq | ⟨j, q1, q2, q3⟩
                · exact (hfin.own.lt k hq).1
                · have := (hfin.int j q1).1; omega
              omega))
            go_simp
            refine hK.out _ _ hHx (fun hHeld => ?_)
            clear hK K hcb hfb
            refine wpAnyH_done (by kernel_rfl) ?_ _
            rw [if_twice, if_twice] at hfin2
            exact StB.step hnu j2 j3 j5 j6 j7 j8 hfin2 hst hBox hKall (fun k hk => (hgv k hk).imp id (fun h => by omega)) (by omega) (by omega)
          · obtain ⟨Z5, hZ5⟩ : ∃ Z5, Z4.setCell ⟨w2.heap.size, 0, none⟩ (.slice (some ⟨g, 0, none⟩) (n + 1) cap) = Z5 := ⟨_, rfl⟩
            have hKb : Kept (fun k => k = w2.heap.size) Z4 Z5 := by rw [← hZ5]; exact (Kept.refl (fun k => k = w2.heap.size) _).setCell (p := ⟨w2.heap.size, 0, none⟩) rfl _
            have hBox0 : Boxed Z5 w2.heap.size 24 (.slice (some ⟨g, 0, none⟩) (n + 1) cap) := by rw [← hZ5]; exact hB_4.set _
            have hcb := hB_4.cell
            have hfb := hB_4.frozen
            go_simp
            try rw [hZ5]
            refine hK.out _ _ (hHeld.kept hKb (by omega)) (fun hHeld => ?_)
            clear hK K hcb hfb hZ5
            try simp only [Act.put, List.setIfInBounds_toArray, List.set_cons_zero, List.set_cons_succ]
            have hown5 := own_on hown' (C := Z5) (fun k hk => hKb.block k (hown'.lt k hk).2 (by have := (hown'.lt k hk).1; omega))
            have hP5 := hP.on hKb.size (fun k hk hq => hKb.block k hk (by
              have h9 : W5.heap.size ≤ k := by
                rcases hq with hq | ⟨j, q1, q2, q3⟩
                · exact (hP.own.lt k hq).1
                · have := (hP.int j q1).1; omega
              omega))
            have hO5 : OwnS1 Z5 lo hi t := hO_4.mono (fun b q1 q2 => hKb.block b (by omega) (by omega))
            have hK5 := hK_4.join hKb (fun k hk h => .inl h)
            have hz5 := hKb.size
            refine wpAnyH_ready (rs := [7]) (by kernel_rfl) (by simp) ?_
            refine AllReadyH.cons (o := _) rfl (fun K hK => ?_) AllReadyH.nil
            obtain ⟨k0, k1, k2, k3, k4, k5, k6, k7, k8, k9, k10, k11⟩ := rowCells hnu hown5
            have kf := World.ownsRow.frozenAt hown5
            obtain ⟨hrow, hKp⟩ := put12L t hnu hown5 (n * 12) rfl
            have hfin2 := hP5.put hnu rfl hO5 hlo1 (by omega) (by omega) hg2 hKp hrow
            have hBox := (hKp.block _ hBox0.lt (by omega)).trans hBox0
            have hKall := hK5.join hKp hgT
            have hHx := hHeld.kept hKp hgs
            go_simp
            refine hK.out _ _ hHx (fun hHeld => ?_)
            clear hK K k0 k1 k2 k3 k4 k5 k6 k7 k8 k9 k10 k11 kf
            refine wpAnyH_done (by kernel_rfl) ?_ _
            rw [if_twice, if_twice] at hfin2
            exact StB.step hnu j2 j3 j5 j6 j7 j8 hfin2 hst hBox hKall (fun k hk => (hgv k hk).imp id (fun h => by omega)) (by omega) (by omega)
    · skip
      obtain ⟨Z1, hZ1⟩ : ∃ Z1, Z0.alloc (.cells #[.int .i64 0, .string ⟨#[]⟩, .int .i64 0, .int .i64 0, .string ⟨#[]⟩, .slice none 0 0, .int .i64 0, .int .i64 0, .string ⟨#[]⟩, .slice none 0 0, .slice none 0 0, .slice none 0 0] 40) = Z1 := ⟨_, rfl⟩
      have hb1 : Below Z0.heap.size Z0 Z1 := by rw [← hZ1]; exact (Below.refl _ _).alloc (Nat.le_refl _) _
      go_simp
      try rw [hZ1]
      refine hK.out _ _ (hHeld.below hb1 hHeld.lt) (fun hHeld => ?_)
      clear hK K
      try simp only [Act.put, List.setIfInBounds_toArray, List.set_cons_zero, List.set_cons_succ]
      have hB_1 : Boxed Z1 w2.heap.size 24 (.slice a0 n cap0) := (hb1.block _ hB_0.lt).trans hB_0
      have hA_1 := hA_0.below hb1
      have hK_1 : Kept (fun k => k = w2.heap.size ∨ O k) w₂ Z1 := hK_0.trans (Kept.of_new _ hb1)
      have hW_1 : Below w.heap.size w Z1 := bstep hW_0 hb1
      have y1 := hb1.size
      obtain ⟨zb, hzb⟩ : ∃ zb, Z0.heap.size = zb := ⟨_, rfl⟩
      try rw [hzb]
      have hN_1 : ∀ j u, zS.vals[j]? = some u → Z1.cell? ((⟨zb, 0, none⟩ : Addr).add j) = some u := by rw [← hzb, ← hZ1]; exact news12 Z0 zS _
      clear hZ1
      refine wpAnyH_ready (rs := [0, 2]) (by kernel_rfl) (by simp) ?_
      refine AllReadyH.cons (o := _) rfl (fun K hK => ?_) (AllReadyH.cons (o := _) rfl (fun K hK => ?_) AllReadyH.nil)
      · skip
        have hcb := hB_1.cell
        go_simp
        refine hK.out _ _ hHeld (fun hHeld => ?_)
        clear hK K hcb
        try simp only [Act.put, List.setIfInBounds_toArray, List.set_cons_zero, List.set_cons_succ]
        refine wpAnyH_take (i := 3) (oi := _) (v := ?_) rfl (by kernel_rfl) (by kernel_rfl) (by kernel_rfl) (fun _ _ _ h => h) (Or.inl ⟨by rfl, ?_⟩) (by assumption) ?_
        rotate_left
        · (intro w hSw; go_simp; (try with_reducible rfl))
        try simp only [Act.put, List.setIfInBounds_toArray, List.set_cons_zero, List.set_cons_succ]
        refine wpAnyH_ready (rs := [2]) (by kernel_rfl) (by simp) ?_
        refine AllReadyH.cons (o := _) rfl (fun K hK => ?_) AllReadyH.nil
        · skip
          go_simp
          go_at_call 16
          refine (copyS _ x.2 (Nat.le_refl _) hxs ok Z1 (fun b hb => Nat.lt_of_lt_of_le (hok' b hb) hW_1.size) (hxl.under hW_1 hok')).mono ?_
          rintro e Z2 ⟨t, rfl, hst, hO, hb2⟩
          try go_wp2_with fail
          refine hK.out _ _ (hHeld.below hb2 hHeld.lt) (fun hHeld => ?_)
          clear hK K
          try simp only [Act.put, List.setIfInBounds_toArray, List.set_cons_zero, List.set_cons_succ]
          have hB_2 : Boxed Z2 w2.heap.size 24 (.slice a0 n cap0) := (hb2.block _ hB_1.lt).trans hB_1
          have hA_2 := hA_1.below hb2
          have hK_2 : Kept (fun k => k = w2.heap.size ∨ O k) w₂ Z2 := hK_1.trans (Kept.of_new _ hb2)
          have hW_2 : Below w.heap.size w Z2 := bstep hW_1 hb2
          have y2 := hb2.size
          have hN_2 : ∀ j u, zS.vals[j]? = some u → Z2.cell? ((⟨zb, 0, none⟩ : Addr).add j) = some u := fun j u hj => below_cell hb2 (hN_1 j u hj) (World.block_lt_of_cell? Z1 _ (hN_1 j u hj))
          obtain ⟨lo, hlo⟩ : ∃ lo, lo = Z1.heap.size := ⟨_, rfl⟩
          obtain ⟨hi, hhi⟩ : ∃ hi, hi = Z2.heap.size := ⟨_, rfl⟩
          have hO_2 : OwnS1 Z2 lo hi t := by rw [hlo, hhi]; exact hO
          have hq_2 : hi ≤ Z2.heap.size := by omega
          have hown : Hid (Z2.ownsRow W5.heap.size 40 12 (.slice a0 n cap0) n (fl12 us)) := by have h := hA_2.own; rw [hnu] at h; exact h
          refine wpAnyH_ready (rs := [5]) (by kernel_rfl) (by simp) ?_
          refine AllReadyH.cons (o := _) rfl (fun K hK => ?_) AllReadyH.nil
          rw [if_pos (by rfl)]
          refine operAppend _ (.tmp 13) (.tmp 17) 24 rfl W5.heap.size 40 i0 _ 12 184 Try.underlying24 hi0 hz0 hz1 hz2 rfl (by decide) (.slice a0 n cap0) n (fl12 us) rfl hown.out ⟨zb, 0, none⟩ 1 1 zS.vals rfl rfl hN_2 (by simp [Value.oneCell', SX.vals]) (by unfold maxLen; omega) (by omega) (by omega) (by omega) ?_
          intro v' Z4 hown' hback
          have hP := hA_2.push hnu (OwnS1.zero Z2 (Nat.le_refl Z2.heap.size)) (fun j hj => (hA_2.int j hj).2.1) (by omega) (Nat.le_refl _) (fun g hg => .inl (hA_2.own.lt g hg).2) (by omega) hown' hback
          obtain ⟨g, cap, rfl⟩ := ownsRow_succ hown'
          have hgb := hown'.lt g rfl
          have hgv : ∀ k, (Value.slice (some ⟨g, 0, none⟩) (n + 1) cap).ownBlock = some k → (Value.slice a0 n cap0).ownBlock = some k ∨ k = Z2.heap.size := by
            intro k hk
            rcases hback with ⟨q1, -⟩ | ⟨q1, -⟩
            · rw [q1] at hk; exact .inl hk
            · rw [q1] at hk; cases hk; exact .inr rfl
          have hvO : ∀ k, (Value.slice a0 n cap0).ownBlock = some k → W5.heap.size ≤ k ∧ k < w₂.heap.size ∧ k < X.heap.size := fun k hk => ⟨(j8 k (j6 k hk)).1, (j8 k (j6 k hk)).2, (hXO k (j6 k hk)).2⟩
          have hgg := hgv g rfl
          have hoff : ∀ k, k < Z2.heap.size → ((Value.slice a0 n cap0).ownBlock = some k → False) → Z4.heap[k]? = Z2.heap[k]? := fun k hk hv => hback.kept.block k hk (fun h => h.elim hv (fun h => (hgv k h).elim hv (fun h => by omega)))
          have hz4 := hback.kept.size
          have hB_4 : Boxed Z4 w2.heap.size 24 (.slice a0 n cap0) := (hoff _ hB_2.lt (fun h => by have := hvO _ h; omega)).trans hB_2
          have hHe : Cells12 Z4 X.heap.size 0 x.2 := hHeld.kept hback.kept (fun h => h.elim (fun h => by have := hvO _ h; omega) (fun h => (hgv _ h).elim (fun h => by have := hvO _ h; omega) (fun h => by omega)))
          have hK_4 : Kept (fun k => k = w2.heap.size ∨ O k) w₂ Z4 := hK_2.join hback.kept (fun k hk h => .inr (h.elim (j6 k) (fun h => (hgv k h).elim (j6 k) (fun h => by omega))))
          have hO_4 : OwnS1 Z4 lo hi t := hO_2.mono (fun b q1 q2 => hoff b (by omega) (fun h => by have := hvO _ h; omega))
          have hg2 : g < lo ∨ hi ≤ g := hgg.elim (fun h => by have := hvO _ h; omega) (fun h => by omega)
          refine hK.out _ _ hHe (fun hHeld => ?_)
          clear hK K
          try simp only [Act.put, List.setIfInBounds_toArray, List.set_cons_zero, List.set_cons_succ]
          refine wpAnyH_take (i := 6) (oi := _) (v := .pointer (some ⟨g, n * 12, none⟩)) rfl (by kernel_rfl) (by kernel_rfl) (by kernel_rfl) (fun _ _ _ h => h) (Or.inl ⟨by rfl, ?_⟩) (by assumption) ?_
          · (intro w hSw; go_simp; (intro h; exfalso; omega))
          try simp only [Act.put, List.setIfInBounds_toArray, List.set_cons_zero, List.set_cons_succ]
          have hgs : ¬ X.heap.size = g := hgg.elim (fun h => by have := hvO _ h; omega) (fun h => by omega)
          have hlo1 : ∀ j, j < n → (fun i => if i = n then Z2.heap.size else hf i) j ≤ lo := fun j hj => by
            have h2 := (hA_0.int j (by omega)).2.1
            have h3 : ¬ j = n := by omega
            simp only [h3, if_false]
            omega
          have hgT : ∀ k, k < w₂.heap.size → k = g → k = w2.heap.size ∨ O k := fun k hk h => .inr (by rcases hgg with h9 | h9; exact h ▸ j6 _ h9; omega)
          refine wpAnyH_ready (rs := [7, 8]) (by kernel_rfl) (by simp) ?_
          refine AllReadyH.cons (o := _) rfl (fun K hK => ?_) (AllReadyH.cons (o := _) rfl (fun K hK => ?_) AllReadyH.nil)
          · obtain ⟨k0, k1, k2, k3, k4, k5, k6, k7, k8, k9, k10, k11⟩ := rowCells hnu hown'
            have kf := World.ownsRow.frozenAt hown'
            obtain ⟨hrow, hKp⟩ := put12L t hnu hown' (n * 12) rfl
            go_simp
            refine hK.out _ _ (hHeld.kept hKp hgs) (fun hHeld => ?_)
            clear hK K k0 k1 k2 k3 k4 k5 k6 k7 k8 k9 k10 k11 kf
            try simp only [Act.put, List.setIfInBounds_toArray, List.set_cons_zero, List.set_cons_succ]
            have hfin := hP.put hnu rfl hO_4 hlo1 (by omega) (by omega) hg2 hKp hrow
            have hBox0 : Boxed _ w2.heap.size 24 (.slice a0 n cap0) := (hKp.block _ hB_4.lt (by omega)).trans hB_4
            have hK5 := hK_4.join hKp hgT
            refine wpAnyH_ready (rs := [8]) (by kernel_rfl) (by simp) ?_
            refine AllReadyH.cons (o := _) rfl (fun K hK => ?_) AllReadyH.nil
            have hcb := hBox0.cell
            have hfb := hBox0.frozen
            have hKb := boxKept hBox0 (.slice (some ⟨g, 0, none⟩) (n + 1) cap)
            have hHx := hHeld.kept hKb (by omega)
            have hBox := hBox0.set (.slice (some ⟨g, 0, none⟩) (n + 1) cap)
            have hKall := hK5.join hKb (fun k hk h => .inl h)
            have hfin2 := hfin.on hKb.size (fun k hk hq => hKb.block k hk (by
              have h9 : W5.heap.size ≤ k := by
                rcases hq with hq | ⟨j, q1, q2, q3⟩
                · exact (hfin.own.lt k hq).1
                · have := (hfin.int j q1).1; omega
              omega))
            go_simp
            refine hK.out _ _ hHx (fun hHeld => ?_)
            clear hK K hcb hfb
            refine wpAnyH_done (by kernel_rfl) ?_ _
            rw [if_twice, if_twice] at hfin2
            exact StB.step hnu j2 j3 j5 j6 j7 j8 hfin2 hst hBox hKall (fun k hk => (hgv k hk).imp id (fun h => by omega)) (by omega) (by omega)
          · obtain ⟨Z5, hZ5⟩ : ∃ Z5, Z4.setCell ⟨w2.heap.size, 0, none⟩ (.slice (some ⟨g, 0, none⟩) (n + 1) cap) = Z5 := ⟨_, rfl⟩
            have hKb : Kept (fun k => k = w2.heap.size) Z4 Z5 := by rw [← hZ5]; exact (Kept.refl (fun k => k = w2.heap.size) _).setCell (p := ⟨w2.heap.size, 0, none⟩) rfl _
            have hBox0 : Boxed Z5 w2.heap.size 24 (.slice (some ⟨g, 0, none⟩) (n + 1) cap) := by rw [← hZ5]; exact hB_4.set _
            have hcb := hB_4.cell
            have hfb := hB_4.frozen
            go_simp
            try rw [hZ5]
            refine hK.out _ _ (hHeld.kept hKb (by omega)) (fun hHeld => ?_)
            clear hK K hcb hfb hZ5
            try simp only [Act.put, List.setIfInBounds_toArray, List.set_cons_zero, List.set_cons_succ]
            have hown5 := own_on hown' (C := Z5) (fun k hk => hKb.block k (hown'.lt k hk).2 (by have := (hown'.lt k hk).1; omega))
            have hP5 := hP.on hKb.size (fun k hk hq => hKb.block k hk (by
              have h9 : W5.heap.size ≤ k := by
                rcases hq with hq | ⟨j, q1, q2, q3⟩
                · exact (hP.own.lt k hq).1
                · have := (hP.int j q1).1; omega
              omega))
            have hO5 : OwnS1 Z5 lo hi t := hO_4.mono (fun b q1 q2 => hKb.block b (by omega) (by omega))
            have hK5 := hK_4.join hKb (fun k hk h => .inl h)
            have hz5 := hKb.size
            refine wpAnyH_ready (rs := [7]) (by kernel_rfl) (by simp) ?_
            refine AllReadyH.cons (o := _) rfl (fun K hK => ?_) AllReadyH.nil
            obtain ⟨k0, k1, k2, k3, k4, k5, k6, k7, k8, k9, k10, k11⟩ := rowCells hnu hown5
            have kf := World.ownsRow.frozenAt hown5
            obtain ⟨hrow, hKp⟩ := put12L t hnu hown5 (n * 12) rfl
            have hfin2 := hP5.put hnu rfl hO5 hlo1 (by omega) (by omega) hg2 hKp hrow
            have hBox := (hKp.block _ hBox0.lt (by omega)).trans hBox0
            have hKall := hK5.join hKp hgT
            have hHx := hHeld.kept hKp hgs
            go_simp
            refine hK.out _ _ hHx (fun hHeld => ?_)
            clear hK K k0 k1 k2 k3 k4 k5 k6 k7 k8 k9 k10 k11 kf
            refine wpAnyH_done (by kernel_rfl) ?_ _
            rw [if_twice, if_twice] at hfin2
            exact StB.step hnu j2 j3 j5 j6 j7 j8 hfin2 hst hBox hKall (fun k hk => (hgv k hk).imp id (fun h => by omega)) (by omega) (by omega)
      · skip
        go_simp
        go_at_call 16
        refine (copyS _ x.2 (Nat.le_refl _) hxs ok Z1 (fun b hb => Nat.lt_of_lt_of_le (hok' b hb) hW_1.size) (hxl.under hW_1 hok')).mono ?_
        rintro e Z2 ⟨t, rfl, hst, hO, hb2⟩
        try go_wp2_with fail
        refine hK.out _ _ (hHeld.below hb2 hHeld.lt) (fun hHeld => ?_)
        clear hK K
        try simp only [Act.put, List.setIfInBounds_toArray, List.set_cons_zero, List.set_cons_succ]
        have hB_2 : Boxed Z2 w2.heap.size 24 (.slice a0 n cap0) := (hb2.block _ hB_1.lt).trans hB_1
        have hA_2 := hA_1.below hb2
        have hK_2 : Kept (fun k => k = w2.heap.size ∨ O k) w₂ Z2 := hK_1.trans (Kept.of_new _ hb2)
        have hW_2 : Below w.heap.size w Z2 := bstep hW_1 hb2
        have y2 := hb2.size
        have hN_2 : ∀ j u, zS.vals[j]? = some u → Z2.cell? ((⟨zb, 0, none⟩ : Addr).add j) = some u := fun j u hj => below_cell hb2 (hN_1 j u hj) (World.block_lt_of_cell? Z1 _ (hN_1 j u hj))
        obtain ⟨lo, hlo⟩ : ∃ lo, lo = Z1.heap.size := ⟨_, rfl⟩
        obtain ⟨hi, hhi⟩ : ∃ hi, hi = Z2.heap.size := ⟨_, rfl⟩
        have hO_2 : OwnS1 Z2 lo hi t := by rw [hlo, hhi]; exact hO
        have hq_2 : hi ≤ Z2.heap.size := by omega
        refine wpAnyH_ready (rs := [0]) (by kernel_rfl) (by simp) ?_
        refine AllReadyH.cons (o := _) rfl (fun K hK => ?_) AllReadyH.nil
        · skip
          have hcb := hB_2.cell
          go_simp
          refine hK.out _ _ hHeld (fun hHeld => ?_)
          clear hK K hcb
          try simp only [Act.put, List.setIfInBounds_toArray, List.set_cons_zero, List.set_cons_succ]
          refine wpAnyH_take (i := 3) (oi := _) (v := ?_) rfl (by kernel_rfl) (by kernel_rfl) (by kernel_rfl) (fun _ _ _ h => h) (Or.inl ⟨by rfl, ?_⟩) (by assumption) ?_
          rotate_left
          · (intro w hSw; go_simp; (try with_reducible rfl))
          try simp only [Act.put, List.setIfInBounds_toArray, List.set_cons_zero, List.set_cons_succ]
          have hown : Hid (Z2.ownsRow W5.heap.size 40 12 (.slice a0 n cap0) n (fl12 us)) := by have h := hA_2.own; rw [hnu] at h; exact h
          refine wpAnyH_ready (rs := [5]) (by kernel_rfl) (by simp) ?_
          refine AllReadyH.cons (o := _) rfl (fun K hK => ?_) AllReadyH.nil
          rw [if_pos (by rfl)]
          refine operAppend _ (.tmp 13) (.tmp 17) 24 rfl W5.heap.size 40 i0 _ 12 184 Try.underlying24 hi0 hz0 hz1 hz2 rfl (by decide) (.slice a0 n cap0) n (fl12 us) rfl hown.out ⟨zb, 0, none⟩ 1 1 zS.vals rfl rfl hN_2 (by simp [Value.oneCell', SX.vals]) (by unfold maxLen; omega) (by omega) (by omega) (by omega) ?_
          intro v' Z4 hown' hback
          have hP := hA_2.push hnu (OwnS1.zero Z2 (Nat.le_refl Z2.heap.size)) (fun j hj => (hA_2.int j hj).2.1) (by omega) (Nat.le_refl _) (fun g hg => .inl (hA_2.own.lt g hg).2) (by omega) hown' hback
          obtain ⟨g, cap, rfl⟩ := ownsRow_succ hown'
          have hgb := hown'.lt g rfl
          have hgv : ∀ k, (Value.slice (some ⟨g, 0, none⟩) (n + 1) cap).ownBlock = some k → (Value.slice a0 n cap0).ownBlock = some k ∨ k = Z2.heap.size := by
            intro k hk
            rcases hback with ⟨q1, -⟩ | ⟨q1, -⟩
            · rw [q1] at hk; exact .inl hk
            · rw [q1] at hk; cases hk; exact .inr rfl
          have hvO : ∀ k, (Value.slice a0 n cap0).ownBlock = some k → W5.heap.size ≤ k ∧ k < w₂.heap.size ∧ k < X.heap.size := fun k hk => ⟨(j8 k (j6 k hk)).1, (j8 k (j6 k hk)).2, (hXO k (j6 k hk)).2⟩
          have hgg := hgv g rfl
          have hoff : ∀ k, k < Z2.heap.size → ((Value.slice a0 n cap0).ownBlock = some k → False) → Z4.heap[k]? = Z2.heap[k]? := fun k hk hv => hback.kept.block k hk (fun h => h.elim hv (fun h => (hgv k h).elim hv (fun h => by omega)))
          have hz4 := hback.kept.size
          have hB_4 : Boxed Z4 w2.heap.size 24 (.slice a0 n cap0) := (hoff _ hB_2.lt (fun h => by have := hvO _ h; omega)).trans hB_2
          have hHe : Cells12 Z4 X.heap.size 0 x.2 := hHeld.kept hback.kept (fun h => h.elim (fun h => by have := hvO _ h; omega) (fun h => (hgv _ h).elim (fun h => by have := hvO _ h; omega) (fun h => by omega)))
          have hK_4 : Kept (fun k => k = w2.heap.size ∨ O k) w₂ Z4 := hK_2.join hback.kept (fun k hk h => .inr (h.elim (j6 k) (fun h => (hgv k h).elim (j6 k) (fun h => by omega))))
          have hO_4 : OwnS1 Z4 lo hi t := hO_2.mono (fun b q1 q2 => hoff b (by omega) (fun h => by have := hvO _ h; omega))
          have hg2 : g < lo ∨ hi ≤ g := hgg.elim (fun h => by have := hvO _ h; omega) (fun h => by omega)
          refine hK.out _ _ hHe (fun hHeld => ?_)
          clear hK K
          try simp only [Act.put, List.setIfInBounds_toArray, List.set_cons_zero, List.set_cons_succ]
          refine wpAnyH_take (i := 6) (oi := _) (v := .pointer (some ⟨g, n * 12, none⟩)) rfl (by kernel_rfl) (by kernel_rfl) (by kernel_rfl) (fun _ _ _ h => h) (Or.inl ⟨by rfl, ?_⟩) (by assumption) ?_
          · (intro w hSw; go_simp; (intro h; exfalso; omega))
          try simp only [Act.put, List.setIfInBounds_toArray, List.set_cons_zero, List.set_cons_succ]
          have hgs : ¬ X.heap.size = g := hgg.elim (fun h => by have := hvO _ h; omega) (fun h => by omega)
          have hlo1 : ∀ j, j < n → (fun i => if i = n then Z2.heap.size else hf i) j ≤ lo := fun j hj => by
            have h2 := (hA_0.int j (by omega)).2.1
            have h3 : ¬ j = n := by omega
            simp only [h3, if_false]
            omega
          have hgT : ∀ k, k < w₂.heap.size → k = g → k = w2.heap.size ∨ O k := fun k hk h => .inr (by rcases hgg with h9 | h9; exact h ▸ j6 _ h9; omega)
          refine wpAnyH_ready (rs := [7, 8]) (by kernel_rfl) (by simp) ?_
          refine AllReadyH.cons (o := _) rfl (fun K hK => ?_) (AllReadyH.cons (o := _) rfl (fun K hK => ?_) AllReadyH.nil)
          · obtain ⟨k0, k1, k2, k3, k4, k5, k6, k7, k8, k9, k10, k11⟩ := rowCells hnu hown'
            have kf := World.ownsRow.frozenAt hown'
            obtain ⟨hrow, hKp⟩ := put12L t hnu hown' (n * 12) rfl
            go_simp
            refine hK.out _ _ (hHeld.kept hKp hgs) (fun hHeld => ?_)
            clear hK K k0 k1 k2 k3 k4 k5 k6 k7 k8 k9 k10 k11 kf
            try simp only [Act.put, List.setIfInBounds_toArray, List.set_cons_zero, List.set_cons_succ]
            have hfin := hP.put hnu rfl hO_4 hlo1 (by omega) (by omega) hg2 hKp hrow
            have hBox0 : Boxed _ w2.heap.size 24 (.slice a0 n cap0) := (hKp.block _ hB_4.lt (by omega)).trans hB_4
            have hK5 := hK_4.join hKp hgT
            refine wpAnyH_ready (rs := [8]) (by kernel_rfl) (by simp) ?_
            refine AllReadyH.cons (o := _) rfl (fun K hK => ?_) AllReadyH.nil
            have hcb := hBox0.cell
            have hfb := hBox0.frozen
            have hKb := boxKept hBox0 (.slice (some ⟨g, 0, none⟩) (n + 1) cap)
            have hHx := hHeld.kept hKb (by omega)
            have hBox := hBox0.set (.slice (some ⟨g, 0, none⟩) (n + 1) cap)
            have hKall := hK5.join hKb (fun k hk h => .inl h)
            have hfin2 := hfin.on hKb.size (fun k hk hq => hKb.block k hk (by
              have h9 : W5.heap.size ≤ k := by
                rcases hq with hq | ⟨j, q1, q2, q3⟩
                · exact (hfin.own.lt k hq).1
                · have := (hfin.int j q1).1; omega
              omega))
            go_simp
            refine hK.out _ _ hHx (fun hHeld => ?_)
            clear hK K hcb hfb
            refine wpAnyH_done (by kernel_rfl) ?_ _
            rw [if_twice, if_twice] at hfin2
            exact StB.step hnu j2 j3 j5 j6 j7 j8 hfin2 hst hBox hKall (fun k hk => (hgv k hk).imp id (fun h => by omega)) (by omega) (by omega)
          · obtain ⟨Z5, hZ5⟩ : ∃ Z5, Z4.setCell ⟨w2.heap.size, 0, none⟩ (.slice (some ⟨g, 0, none⟩) (n + 1) cap) = Z5 := ⟨_, rfl⟩
            have hKb : Kept (fun k => k = w2.heap.size) Z4 Z5 := by rw [← hZ5]; exact (Kept.refl (fun k => k = w2.heap.size) _).setCell (p := ⟨w2.heap.size, 0, none⟩) rfl _
            have hBox0 : Boxed Z5 w2.heap.size 24 (.slice (some ⟨g, 0, none⟩) (n + 1) cap) := by rw [← hZ5]; exact hB_4.set _
            have hcb := hB_4.cell
            have hfb := hB_4.frozen
            go_simp
            try rw [hZ5]
            refine hK.out _ _ (hHeld.kept hKb (by omega)) (fun hHeld => ?_)
            clear hK K hcb hfb hZ5
            try simp only [Act.put, List.setIfInBounds_toArray, List.set_cons_zero, List.set_cons_succ]
            have hown5 := own_on hown' (C := Z5) (fun k hk => hKb.block k (hown'.lt k hk).2 (by have := (hown'.lt k hk).1; omega))
            have hP5 := hP.on hKb.size (fun k hk hq => hKb.block k hk (by
              have h9 : W5.heap.size ≤ k := by
                rcases hq with hq | ⟨j, q1, q2, q3⟩
                · exact (hP.own.lt k hq).1
                · have := (hP.int j q1).1; omega
              omega))
            have hO5 : OwnS1 Z5 lo hi t := hO_4.mono (fun b q1 q2 => hKb.block b (by omega) (by omega))
            have hK5 := hK_4.join hKb (fun k hk h => .inl h)
            have hz5 := hKb.size
            refine wpAnyH_ready (rs := [7]) (by kernel_rfl) (by simp) ?_
            refine AllReadyH.cons (o := _) rfl (fun K hK => ?_) AllReadyH.nil
            obtain ⟨k0, k1, k2, k3, k4, k5, k6, k7, k8, k9, k10, k11⟩ := rowCells hnu hown5
            have kf := World.ownsRow.frozenAt hown5
            obtain ⟨hrow, hKp⟩ := put12L t hnu hown5 (n * 12) rfl
            have hfin2 := hP5.put hnu rfl hO5 hlo1 (by omega) (by omega) hg2 hKp hrow
            have hBox := (hKp.block _ hBox0.lt (by omega)).trans hBox0
            have hKall := hK5.join hKp hgT
            have hHx := hHeld.kept hKp hgs
            go_simp
            refine hK.out _ _ hHx (fun hHeld => ?_)
            clear hK K k0 k1 k2 k3 k4 k5 k6 k7 k8 k9 k10 k11 kf
            refine wpAnyH_done (by kernel_rfl) ?_ _
            rw [if_twice, if_twice] at hfin2
            exact StB.step hnu j2 j3 j5 j6 j7 j8 hfin2 hst hBox hKall (fun k hk => (hgv k hk).imp id (fun h => by omega)) (by omega) (by omega)
end Go.Proofs.Ytomdbaokidphjaa
