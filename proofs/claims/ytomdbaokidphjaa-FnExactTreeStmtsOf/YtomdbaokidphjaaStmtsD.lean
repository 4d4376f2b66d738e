/-
  All statements of a list: what the specification answers.
  All statements of a list: what the specification answers.
-/
import Derived.Test.YtomdbaokidphjaaStmtsA
import Derived.Test.YtomdbaokidphjaaCopyF
import Derived.Test.YtomdbaokidphjaaOkI
namespace Go.Proofs.Ytomdbaokidphjaa
open Go.RowKit Go.Shelf
set_option linter.unusedSimpArgs false
set_option linter.unusedVariables false
attribute [local go_sem] Oper.semAt_some

/-- A list appended to another: an append of none leaves all as it was but for what is new. -/
def Back0 (w w' : World) (v v' : Value) : Prop := Kept (fun k => v.ownBlock = some k) w w' ∧ (∀ g, v'.ownBlock = some g → v.ownBlock = some g ∨ g = w.heap.size) ∧ (v ≠ .slice none 0 0 → v' ≠ .slice none 0 0)
theorem operAppend0 {P : Program} (w : World) {o : Oper} {a : Act} {K : Act → World → Prop} {Q : Exit → Act → World → Prop} (s x : Operand) (t : TypeId)
    (ho : o.op = .call { callee := .builtin .append, args := #[s, x], argTypes := #[t, t] })
    (base : Nat) (e : TypeId) (i : TypeInfo) (z : Value) (size bytes : Nat) (ht : P.underlying t = some (.slice e)) (hi : P.info? e = some i) (hz : i.zero = some z)
    (hsize : i.size = size) (hby : i.bytes = bytes) (hzs : z.cells.size = size) (hsz : 0 < size)
    (v : Value) (n : Nat) (xs : List Value) (hs : a.eval s = v) (hown : w.ownsRow base e size v n xs)
    (ad : Addr) (m c : Nat) (news : List Value) (hx : a.eval x = .slice (some ad) m c) (hl : news.length = m * size) (hnews : ∀ j u, news[j]? = some u → w.cell? (ad.add j) = some u) (h1 : ∀ u ∈ news, u.oneCell' = true)
    (h63 : n + m ≤ maxLen) (hbytes : (n + m) * bytes ≤ 140737488355328) (hbase : base ≤ w.heap.size)
    (h : ∀ v' w', w'.ownsRow base e size v' (n + m) (xs ++ news) → Back0 w w' v v' → K (a.put o.dst v') w') : o.wp P a w K Q := by
  obtain ⟨v', w', hr, h2, h3, h4, h5⟩ := run_append_own_at (P := P) w base t o.type e i z size bytes ht hi hz hsize hby hzs hsz v n xs hown ad m c news hl hnews h1 h63 hbytes hbase
  unfold Oper.wp execOp
  simp only [ho, resolve, invoke, builtin, Sem.run_bind, Sem.run_pure, Result.andThen_ok, List.map_toArray, List.map_cons, List.map_nil, hs, hx, hr]
  refine h v' w' h2 ⟨⟨h3.os, h3.tape, h3.output, h3.size, fun k hk hn => h3.block k hk (fun e => hn e.symm)⟩, fun g hg => ?_, fun hn he => hn (h4.1 he).1⟩
  rcases h5 with h5 | h5
  · rw [h5] at hg; exact .inl hg
  · rw [h5] at hg; cases hg; exact .inr rfl
theorem fl12_append (us vs : List SX) : fl12 (us ++ vs) = fl12 us ++ fl12 vs := by
  induction us with
  | nil => rfl
  | cons x xs ih => rw [List.cons_append, fl12, fl12, ih, List.append_assoc]
theorem AccS.pushAll {A B : World} {base base2 : Nat} {v v' v2 : Value} {us vs : List SX} {l h l2 h2 : Nat → Nat} (hA : AccS A base v us l h) (h2A : AccS A base2 v2 vs l2 h2) (hlo : ∀ i, i < us.length → h i ≤ base2) (hb : base ≤ base2) (hv : ∀ g, v.ownBlock = some g → g < base2)
    (hown : B.ownsRow base 40 12 v' (us.length + vs.length) (fl12 us ++ fl12 vs)) (hback : Back0 A B v v') :
    AccS B base v' (us ++ vs) (fun i => if i < us.length then l i else l2 (i - us.length)) (fun i => if i < us.length then h i else h2 (i - us.length)) := by
  obtain ⟨hk, hv', -⟩ := hback
  have hz := hk.size
  refine ⟨?_, fun i hi' => ?_, fun i j hij hj => ?_, fun i y hy => ?_⟩
  · rw [fl12_append, List.length_append]
    exact hown
  · rw [List.length_append] at hi'
    by_cases e : i < us.length
    · simp only [e, if_true]
      obtain ⟨h1, h2, h3⟩ := hA.int i e
      refine ⟨h1, by omega, fun g hg => ?_⟩
      rcases hv' g hg with h4 | h4
      · exact h3 g h4
      · right; omega
    · simp only [e, if_false]
      obtain ⟨h1, h2, h3⟩ := h2A.int (i - us.length) (by omega)
      refine ⟨by omega, by omega, fun g hg => ?_⟩
      rcases hv' g hg with h4 | h4
      · have := hv g h4; left; omega
      · right; omega
  · rw [List.length_append] at hj
    by_cases e : j < us.length
    · have e' : i < us.length := by omega
      simp only [e, e', if_true]
      exact hA.ord i j hij e
    · by_cases e' : i < us.length
      · simp only [e, e', if_true, if_false]
        have q1 := hlo i e'
        have q2 := (h2A.int (j - us.length) (by omega)).1
        omega
      · simp only [e, e', if_false]
        exact h2A.ord _ _ (by omega) (by omega)
  · by_cases e : i < us.length
    · rw [List.getElem?_append_left e] at hy
      simp only [e, if_true]
      obtain ⟨h1, h2, h3⟩ := hA.int i e
      exact (hA.kid i y hy).mono (fun b q1 q2 => hk.block b (by omega) (fun h => by rcases h3 b h with h9 | h9 <;> omega))
    · rw [List.getElem?_append_right (by omega)] at hy
      simp only [e, if_false]
      have hi2 := (List.getElem?_eq_some_iff.1 hy).1
      obtain ⟨h1, h2, h3⟩ := h2A.int _ hi2
      exact (h2A.kid _ y hy).mono (fun b q1 q2 => hk.block b (by omega) (fun h => by have := hv b h; omega))
theorem wpList_append0 {P : Program} (w : World) {ops : Array Oper} {rest : List Oper} {o : Oper} {a : Act} {Q : Exit → Act → World → Prop} (hgd : o.guard = none) (s x : Operand) (t : TypeId)
    (ho : o.op = .call { callee := .builtin .append, args := #[s, x], argTypes := #[t, t] })
    (base : Nat) (e : TypeId) (i : TypeInfo) (z : Value) (size bytes : Nat) (ht : P.underlying t = some (.slice e)) (hi : P.info? e = some i) (hz : i.zero = some z)
    (hsize : i.size = size) (hby : i.bytes = bytes) (hzs : z.cells.size = size) (hsz : 0 < size)
    (v : Value) (n : Nat) (xs : List Value) (hs : a.eval s = v) (hown : w.ownsRow base e size v n xs)
    (ad : Addr) (m c : Nat) (news : List Value) (hx : a.eval x = .slice (some ad) m c) (hl : news.length = m * size) (hnews : ∀ j u, news[j]? = some u → w.cell? (ad.add j) = some u) (h1 : ∀ u ∈ news, u.oneCell' = true)
    (h63 : n + m ≤ maxLen) (hbytes : (n + m) * bytes ≤ 140737488355328) (hbase : base ≤ w.heap.size)
    (h : ∀ v' w', w'.ownsRow base e size v' (n + m) (xs ++ news) → Back0 w w' v v' → wpList P ops Q rest (a.put o.dst v') w') : wpList P ops Q (o :: rest) a w :=
  wpList_plain hgd fun K hK => operAppend0 w s x t ho base e i z size bytes ht hi hz hsize hby hzs hsz v n xs hs hown ad m c news hx hl hnews h1 h63 hbytes hbase (fun v' w' h2 h3 => hK _ _ (h v' w' h2 h3))
mutual
def SX.flat : SX → List SX
  | .mk k n e f a c la b d lb => .mk k n e f a c la b d lb :: (SX.flatAll la ++ SX.flatAll lb)
def SX.flatAll : List SX → List SX
  | [] => []
  | t :: ts => SX.flat t ++ SX.flatAll ts
end
theorem SX.flat_eq (s : SX) : s.flat = s :: (SX.flatAll s.la ++ SX.flatAll s.lb) := by cases s; rfl
theorem SX.flatAll_append (us bs : List SX) : SX.flatAll (us ++ bs) = SX.flatAll us ++ SX.flatAll bs := by
  induction us with
  | nil => simp [SX.flatAll]
  | cons x xs ih => simp [SX.flatAll, ih]
theorem SX.flatAll_take {ks : List SX} {i : Nat} {t : SX} (h : ks[i]? = some t) : SX.flatAll (ks.take (i + 1)) = SX.flatAll (ks.take i) ++ t.flat := by
  rw [List.take_add_one, h, SX.flatAll_append]
  simp [SX.flatAll]
theorem SX.flatAll_take_le (ks : List SX) (i : Nat) : (SX.flatAll (ks.take i)).length ≤ (SX.flatAll ks).length := by
  have h : SX.flatAll ks = SX.flatAll (ks.take i) ++ SX.flatAll (ks.drop i) := by rw [← SX.flatAll_append, List.take_append_drop]
  rw [h, List.length_append]
  omega
mutual
theorem SX.within_flat : ∀ (s : SX) (r : Int), (s.within r).map Prod.snd = s.flat
  | .mk k n e f a c la b d lb, r => by
    have h1 := SX.withinAll_flat la (wrap64 (r + 1))
    have h2 := SX.withinAll_flat lb (wrap64 (r + 1))
    simp [SX.within, SX.flat, h1, h2]
theorem SX.withinAll_flat : ∀ (ks : List SX) (r : Int), (SX.withinAll ks r).map Prod.snd = SX.flatAll ks
  | [], r => by simp [SX.withinAll, SX.flatAll]
  | t :: ts, r => by
    have h1 := SX.within_flat t r
    have h2 := SX.withinAll_flat ts r
    simp [SX.withinAll, SX.flatAll, h1, h2]
end
mutual
theorem SX.flat_le : ∀ (s : SX), s.flat.length ≤ s.size
  | .mk k n e f a c la b d lb => by
    have h1 := SX.flatAll_le la
    have h2 := SX.flatAll_le lb
    simp [SX.flat, SX.size_eq, SX.la, SX.lb]
    omega
theorem SX.flatAll_le : ∀ (ks : List SX), (SX.flatAll ks).length ≤ SX.sizeAll ks
  | [] => by simp [SX.flatAll]
  | t :: ts => by
    have h1 := SX.flat_le t
    have h2 := SX.flatAll_le ts
    simp [SX.flatAll, SX.sizeAll]
    omega
end
/-- Two lists of statements, one by one the same. -/
def SameL (xs us : List SX) : Prop := us.length = xs.length ∧ ∀ (i : Nat) (x y : SX), xs[i]? = some x → us[i]? = some y → SameS x y
theorem SameL.nil : SameL [] [] := ⟨rfl, fun i x y h => by simp at h⟩
theorem SameL.one {x y : SX} (h : SameS x y) : SameL [x] [y] := ⟨rfl, fun i a b ha hb => by
  match i, ha, hb with
  | 0, ha, hb => simp at ha hb; subst ha hb; exact h⟩
theorem SameL.append {xs us ys vs : List SX} (h : SameL xs us) (k : SameL ys vs) : SameL (xs ++ ys) (us ++ vs) := by
  refine ⟨by simp [h.1, k.1], fun i a b ha hb => ?_⟩
  by_cases hi : i < us.length
  · rw [List.getElem?_append_left hi] at hb
    rw [List.getElem?_append_left (by rw [← h.1]; exact hi)] at ha
    exact h.2 i a b ha hb
  · rw [List.getElem?_append_right (by omega)] at hb
    rw [List.getElem?_append_right (by have := h.1; omega)] at ha
    rw [h.1] at hb
    exact k.2 _ a b ha hb
end Go.Proofs.Ytomdbaokidphjaa
namespace Go.Proofs.Ytomdbaokidphjaa
open Go.RowKit Go.Shelf
set_option linter.unusedSimpArgs false
set_option linter.unusedVariables false
attribute [local go_sem] Oper.semAt_some

theorem AccS.cellsOf {W : World} {base n : Nat} {v : Value} {us : List SX} {l h : Nat → Nat} (hA : AccS W base v us l h) (hn : v ≠ .slice none 0 0) : ∃ g cap, v = .slice (some ⟨g, 0, none⟩) us.length cap ∧ ∀ j u, (fl12 us)[j]? = some u → W.cell? ((⟨g, 0, none⟩ : Addr).add j) = some u := by
  rcases hA.own.2 with ⟨e, -⟩ | ⟨g, cap, cur, rfl, -⟩
  · exact absurd e hn
  · exact ⟨g, cap, rfl, hA.own.cells (g := g) rfl⟩
theorem fl12_one (us : List SX) : ∀ u ∈ fl12 us, u.oneCell' = true := by
  induction us with
  | nil => simp [fl12]
  | cons x xs ih =>
    intro u hu
    rw [fl12, List.mem_append] at hu
    rcases hu with hu | hu
    · simp [SX.vals] at hu
      rcases hu with rfl | rfl | rfl | rfl | rfl | rfl | rfl | rfl | rfl | rfl | rfl | rfl <;> rfl
    · exact ih u hu

set_option maxRecDepth 20000 in
set_option maxHeartbeats 8000000 in
theorem specStmts (sz : Nat) : ∀ ks : List SX, SX.sizeAll ks ≤ sz → sz ≤ 2097152 → (∀ (i : Nat) (k : SX), ks[i]? = some k → SmallS k) → ∀ (a : Option Addr) (c : Nat) (ok : Nat → Prop) (w : World), (∀ b, ok b → b < w.heap.size) → SRow ok w a ks → (∀ (i : Nat) (k : SX), ks[i]? = some k → LiesS ok w k) →
    Calls Try.prog 5 #[.slice a ks.length c] w fun e w' => ∃ (v : Value) (us : List SX) (l h : Nat → Nat), e = .returned v ∧ v ≠ .slice none 0 0 ∧ SameL (SX.flatAll ks) us ∧ AccS w' w.heap.size v us l h ∧ Below w.heap.size w w' := by
  induction sz using Nat.strongRecOn with
  | _ sz ih =>
  intro ks hsz hlim hsm a c ok w hok hcl hL
  obtain ⟨len, hl⟩ : ∃ len, ks.length = len := ⟨_, rfl⟩
  have hlen : len ≤ 2097152 := by have := SX.length_le ks; omega
  have hfl := SX.flatAll_le ks
  rw [hl]
  obtain ⟨i0, hi0, hz0, hz1, hz2⟩ := info_parts infoS
  go_enter Try.func5, Try.ntmps5
  go_wp2_with fail
  go_loopw [3, 4] (fun v5 v10 wr => ∃ (i : Nat) (us : List SX) (l h : Nat → Nat), v10 = .int .i64 i ∧ i ≤ len ∧ Hid (v5 ≠ .slice none 0 0) ∧ Hid (SameL (SX.flatAll (ks.take i)) us) ∧ Hid (AccS wr w.heap.size v5 us l h) ∧ Below w.heap.size w wr) (fun _ v10 _ => len - (intOf v10).toNat)
  case atStart => exact ⟨0, [], (fun _ => 0), (fun _ => 0), rfl, by omega, (show (Value.slice (some ⟨w.heap.size, 0, none⟩) 0 0) ≠ .slice none 0 0 from fun h => by cases h), SameL.nil, AccS.made _ (Nat.le_refl _), (Below.refl _ _).alloc (Nat.le_refl _) _⟩
  case round =>
    obtain ⟨i, us, l, h, rfl, hi, hnn, hsm', hA, hB⟩ := hrel
    obtain ⟨v, rfl⟩ : ∃ v, v = u3 := ⟨_, rfl⟩
    by_cases hlt : i < len
    · obtain ⟨x, hx⟩ : ∃ x, ks[i]? = some x := ⟨_, List.getElem?_eq_getElem (by omega)⟩
      obtain ⟨b1, o1, hbase1, hok1, hc1⟩ := hcl i x hx
      obtain ⟨c0, c1, c2, c3, c4', c5, c6, c7, c8, c9, c10, c11⟩ := hc1.below hB (hok b1 hok1)
      have hxs := hsm i x hx
      have hxl := hL i x hx
      obtain ⟨p1, p2, p3, p4, p5, p6⟩ := hxl.parts
      obtain ⟨m1, m2, m3, m4, m5, m6⟩ := hxs.parts
      have hxz := SX.size_get hx
      have hse := x.size_eq
      have hfx := SX.flatAll_take hx
      have hfl2 := SX.flatAll_take_le ks (i + 1)
      rw [hfx, x.flat_eq] at hfl2
      simp only [List.length_append, List.length_cons] at hfl2
      have hul := hsm'.out.1.symm
      have hcall : Hid (Calls Try.prog 12 #[x.val] wr fun e w'' => ∃ t : SX, e = .returned t.val ∧ SameS x t ∧ OwnS1 w'' wr.heap.size w''.heap.size t ∧ Below wr.heap.size wr w'') := specCopyS _ x (Nat.le_refl _) hxs ok wr (fun b hb => Nat.lt_of_lt_of_le (hok b hb) hB.size) (hxl.under hB hok)
      have hHA : Hid (∀ W, Below w.heap.size w W → Calls Try.prog 5 #[.slice x.abase x.la.length x.acap] W fun e w' => ∃ (v : Value) (us : List SX) (l h : Nat → Nat), e = .returned v ∧ v ≠ .slice none 0 0 ∧ SameL (SX.flatAll x.la) us ∧ AccS w' W.heap.size v us l h ∧ Below W.heap.size W w') := fun W hW =>
        ih _ (by omega) x.la (Nat.le_refl _) (by omega) m5 _ _ ok W (fun b hb => Nat.lt_of_lt_of_le (hok b hb) hW.size) (p3.under hW hok) (fun i k hk => (p5 i k hk).under hW hok)
      have hHB : Hid (∀ W, Below w.heap.size w W → Calls Try.prog 5 #[.slice x.bbase x.lb.length x.bcap] W fun e w' => ∃ (v : Value) (us : List SX) (l h : Nat → Nat), e = .returned v ∧ v ≠ .slice none 0 0 ∧ SameL (SX.flatAll x.lb) us ∧ AccS w' W.heap.size v us l h ∧ Below W.heap.size W w') := fun W hW =>
        ih _ (by omega) x.lb (Nat.le_refl _) (by omega) m6 _ _ ok W (fun b hb => Nat.lt_of_lt_of_le (hok b hb) hW.size) (p4.under hW hok) (fun i k hk => (p6 i k hk).under hW hok)
      clear ih p1 p2 p3 p4 p5 p6 m1 m2 m3 m4 m5 m6 hxl
      subst hbase1
      go_wp2_with fail
      go_at_call 12
      refine hcall.out.mono ?_
      rintro e w2 ⟨t, rfl, hxt, hO, hB2⟩
      clear c0 c1 c2 c3 c4' c5 c6 c7 c8 c9 c10 c11 hcall
      have hA2 := hA.out.below hB2
      have hz2' := hB2.size
      obtain ⟨W3, hW3⟩ : ∃ W3, w2.alloc (.cells #[.int .i64 t.kind, .string t.name, .int .i64 t.e.kind, .int .i64 t.e.num, .string t.e.name, .slice t.e.base t.e.kids.length t.e.cap, .int .i64 t.f.kind, .int .i64 t.f.num, .string t.f.name, .slice t.f.base t.f.kids.length t.f.cap, .slice t.abase t.la.length t.acap, .slice t.bbase t.lb.length t.bcap] 40) = W3 := ⟨_, rfl⟩
      have hB3 : Below w2.heap.size w2 W3 := by rw [← hW3]; exact (Below.refl _ _).alloc (Nat.le_refl _) _
      have hs3 : w2.heap.size + 1 = W3.heap.size := by rw [← hW3]; simp
      have hnewH : Hid (∀ j u, t.vals[j]? = some u → W3.cell? ((⟨w2.heap.size, 0, none⟩ : Addr).add j) = some u) := by
        have h := news12 w2 t 40
        rw [hW3] at h
        exact h
      have hA3 := hA2.below hB3
      have hO3 : OwnS1 W3 wr.heap.size w2.heap.size t := hO.mono (fun b q1 q2 => hB3.block b q2)
      have hzw := hB.size
      have hown3 : Hid (W3.ownsRow w.heap.size 40 12 v us.length (fl12 us)) := hA3.own
      go_wp2_with (at_builtin; refine wpList_append_back _ rfl _ _ 24 rfl w.heap.size 40 i0 _ 12 184 Try.underlying24 hi0 hz0 hz1 hz2 rfl (by decide) v us.length (fl12 us) rfl hown3.out ⟨w2.heap.size, 0, none⟩ 1 1 t.vals rfl rfl hnewH.out (by simp [Value.oneCell']) (by unfold maxLen; omega) (by omega) (by omega) (by omega) ?_; intro v' w4 hown' hback; (obtain ⟨g', cap', rfl⟩ := ownsRow_succ hown'); (have hB4 : Below w.heap.size w w4 := (bstep (bstep hB hB2) hB3).trans (hback.kept.below (by omega) (fun k hk => hk.elim (fun hk => (hA3.own.lt k hk).1) (fun hk => (hown'.lt k hk).1)))); (obtain ⟨c0, c1, c2, c3, c4', c5, c6, c7, c8, c9, c10, c11⟩ := hc1.below hB4 (hok b1 hok1)); (clear c0 c1 c2 c3 c4' c5 c6 c7 c8 c9))
      go_at_call 5
      refine (hHA.out _ hB4).mono ?_
      rintro e w5 ⟨va, ua, la, ha, rfl, hna, hsa, hAa, hB5⟩
      clear c10 c11 hHA
      obtain ⟨l1, h1, hP1⟩ : ∃ l1 h1, AccS w4 w.heap.size (.slice (some ⟨g', 0, none⟩) (us.length + 1) cap') (us ++ [t]) l1 h1 := ⟨_, _, hA3.push rfl hO3 (fun j hj => by have := (hA.out.int j hj).2.1; omega) (by omega) (by omega) (fun g hg => by have := (hA.out.own.lt g hg).2; omega) (by omega) hown' hback⟩
      have hP1' := hP1.below hB5
      have hz4 := hB4.size
      have hz5 := hB5.size
      obtain ⟨ga, ca, rfl, hnewA⟩ := hAa.cellsOf (n := 0) hna
      have hlA := hsa.1.symm
      have hnewA' : Hid (∀ j u, (fl12 ua)[j]? = some u → w5.cell? ((⟨ga, 0, none⟩ : Addr).add j) = some u) := hnewA
      clear hnewA hback hown' hown3 hnewH hA3 hA2 hO3 hO hB3 hW3
      have hownA : Hid (w5.ownsRow w.heap.size 40 12 (.slice (some ⟨g', 0, none⟩) (us.length + 1) cap') (us.length + 1) (fl12 (us ++ [t]))) := by have h := hP1'.own; rw [List.length_append, List.length_singleton] at h; exact h
      have hB05 := bstep hB4 hB5
      go_wp2_with (at_builtin; refine wpList_append0 _ rfl _ _ 24 rfl w.heap.size 40 i0 _ 12 184 Try.underlying24 hi0 hz0 hz1 hz2 rfl (by decide) (.slice (some ⟨g', 0, none⟩) (us.length + 1) cap') (us.length + 1) (fl12 (us ++ [t])) rfl hownA.out ⟨ga, 0, none⟩ ua.length ca (fl12 ua) rfl (fl12_length ua) hnewA'.out (fl12_one ua) (by unfold maxLen; omega) (by omega) (by omega) ?_; intro v6 w6 hown6 hback6; (have hB6 : Below w.heap.size w w6 := hB05.trans (hback6.1.below (by omega) (fun k hk => (hownA.out.lt k hk).1))); (obtain ⟨c0, c1, c2, c3, c4', c5, c6, c7, c8, c9, c10, c11⟩ := hc1.below hB6 (hok b1 hok1)); (clear c0 c1 c2 c3 c4' c5 c6 c7 c8 c9))
      go_at_call 5
      refine (hHB.out _ hB6).mono ?_
      rintro e w7 ⟨vb, ub, lb, hb, rfl, hnb, hsb, hAb, hB7⟩
      clear c10 c11 hHB
      obtain ⟨l2, h2, hP2⟩ : ∃ l2 h2, AccS w6 w.heap.size v6 ((us ++ [t]) ++ ua) l2 h2 := ⟨_, _, hP1'.pushAll hAa (fun j hj => (hP1.int j hj).2.1) (by omega) (fun g hg => (hP1.own.lt g hg).2) (by rw [List.length_append, List.length_singleton]; exact hown6) hback6⟩
      have hn6 : v6 ≠ .slice none 0 0 := hback6.2.2 (fun h => by cases h)
      have hP2' := hP2.below hB7
      have hz6 := hB6.size
      have hz7 := hB7.size
      obtain ⟨gb, cb, rfl, hnewB⟩ := hAb.cellsOf (n := 0) hnb
      have hlB := hsb.1.symm
      have hnewB' : Hid (∀ j u, (fl12 ub)[j]? = some u → w7.cell? ((⟨gb, 0, none⟩ : Addr).add j) = some u) := hnewB
      clear hnewB hback6 hown6 hownA hnewA' hP1' hAa
      have hownB : Hid (w7.ownsRow w.heap.size 40 12 v6 (us.length + 1 + ua.length) (fl12 ((us ++ [t]) ++ ua))) := by have h := hP2'.own; rw [List.length_append, List.length_append, List.length_singleton] at h; exact h
      have hB07 := bstep hB6 hB7
      go_wp2_with (at_builtin; refine wpList_append0 _ rfl _ _ 24 rfl w.heap.size 40 i0 _ 12 184 Try.underlying24 hi0 hz0 hz1 hz2 rfl (by decide) v6 (us.length + 1 + ua.length) (fl12 ((us ++ [t]) ++ ua)) rfl hownB.out ⟨gb, 0, none⟩ ub.length cb (fl12 ub) rfl (fl12_length ub) hnewB'.out (fl12_one ub) (by unfold maxLen; omega) (by omega) (by omega) ?_; intro v8 w8 hown8 hback8; (have hB8 : Below w.heap.size w w8 := hB07.trans (hback8.1.below (by omega) (fun k hk => (hownB.out.lt k hk).1))))
      have hP3 := hP2'.pushAll hAb (fun j hj => (hP2.int j hj).2.1) (by omega) (fun g hg => (hP2.own.lt g hg).2) (by rw [List.length_append, List.length_append, List.length_singleton]; exact hown8) hback8
      refine ⟨⟨i + 1, _, _, _, by go_num, by omega, hback8.2.2 hn6, ?_, hP3, hB8⟩, by simp [intOf]; omega⟩
      show SameL _ _
      rw [hfx, x.flat_eq]
      have h9 := ((hsm'.out.append (SameL.one hxt)).append hsa).append hsb
      simpa [List.append_assoc] using h9
    · have he : i = len := by omega
      go_wp2_with fail
      go_returns
      refine ⟨v, us, l, h, rfl, hnn.out, ?_, hA.out, hB⟩
      have h9 := hsm'.out
      rw [he, ← hl, List.take_length] at h9
      exact h9
end Go.Proofs.Ytomdbaokidphjaa
