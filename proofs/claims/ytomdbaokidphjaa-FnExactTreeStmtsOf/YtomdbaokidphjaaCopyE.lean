/-
  The specification's copies of expressions.
  The specification's copies of lists of statements.
-/
import Derived.Test.YtomdbaokidphjaaCopyA
import Derived.Deep.RegionLaw
import Derived.Deep.DeepCutAuto
import Derived.Test.YtomdbaokidphjaaCopyB
namespace Go.Proofs.Ytomdbaokidphjaa
open Go.RowKit Go.Shelf
set_option linter.unusedSimpArgs false
set_option linter.unusedVariables false
attribute [local go_sem] Oper.semAt_some

theorem step_append_back {P : Program} (w : World) {ops : Array Oper} {o : Oper} {a : Act} {K : Act → World → Prop} {Q : Exit → Act → World → Prop} {E : Prop} (hgd : o.guard = none) (s x : Operand) (t : TypeId)
    (ho : o.op = .call { callee := .builtin .append, args := #[s, x], argTypes := #[t, t] })
    (base : Nat) (e : TypeId) (i : TypeInfo) (z : Value) (size bytes : Nat) (ht : P.underlying t = some (.slice e)) (hi : P.info? e = some i) (hz : i.zero = some z)
    (hsize : i.size = size) (hby : i.bytes = bytes) (hzs : z.cells.size = size) (hsz : 0 < size)
    (v : Value) (n : Nat) (xs : List Value) (hs : a.eval s = v) (hown : w.ownsRow base e size v n xs)
    (ad : Addr) (m c : Nat) (news : List Value) (hx : a.eval x = .slice (some ad) m c) (hl : news.length = m * size) (hnews : ∀ j u, news[j]? = some u → w.cell? (ad.add j) = some u) (h1 : ∀ u ∈ news, u.oneCell' = true)
    (h63 : n + m ≤ maxLen) (hbytes : (n + m) * bytes ≤ 140737488355328) (hbase : base ≤ w.heap.size) (hm : 0 < m)
    (h : ∀ v' w', w'.ownsRow base e size v' (n + m) (xs ++ news) → Back w w' base e size n m v v' xs news → K (a.put o.dst v') w') :
    if Region.wanted o (yielded ops a.tmps) = true then Oper.wp P o a w K Q else E := by
  have hw : Region.wanted o (yielded ops a.tmps) = true := by simp [Region.wanted, hgd]
  rw [if_pos hw]
  obtain ⟨v', w', hr, h2, h3⟩ := run_append_back (P := P) w base t o.type e i z size bytes ht hi hz hsize hby hzs hsz v n xs hown ad m c news hl hnews h1 h63 hbytes hbase hm
  unfold Oper.wp execOp
  simp only [ho, resolve, invoke, builtin, Sem.run_bind, Sem.run_pure, Result.andThen_ok, List.map_toArray, List.map_cons, List.map_nil, hs, hx, hr]
  exact h v' w' h2 h3
/-- What lies around while the specification copies an expression: the expression's box, the answer's, and the copy's own with the list so far. -/
structure Mid (w : World) (t : XT) (vv : Value) (X : World) : Prop where
  box : Cells4 X w.heap.size 0 t
  r1 : RowAt X (w.heap.size + 1) 4 38
  r2 : RowAt X (w.heap.size + 2) 4 38
  k0 : X.cell? ⟨w.heap.size + 2, 0, none⟩ = some (.int .i64 t.kind)
  k1 : X.cell? ⟨w.heap.size + 2, 1, none⟩ = some (.int .i64 t.num)
  k2 : X.cell? ⟨w.heap.size + 2, 2, none⟩ = some (.string t.name)
  k3 : X.cell? ⟨w.heap.size + 2, 3, none⟩ = some vv
theorem Mid.on {w : World} {t : XT} {vv : Value} {A B : World} (h : Mid w t vv A) (hb : ∀ b, b < w.heap.size + 3 → B.heap[b]? = A.heap[b]?) : Mid w t vv B := by
  have q0 := hb w.heap.size (by omega)
  have q1 := hb (w.heap.size + 1) (by omega)
  have q2 := hb (w.heap.size + 2) (by omega)
  exact ⟨⟨(cell_of_block (a := ⟨w.heap.size, _, none⟩) q0).trans h.box.c0, (cell_of_block (a := ⟨w.heap.size, _, none⟩) q0).trans h.box.c1, (cell_of_block (a := ⟨w.heap.size, _, none⟩) q0).trans h.box.c2, (cell_of_block (a := ⟨w.heap.size, _, none⟩) q0).trans h.box.c3⟩, h.r1.of_block q1, h.r2.of_block q2,
    (cell_of_block (a := ⟨w.heap.size + 2, _, none⟩) q2).trans h.k0, (cell_of_block (a := ⟨w.heap.size + 2, _, none⟩) q2).trans h.k1, (cell_of_block (a := ⟨w.heap.size + 2, _, none⟩) q2).trans h.k2, (cell_of_block (a := ⟨w.heap.size + 2, _, none⟩) q2).trans h.k3⟩
theorem Mid.lt {w : World} {t : XT} {vv : Value} {A : World} (h : Mid w t vv A) : w.heap.size + 3 ≤ A.heap.size := h.r2.lt
theorem Mid.below {w : World} {t : XT} {vv : Value} {A B : World} (h : Mid w t vv A) (hb : Below A.heap.size A B) : Mid w t vv B := h.on (fun b q => hb.block b (by have := h.lt; omega))
theorem Mid.put {w : World} {t : XT} {vv : Value} {A : World} (h : Mid w t vv A) (v' : Value) : Mid w t v' (A.setCell ⟨w.heap.size + 2, 3, none⟩ v') := by
  have q0 : (A.setCell ⟨w.heap.size + 2, 3, none⟩ v').heap[w.heap.size]? = A.heap[w.heap.size]? := Below.heap_setCell _ _ _ _ (by dsimp only; omega)
  have q1 : (A.setCell ⟨w.heap.size + 2, 3, none⟩ v').heap[w.heap.size + 1]? = A.heap[w.heap.size + 1]? := Below.heap_setCell _ _ _ _ (by dsimp only; omega)
  exact ⟨⟨(cell_of_block (a := ⟨w.heap.size, _, none⟩) q0).trans h.box.c0, (cell_of_block (a := ⟨w.heap.size, _, none⟩) q0).trans h.box.c1, (cell_of_block (a := ⟨w.heap.size, _, none⟩) q0).trans h.box.c2, (cell_of_block (a := ⟨w.heap.size, _, none⟩) q0).trans h.box.c3⟩, h.r1.of_block q1, h.r2.set _ _,
    (set_far (by omega) _).trans h.k0, (set_far (by omega) _).trans h.k1, (set_far (by omega) _).trans h.k2, h.r2.put (by omega) _⟩
theorem AccE.far {w W : World} {v : Value} {us : List XT} {l h : Nat → Nat} (hA : AccE W (w.heap.size + 3) v us l h) (u : Value) : AccE (W.setCell ⟨w.heap.size + 2, 3, none⟩ u) (w.heap.size + 3) v us l h := by
  have hb : ∀ b, w.heap.size + 3 ≤ b → (W.setCell ⟨w.heap.size + 2, 3, none⟩ u).heap[b]? = W.heap[b]? := fun b hb => Below.heap_setCell _ _ _ _ (by dsimp only; omega)
  refine ⟨own_on hA.own (fun g hg => hb g (hA.own.lt g hg).1), fun i hi => ?_, hA.ord, fun i t ht => (hA.kid i t ht).mono (fun b q1 q2 => hb b ?_)⟩
  · obtain ⟨h1, h2, h3⟩ := hA.int i hi
    exact ⟨h1, by simpa using h2, h3⟩
  · have := (hA.int i (List.getElem?_eq_some_iff.1 ht).1).1; omega
set_option maxRecDepth 10000 in
set_option maxHeartbeats 8000000 in
theorem specCopyE (sz : Nat) : ∀ t : XT, t.size ≤ sz → sz ≤ 1048577 → ∀ (ok : Nat → Prop) (w : World), (∀ b, ok b → b < w.heap.size) → Lies ok w t →
    Calls Try.prog 22 #[t.val] w fun e w' => ∃ t' : XT, e = .returned t'.val ∧ Same t t' ∧ OwnR w' w.heap.size w'.heap.size t'.base t'.kids ∧ Below w.heap.size w w' := by
  induction sz with
  | zero => intro t h; rw [XT.size_eq] at h; omega
  | succ sz ih =>
  intro t hsz hlim ok w hok hL
  have hlt := t.length_le
  have hse := t.size_eq
  obtain ⟨i0, hi0, hz0, hz1, hz2⟩ := info_parts infoE
  have HC : Hid (∀ (i : Nat) (k : XT), t.kids[i]? = some k → ∀ (x : World), Below w.heap.size w x → Calls Try.prog 22 #[k.val] x fun e w'' => ∃ t' : XT, e = .returned t'.val ∧ Same k t' ∧ OwnR w'' x.heap.size w''.heap.size t'.base t'.kids ∧ Below x.heap.size x w'') := fun i k hk x hx =>
    ih k (by have h5 := XT.size_get hk; omega) (by omega) ok x (fun b hb => Nat.lt_of_lt_of_le (hok b hb) hx.size) ((hL.kid i k hk).under hx hok)
  have hrow : Hid (ERow ok w t.base t.kids) := hL.cells
  clear ih hL
  go_enter Try.func22, Try.ntmps22
  go_wp2_with fail
  obtain ⟨W1, hW1⟩ : ∃ W1, w.alloc (.cells #[.int .i64 t.kind, .int .i64 t.num, .string t.name, .slice t.base t.kids.length t.cap] 38) = W1 := ⟨_, rfl⟩
  obtain ⟨W2, hW2⟩ : ∃ W2, W1.alloc (.cells #[.int .i64 0, .int .i64 0, .string ⟨#[]⟩, .slice none 0 0] 38) = W2 := ⟨_, rfl⟩
  obtain ⟨W3, hW3⟩ : ∃ W3, W2.alloc (.cells #[.int .i64 t.kind, .int .i64 t.num, .string t.name, .slice none 0 0] 38) = W3 := ⟨_, rfl⟩
  rw [hW1, hW2, hW3]
  have s1 : W1.heap.size = w.heap.size + 1 := by rw [← hW1]; simp
  have s2 : W2.heap.size = w.heap.size + 2 := by rw [← hW2]; simp [s1]
  have s3 : W3.heap.size = w.heap.size + 3 := by rw [← hW3]; simp [s2]
  have hB3 : Below w.heap.size w W3 := by rw [← hW3, ← hW2, ← hW1]; exact (((Below.refl _ w).alloc (Nat.le_refl _) _).alloc (by simp) _).alloc (by simp; omega) _
  have hM3 : Mid w t (.slice none 0 0) W3 := by
    have b1 : Cells4 W1 w.heap.size 0 t := by rw [← hW1]; exact Cells4.new w t
    have b2 : RowAt W2 (w.heap.size + 1) 4 38 := by
      have h := RowAt.new W1 #[.int .i64 0, .int .i64 0, .string ⟨#[]⟩, .slice none 0 0] 38
      rw [hW2, s1] at h
      exact h
    have b3 : RowAt W3 (w.heap.size + 2) 4 38 := by
      have h := RowAt.new W2 #[.int .i64 t.kind, .int .i64 t.num, .string t.name, .slice none 0 0] 38
      rw [hW3, s2] at h
      exact h
    have e12 : Below W1.heap.size W1 W2 := by rw [← hW2]; exact (Below.refl _ _).alloc (Nat.le_refl _) _
    have e23 : Below W2.heap.size W2 W3 := by rw [← hW3]; exact (Below.refl _ _).alloc (Nat.le_refl _) _
    refine ⟨(b1.below e12 (by omega)).below e23 (by omega), b2.of_block (e23.block _ (by omega)), b3, ?_, ?_, ?_, ?_⟩
    · rw [← hW3, ← s2]; exact World.cell?_alloc_new W2 _ _ 0
    · rw [← hW3, ← s2]; exact World.cell?_alloc_new W2 _ _ 1
    · rw [← hW3, ← s2]; exact World.cell?_alloc_new W2 _ _ 2
    · rw [← hW3, ← s2]; exact World.cell?_alloc_new W2 _ _ 3
  have hA3 : AccE W3 (w.heap.size + 3) (.slice none 0 0) [] (fun _ => 0) (fun _ => 0) := AccE.nil _ _
  clear hW1 hW2 hW3
  go_loopw [4] (fun v4 wr => ∃ (i : Nat) (us : List XT) (l h : Nat → Nat) (vv : Value), v4 = .int .i64 i ∧ i ≤ t.kids.length ∧ us.length = i ∧ Hid (∀ (j : Nat) (x y : XT), t.kids[j]? = some x → us[j]? = some y → Same x y) ∧ Hid (AccE wr (w.heap.size + 3) vv us l h) ∧ Hid (Mid w t vv wr) ∧ Below w.heap.size w wr) (fun v4 _ => t.kids.length - (intOf v4).toNat)
  case atStart => exact ⟨0, [], _, _, _, rfl, by omega, rfl, fun j x y _ hy => by simp at hy, hA3, hM3, hB3⟩
  case round =>
    obtain ⟨i, us, l, h, vv, rfl, hi, hul, hsm, hA, hM, hB⟩ := hrel
    have hzm := hM.out.lt
    by_cases hlt' : i < t.kids.length
    · obtain ⟨x, hx⟩ : ∃ x, t.kids[i]? = some x := ⟨_, List.getElem?_eq_getElem (by omega)⟩
      obtain ⟨b1, o1, hbase1, hok1, hc1⟩ := hrow.out i x hx
      have hBd : Below w.heap.size w wr.drew := hB.trans ((Below.refl _ wr).drew.mono hB.size)
      have hMd : Mid w t vv wr.drew := hM.out.below ((Below.refl _ wr).drew)
      have hAd : AccE wr.drew (w.heap.size + 3) vv us l h := hA.out.below ((Below.refl _ wr).drew)
      have hzd : wr.drew.heap.size = wr.heap.size := rfl
      obtain ⟨c0, c1, c2, c3⟩ := hc1.below hB (hok b1 hok1)
      have d3 : wr.cell? ⟨w.heap.size, 3, none⟩ = some (.slice t.base t.kids.length t.cap) := hM.out.box.c3
      have k3 : wr.cell? ⟨w.heap.size + 1 + 1, 3, none⟩ = some vv := hM.out.k3
      rw [hbase1] at d3
      go_wp2_with fail
      go_region_law (first | (refine step_append_back _ rfl _ _ 36 rfl (w.heap.size + 3) 38 i0 _ 4 56 Try.underlying36 hi0 hz0 hz1 hz2 rfl (by decide) vv us.length (fl4 us) rfl hown9.out ⟨w8.heap.size, 0, none⟩ 1 1 (c4 t8) rfl rfl hnew.out (by simp [c4, Value.oneCell']) (by unfold maxLen; omega) (by omega) (by omega) (by omega) ?_; intro v' w10 hown' hback; (obtain ⟨g', cap', hv'⟩ := ownsRow_succ hown'); (subst hv'); (have hM10 : Mid w t vv w10 := hM9.on (fun b hb => hback.kept.block b (by omega) (fun hh => by rcases hh with hh | hh; (have := (hown9.out.lt b hh).1; omega); (have := (hown'.lt b hh).1; omega)))); (have q3 : w10.cell? ⟨w.heap.size + 1 + 1, 3, none⟩ = some vv := hM10.k3); (have f3 : w10.frozen? ⟨w.heap.size + 1 + 1, 3, none⟩ = false := hM10.r2.frozen 3)) | (go_simp; go_at_call 22; refine (HC.out i x hx _ (by exact hBd)).mono ?_; rintro e w8 ⟨t8, rfl, hs8, hO8, hb8⟩; (have hM8 := hMd.below hb8); (have n3 : w8.cell? ⟨w.heap.size + 1 + 1, 3, none⟩ = some vv := hM8.k3); (have hz8 := hb8.size); (have hB9 : Below w8.heap.size w8 (w8.alloc (.cells #[.int .i64 t8.kind, .int .i64 t8.num, .string t8.name, .slice t8.base t8.kids.length t8.cap] 38)) := (Below.refl _ _).alloc (Nat.le_refl _) _); (have hM9 := hM8.below hB9); (have n9 : (w8.alloc (.cells #[.int .i64 t8.kind, .int .i64 t8.num, .string t8.name, .slice t8.base t8.kids.length t8.cap] 38)).cell? ⟨w.heap.size + 1 + 1, 3, none⟩ = some vv := hM9.k3); (have hA8 := hAd.below hb8); (have hA9 := hA8.below hB9); (have hown9 : Hid ((w8.alloc (.cells #[.int .i64 t8.kind, .int .i64 t8.num, .string t8.name, .slice t8.base t8.kids.length t8.cap] 38)).ownsRow (w.heap.size + 3) 38 4 vv us.length (fl4 us)) := hA9.own); (have hnew : Hid (∀ j u, (c4 t8)[j]? = some u → (w8.alloc (.cells #[.int .i64 t8.kind, .int .i64 t8.num, .string t8.name, .slice t8.base t8.kids.length t8.cap] 38)).cell? ((⟨w8.heap.size, 0, none⟩ : Addr).add j) = some u) := news4 w8 t8 _); (have hz9 : (w8.alloc (.cells #[.int .i64 t8.kind, .int .i64 t8.num, .string t8.name, .slice t8.base t8.kids.length t8.cap] 38)).heap.size = w8.heap.size + 1 := by simp)))
      all_goals
        have hO9 : OwnR (w8.alloc (.cells #[.int .i64 t8.kind, .int .i64 t8.num, .string t8.name, .slice t8.base t8.kids.length t8.cap] 38)) wr.heap.size w8.heap.size t8.base t8.kids := hO8.mono (fun b q1 q2 => hB9.block b q2)
        have hP := hA9.push rfl hO9 (fun j hj => by have := (hAd.int j hj).2.1; omega) (by omega) (by omega) (fun g hg => by have := (hAd.own.lt g hg).2; omega) (by omega) hown' hback
        have hB10 : Below w.heap.size w w10 := by
          refine (bstep (bstep hBd hb8) hB9).trans (hback.kept.below (by have := hB.size; omega) (fun k hk => ?_))
          rcases hk with hk | hk
          · have := (hown9.out.lt k hk).1; omega
          · have := (hown'.lt k hk).1; omega
        have hMf := hM10.put (.slice (some ⟨g', 0, none⟩) (us.length + 1) cap')
        have hPf := hP.far (w := w) (.slice (some ⟨g', 0, none⟩) (us.length + 1) cap')
        have hBf : Below w.heap.size w (w10.setCell ⟨w.heap.size + 2, 3, none⟩ (.slice (some ⟨g', 0, none⟩) (us.length + 1) cap')) := Below.setCell hB10 (by dsimp only; omega) _
        have hsf : Hid (∀ (j : Nat) (p q : XT), t.kids[j]? = some p → (us ++ [t8])[j]? = some q → Same p q) := by
          intro j y z hy hz
          by_cases hj : j < us.length
          · rw [List.getElem?_append_left hj] at hz
            exact hsm.out j y z hy hz
          · have hji : j = i := by
              have := (List.getElem?_eq_some_iff.1 hz).1
              simp at this
              omega
            subst hji
            rw [List.getElem?_append_right (by omega)] at hz
            simp [hul] at hz
            subst hz
            rw [hx] at hy
            cases hy
            exact hs8
        rw [hul] at hPf hMf hBf
        go_wp2_with fail
        go_roundw
        case rel => exact ⟨i + 1, us ++ [t8], _, _, _, by go_num, by omega, by simp [hul], hsf, hPf, hMf, hBf⟩
        case measure => simp [intOf]; omega
    · obtain rfl : i = t.kids.length := by omega
      obtain ⟨a', c', rfl, hO⟩ := hA.out.done
      have hMo := hM.out
      have d3 : wr.cell? ⟨w.heap.size, 3, none⟩ = some (.slice t.base t.kids.length t.cap) := hMo.box.c3
      have q0 : wr.cell? ⟨w.heap.size + 1 + 1, 0, none⟩ = some (.int .i64 t.kind) := hMo.k0
      have q1 : wr.cell? ⟨w.heap.size + 1 + 1, 1, none⟩ = some (.int .i64 t.num) := hMo.k1
      have q2 : wr.cell? ⟨w.heap.size + 1 + 1, 2, none⟩ = some (.string t.name) := hMo.k2
      have q3 : wr.cell? ⟨w.heap.size + 1 + 1, 3, none⟩ = some (.slice a' us.length c') := hMo.k3
      have hr1 := hMo.r1
      obtain ⟨p0, t0⟩ := hr1.cell (o := 0) (by omega)
      obtain ⟨p1, t1⟩ := hr1.cell (o := 1) (by omega)
      obtain ⟨p2, t2⟩ := hr1.cell (o := 2) (by omega)
      obtain ⟨p3, t3⟩ := hr1.cell (o := 3) (by omega)
      have f0 := hr1.frozen 0
      have f1 := hr1.frozen 1
      have f2 := hr1.frozen 2
      have f3 := hr1.frozen 3
      rw [hul] at q3
      go_wp2
      have hK : Kept (fun k => k = w.heap.size + 1) wr ((((wr.setCell ⟨w.heap.size + 1, 0, none⟩ (.int .i64 t.kind)).setCell ⟨w.heap.size + 1, 1, none⟩ (.int .i64 t.num)).setCell ⟨w.heap.size + 1, 2, none⟩ (.string t.name)).setCell ⟨w.heap.size + 1, 3, none⟩ (.slice a' t.kids.length c')) :=
        ((((Kept.refl (fun k => k = w.heap.size + 1) wr).setCell (p := ⟨w.heap.size + 1, 0, none⟩) rfl _).setCell (p := ⟨w.heap.size + 1, 1, none⟩) rfl _).setCell (p := ⟨w.heap.size + 1, 2, none⟩) rfl _).setCell (p := ⟨w.heap.size + 1, 3, none⟩) rfl _
      first | go_returns | (refine bodyPost_ret (by simp [results, Try.results22, go_sem, *]; try rfl) rfl ?_)
      refine ⟨.mk t.kind t.num t.name a' c' us, ?_, .mk _ _ rfl rfl rfl (show us.length = t.kids.length from hul) (fun j p q hp hq => hsm.out j p q hp hq), ?_, ?_⟩
      · show _ = Ending.returned (.agg #[.int .i64 t.kind, .int .i64 t.num, .string t.name, .slice a' us.length c'])
        rw [hul]
      · exact (hO.mono (fun b h1 h2 => hK.block b h2 (fun e => by omega))).wide (by omega) hK.size
      · exact hB.trans (hK.below (by omega) (fun k e => by omega))
end Go.Proofs.Ytomdbaokidphjaa
namespace Go.Proofs.Ytomdbaokidphjaa
open Go.RowKit Go.Shelf
set_option linter.unusedSimpArgs false
set_option linter.unusedVariables false
attribute [local go_sem] Oper.semAt_some

theorem AccS.made (w : World) {base : Nat} (hb : base ≤ w.heap.size) : AccS (w.alloc (.cells #[] 40)) base (.slice (some ⟨w.heap.size, 0, none⟩) 0 0) [] (fun _ => 0) (fun _ => 0) :=
  ⟨World.ownsRow_made w #[] 0 hb (Nat.zero_le _) rfl, fun i h => by simp at h, fun i j _ h => by simp at h, fun i t h => by simp at h⟩
set_option maxRecDepth 10000 in
set_option maxHeartbeats 4000000 in
theorem specEachS (ks : List SX) (a : Option Addr) (c : Nat) (ok : Nat → Prop) (w : World) (hok : ∀ b, ok b → b < w.heap.size) (hcl : SRow ok w a ks) (hlen : ks.length ≤ 1048577)
    (H : ∀ (i : Nat) (k : SX), ks[i]? = some k → ∀ (w' : World), Below w.heap.size w w' →
      Calls Try.prog 12 #[k.val] w' fun e w'' => ∃ t : SX, e = .returned t.val ∧ SameS k t ∧ OwnS1 w'' w'.heap.size w''.heap.size t ∧ Below w'.heap.size w' w'') :
    Calls Try.prog 23 #[.slice a ks.length c] w fun e w' => ∃ (v : Value) (us : List SX) (l h : Nat → Nat), e = .returned v ∧ us.length = ks.length ∧ (∀ (i : Nat) (x y : SX), ks[i]? = some x → us[i]? = some y → SameS x y) ∧ AccS w' w.heap.size v us l h ∧ Below w.heap.size w w' := by
  obtain ⟨len, hl⟩ : ∃ len, ks.length = len := ⟨_, rfl⟩
  rw [hl] at hlen ⊢
  obtain ⟨i0, hi0, hz0, hz1, hz2⟩ := info_parts infoS
  go_enter Try.func23, Try.ntmps23
  go_wp2_with fail
  go_loopw [3, 4] (fun v5 v10 wr => ∃ (i : Nat) (us : List SX) (l h : Nat → Nat), v10 = .int .i64 i ∧ i ≤ len ∧ us.length = i ∧ Hid (∀ (j : Nat) (x y : SX), ks[j]? = some x → us[j]? = some y → SameS x y) ∧ Hid (AccS wr w.heap.size v5 us l h) ∧ Below w.heap.size w wr) (fun _ v10 _ => len - (intOf v10).toNat)
  case atStart => exact ⟨0, [], (fun _ => 0), (fun _ => 0), rfl, by omega, rfl, fun j x y _ hy => by simp at hy, AccS.made _ (Nat.le_refl _), (Below.refl _ _).alloc (Nat.le_refl _) _⟩
  case round =>
    obtain ⟨i, us, l, h, rfl, hi, hul, hsm, hA, hB⟩ := hrel
    obtain ⟨v, rfl⟩ : ∃ v, v = u3 := ⟨_, rfl⟩
    by_cases hlt : i < len
    · obtain ⟨x, hx⟩ : ∃ x, ks[i]? = some x := ⟨_, List.getElem?_eq_getElem (by omega)⟩
      obtain ⟨b1, o1, hbase1, hok1, hc1⟩ := hcl i x hx
      obtain ⟨c0, c1, c2, c3, c4', c5, c6, c7, c8, c9, c10, c11⟩ := hc1.below hB (hok b1 hok1)
      have hB1 : Below wr.heap.size wr wr := Below.refl _ _
      have hcall : Hid (Calls Try.prog 12 #[x.val] wr fun e w'' => ∃ t : SX, e = .returned t.val ∧ SameS x t ∧ OwnS1 w'' wr.heap.size w''.heap.size t ∧ Below wr.heap.size wr w'') := H i x hx wr hB
      have hA1 := hA.out.below hB1
      subst hbase1
      go_wp2_with fail
      go_at_call 12
      refine hcall.out.mono ?_
      rintro e w2 ⟨t, rfl, hxt, hO, hB2⟩
      clear c0 c1 c2 c3 c4' c5 c6 c7 c8 c9 c10 c11 hcall
      have hA2 := hA1.below hB2
      have hz2' := hB2.size
      obtain ⟨W3, hW3⟩ : ∃ W3, w2.alloc (.cells #[.int .i64 t.kind, .string t.name, .int .i64 t.e.kind, .int .i64 t.e.num, .string t.e.name, .slice t.e.base t.e.kids.length t.e.cap, .int .i64 t.f.kind, .int .i64 t.f.num, .string t.f.name, .slice t.f.base t.f.kids.length t.f.cap, .slice t.abase t.la.length t.acap, .slice t.bbase t.lb.length t.bcap] 40) = W3 := ⟨_, rfl⟩
      have hB3 : Below w2.heap.size w2 W3 := by rw [← hW3]; exact (Below.refl _ _).alloc (Nat.le_refl _) _
      have hs3 : w2.heap.size + 1 = W3.heap.size := by rw [← hW3]; simp
      have hnewH : Hid (∀ j u, t.vals[j]? = some u → W3.cell? ((⟨w2.heap.size, 0, none⟩ : Addr).add j) = some u) := by
        have h := news12 w2 t 40
        rw [hW3] at h
        exact h
      have hA3 := hA2.below hB3
      have hO3 : OwnS1 W3 wr.heap.size w2.heap.size t := hO.mono (fun b q1 q2 => hB3.block b q2)
      have hzw := hB.size
      have hown3 : Hid (W3.ownsRow w.heap.size 40 12 v us.length (fl12 us)) := hA3.own
      go_wp2_with (at_builtin; refine wpList_append_back _ rfl _ _ 24 rfl w.heap.size 40 i0 _ 12 184 Try.underlying24 hi0 hz0 hz1 hz2 rfl (by decide) v us.length (fl12 us) rfl hown3.out ⟨w2.heap.size, 0, none⟩ 1 1 t.vals rfl rfl hnewH.out (by simp [Value.oneCell']) (by unfold maxLen; omega) (by omega) (by omega) (by omega) ?_; intro v' w4 hown' hback)
      have hP := hA3.push rfl hO3 (fun j hj => by have := (hA1.int j hj).2.1; omega) (by omega) (by omega) (fun g hg => by have := (hA1.own.lt g hg).2; omega) (by omega) hown' hback
      have hB4 : Below w.heap.size w w4 := by
        have h0 : Below w.heap.size w W3 := bstep (bstep (bstep hB hB1) hB2) hB3
        refine h0.trans (hback.kept.below (by omega) (fun k hk => ?_))
        rcases hk with hk | hk
        · exact (hA3.own.lt k hk).1
        · exact (hown'.lt k hk).1
      refine ⟨⟨i + 1, us ++ [t], _, _, by go_num, by omega, by simp [hul], ?_, hP, hB4⟩, by simp [intOf]; omega⟩
      intro j y z hy hz
      by_cases hj : j < us.length
      · rw [List.getElem?_append_left hj] at hz
        exact hsm.out j y z hy hz
      · have hji : j = i := by
          have := (List.getElem?_eq_some_iff.1 hz).1
          simp at this
          omega
        subst hji
        rw [List.getElem?_append_right (by omega)] at hz
        simp [hul] at hz
        subst hz
        rw [hx] at hy
        cases hy
        exact hxt
    · have he : i = len := by omega
      go_wp2_with fail
      go_returns
      exact ⟨v, us, l, h, rfl, by omega, hsm.out, hA.out, hB⟩
end Go.Proofs.Ytomdbaokidphjaa
