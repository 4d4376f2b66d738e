/-
  The specification's copies of expressions.
  The specification's copies of lists of statements.
  The specification's copies of statements.
  All statements of a list: what the specification answers.
  All statements of a list: what the specification answers.
-/
import Derived.Test.YtimfdfeleoaehaaStmtsA
import Derived.Deep.RegionLaw
import Derived.Deep.DeepCutAuto
import Derived.Deep.RegionHeld3
import Derived.Test.YtimfdfeleoaehaaOkI
namespace Go.Proofs.Ytimfdfeleoaehaa
open Go.RowKit Go.Shelf
set_option linter.unusedSimpArgs false
set_option linter.unusedVariables false
attribute [local go_sem] Oper.semAt_some

theorem step_append_back {P : Program} (w : World) {ops : Array Oper} {o : Oper} {a : Act} {K : Act → World → Prop} {Q : Exit → Act → World → Prop} {E : Prop} (hgd : o.guard = none) (s x : Operand) (t : TypeId)
    (ho : o.op = .call { callee := .builtin .append, args := #[s, x], argTypes := #[t, t] })
    (base : Nat) (e : TypeId) (i : TypeInfo) (z : Value) (size bytes : Nat) (ht : P.underlying t = some (.slice e)) (hi : P.info? e = some i) (hz : i.zero = some z)
    (hsize : i.size = size) (hby : i.bytes = bytes) (hzs : z.cells.size = size) (hsz : 0 < size)
    (v : Value) (n : Nat) (xs : List Value) (hs : a.eval s = v) (hown : w.ownsRow base e size v n xs)
    (ad : Addr) (m c : Nat) (news : List Value) (hx : a.eval x = .slice (some ad) m c) (hl : news.length = m * size) (hnews : ∀ j u, news[j]? = some u → w.cell? (ad.add j) = some u) (h1 : ∀ u ∈ news, u.oneCell' = true)
    (h63 : n + m ≤ maxLen) (hbytes : (n + m) * bytes ≤ 140737488355328) (hbase : base ≤ w.heap.size) (hm : 0 < m)
    (h : ∀ v' w', w'.ownsRow base e size v' (n + m) (xs ++ news) → Back w w' base e size n m v v' xs news → K (a.put o.dst v') w') :
    if Region.wanted o (yielded ops a.tmps) = true then Oper.wp P o a w K Q else E := by
  have hw : Region.wanted o (yielded ops a.tmps) = true := by simp [Region.wanted, hgd]
  rw [if_pos hw]
  obtain ⟨v', w', hr, h2, h3⟩ := run_append_back (P := P) w base t o.type e i z size bytes ht hi hz hsize hby hzs hsz v n xs hown ad m c news hl hnews h1 h63 hbytes hbase hm
  unfold Oper.wp execOp
  simp only [ho, resolve, invoke, builtin, Sem.run_bind, Sem.run_pure, Result.andThen_ok, List.map_toArray, List.map_cons, List.map_nil, hs, hx, hr]
  exact h v' w' h2 h3
/-- What lies around while the specification copies an expression: the expression's box, the answer's, and the copy's own with the list so far. -/
structure Mid (w : World) (t : XT) (vv : Value) (X : World) : Prop where
  box : Cells4 X w.heap.size 0 t
  r1 : RowAt X (w.heap.size + 1) 4 48
  r2 : RowAt X (w.heap.size + 2) 4 48
  k0 : X.cell? ⟨w.heap.size + 2, 0, none⟩ = some (.int .i64 t.kind)
  k1 : X.cell? ⟨w.heap.size + 2, 1, none⟩ = some (.int .i64 t.num)
  k2 : X.cell? ⟨w.heap.size + 2, 2, none⟩ = some (.string t.name)
  k3 : X.cell? ⟨w.heap.size + 2, 3, none⟩ = some vv
theorem Mid.on {w : World} {t : XT} {vv : Value} {A B : World} (h : Mid w t vv A) (hb : ∀ b, b < w.heap.size + 3 → B.heap[b]? = A.heap[b]?) : Mid w t vv B := by
  have q0 := hb w.heap.size (by omega)
  have q1 := hb (w.heap.size + 1) (by omega)
  have q2 := hb (w.heap.size + 2) (by omega)
  exact ⟨⟨(cell_of_block (a := ⟨w.heap.size, _, none⟩) q0).trans h.box.c0, (cell_of_block (a := ⟨w.heap.size, _, none⟩) q0).trans h.box.c1, (cell_of_block (a := ⟨w.heap.size, _, none⟩) q0).trans h.box.c2, (cell_of_block (a := ⟨w.heap.size, _, none⟩) q0).trans h.box.c3⟩, h.r1.of_block q1, h.r2.of_block q2,
    (cell_of_block (a := ⟨w.heap.size + 2, _, none⟩) q2).trans h.k0, (cell_of_block (a := ⟨w.heap.size + 2, _, none⟩) q2).trans h.k1, (cell_of_block (a := ⟨w.heap.size + 2, _, none⟩) q2).trans h.k2, (cell_of_block (a := ⟨w.heap.size + 2, _, none⟩) q2).trans h.k3⟩
theorem Mid.lt {w : World} {t : XT} {vv : Value} {A : World} (h : Mid w t vv A) : w.heap.size + 3 ≤ A.heap.size := h.r2.lt
theorem Mid.below {w : World} {t : XT} {vv : Value} {A B : World} (h : Mid w t vv A) (hb : Below A.heap.size A B) : Mid w t vv B := h.on (fun b q => hb.block b (by have := h.lt; omega))
theorem Mid.put {w : World} {t : XT} {vv : Value} {A : World} (h : Mid w t vv A) (v' : Value) : Mid w t v' (A.setCell ⟨w.heap.size + 2, 3, none⟩ v') := by
  have q0 : (A.setCell ⟨w.heap.size + 2, 3, none⟩ v').heap[w.heap.size]? = A.heap[w.heap.size]? := Below.heap_setCell _ _ _ _ (by dsimp only; omega)
  have q1 : (A.setCell ⟨w.heap.size + 2, 3, none⟩ v').heap[w.heap.size + 1]? = A.heap[w.heap.size + 1]? := Below.heap_setCell _ _ _ _ (by dsimp only; omega)
  exact ⟨⟨(cell_of_block (a := ⟨w.heap.size, _, none⟩) q0).trans h.box.c0, (cell_of_block (a := ⟨w.heap.size, _, none⟩) q0).trans h.box.c1, (cell_of_block (a := ⟨w.heap.size, _, none⟩) q0).trans h.box.c2, (cell_of_block (a := ⟨w.heap.size, _, none⟩) q0).trans h.box.c3⟩, h.r1.of_block q1, h.r2.set _ _,
    (set_far (by omega) _).trans h.k0, (set_far (by omega) _).trans h.k1, (set_far (by omega) _).trans h.k2, h.r2.put (by omega) _⟩
theorem AccE.far {w W : World} {v : Value} {us : List XT} {l h : Nat → Nat} (hA : AccE W (w.heap.size + 3) v us l h) (u : Value) : AccE (W.setCell ⟨w.heap.size + 2, 3, none⟩ u) (w.heap.size + 3) v us l h := by
  have hb : ∀ b, w.heap.size + 3 ≤ b → (W.setCell ⟨w.heap.size + 2, 3, none⟩ u).heap[b]? = W.heap[b]? := fun b hb => Below.heap_setCell _ _ _ _ (by dsimp only; omega)
  refine ⟨own_on hA.own (fun g hg => hb g (hA.own.lt g hg).1), fun i hi => ?_, hA.ord, fun i t ht => (hA.kid i t ht).mono (fun b q1 q2 => hb b ?_)⟩
  · obtain ⟨h1, h2, h3⟩ := hA.int i hi
    exact ⟨h1, by simpa using h2, h3⟩
  · have := (hA.int i (List.getElem?_eq_some_iff.1 ht).1).1; omega
set_option maxRecDepth 10000 in
set_option maxHeartbeats 8000000 in
theorem specCopyE (sz : Nat) : ∀ t : XT, t.size ≤ sz → sz ≤ 1048577 → ∀ (ok : Nat → Prop) (w : World), (∀ b, ok b → b < w.heap.size) → Lies ok w t →
    Calls Try.prog 77 #[t.val] w fun e w' => ∃ t' : XT, e = .returned t'.val ∧ Same t t' ∧ OwnR w' w.heap.size w'.heap.size t'.base t'.kids ∧ Below w.heap.size w w' := by
  induction sz with
  | zero => intro t h; rw [XT.size_eq] at h; omega
  | succ sz ih =>
  intro t hsz hlim ok w hok hL
  have hlt := t.length_le
  have hse := t.size_eq
  obtain ⟨i0, hi0, hz0, hz1, hz2⟩ := info_parts infoE
  have HC : Hid (∀ (i : Nat) (k : XT), t.kids[i]? = some k → ∀ (x : World), Below w.heap.size w x → Calls Try.prog 77 #[k.val] x fun e w'' => ∃ t' : XT, e = .returned t'.val ∧ Same k t' ∧ OwnR w'' x.heap.size w''.heap.size t'.base t'.kids ∧ Below x.heap.size x w'') := fun i k hk x hx =>
    ih k (by have h5 := XT.size_get hk; omega) (by omega) ok x (fun b hb => Nat.lt_of_lt_of_le (hok b hb) hx.size) ((hL.kid i k hk).under hx hok)
  have hrow : Hid (ERow ok w t.base t.kids) := hL.cells
  clear ih hL
  go_enter Try.func77, Try.ntmps77
  go_wp2_with fail
  obtain ⟨W1, hW1⟩ : ∃ W1, w.alloc (.cells #[.int .i64 t.kind, .int .i64 t.num, .string t.name, .slice t.base t.kids.length t.cap] 48) = W1 := ⟨_, rfl⟩
  obtain ⟨W2, hW2⟩ : ∃ W2, W1.alloc (.cells #[.int .i64 0, .int .i64 0, .string ⟨#[]⟩, .slice none 0 0] 48) = W2 := ⟨_, rfl⟩
  obtain ⟨W3, hW3⟩ : ∃ W3, W2.alloc (.cells #[.int .i64 t.kind, .int .i64 t.num, .string t.name, .slice none 0 0] 48) = W3 := ⟨_, rfl⟩
  rw [hW1, hW2, hW3]
  have s1 : W1.heap.size = w.heap.size + 1 := by rw [← hW1]; simp
  have s2 : W2.heap.size = w.heap.size + 2 := by rw [← hW2]; simp [s1]
  have s3 : W3.heap.size = w.heap.size + 3 := by rw [← hW3]; simp [s2]
  have hB3 : Below w.heap.size w W3 := by rw [← hW3, ← hW2, ← hW1]; exact (((Below.refl _ w).alloc (Nat.le_refl _) _).alloc (by simp) _).alloc (by simp; omega) _
  have hM3 : Mid w t (.slice none 0 0) W3 := by
    have b1 : Cells4 W1 w.heap.size 0 t := by rw [← hW1]; exact Cells4.new w t
    have b2 : RowAt W2 (w.heap.size + 1) 4 48 := by
      have h := RowAt.new W1 #[.int .i64 0, .int .i64 0, .string ⟨#[]⟩, .slice none 0 0] 48
      rw [hW2, s1] at h
      exact h
    have b3 : RowAt W3 (w.heap.size + 2) 4 48 := by
      have h := RowAt.new W2 #[.int .i64 t.kind, .int .i64 t.num, .string t.name, .slice none 0 0] 48
      rw [hW3, s2] at h
      exact h
    have e12 : Below W1.heap.size W1 W2 := by rw [← hW2]; exact (Below.refl _ _).alloc (Nat.le_refl _) _
    have e23 : Below W2.heap.size W2 W3 := by rw [← hW3]; exact (Below.refl _ _).alloc (Nat.le_refl _) _
    refine ⟨(b1.below e12 (by omega)).below e23 (by omega), b2.of_block (e23.block _ (by omega)), b3, ?_, ?_, ?_, ?_⟩
    · rw [← hW3, ← s2]; exact World.cell?_alloc_new W2 _ _ 0
    · rw [← hW3, ← s2]; exact World.cell?_alloc_new W2 _ _ 1
    · rw [← hW3, ← s2]; exact World.cell?_alloc_new W2 _ _ 2
    · rw [← hW3, ← s2]; exact World.cell?_alloc_new W2 _ _ 3
  have hA3 : AccE W3 (w.heap.size + 3) (.slice none 0 0) [] (fun _ => 0) (fun _ => 0) := AccE.nil _ _
  clear hW1 hW2 hW3
  go_loopw [4] (fun v4 wr => ∃ (i : Nat) (us : List XT) (l h : Nat → Nat) (vv : Value), v4 = .int .i64 i ∧ i ≤ t.kids.length ∧ us.length = i ∧ Hid (∀ (j : Nat) (x y : XT), t.kids[j]? = some x → us[j]? = some y → Same x y) ∧ Hid (AccE wr (w.heap.size + 3) vv us l h) ∧ Hid (Mid w t vv wr) ∧ Below w.heap.size w wr) (fun v4 _ => t.kids.length - (intOf v4).toNat)
  case atStart => exact ⟨0, [], _, _, _, rfl, by omega, rfl, fun j x y _ hy => by simp at hy, hA3, hM3, hB3⟩
  case round =>
    obtain ⟨i, us, l, h, vv, rfl, hi, hul, hsm, hA, hM, hB⟩ := hrel
    have hzm := hM.out.lt
    by_cases hlt' : i < t.kids.length
    · obtain ⟨x, hx⟩ : ∃ x, t.kids[i]? = some x := ⟨_, List.getElem?_eq_getElem (by omega)⟩
      obtain ⟨b1, o1, hbase1, hok1, hc1⟩ := hrow.out i x hx
      have hBd : Below w.heap.size w wr.drew := hB.trans ((Below.refl _ wr).drew.mono hB.size)
      have hMd : Mid w t vv wr.drew := hM.out.below ((Below.refl _ wr).drew)
      have hAd : AccE wr.drew (w.heap.size + 3) vv us l h := hA.out.below ((Below.refl _ wr).drew)
      have hzd : wr.drew.heap.size = wr.heap.size := rfl
      obtain ⟨c0, c1, c2, c3⟩ := hc1.below hB (hok b1 hok1)
      have d3 : wr.cell? ⟨w.heap.size, 3, none⟩ = some (.slice t.base t.kids.length t.cap) := hM.out.box.c3
      have k3 : wr.cell? ⟨w.heap.size + 1 + 1, 3, none⟩ = some vv := hM.out.k3
      rw [hbase1] at d3
      go_wp2_with fail
      go_region_law (first | (refine step_append_back _ rfl _ _ 46 rfl (w.heap.size + 3) 48 i0 _ 4 56 Try.underlying46 hi0 hz0 hz1 hz2 rfl (by decide) vv us.length (fl4 us) rfl hown9.out ⟨w8.heap.size, 0, none⟩ 1 1 (c4 t8) rfl rfl hnew.out (by simp [c4, Value.oneCell']) (by unfold maxLen; omega) (by omega) (by omega) (by omega) ?_; intro v' w10 hown' hback; (obtain ⟨g', cap', hv'⟩ := ownsRow_succ hown'); (subst hv'); (have hM10 : Mid w t vv w10 := hM9.on (fun b hb => hback.kept.block b (by omega) (fun hh => by rcases hh with hh | hh; (have := (hown9.out.lt b hh).1; omega); (have := (hown'.lt b hh).1; omega)))); (have q3 : w10.cell? ⟨w.heap.size + 1 + 1, 3, none⟩ = some vv := hM10.k3); (have f3 : w10.frozen? ⟨w.heap.size + 1 + 1, 3, none⟩ = false := hM10.r2.frozen 3)) | (go_simp; go_at_call 77; refine (HC.out i x hx _ (by exact hBd)).mono ?_; rintro e w8 ⟨t8, rfl, hs8, hO8, hb8⟩; (have hM8 := hMd.below hb8); (have n3 : w8.cell? ⟨w.heap.size + 1 + 1, 3, none⟩ = some vv := hM8.k3); (have hz8 := hb8.size); (have hB9 : Below w8.heap.size w8 (w8.alloc (.cells #[.int .i64 t8.kind, .int .i64 t8.num, .string t8.name, .slice t8.base t8.kids.length t8.cap] 48)) := (Below.refl _ _).alloc (Nat.le_refl _) _); (have hM9 := hM8.below hB9); (have n9 : (w8.alloc (.cells #[.int .i64 t8.kind, .int .i64 t8.num, .string t8.name, .slice t8.base t8.kids.length t8.cap] 48)).cell? ⟨w.heap.size + 1 + 1, 3, none⟩ = some vv := hM9.k3); (have hA8 := hAd.below hb8); (have hA9 := hA8.below hB9); (have hown9 : Hid ((w8.alloc (.cells #[.int .i64 t8.kind, .int .i64 t8.num, .string t8.name, .slice t8.base t8.kids.length t8.cap] 48)).ownsRow (w.heap.size + 3) 48 4 vv us.length (fl4 us)) := hA9.own); (have hnew : Hid (∀ j u, (c4 t8)[j]? = some u → (w8.alloc (.cells #[.int .i64 t8.kind, .int .i64 t8.num, .string t8.name, .slice t8.base t8.kids.length t8.cap] 48)).cell? ((⟨w8.heap.size, 0, none⟩ : Addr).add j) = some u) := news4 w8 t8 _); (have hz9 : (w8.alloc (.cells #[.int .i64 t8.kind, .int .i64 t8.num, .string t8.name, .slice t8.base t8.kids.length t8.cap] 48)).heap.size = w8.heap.size + 1 := by simp)))
      all_goals
        have hO9 : OwnR (w8.alloc (.cells #[.int .i64 t8.kind, .int .i64 t8.num, .string t8.name, .slice t8.base t8.kids.length t8.cap] 48)) wr.heap.size w8.heap.size t8.base t8.kids := hO8.mono (fun b q1 q2 => hB9.block b q2)
        have hP := hA9.push rfl hO9 (fun j hj => by have := (hAd.int j hj).2.1; omega) (by omega) (by omega) (fun g hg => by have := (hAd.own.lt g hg).2; omega) (by omega) hown' hback
        have hB10 : Below w.heap.size w w10 := by
          refine (bstep (bstep hBd hb8) hB9).trans (hback.kept.below (by have := hB.size; omega) (fun k hk => ?_))
          rcases hk with hk | hk
          · have := (hown9.out.lt k hk).1; omega
          · have := (hown'.lt k hk).1; omega
        have hMf := hM10.put (.slice (some ⟨g', 0, none⟩) (us.length + 1) cap')
        have hPf := hP.far (w := w) (.slice (some ⟨g', 0, none⟩) (us.length + 1) cap')
        have hBf : Below w.heap.size w (w10.setCell ⟨w.heap.size + 2, 3, none⟩ (.slice (some ⟨g', 0, none⟩) (us.length + 1) cap')) := Below.setCell hB10 (by dsimp only; omega) _
        have hsf : Hid (∀ (j : Nat) (p q : XT), t.kids[j]? = some p → (us ++ [t8])[j]? = some q → Same p q) := by
          intro j y z hy hz
          by_cases hj : j < us.length
          · rw [List.getElem?_append_left hj] at hz
            exact hsm.out j y z hy hz
          · have hji : j = i := by
              have := (List.getElem?_eq_some_iff.1 hz).1
              simp at this
              omega
            subst hji
            rw [List.getElem?_append_right (by omega)] at hz
            simp [hul] at hz
            subst hz
            rw [hx] at hy
            cases hy
            exact hs8
        rw [hul] at hPf hMf hBf
        go_wp2_with fail
        go_roundw
        case rel => exact ⟨i + 1, us ++ [t8], _, _, _, by go_num, by omega, by simp [hul], hsf, hPf, hMf, hBf⟩
        case measure => simp [intOf]; omega
    · obtain rfl : i = t.kids.length := by omega
      obtain ⟨a', c', rfl, hO⟩ := hA.out.done
      have hMo := hM.out
      have d3 : wr.cell? ⟨w.heap.size, 3, none⟩ = some (.slice t.base t.kids.length t.cap) := hMo.box.c3
      have q0 : wr.cell? ⟨w.heap.size + 1 + 1, 0, none⟩ = some (.int .i64 t.kind) := hMo.k0
      have q1 : wr.cell? ⟨w.heap.size + 1 + 1, 1, none⟩ = some (.int .i64 t.num) := hMo.k1
      have q2 : wr.cell? ⟨w.heap.size + 1 + 1, 2, none⟩ = some (.string t.name) := hMo.k2
      have q3 : wr.cell? ⟨w.heap.size + 1 + 1, 3, none⟩ = some (.slice a' us.length c') := hMo.k3
      have hr1 := hMo.r1
      obtain ⟨p0, t0⟩ := hr1.cell (o := 0) (by omega)
      obtain ⟨p1, t1⟩ := hr1.cell (o := 1) (by omega)
      obtain ⟨p2, t2⟩ := hr1.cell (o := 2) (by omega)
      obtain ⟨p3, t3⟩ := hr1.cell (o := 3) (by omega)
      have f0 := hr1.frozen 0
      have f1 := hr1.frozen 1
      have f2 := hr1.frozen 2
      have f3 := hr1.frozen 3
      rw [hul] at q3
      go_wp2
      have hK : Kept (fun k => k = w.heap.size + 1) wr ((((wr.setCell ⟨w.heap.size + 1, 0, none⟩ (.int .i64 t.kind)).setCell ⟨w.heap.size + 1, 1, none⟩ (.int .i64 t.num)).setCell ⟨w.heap.size + 1, 2, none⟩ (.string t.name)).setCell ⟨w.heap.size + 1, 3, none⟩ (.slice a' t.kids.length c')) :=
        ((((Kept.refl (fun k => k = w.heap.size + 1) wr).setCell (p := ⟨w.heap.size + 1, 0, none⟩) rfl _).setCell (p := ⟨w.heap.size + 1, 1, none⟩) rfl _).setCell (p := ⟨w.heap.size + 1, 2, none⟩) rfl _).setCell (p := ⟨w.heap.size + 1, 3, none⟩) rfl _
      first | go_returns | (refine bodyPost_ret (by simp [results, Try.results77, go_sem, *]; try rfl) rfl ?_)
      refine ⟨.mk t.kind t.num t.name a' c' us, ?_, .mk _ _ rfl rfl rfl (show us.length = t.kids.length from hul) (fun j p q hp hq => hsm.out j p q hp hq), ?_, ?_⟩
      · show _ = Ending.returned (.agg #[.int .i64 t.kind, .int .i64 t.num, .string t.name, .slice a' us.length c'])
        rw [hul]
      · exact (hO.mono (fun b h1 h2 => hK.block b h2 (fun e => by omega))).wide (by omega) hK.size
      · exact hB.trans (hK.below (by omega) (fun k e => by omega))
end Go.Proofs.Ytimfdfeleoaehaa
namespace Go.Proofs.Ytimfdfeleoaehaa
open Go.RowKit Go.Shelf
set_option linter.unusedSimpArgs false
set_option linter.unusedVariables false
attribute [local go_sem] Oper.semAt_some

theorem AccS.made (w : World) {base : Nat} (hb : base ≤ w.heap.size) : AccS (w.alloc (.cells #[] 50)) base (.slice (some ⟨w.heap.size, 0, none⟩) 0 0) [] (fun _ => 0) (fun _ => 0) :=
  ⟨World.ownsRow_made w #[] 0 hb (Nat.zero_le _) rfl, fun i h => by simp at h, fun i j _ h => by simp at h, fun i t h => by simp at h⟩
end Go.Proofs.Ytimfdfeleoaehaa
namespace Go.Proofs.Ytimfdfeleoaehaa
open Go.RowKit Go.Shelf
set_option linter.unusedSimpArgs false
set_option linter.unusedVariables false
attribute [local go_sem] Oper.semAt_some

end Go.Proofs.Ytimfdfeleoaehaa
namespace Go.Proofs.Ytimfdfeleoaehaa
open Go.RowKit Go.Shelf
set_option linter.unusedSimpArgs false
set_option linter.unusedVariables false
attribute [local go_sem] Oper.semAt_some

/-- A list appended to another: an append of none leaves all as it was but for what is new. -/
def Back0 (w w' : World) (v v' : Value) : Prop := Kept (fun k => v.ownBlock = some k) w w' ∧ (∀ g, v'.ownBlock = some g → v.ownBlock = some g ∨ g = w.heap.size) ∧ (v ≠ .slice none 0 0 → v' ≠ .slice none 0 0)
theorem operAppend0 {P : Program} (w : World) {o : Oper} {a : Act} {K : Act → World → Prop} {Q : Exit → Act → World → Prop} (s x : Operand) (t : TypeId)
    (ho : o.op = .call { callee := .builtin .append, args := #[s, x], argTypes := #[t, t] })
    (base : Nat) (e : TypeId) (i : TypeInfo) (z : Value) (size bytes : Nat) (ht : P.underlying t = some (.slice e)) (hi : P.info? e = some i) (hz : i.zero = some z)
    (hsize : i.size = size) (hby : i.bytes = bytes) (hzs : z.cells.size = size) (hsz : 0 < size)
    (v : Value) (n : Nat) (xs : List Value) (hs : a.eval s = v) (hown : w.ownsRow base e size v n xs)
    (ad : Addr) (m c : Nat) (news : List Value) (hx : a.eval x = .slice (some ad) m c) (hl : news.length = m * size) (hnews : ∀ j u, news[j]? = some u → w.cell? (ad.add j) = some u) (h1 : ∀ u ∈ news, u.oneCell' = true)
    (h63 : n + m ≤ maxLen) (hbytes : (n + m) * bytes ≤ 140737488355328) (hbase : base ≤ w.heap.size)
    (h : ∀ v' w', w'.ownsRow base e size v' (n + m) (xs ++ news) → Back0 w w' v v' → K (a.put o.dst v') w') : o.wp P a w K Q := by
  obtain ⟨v', w', hr, h2, h3, h4, h5⟩ := run_append_own_at (P := P) w base t o.type e i z size bytes ht hi hz hsize hby hzs hsz v n xs hown ad m c news hl hnews h1 h63 hbytes hbase
  unfold Oper.wp execOp
  simp only [ho, resolve, invoke, builtin, Sem.run_bind, Sem.run_pure, Result.andThen_ok, List.map_toArray, List.map_cons, List.map_nil, hs, hx, hr]
  refine h v' w' h2 ⟨⟨h3.os, h3.tape, h3.output, h3.size, fun k hk hn => h3.block k hk (fun e => hn e.symm)⟩, fun g hg => ?_, fun hn he => hn (h4.1 he).1⟩
  rcases h5 with h5 | h5
  · rw [h5] at hg; exact .inl hg
  · rw [h5] at hg; cases hg; exact .inr rfl
theorem fl12_append (us vs : List SX) : fl12 (us ++ vs) = fl12 us ++ fl12 vs := by
  induction us with
  | nil => rfl
  | cons x xs ih => rw [List.cons_append, fl12, fl12, ih, List.append_assoc]
theorem AccS.pushAll {A B : World} {base base2 : Nat} {v v' v2 : Value} {us vs : List SX} {l h l2 h2 : Nat → Nat} (hA : AccS A base v us l h) (h2A : AccS A base2 v2 vs l2 h2) (hlo : ∀ i, i < us.length → h i ≤ base2) (hb : base ≤ base2) (hv : ∀ g, v.ownBlock = some g → g < base2)
    (hown : B.ownsRow base 50 12 v' (us.length + vs.length) (fl12 us ++ fl12 vs)) (hback : Back0 A B v v') :
    AccS B base v' (us ++ vs) (fun i => if i < us.length then l i else l2 (i - us.length)) (fun i => if i < us.length then h i else h2 (i - us.length)) := by
  obtain ⟨hk, hv', -⟩ := hback
  have hz := hk.size
  refine ⟨?_, fun i hi' => ?_, fun i j hij hj => ?_, fun i y hy => ?_⟩
  · rw [fl12_append, List.length_append]
    exact hown
  · rw [List.length_append] at hi'
    by_cases e : i < us.length
    · simp only [e, if_true]
      obtain ⟨h1, h2, h3⟩ := hA.int i e
      refine ⟨h1, by omega, fun g hg => ?_⟩
      rcases hv' g hg with h4 | h4
      · exact h3 g h4
      · right; omega
    · simp only [e, if_false]
      obtain ⟨h1, h2, h3⟩ := h2A.int (i - us.length) (by omega)
      refine ⟨by omega, by omega, fun g hg => ?_⟩
      rcases hv' g hg with h4 | h4
      · have := hv g h4; left; omega
      · right; omega
  · rw [List.length_append] at hj
    by_cases e : j < us.length
    · have e' : i < us.length := by omega
      simp only [e, e', if_true]
      exact hA.ord i j hij e
    · by_cases e' : i < us.length
      · simp only [e, e', if_true, if_false]
        have q1 := hlo i e'
        have q2 := (h2A.int (j - us.length) (by omega)).1
        omega
      · simp only [e, e', if_false]
        exact h2A.ord _ _ (by omega) (by omega)
  · by_cases e : i < us.length
    · rw [List.getElem?_append_left e] at hy
      simp only [e, if_true]
      obtain ⟨h1, h2, h3⟩ := hA.int i e
      exact (hA.kid i y hy).mono (fun b q1 q2 => hk.block b (by omega) (fun h => by rcases h3 b h with h9 | h9 <;> omega))
    · rw [List.getElem?_append_right (by omega)] at hy
      simp only [e, if_false]
      have hi2 := (List.getElem?_eq_some_iff.1 hy).1
      obtain ⟨h1, h2, h3⟩ := h2A.int _ hi2
      exact (h2A.kid _ y hy).mono (fun b q1 q2 => hk.block b (by omega) (fun h => by have := hv b h; omega))
theorem wpList_append0 {P : Program} (w : World) {ops : Array Oper} {rest : List Oper} {o : Oper} {a : Act} {Q : Exit → Act → World → Prop} (hgd : o.guard = none) (s x : Operand) (t : TypeId)
    (ho : o.op = .call { callee := .builtin .append, args := #[s, x], argTypes := #[t, t] })
    (base : Nat) (e : TypeId) (i : TypeInfo) (z : Value) (size bytes : Nat) (ht : P.underlying t = some (.slice e)) (hi : P.info? e = some i) (hz : i.zero = some z)
    (hsize : i.size = size) (hby : i.bytes = bytes) (hzs : z.cells.size = size) (hsz : 0 < size)
    (v : Value) (n : Nat) (xs : List Value) (hs : a.eval s = v) (hown : w.ownsRow base e size v n xs)
    (ad : Addr) (m c : Nat) (news : List Value) (hx : a.eval x = .slice (some ad) m c) (hl : news.length = m * size) (hnews : ∀ j u, news[j]? = some u → w.cell? (ad.add j) = some u) (h1 : ∀ u ∈ news, u.oneCell' = true)
    (h63 : n + m ≤ maxLen) (hbytes : (n + m) * bytes ≤ 140737488355328) (hbase : base ≤ w.heap.size)
    (h : ∀ v' w', w'.ownsRow base e size v' (n + m) (xs ++ news) → Back0 w w' v v' → wpList P ops Q rest (a.put o.dst v') w') : wpList P ops Q (o :: rest) a w :=
  wpList_plain hgd fun K hK => operAppend0 w s x t ho base e i z size bytes ht hi hz hsize hby hzs hsz v n xs hs hown ad m c news hx hl hnews h1 h63 hbytes hbase (fun v' w' h2 h3 => hK _ _ (h v' w' h2 h3))
mutual
def SX.flat : SX → List SX
  | .mk k n e f a c la b d lb => .mk k n e f a c la b d lb :: (SX.flatAll la ++ SX.flatAll lb)
def SX.flatAll : List SX → List SX
  | [] => []
  | t :: ts => SX.flat t ++ SX.flatAll ts
end
theorem SX.flat_eq (s : SX) : s.flat = s :: (SX.flatAll s.la ++ SX.flatAll s.lb) := by cases s; rfl
theorem SX.flatAll_append (us bs : List SX) : SX.flatAll (us ++ bs) = SX.flatAll us ++ SX.flatAll bs := by
  induction us with
  | nil => simp [SX.flatAll]
  | cons x xs ih => simp [SX.flatAll, ih]
theorem SX.flatAll_take {ks : List SX} {i : Nat} {t : SX} (h : ks[i]? = some t) : SX.flatAll (ks.take (i + 1)) = SX.flatAll (ks.take i) ++ t.flat := by
  rw [List.take_add_one, h, SX.flatAll_append]
  simp [SX.flatAll]
theorem SX.flatAll_take_le (ks : List SX) (i : Nat) : (SX.flatAll (ks.take i)).length ≤ (SX.flatAll ks).length := by
  have h : SX.flatAll ks = SX.flatAll (ks.take i) ++ SX.flatAll (ks.drop i) := by rw [← SX.flatAll_append, List.take_append_drop]
  rw [h, List.length_append]
  omega
mutual
theorem SX.within_flat : ∀ (s : SX) (r : Int), (s.within r).map Prod.snd = s.flat
  | .mk k n e f a c la b d lb, r => by
    have h1 := SX.withinAll_flat la (wrap64 (r + 1))
    have h2 := SX.withinAll_flat lb (wrap64 (r + 1))
    simp [SX.within, SX.flat, h1, h2]
theorem SX.withinAll_flat : ∀ (ks : List SX) (r : Int), (SX.withinAll ks r).map Prod.snd = SX.flatAll ks
  | [], r => by simp [SX.withinAll, SX.flatAll]
  | t :: ts, r => by
    have h1 := SX.within_flat t r
    have h2 := SX.withinAll_flat ts r
    simp [SX.withinAll, SX.flatAll, h1, h2]
end
mutual
theorem SX.flat_le : ∀ (s : SX), s.flat.length ≤ s.size
  | .mk k n e f a c la b d lb => by
    have h1 := SX.flatAll_le la
    have h2 := SX.flatAll_le lb
    simp [SX.flat, SX.size_eq, SX.la, SX.lb]
    omega
theorem SX.flatAll_le : ∀ (ks : List SX), (SX.flatAll ks).length ≤ SX.sizeAll ks
  | [] => by simp [SX.flatAll]
  | t :: ts => by
    have h1 := SX.flat_le t
    have h2 := SX.flatAll_le ts
    simp [SX.flatAll, SX.sizeAll]
    omega
end
/-- Two lists of statements, one by one the same. -/
def SameL (xs us : List SX) : Prop := us.length = xs.length ∧ ∀ (i : Nat) (x y : SX), xs[i]? = some x → us[i]? = some y → SameS x y
theorem SameL.nil : SameL [] [] := ⟨rfl, fun i x y h => by simp at h⟩
theorem SameL.one {x y : SX} (h : SameS x y) : SameL [x] [y] := ⟨rfl, fun i a b ha hb => by
  match i, ha, hb with
  | 0, ha, hb => simp at ha hb; subst ha hb; exact h⟩
theorem SameL.append {xs us ys vs : List SX} (h : SameL xs us) (k : SameL ys vs) : SameL (xs ++ ys) (us ++ vs) := by
  refine ⟨by simp [h.1, k.1], fun i a b ha hb => ?_⟩
  by_cases hi : i < us.length
  · rw [List.getElem?_append_left hi] at hb
    rw [List.getElem?_append_left (by rw [← h.1]; exact hi)] at ha
    exact h.2 i a b ha hb
  · rw [List.getElem?_append_right (by omega)] at hb
    rw [List.getElem?_append_right (by have := h.1; omega)] at ha
    rw [h.1] at hb
    exact k.2 _ a b ha hb
end Go.Proofs.Ytimfdfeleoaehaa
namespace Go.Proofs.Ytimfdfeleoaehaa
open Go.RowKit Go.Shelf
set_option linter.unusedSimpArgs false
set_option linter.unusedVariables false
attribute [local go_sem] Oper.semAt_some

theorem AccS.cellsOf {W : World} {base n : Nat} {v : Value} {us : List SX} {l h : Nat → Nat} (hA : AccS W base v us l h) (hn : v ≠ .slice none 0 0) : ∃ g cap, v = .slice (some ⟨g, 0, none⟩) us.length cap ∧ ∀ j u, (fl12 us)[j]? = some u → W.cell? ((⟨g, 0, none⟩ : Addr).add j) = some u := by
  rcases hA.own.2 with ⟨e, -⟩ | ⟨g, cap, cur, rfl, -⟩
  · exact absurd e hn
  · exact ⟨g, cap, rfl, hA.own.cells (g := g) rfl⟩
theorem fl12_one (us : List SX) : ∀ u ∈ fl12 us, u.oneCell' = true := by
  induction us with
  | nil => simp [fl12]
  | cons x xs ih =>
    intro u hu
    rw [fl12, List.mem_append] at hu
    rcases hu with hu | hu
    · simp [SX.vals] at hu
      rcases hu with rfl | rfl | rfl | rfl | rfl | rfl | rfl | rfl | rfl | rfl | rfl | rfl <;> rfl
    · exact ih u hu

end Go.Proofs.Ytimfdfeleoaehaa
