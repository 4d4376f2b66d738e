/-
  When two expressions are the same, and that the program's and the specification's comparison of expressions both say so.
  An append that leaves the shorter list readable behind it; an expression and a statement are told by the memory that they lie in.
-/
import Derived.Test.YtimfdfeleoaehaaTreeI
import Derived.Test.YtimfdfeleoaehaaStmtB
import Derived.Maps.AppendAt
namespace Go.Proofs.Ytimfdfeleoaehaa
open Go.RowKit Go.Shelf
set_option linter.unusedSimpArgs false
set_option linter.unusedVariables false
attribute [local go_sem] Oper.semAt_some

def allZ {α : Type} (f : α → α → Bool) : List α → List α → Bool
  | [], [] => true
  | x :: xs, y :: ys => f x y && allZ f xs ys
  | [], _ :: _ => false
  | _ :: _, [] => false
theorem allZ_len {α : Type} (f : α → α → Bool) : ∀ (ks us : List α), ks.length ≠ us.length → allZ f ks us = false
  | [], [], h => absurd rfl h
  | [], _ :: _, _ => rfl
  | _ :: _, [], _ => rfl
  | x :: xs, y :: ys, h => by
    have := allZ_len f xs ys (by simpa using h)
    simp [allZ, this]
theorem allZ_bad {α : Type} {f : α → α → Bool} : ∀ {ks us : List α} {i : Nat} {x y : α}, ks[i]? = some x → us[i]? = some y → f x y = false → allZ f ks us = false
  | [], _, i, _, _, h, _, _ => by simp at h
  | _ :: _, [], i, _, _, _, h, _ => by simp at h
  | a :: as', b :: bs, 0, x, y, hx, hy, hf => by
    simp at hx hy
    subst hx
    subst hy
    simp [allZ, hf]
  | a :: as', b :: bs, i + 1, x, y, hx, hy, hf => by
    have := allZ_bad (ks := as') (us := bs) (i := i) (by simpa using hx) (by simpa using hy) hf
    simp [allZ, this]
theorem allZ_all {α : Type} {f : α → α → Bool} : ∀ {ks us : List α}, ks.length = us.length → (∀ (i : Nat) (x y : α), ks[i]? = some x → us[i]? = some y → f x y = true) → allZ f ks us = true
  | [], [], _, _ => rfl
  | [], _ :: _, h, _ => by simp at h
  | _ :: _, [], h, _ => by simp at h
  | x :: xs, y :: ys, h, H => by
    have h1 := H 0 x y rfl rfl
    have h2 := allZ_all (f := f) (ks := xs) (us := ys) (by simpa using h) (fun i a b ha hb => H (i + 1) a b (by simpa using ha) (by simpa using hb))
    simp [allZ, h1, h2]
def upToZ {α : Type} (f : α → α → Bool) (ks us : List α) (i : Nat) : Prop := ∀ (j : Nat) (x y : α), j < i → ks[j]? = some x → us[j]? = some y → f x y = true
theorem upToZ_next {α : Type} {f : α → α → Bool} {ks us : List α} {i : Nat} {x y : α} (h : upToZ f ks us i) (hx : ks[i]? = some x) (hy : us[i]? = some y) (hf : f x y = true) : upToZ f ks us (i + 1) := by
  intro j x' y' hj hx' hy'
  by_cases e : j = i
  · subst e
    rw [hx] at hx'
    rw [hy] at hy'
    cases hx'
    cases hy'
    exact hf
  · exact h j x' y' (by omega) hx' hy'
theorem upToZ_all {α : Type} {f : α → α → Bool} {ks us : List α} {i : Nat} (h : upToZ f ks us i) (hl : ks.length = us.length) (hi : ks.length ≤ i) : allZ f ks us = true :=
  allZ_all hl (fun j x y hx hy => h j x y (by have := (List.getElem?_eq_some_iff.1 hx).1; omega) hx hy)
mutual
def XT.sameB : XT → XT → Bool
  | .mk k n s _ _ ks, u => decide (k = u.kind) && (decide (n = u.num) && ((s.toList == u.name.toList) && XT.sameL ks u.kids))
def XT.sameL : List XT → List XT → Bool
  | [], us => match us with
    | [] => true
    | _ :: _ => false
  | t :: ts, us => match us with
    | [] => false
    | v :: vs => XT.sameB t v && XT.sameL ts vs
end
theorem XT.sameL_eq : ∀ ks us : List XT, XT.sameL ks us = allZ XT.sameB ks us
  | [], [] => by simp [XT.sameL, allZ]
  | [], _ :: _ => by simp [XT.sameL, allZ]
  | _ :: _, [] => by simp [XT.sameL, allZ]
  | x :: xs, y :: ys => by simp [XT.sameL, allZ, XT.sameL_eq xs ys]
theorem XT.sameB_eq (t u : XT) : t.sameB u = (decide (t.kind = u.kind) && (decide (t.num = u.num) && ((t.name.toList == u.name.toList) && allZ XT.sameB t.kids u.kids))) := by
  cases t
  rw [XT.sameB, XT.sameL_eq]
  rfl
def ERow (ok : Nat → Prop) (W : World) (a : Option Addr) (ks : List XT) : Prop := ∀ (i : Nat) (k : XT), ks[i]? = some k → ∃ b o, a = some ⟨b, o, none⟩ ∧ ok b ∧ Cells4 W b (o + i * 4) k

end Go.Proofs.Ytimfdfeleoaehaa
namespace Go.Proofs.Ytimfdfeleoaehaa
open Go.RowKit Go.Shelf
set_option linter.unusedSimpArgs false
set_option linter.unusedVariables false
attribute [local go_sem] Oper.semAt_some

theorem own_on {A C : World} {base : Nat} {e : TypeId} {size n : Nat} {v : Value} {xs : List Value} (h : A.ownsRow base e size v n xs) (hb : ∀ g, v.ownBlock = some g → C.heap[g]? = A.heap[g]?) : C.ownsRow base e size v n xs := by
  refine ⟨h.1, ?_⟩
  rcases h.2 with hn | ⟨g, cap, cur, rfl, h1, h2, h3⟩
  · exact .inl hn
  · exact .inr ⟨g, cap, cur, rfl, h1, (hb g rfl).trans h2, h3⟩
/-- What an append of at least one element leaves: the list lies in the old block and the old list can be read back from it, or it lies in a new block and nothing that was there has changed. -/
def Back (w w' : World) (base : Nat) (e : TypeId) (size n m : Nat) (v v' : Value) (xs news : List Value) : Prop :=
  (v'.ownBlock = v.ownBlock ∧ v.ownBlock ≠ none ∧ w.grownBy w' v.ownBlock ∧ ∀ W : World, W.ownsRow base e size v' (n + m) (xs ++ news) → W.ownsRow base e size v n xs) ∨
  (v'.ownBlock = some w.heap.size ∧ Below w.heap.size w w')
theorem grown_below {w w' : World} (h : w.grownBy w' none) : Below w.heap.size w w' := ⟨h.os, h.tape, h.output, h.size, fun k hk => h.block k hk (by simp)⟩
theorem run_append_back {P : Program} (w : World) (base : Nat) (t ty e : TypeId) (i : TypeInfo) (z : Value) (size bytes : Nat) (ht : P.underlying t = some (.slice e)) (hi : P.info? e = some i) (hz : i.zero = some z)
    (hsize : i.size = size) (hby : i.bytes = bytes) (hzs : z.cells.size = size) (hsz : 0 < size)
    (v : Value) (n : Nat) (xs : List Value) (hown : w.ownsRow base e size v n xs)
    (a : Addr) (m c : Nat) (news : List Value) (hl : news.length = m * size) (hnews : ∀ j u, news[j]? = some u → w.cell? (a.add j) = some u) (h1 : ∀ u ∈ news, u.oneCell' = true)
    (h63 : n + m ≤ maxLen) (hbytes : (n + m) * bytes ≤ 140737488355328) (hbase : base ≤ w.heap.size) (hm : 0 < m) :
    ∃ v' w', (Builtin.append_ #[t, t] ty #[v, .slice (some a) m c]).run P w = .ok v' w' ∧ w'.ownsRow base e size v' (n + m) (xs ++ news) ∧ Back w w' base e size n m v v' xs news := by
  obtain ⟨v', w', hr, h2, h3, h4, h5⟩ := run_append_own_at (P := P) w base t ty e i z size bytes ht hi hz hsize hby hzs hsz v n xs hown a m c news hl hnews h1 h63 hbytes hbase
  refine ⟨v', w', hr, h2, ?_⟩
  have hsmall : n + m ≤ 9223372036854775807 := by simp only [maxLen] at h63; omega
  rcases hown.2 with ⟨rfl, rfl⟩ | ⟨g, cap, cur, rfl, hbg, hg, hnc, hcm, hcs, htake⟩
  · right
    rcases h5 with h5 | h5
    · exfalso
      obtain ⟨g, cap, rfl, -, -⟩ : ∃ g cap, v' = .slice (some ⟨g, 0, none⟩) (0 + m) cap ∧ base ≤ g ∧ True := by
        rcases h2.2 with ⟨_, h0⟩ | ⟨g, cap, cur, hv, hb, _⟩
        · omega
        · exact ⟨g, cap, hv, hb, trivial⟩
      simp [Value.ownBlock] at h5
    · exact ⟨h5, grown_below h3⟩
  · by_cases hroom : n + m ≤ cap
    · left
      have hfit : n * i.size + news.length ≤ cur.size := by rw [hsize, hl, hcs, ← Nat.add_mul]; exact Nat.mul_le_mul_right _ hroom
      have hr' := run_append_room (P := P) w t ty e i ht hi g n cap cur hg a m c news (by rw [hsize]; exact hl) hnews h1 hroom hfit
      rw [hr'] at hr
      cases hr
      refine ⟨rfl, by simp [Value.ownBlock], h3, fun W hW => ⟨hown.1, .inr ?_⟩⟩
      rcases hW.2 with ⟨h6, _⟩ | ⟨g2, cap2, cur2, h6, q1, q2, q3, q4, q5, q6⟩
      · cases h6
      · cases h6
        refine ⟨g, cap, cur2, rfl, hbg, q2, hnc, hcm, q5, ?_⟩
        have h7 := congrArg (List.take (n * size)) q6
        rw [List.take_take, Nat.min_eq_left (Nat.mul_le_mul_right _ (by omega)), List.take_append_of_le_length (by rw [hown.1]; exact Nat.le_refl _), List.take_of_length_le (l := xs) (by rw [hown.1]; exact Nat.le_refl _)] at h7
        exact h7
    · right
      have holds : ∀ j u, xs[j]? = some u → w.cell? ((⟨g, 0, none⟩ : Addr).add j) = some u := hown.cells (g := g) rfl
      have hr' := run_append_grow (P := P) w t ty e i z ht hi hz ⟨g, 0, none⟩ n cap xs (by rw [hsize]; exact hown.1) holds a m c news (by rw [hsize]; exact hl) hnews (by omega) (by omega) (growslice_fits (by omega) (by rw [hby]; exact hbytes))
      rw [hr'] at hr
      cases hr
      exact ⟨rfl, ((Below.refl _ w).drew).alloc (Nat.le_refl _) _⟩
theorem wpList_append_back {P : Program} (w : World) {ops : Array Oper} {rest : List Oper} {o : Oper} {a : Act} {Q : Exit → Act → World → Prop} (hgd : o.guard = none) (s x : Operand) (t : TypeId)
    (ho : o.op = .call { callee := .builtin .append, args := #[s, x], argTypes := #[t, t] })
    (base : Nat) (e : TypeId) (i : TypeInfo) (z : Value) (size bytes : Nat) (ht : P.underlying t = some (.slice e)) (hi : P.info? e = some i) (hz : i.zero = some z)
    (hsize : i.size = size) (hby : i.bytes = bytes) (hzs : z.cells.size = size) (hsz : 0 < size)
    (v : Value) (n : Nat) (xs : List Value) (hs : a.eval s = v) (hown : w.ownsRow base e size v n xs)
    (ad : Addr) (m c : Nat) (news : List Value) (hx : a.eval x = .slice (some ad) m c) (hl : news.length = m * size) (hnews : ∀ j u, news[j]? = some u → w.cell? (ad.add j) = some u) (h1 : ∀ u ∈ news, u.oneCell' = true)
    (h63 : n + m ≤ maxLen) (hbytes : (n + m) * bytes ≤ 140737488355328) (hbase : base ≤ w.heap.size) (hm : 0 < m)
    (h : ∀ v' w', w'.ownsRow base e size v' (n + m) (xs ++ news) → Back w w' base e size n m v v' xs news → wpList P ops Q rest (a.put o.dst v') w') : wpList P ops Q (o :: rest) a w := by
  refine wpList_plain hgd fun K hK => ?_
  obtain ⟨v', w', hr, h2, h3⟩ := run_append_back (P := P) w base t o.type e i z size bytes ht hi hz hsize hby hzs hsz v n xs hown ad m c news hl hnews h1 h63 hbytes hbase hm
  unfold Oper.wp execOp
  simp only [ho, resolve, invoke, builtin, Sem.run_bind, Sem.run_pure, Result.andThen_ok, List.map_toArray, List.map_cons, List.map_nil, hs, hx, hr]
  exact hK _ _ (h v' w' h2 h3)
/-- Behind an append, and a call that keeps all but the longer list's spare room: the shorter list lies as it lay. -/
theorem Back.on {w w1 w2 : World} {base : Nat} {e : TypeId} {size n m : Nat} {v v' : Value} {xs news : List Value} (h : Back w w1 base e size n m v v' xs news) (hown : w.ownsRow base e size v n xs) (hk : Kept (fun k => v'.ownBlock = some k) w1 w2) (h2 : w2.ownsRow base e size v' (n + m) (xs ++ news)) :
    Kept (fun k => v.ownBlock = some k) w w2 ∧ w2.ownsRow base e size v n xs := by
  rcases h with ⟨h1, -, h3, h4⟩ | ⟨h1, h3⟩
  · refine ⟨?_, h4 w2 h2⟩
    rw [h1] at hk
    exact (show Kept (fun k => v.ownBlock = some k) w w1 from ⟨h3.os, h3.tape, h3.output, h3.size, fun k hk hs => h3.block k hk (fun e => hs e.symm)⟩).trans hk
  · have hK : Kept (fun k => v.ownBlock = some k) w w2 := by
      refine ⟨hk.os.trans h3.os, hk.tape.trans h3.tape, hk.output.trans h3.output, Nat.le_trans h3.size hk.size, fun k hk' hs => ?_⟩
      exact (hk.block k (Nat.lt_of_lt_of_le hk' h3.size) (fun e => by rw [h1] at e; cases e; omega)).trans (h3.block k hk')
    refine ⟨hK, own_on hown (fun g hg => ?_)⟩
    have hlt := (hown.lt g hg).2
    exact (hk.block g (Nat.lt_of_lt_of_le hlt h3.size) (fun e => by rw [h1] at e; cases e; omega)).trans (h3.block g hlt)
theorem Back.kept {w w1 : World} {base : Nat} {e : TypeId} {size n m : Nat} {v v' : Value} {xs news : List Value} (h : Back w w1 base e size n m v v' xs news) : Kept (fun k => v.ownBlock = some k ∨ v'.ownBlock = some k) w w1 := by
  rcases h with ⟨h1, -, h3, h4⟩ | ⟨h1, h3⟩
  · exact ⟨h3.os, h3.tape, h3.output, h3.size, fun k hk hs => h3.block k hk (fun e => hs (.inl e.symm))⟩
  · exact Kept.of_new _ h3
theorem Cells4.heads {W : World} {b o : Nat} {t u : XT} (h : Cells4 W b o t) (k : Cells4 W b o u) : t.kind = u.kind ∧ t.num = u.num ∧ t.name = u.name ∧ t.base = u.base ∧ t.kids.length = u.kids.length ∧ t.cap = u.cap := by
  have h0 := h.c0.symm.trans k.c0
  have h1 := h.c1.symm.trans k.c1
  have h2 := h.c2.symm.trans k.c2
  have h3 := h.c3.symm.trans k.c3
  simp only [Option.some.injEq, Value.int.injEq, Value.string.injEq, Value.slice.injEq, true_and] at h0 h1 h2 h3
  exact ⟨h0, h1, h2, h3.1, h3.2.1, h3.2.2⟩
theorem Lies.one {ok : Nat → Prop} {W : World} (sz : Nat) : ∀ t u : XT, t.size ≤ sz → (t.kind = u.kind ∧ t.num = u.num ∧ t.name = u.name ∧ t.base = u.base ∧ t.kids.length = u.kids.length ∧ t.cap = u.cap) → Lies ok W t → Lies ok W u → t = u := by
  induction sz with
  | zero => intro t u h; rw [XT.size_eq] at h; omega
  | succ sz ih =>
    intro t u hsz ⟨h1, h2, h3, h4, h5, h6⟩ hL hU
    have hk : t.kids = u.kids := by
      refine List.ext_getElem? (fun i => ?_)
      by_cases hi : i < t.kids.length
      · have ht := List.getElem?_eq_getElem hi
        have hu := List.getElem?_eq_getElem (l := u.kids) (i := i) (by omega)
        obtain ⟨b1, o1, e1, -, k1⟩ := hL.cells i _ ht
        obtain ⟨b2, o2, e2, -, k2⟩ := hU.cells i _ hu
        rw [h4, e2] at e1
        cases e1
        rw [ht, hu]
        exact congrArg some (ih _ _ (by have h7 := XT.size_get ht; have h8 := t.size_eq; omega) (k1.heads k2) (hL.kid i _ ht) (hU.kid i _ hu))
      · rw [List.getElem?_eq_none (by omega), List.getElem?_eq_none (by omega)]
    cases t
    cases u
    simp only [XT.kind, XT.num, XT.name, XT.base, XT.cap, XT.kids] at *
    subst h1 h2 h3 h4 h6 hk
    rfl
theorem Cells12.heads {W : World} {b o : Nat} {t u : SX} (h : Cells12 W b o t) (k : Cells12 W b o u) : t.kind = u.kind ∧ t.name = u.name ∧ (t.e.kind = u.e.kind ∧ t.e.num = u.e.num ∧ t.e.name = u.e.name ∧ t.e.base = u.e.base ∧ t.e.kids.length = u.e.kids.length ∧ t.e.cap = u.e.cap) ∧ (t.f.kind = u.f.kind ∧ t.f.num = u.f.num ∧ t.f.name = u.f.name ∧ t.f.base = u.f.base ∧ t.f.kids.length = u.f.kids.length ∧ t.f.cap = u.f.cap) ∧
    (t.abase = u.abase ∧ t.la.length = u.la.length ∧ t.acap = u.acap) ∧ (t.bbase = u.bbase ∧ t.lb.length = u.lb.length ∧ t.bcap = u.bcap) := by
  have h0 := h.c0.symm.trans k.c0
  have h1 := h.c1.symm.trans k.c1
  have h2 := h.c2.symm.trans k.c2
  have h3 := h.c3.symm.trans k.c3
  have h4 := h.c4.symm.trans k.c4
  have h5 := h.c5.symm.trans k.c5
  have h6 := h.c6.symm.trans k.c6
  have h7 := h.c7.symm.trans k.c7
  have h8 := h.c8.symm.trans k.c8
  have h9 := h.c9.symm.trans k.c9
  have h10 := h.c10.symm.trans k.c10
  have h11 := h.c11.symm.trans k.c11
  simp only [Option.some.injEq, Value.int.injEq, Value.string.injEq, Value.slice.injEq, true_and] at h0 h1 h2 h3 h4 h5 h6 h7 h8 h9 h10 h11
  exact ⟨h0, h1, ⟨h2, h3, h4, h5⟩, ⟨h6, h7, h8, h9⟩, h10, h11⟩
theorem LiesS.one {ok : Nat → Prop} {W : World} (sz : Nat) : ∀ t u : SX, t.size ≤ sz → (∃ b o, Cells12 W b o t ∧ Cells12 W b o u) → LiesS ok W t → LiesS ok W u → t = u := by
  induction sz with
  | zero => intro t u h; rw [SX.size_eq] at h; omega
  | succ sz ih =>
    intro t u hsz ⟨b, o, hc, hd⟩ hL hU
    obtain ⟨h1, h2, h3, h4, ⟨h5, h6, h7⟩, h8, h9, h10⟩ := hc.heads hd
    obtain ⟨l1, l2, l3, l4, l5, l6⟩ := hL.parts
    obtain ⟨u1, u2, u3, u4, u5, u6⟩ := hU.parts
    have he := Lies.one _ t.e u.e (Nat.le_refl _) h3 l1 u1
    have hf := Lies.one _ t.f u.f (Nat.le_refl _) h4 l2 u2
    have hse := t.size_eq
    have hrow : ∀ (a a' : Option Addr) (ks us : List SX), SX.sizeAll ks ≤ sz → a = a' → ks.length = us.length → SRow ok W a ks → SRow ok W a' us → (∀ (i : Nat) (k : SX), ks[i]? = some k → LiesS ok W k) → (∀ (i : Nat) (k : SX), us[i]? = some k → LiesS ok W k) → ks = us := by
      intro a a' ks us hz ha hl hr hr' hk hk'
      subst ha
      refine List.ext_getElem? (fun i => ?_)
      by_cases hi : i < ks.length
      · have ht := List.getElem?_eq_getElem hi
        have hu := List.getElem?_eq_getElem (l := us) (i := i) (by omega)
        obtain ⟨b1, o1, e1, -, k1⟩ := hr i _ ht
        obtain ⟨b2, o2, e2, -, k2⟩ := hr' i _ hu
        rw [e2] at e1
        cases e1
        rw [ht, hu]
        exact congrArg some (ih _ _ (by have h7 := SX.size_get ht; omega) ⟨_, _, k1, k2⟩ (hk i _ ht) (hk' i _ hu))
      · rw [List.getElem?_eq_none (by omega), List.getElem?_eq_none (by omega)]
    have hla := hrow _ _ t.la u.la (by omega) h5 h6 l3 u3 l5 u5
    have hlb := hrow _ _ t.lb u.lb (by omega) h8 h9 l4 u4 l6 u6
    cases t
    cases u
    simp only [SX.kind, SX.name, SX.e, SX.f, SX.abase, SX.acap, SX.la, SX.bbase, SX.bcap, SX.lb] at *
    subst h1 h2 h5 h7 h8 h10 he hf hla hlb
    rfl
end Go.Proofs.Ytimfdfeleoaehaa
