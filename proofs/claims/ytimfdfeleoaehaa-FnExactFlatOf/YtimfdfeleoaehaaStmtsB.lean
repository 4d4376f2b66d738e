/-
  All statements of a list: what the program answers.
-/
import Derived.Test.YtimfdfeleoaehaaStmtsA
import Derived.Test.YtimfdfeleoaehaaIterB
import Derived.Test.YtimfdfeleoaehaaHoldE
namespace Go.Proofs.Ytimfdfeleoaehaa
open Go.RowKit Go.Shelf
set_option linter.unusedSimpArgs false
set_option linter.unusedVariables false
attribute [local go_sem] Oper.semAt_some

mutual
theorem SX.within_le : ∀ (s : SX) (r : Int), (s.within r).length ≤ s.size
  | .mk k n e f a c la b d lb, r => by
    have h1 := SX.withinAll_le la (wrap64 (r + 1))
    have h2 := SX.withinAll_le lb (wrap64 (r + 1))
    simp [SX.within, SX.size_eq, SX.la, SX.lb]
    omega
theorem SX.withinAll_le : ∀ (ks : List SX) (r : Int), (SX.withinAll ks r).length ≤ SX.sizeAll ks
  | [], r => by simp [SX.withinAll]
  | t :: ts, r => by
    have h1 := SX.within_le t r
    have h2 := SX.withinAll_le ts r
    simp [SX.withinAll, SX.sizeAll]
    omega
end
/-- The state of the rounds: the list so far lies in the box; what it owns. -/
def StB (w : World) (base : Nat) (pre : List (Int × SX)) (O : Nat → Prop) (X : World) : Prop :=
  ∃ (v : Value) (us : List SX) (l h : Nat → Nat), Boxed X w.heap.size 26 v ∧ us.length = pre.length ∧ (∀ (i : Nat) (x : Int × SX) (y : SX), pre[i]? = some x → us[i]? = some y → SameS x.2 y) ∧ AccS X base v us l h ∧ Below w.heap.size w X ∧
    (∀ k, v.ownBlock = some k → O k) ∧ (∀ i k, i < us.length → l i ≤ k → k < h i → O k) ∧ ∀ k, O k → base ≤ k ∧ k < X.heap.size
theorem StB.stable {w : World} {base n : Nat} {pre : List (Int × SX)} {O : Nat → Prop} {A B : World} (hn : w.heap.size < n) (h : Kept (off n O) A B) (hA : StB w base pre O A) : StB w base pre O B := by
  obtain ⟨v, us, l, hh, h1, h2, h3, h4, h5, h6, h7, h8⟩ := hA
  refine ⟨v, us, l, hh, (off_block h h1.lt (.inl hn)).trans h1, h2, h3, h4.on h.size (fun k hk hq => off_block h hk (.inr ?_)), ⟨h.os.trans h5.os, h.tape.trans h5.tape, h.output.trans h5.output, Nat.le_trans h5.size h.size, fun k hk => (off_block h (Nat.lt_of_lt_of_le hk h5.size) (.inl (by omega))).trans (h5.block k hk)⟩, h6, h7, fun k hk => ⟨(h8 k hk).1, Nat.lt_of_lt_of_le (h8 k hk).2 h.size⟩⟩
  rcases hq with hq | ⟨i, q1, q2, q3⟩
  · exact h6 k hq
  · exact h7 i k q1 q2 q3

theorem operAppend {P : Program} (w : World) {o : Oper} {a : Act} {K : Act → World → Prop} {Q : Exit → Act → World → Prop} (s x : Operand) (t : TypeId)
    (ho : o.op = .call { callee := .builtin .append, args := #[s, x], argTypes := #[t, t] })
    (base : Nat) (e : TypeId) (i : TypeInfo) (z : Value) (size bytes : Nat) (ht : P.underlying t = some (.slice e)) (hi : P.info? e = some i) (hz : i.zero = some z)
    (hsize : i.size = size) (hby : i.bytes = bytes) (hzs : z.cells.size = size) (hsz : 0 < size)
    (v : Value) (n : Nat) (xs : List Value) (hs : a.eval s = v) (hown : w.ownsRow base e size v n xs)
    (ad : Addr) (m c : Nat) (news : List Value) (hx : a.eval x = .slice (some ad) m c) (hl : news.length = m * size) (hnews : ∀ j u, news[j]? = some u → w.cell? (ad.add j) = some u) (h1 : ∀ u ∈ news, u.oneCell' = true)
    (h63 : n + m ≤ maxLen) (hbytes : (n + m) * bytes ≤ 140737488355328) (hbase : base ≤ w.heap.size) (hm : 0 < m)
    (h : ∀ v' w', w'.ownsRow base e size v' (n + m) (xs ++ news) → Back w w' base e size n m v v' xs news → K (a.put o.dst v') w') : o.wp P a w K Q := by
  obtain ⟨v', w', hr, h2, h3⟩ := run_append_back (P := P) w base t o.type e i z size bytes ht hi hz hsize hby hzs hsz v n xs hown ad m c news hl hnews h1 h63 hbytes hbase hm
  unfold Oper.wp execOp
  simp only [ho, resolve, invoke, builtin, Sem.run_bind, Sem.run_pure, Result.andThen_ok, List.map_toArray, List.map_cons, List.map_nil, hs, hx, hr]
  exact h v' w' h2 h3
theorem boxKept {B : World} {b : Nat} {t : TypeId} {v : Value} (h : Boxed B b t v) (u : Value) : Kept (fun k => k = b) B (B.setCell ⟨b, 0, none⟩ u) := (Kept.refl (fun k => k = b) B).setCell (p := ⟨b, 0, none⟩) rfl u
theorem if_twice {n a b : Nat} {f : Nat → Nat} : (fun i => if i = n then a else if i = n then b else f i) = (fun i => if i = n then a else f i) := by
  funext i
  by_cases h : i = n <;> simp [h]
theorem rowCells {Z : World} {base n g cap : Nat} {us : List SX} {z : SX} (hn : us.length = n) (h : Z.ownsRow base 50 12 (.slice (some ⟨g, 0, none⟩) (n + 1) cap) (n + 1) (fl12 us ++ z.vals)) : Cells12 Z g (n * 12) z := by
  have hcell : ∀ (j : Nat) (u : Value), z.vals[j]? = some u → Z.cell? ⟨g, n * 12 + j, none⟩ = some u := by
    intro j u hj
    have h0 : (fl12 us ++ z.vals)[n * 12 + j]? = some u := by
      rw [List.getElem?_append_right (by rw [fl12_length, hn]; omega), fl12_length, hn]
      rw [show n * 12 + j - n * 12 = j by omega]
      exact hj
    have h1 := h.cells (g := g) rfl _ u h0
    have hadd : (⟨g, 0, none⟩ : Addr).add (n * 12 + j) = ⟨g, n * 12 + j, none⟩ := by unfold Addr.add; split <;> simp_all
    rw [hadd] at h1
    exact h1
  exact ⟨hcell 0 _ rfl, hcell 1 _ rfl, hcell 2 _ rfl, hcell 3 _ rfl, hcell 4 _ rfl, hcell 5 _ rfl, hcell 6 _ rfl, hcell 7 _ rfl, hcell 8 _ rfl, hcell 9 _ rfl, hcell 10 _ rfl, hcell 11 _ rfl⟩
theorem StB.step {w w₂ Z : World} {base n : Nat} {pre : List (Int × SX)} {x : Int × SX} {O : Nat → Prop} {v v' : Value} {us : List SX} {l h : Nat → Nat} {t : SX} {lo hi : Nat} (hn : us.length = n) (j2 : us.length = pre.length) (j3 : ∀ (i : Nat) (x : Int × SX) (y : SX), pre[i]? = some x → us[i]? = some y → SameS x.2 y) (j5 : Below w.heap.size w w₂)
    (j6 : ∀ k, v.ownBlock = some k → O k) (j7 : ∀ i k, i < us.length → l i ≤ k → k < h i → O k) (j8 : ∀ k, O k → base ≤ k ∧ k < w₂.heap.size)
    (hA : AccS Z base v' (us ++ [t]) (fun i => if i = n then lo else l i) (fun i => if i = n then hi else h i)) (hs : SameS x.2 t) (hb : Boxed Z w.heap.size 26 v') (hK : Kept (fun k => k = w.heap.size ∨ O k) w₂ Z)
    (hv : ∀ g, v'.ownBlock = some g → v.ownBlock = some g ∨ w₂.heap.size ≤ g) (hlo : w₂.heap.size ≤ lo) (hwb : w.heap.size ≤ base) :
    ∃ O' : Nat → Prop, (∀ k, O' k → O k ∨ w₂.heap.size ≤ k) ∧ Kept (fun k => k = w.heap.size ∨ O k) w₂ Z ∧ StB w base (pre ++ [x]) O' Z := by
  refine ⟨fun k => v'.ownBlock = some k ∨ ∃ i, i < (us ++ [t]).length ∧ (if i = n then lo else l i) ≤ k ∧ k < (if i = n then hi else h i), ?_, hK, v', us ++ [t], _, _, hb, by simp [j2], ?_, hA, ?_, fun k hk => .inl hk, fun i k h1 h2 h3 => .inr ⟨i, h1, h2, h3⟩, ?_⟩
  · rintro k (hk | ⟨i, h1, h2, h3⟩)
    · exact (hv k hk).imp (j6 k) id
    · by_cases e : i = n
      · simp only [e, if_true] at h2
        exact .inr (by omega)
      · simp only [e, if_false] at h2 h3
        exact .inl (j7 i k (by simp at h1; omega) h2 h3)
  · intro i y z hy hz
    by_cases hi' : i < us.length
    · rw [List.getElem?_append_left hi'] at hz
      rw [List.getElem?_append_left (by omega)] at hy
      exact j3 i y z hy hz
    · have hi2 := (List.getElem?_eq_some_iff.1 hz).1
      simp at hi2
      have e : i = us.length := by omega
      subst e
      rw [List.getElem?_append_right (by omega)] at hz
      rw [List.getElem?_append_right (by omega)] at hy
      simp [j2] at hz hy
      subst hz hy
      exact hs
  · exact ⟨hK.os.trans j5.os, hK.tape.trans j5.tape, hK.output.trans j5.output, Nat.le_trans j5.size hK.size, fun k hk => (hK.block k (Nat.lt_of_lt_of_le hk j5.size) (fun h => h.elim (fun h => by omega) (fun h => by have := (j8 k h).1; omega))).trans (j5.block k hk)⟩
  · rintro k (hk | ⟨i, h1, h2, h3⟩)
    · have := hA.own.lt k hk
      exact ⟨this.1, this.2⟩
    · obtain ⟨p1, p2, -⟩ := hA.int i h1
      exact ⟨by omega, by omega⟩

end Go.Proofs.Ytimfdfeleoaehaa
