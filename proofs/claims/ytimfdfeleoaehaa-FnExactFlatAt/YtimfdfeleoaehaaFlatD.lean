/-
  Code that is the same is answered alike; the law's copies of code.
-/
import Derived.Test.YtimfdfeleoaehaaFlatC
import Derived.Test.YtimfdfeleoaehaaInstB
import Derived.Test.YtimfdfeleoaehaaOkQ
namespace Go.Proofs.Ytimfdfeleoaehaa
open Go.RowKit Go.Shelf
set_option linter.unusedSimpArgs false
set_option linter.unusedVariables false

def SameI (xs us : List IX) : Prop := us.length = xs.length ∧ ∀ (i : Nat) (x y : IX), xs[i]? = some x → us[i]? = some y → IX.Same x y
theorem IX.fitB_same {x y : IX} (h : IX.Same x y) (hm : SmallS x.s) (n : Int) : y.fitB n = x.fitB n := by
  obtain ⟨h1, h2, h3⟩ := h
  obtain ⟨k1, k2, k3, k4, k5, k6, -, -⟩ := h2.parts
  unfold IX.fitB SX.noneS SX.noL
  rw [h1, h3, Go.Proofs.Ytimfdfeleoaehaa.fitB_same h2 hm, k1, k2, k5, k6, none_same k3, none_same k4]
theorem SameI.get {xs us : List IX} (h : SameI xs us) (k : Nat) : (xs[k]? = none ∧ us[k]? = none) ∨ ∃ x y, xs[k]? = some x ∧ us[k]? = some y ∧ IX.Same x y := by
  by_cases hk : k < xs.length
  · have h1 : xs[k]? = some xs[k] := List.getElem?_eq_getElem hk
    have h2 : us[k]? = some (us[k]'(by rw [h.1]; exact hk)) := List.getElem?_eq_getElem _
    exact .inr ⟨_, _, h1, h2, h.2 k _ _ h1 h2⟩
  · have h0 := h.1
    exact .inl ⟨List.getElem?_eq_none (by omega), List.getElem?_eq_none (by omega)⟩
theorem goJ_alike {xs us : List IX} (h : SameI xs us) : ∀ (f k : Nat), goJ us f k = goJ xs f k
  | 0, k => rfl
  | f + 1, k => by
    rw [goJ, goJ, goJ_alike h f]
    rcases h.get k with ⟨h1, h2⟩ | ⟨x, y, h1, h2, h3⟩
    · have e1 : isJ us k = isJ xs k := by simp [isJ, h1, h2]
      have e2 : nxt us k = nxt xs k := by simp [nxt, h1, h2]
      rw [e1, e2]
    · have e1 : isJ us k = isJ xs k := by simp [isJ, h1, h2, h3.op]
      have e2 : nxt us k = nxt xs k := by simp [nxt, h1, h2, h3.dst]
      rw [e1, e2]
theorem okn_alike {xs us : List IX} (h : SameI xs us) (hm : ∀ (i : Nat) (x : IX), xs[i]? = some x → SmallS x.s) (n : Nat) : OKn us n ↔ OKn xs n := by
  unfold OKn
  constructor
  · rintro ⟨h1, h2, h3⟩
    refine ⟨h1, fun i x hx => ?_, fun i hi => ?_⟩
    · rcases h.get i with ⟨k1, -⟩ | ⟨x', y, k1, k2, k3⟩
      · rw [hx] at k1; cases k1
      · rw [hx] at k1
        cases k1
        obtain ⟨q1, q2⟩ := h2 i y k2
        rw [IX.fitB_same k3 (hm i x hx)] at q1
        rw [k3.op] at q2
        exact ⟨q1, q2⟩
    · obtain ⟨m, hg⟩ := h3 i hi
      exact ⟨m, by rw [← goJ_alike h]; exact hg⟩
  · rintro ⟨h1, h2, h3⟩
    refine ⟨h1, fun i y hy => ?_, fun i hi => ?_⟩
    · rcases h.get i with ⟨-, k1⟩ | ⟨x, y', k1, k2, k3⟩
      · rw [hy] at k1; cases k1
      · rw [hy] at k2
        cases k2
        obtain ⟨q1, q2⟩ := h2 i x k1
        rw [IX.fitB_same k3 (hm i x k1), k3.op]
        exact ⟨q1, q2⟩
    · obtain ⟨m, hg⟩ := h3 i hi
      exact ⟨m, by rw [goJ_alike h]; exact hg⟩
theorem retAt_alike {xs us : List IX} (h : SameI xs us) (hm : ∀ (i : Nat) (x : IX), xs[i]? = some x → SmallS x.s) (n : Nat) (p : Int) (e : Ending) (hr : RetAt us n p e) : RetAt xs n p e := by
  obtain ⟨r, rfl, hr⟩ := hr
  refine ⟨r, rfl, ?_⟩
  rw [okn_alike h hm] at hr
  simpa only [goJ_alike h] using hr
theorem RetAt.one {xs : List IX} {n : Nat} {p r r' : Int} (h : RetAt xs n p (.returned (.int .i64 r))) (h' : RetAt xs n p (.returned (.int .i64 r'))) : r = r' := by
  obtain ⟨q, e, hq⟩ := h
  obtain ⟨q', e', hq'⟩ := h'
  cases e
  cases e'
  rcases hq with ⟨k1, k, m, rfl, k2, k3, rfl⟩ | ⟨k1, rfl⟩
  · rcases hq' with ⟨-, k', m', e, -, k4, rfl⟩ | ⟨k4, -⟩
    · have : k = k' := by omega
      subst this
      rw [k3] at k4
      cases k4
      rfl
    · rcases k4 with k4 | k4 | k4
      · exact absurd k1 k4
      · omega
      · omega
  · rcases hq' with ⟨k4, k', m', e, k5, k6, -⟩ | ⟨-, rfl⟩
    · rcases k1 with k1 | k1 | k1
      · exact absurd k4 k1
      · omega
      · omega
    · rfl
theorem copiedI {ks : List IX} {a : Option Addr} {c : Nat} {w : World} (hT : ks.length + sumI ks ≤ 1048576) (hR : IX.Row (fun b => b < w.heap.size) w a ks) (hL : ∀ (i : Nat) (k : IX), ks[i]? = some k → LiesS (fun b => b < w.heap.size) w k.s) (W : World) (hW : Below w.heap.size w W) :
    Calls Try.prog 17 #[.slice a ks.length c] W fun e w' => ∃ us : List IX, e = .returned (.slice (some ⟨W.heap.size, 0, none⟩) us.length us.length) ∧ SameI ks us ∧ IX.Row (fun b => b < w'.heap.size) w' (some ⟨W.heap.size, 0, none⟩) us ∧ (∀ (i : Nat) (k : IX), us[i]? = some k → SmallS k.s ∧ LiesS (fun b => b < w'.heap.size) w' k.s) ∧ us.length ≤ 1048576 ∧ Below W.heap.size W w' := by
  have hz := hW.size
  have hsm : ∀ (i : Nat) (k : IX), ks[i]? = some k → SmallS k.s := fun i k hk => SX.small _ k.s (Nat.le_refl _) (by have := sumI_get hk; omega)
  refine (IX.tos ks a c (fun b => b < w.heap.size) W (fun b hb => by omega) (hR.under hW (fun b hb => hb)) (by omega) (fun i k hk => ⟨hsm i k hk, (hL i k hk).under hW (fun b hb => hb)⟩)).mono ?_
  rintro e w' ⟨us, rfl, h1, h2, h3, h4⟩
  have hlt := h3.lt
  have hg : ∀ (i : Nat) (y : IX), us[i]? = some y → ∃ x, ks[i]? = some x := fun i y hy => ⟨_, List.getElem?_eq_getElem (by have := (List.getElem?_eq_some_iff.1 hy).1; omega)⟩
  refine ⟨us, by rw [h1], ⟨h1, fun i x y hx hy => (h2 i x y hx hy).1⟩, fun i y hy => ?_, fun i y hy => ?_, by omega, h4⟩
  · obtain ⟨x, hx⟩ := hg i y hy
    exact ⟨_, 0, rfl, hlt, (h2 i x y hx hy).2.1⟩
  · obtain ⟨x, hx⟩ := hg i y hy
    obtain ⟨k1, -, k3⟩ := h2 i x y hx hy
    have ht := (SameS.spec _ x.s (Nat.le_refl _) (hsm i x hx) y.s k1.s).1
    exact ⟨SX.small _ y.s (Nat.le_refl _) (by have := sumI_get hx; omega), k3.bound⟩
theorem SameI.join {xs us vs : List IX} (h : SameI xs us) (k : SameI xs vs) : SameI us vs := by
  refine ⟨by rw [k.1, h.1], fun i x y hx hy => ?_⟩
  rcases h.get i with ⟨-, k1⟩ | ⟨z, x', k1, k2, k3⟩
  · rw [hx] at k1; cases k1
  · rw [hx] at k2
    cases k2
    have q := k.2 i z y k1 hy
    exact ⟨by rw [q.op, k3.op], k3.s.join _ _ (Nat.le_refl _) _ _ q.s, by rw [q.dst, k3.dst]⟩
theorem equalI {xs ys : List IX} {a a' : Option Addr} {c c' : Nat} {w : World} (hR : IX.Row (fun b => b < w.heap.size) w a xs) (hR' : IX.Row (fun b => b < w.heap.size) w a' ys) (hlen : xs.length ≤ 1048576)
    (hL : ∀ (i : Nat) (k : IX), xs[i]? = some k → SmallS k.s ∧ LiesS (fun b => b < w.heap.size) w k.s) (hL' : ∀ (i : Nat) (k : IX), ys[i]? = some k → SmallS k.s ∧ LiesS (fun b => b < w.heap.size) w k.s) (hS : SameI xs ys) :
    Calls Try.prog 10 #[.slice a xs.length c, .slice a' ys.length c'] w fun e w' => e = .returned (.bool true) ∧ Below w.heap.size w w' :=
  IX.eqs xs ys a a' c c' (fun b => b < w.heap.size) w (fun b hb => hb) hR hR' (by omega) hS.1 hL (fun i k hk => (hL' i k hk).2) hS.2
/-- code that lies in memory -/
structure InMem (w : World) (a : Option Addr) (xs : List IX) : Prop where
  row : IX.Row (fun b => b < w.heap.size) w a xs
  kid : ∀ (i : Nat) (k : IX), xs[i]? = some k → SmallS k.s ∧ LiesS (fun b => b < w.heap.size) w k.s
theorem InMem.on {A B : World} {a : Option Addr} {xs : List IX} (h : InMem A a xs) (hb : Below A.heap.size A B) : InMem B a xs :=
  ⟨h.row.mono (fun b hb2 h3 => ⟨Nat.lt_of_lt_of_le h3 hb.size, hb.block b h3⟩), fun i k hk => ⟨(h.kid i k hk).1, (h.kid i k hk).2.mono (fun b hb2 h3 => ⟨Nat.lt_of_lt_of_le h3 hb.size, hb.block b h3⟩)⟩⟩
end Go.Proofs.Ytimfdfeleoaehaa
