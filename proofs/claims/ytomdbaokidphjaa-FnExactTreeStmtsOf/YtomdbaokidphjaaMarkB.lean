/-
  Lists of statements that own their memory, and one of them while it is written.
-/
import Derived.Test.YtomdbaokidphjaaMarkA
import Derived.Test.YtomdbaokidphjaaStmtC
namespace Go.Proofs.Ytomdbaokidphjaa
open Go.RowKit Go.Shelf
set_option linter.unusedSimpArgs false
set_option linter.unusedVariables false

mutual
def SX.cnt : SX → Nat
  | .mk _ _ e f _ _ la _ _ lb => 8 + 3 * XT.sizeAll e.kids + 3 * XT.sizeAll f.kids + SX.cntL la + SX.cntL lb
def SX.cntL : List SX → Nat
  | [] => 0
  | t :: ts => SX.cnt t + SX.cntL ts
end
theorem SX.cnt_eq (s : SX) : s.cnt = 8 + 3 * XT.sizeAll s.e.kids + 3 * XT.sizeAll s.f.kids + SX.cntL s.la + SX.cntL s.lb := by cases s; rw [SX.cnt]; rfl
mutual
def SX.mark : SX → Nat → SX
  | .mk _ _ e f ab ac la bb bc lb, k => .mk ((k : Nat) : Int) (markB (k + 1)) (.mk ((k + 2 : Nat) : Int) ((k + 3 : Nat) : Int) (markB (k + 4)) e.base e.cap (XT.markL e.kids (k + 5)))
      (.mk ((k + 5 + 3 * XT.sizeAll e.kids : Nat) : Int) ((k + 6 + 3 * XT.sizeAll e.kids : Nat) : Int) (markB (k + 7 + 3 * XT.sizeAll e.kids)) f.base f.cap (XT.markL f.kids (k + 8 + 3 * XT.sizeAll e.kids)))
      ab ac (SX.markL la (k + 8 + 3 * XT.sizeAll e.kids + 3 * XT.sizeAll f.kids)) bb bc (SX.markL lb (k + 8 + 3 * XT.sizeAll e.kids + 3 * XT.sizeAll f.kids + SX.cntL la))
def SX.markL : List SX → Nat → List SX
  | [], _ => []
  | t :: ts, k => SX.mark t k :: SX.markL ts (k + SX.cnt t)
end
theorem SX.mark_eq (s : SX) (k : Nat) : s.mark k = .mk ((k : Nat) : Int) (markB (k + 1)) (.mk ((k + 2 : Nat) : Int) ((k + 3 : Nat) : Int) (markB (k + 4)) s.e.base s.e.cap (XT.markL s.e.kids (k + 5)))
      (.mk ((k + 5 + 3 * XT.sizeAll s.e.kids : Nat) : Int) ((k + 6 + 3 * XT.sizeAll s.e.kids : Nat) : Int) (markB (k + 7 + 3 * XT.sizeAll s.e.kids)) s.f.base s.f.cap (XT.markL s.f.kids (k + 8 + 3 * XT.sizeAll s.e.kids)))
      s.abase s.acap (SX.markL s.la (k + 8 + 3 * XT.sizeAll s.e.kids + 3 * XT.sizeAll s.f.kids)) s.bbase s.bcap (SX.markL s.lb (k + 8 + 3 * XT.sizeAll s.e.kids + 3 * XT.sizeAll s.f.kids + SX.cntL s.la)) := by
  cases s; rw [SX.mark]; rfl
theorem SX.markL_length : ∀ (ks : List SX) (k : Nat), (SX.markL ks k).length = ks.length
  | [], _ => by rw [SX.markL]
  | t :: ts, k => by rw [SX.markL, List.length_cons, List.length_cons, SX.markL_length ts]
theorem SX.markL_get : ∀ (ks : List SX) (k i : Nat) (x : SX), ks[i]? = some x → (SX.markL ks k)[i]? = some (x.mark (k + SX.cntL (ks.take i)))
  | [], _, _, _, h => by simp at h
  | t :: ts, k, 0, x, h => by
    simp at h
    subst h
    simp [SX.markL, SX.cntL]
  | t :: ts, k, i + 1, x, h => by
    have h1 := SX.markL_get ts (k + t.cnt) i x (by simpa using h)
    rw [SX.markL, List.getElem?_cons_succ, h1, List.take_succ_cons, SX.cntL]
    congr 2
    omega
theorem SX.markL_back {ks : List SX} {k i : Nat} {y : SX} (h : (SX.markL ks k)[i]? = some y) : ∃ x, ks[i]? = some x ∧ y = x.mark (k + SX.cntL (ks.take i)) := by
  have hi : i < ks.length := by have := (List.getElem?_eq_some_iff.1 h).1; rw [SX.markL_length] at this; exact this
  refine ⟨_, List.getElem?_eq_getElem hi, ?_⟩
  rw [SX.markL_get ks k i _ (List.getElem?_eq_getElem hi)] at h
  exact (Option.some.inj h).symm
theorem SX.cntL_append (us bs : List SX) : SX.cntL (us ++ bs) = SX.cntL us + SX.cntL bs := by
  induction us with
  | nil => simp [SX.cntL]
  | cons x xs ih => simp [SX.cntL, ih]; omega
theorem SX.cntL_snoc {ks : List SX} {i : Nat} {t : SX} (h : ks[i]? = some t) : SX.cntL (ks.take (i + 1)) = SX.cntL (ks.take i) + t.cnt := by
  rw [List.take_add_one, h, SX.cntL_append]
  simp [SX.cntL]
theorem SX.cntL_le (ks : List SX) (i : Nat) : SX.cntL (ks.take i) ≤ SX.cntL ks := by
  have h := SX.cntL_append (ks.take i) (ks.drop i)
  rw [List.take_append_drop] at h
  omega
theorem SX.cnt_get {ks : List SX} {i : Nat} {t : SX} (h : ks[i]? = some t) : t.cnt ≤ SX.cntL ks := by
  have h1 := SX.cntL_snoc h
  have h2 := SX.cntL_le ks (i + 1)
  omega
theorem SX.len_cnt (ks : List SX) : ks.length * 8 ≤ SX.cntL ks := by
  induction ks with
  | nil => simp [SX.cntL]
  | cons x xs ih => have := SX.cnt_eq x; simp [SX.cntL]; omega

/-- A list of statements in a block of its own, each list within each in an interval of blocks of its own. -/
inductive OwnSR (W : World) : Nat → Nat → Option Addr → List SX → Prop
  | mk (lo hi : Nat) (a : Option Addr) (ks : List SX) (g N : Nat) (l h : Nat → Nat)
      (row : ∀ (i : Nat) (k : SX), ks[i]? = some k → a = some ⟨g, 0, none⟩ ∧ lo ≤ g ∧ g < hi ∧ RowAt W g N 40 ∧ ks.length * 12 ≤ N)
      (cell : ∀ (i : Nat) (k : SX), ks[i]? = some k → Cells12 W g (0 + i * 12) k)
      (box : ∀ (m : Nat), m < 4 * ks.length → lo ≤ l m ∧ h m ≤ hi ∧ (g < l m ∨ h m ≤ g))
      (apart : ∀ (m n : Nat), m < 4 * ks.length → n < 4 * ks.length → m ≠ n → h m ≤ l n ∨ h n ≤ l m)
      (ke : ∀ (i : Nat) (k : SX), ks[i]? = some k → OwnR W (l (4 * i)) (h (4 * i)) k.e.base k.e.kids)
      (kf : ∀ (i : Nat) (k : SX), ks[i]? = some k → OwnR W (l (4 * i + 1)) (h (4 * i + 1)) k.f.base k.f.kids)
      (ka : ∀ (i : Nat) (k : SX), ks[i]? = some k → OwnSR W (l (4 * i + 2)) (h (4 * i + 2)) k.abase k.la)
      (kb : ∀ (i : Nat) (k : SX), ks[i]? = some k → OwnSR W (l (4 * i + 3)) (h (4 * i + 3)) k.bbase k.lb) : OwnSR W lo hi a ks
theorem OwnSR.mono {A B : World} {lo hi : Nat} {a : Option Addr} {ks : List SX} (h : OwnSR A lo hi a ks) : (∀ b, lo ≤ b → b < hi → B.heap[b]? = A.heap[b]?) → OwnSR B lo hi a ks := by
  induction h with
  | mk lo hi a ks g N l h row cell box apart ke kf ka kb iha ihb =>
    intro hb
    have hin : ∀ (m : Nat), m < 4 * ks.length → ∀ b, l m ≤ b → b < h m → B.heap[b]? = A.heap[b]? := fun m hm b h1 h2 => by
      obtain ⟨q1, q2, q3⟩ := box m hm
      exact hb b (by omega) (by omega)
    have hlt : ∀ (i : Nat) (k : SX), ks[i]? = some k → i < ks.length := fun i k hk => (List.getElem?_eq_some_iff.1 hk).1
    refine .mk lo hi a ks g N l h (fun i k hk => ?_) (fun i k hk => ?_) box apart (fun i k hk => (ke i k hk).mono (hin _ (by have := hlt i k hk; omega))) (fun i k hk => (kf i k hk).mono (hin _ (by have := hlt i k hk; omega))) (fun i k hk => iha i k hk (hin _ (by have := hlt i k hk; omega))) (fun i k hk => ihb i k hk (hin _ (by have := hlt i k hk; omega)))
    · obtain ⟨r1, r2, r3, r4, r5⟩ := row i k hk
      exact ⟨r1, r2, r3, r4.of_block (hb g r2 r3), r5⟩
    · obtain ⟨r1, r2, r3, r4, r5⟩ := row i k hk
      exact (cell i k hk).of_block (hb g r2 r3)
theorem OwnSR.parts {W : World} {lo hi : Nat} {a : Option Addr} {ks : List SX} (h : OwnSR W lo hi a ks) : ∃ (g N : Nat) (l h : Nat → Nat), (∀ (i : Nat) (k : SX), ks[i]? = some k → a = some ⟨g, 0, none⟩ ∧ lo ≤ g ∧ g < hi ∧ RowAt W g N 40 ∧ ks.length * 12 ≤ N) ∧
    (∀ (i : Nat) (k : SX), ks[i]? = some k → Cells12 W g (0 + i * 12) k) ∧ (∀ (m : Nat), m < 4 * ks.length → lo ≤ l m ∧ h m ≤ hi ∧ (g < l m ∨ h m ≤ g)) ∧ (∀ (m n : Nat), m < 4 * ks.length → n < 4 * ks.length → m ≠ n → h m ≤ l n ∨ h n ≤ l m) ∧
    (∀ (i : Nat) (k : SX), ks[i]? = some k → OwnR W (l (4 * i)) (h (4 * i)) k.e.base k.e.kids) ∧ (∀ (i : Nat) (k : SX), ks[i]? = some k → OwnR W (l (4 * i + 1)) (h (4 * i + 1)) k.f.base k.f.kids) ∧
    (∀ (i : Nat) (k : SX), ks[i]? = some k → OwnSR W (l (4 * i + 2)) (h (4 * i + 2)) k.abase k.la) ∧ (∀ (i : Nat) (k : SX), ks[i]? = some k → OwnSR W (l (4 * i + 3)) (h (4 * i + 3)) k.bbase k.lb) := by
  cases h with
  | mk _ _ _ _ g N l h row cell box apart ke kf ka kb => exact ⟨g, N, l, h, row, cell, box, apart, ke, kf, ka, kb⟩
theorem OwnSR.wide {W : World} {lo hi lo' hi' : Nat} {a : Option Addr} {ks : List SX} (h : OwnSR W lo hi a ks) (h1 : lo' ≤ lo) (h2 : hi ≤ hi') : OwnSR W lo' hi' a ks := by
  obtain ⟨g, N, l, h, row, cell, box, apart, ke, kf, ka, kb⟩ := h.parts
  refine .mk lo' hi' a ks g N l h (fun i k hk => ?_) cell (fun i hi => ?_) apart ke kf ka kb
  · obtain ⟨r1, r2, r3, r4, r5⟩ := row i k hk
    exact ⟨r1, by omega, by omega, r4, r5⟩
  · obtain ⟨b1, b2, b3⟩ := box i hi
    exact ⟨by omega, by omega, b3⟩
theorem OwnR.all {W : World} {lo hi : Nat} {t : XT} (h : OwnR W lo hi t.base t.kids) : Lies (fun b => lo ≤ b ∧ b < hi) W t := .mk t h.lies.1 h.lies.2
theorem OwnSR.lies {W : World} {lo hi : Nat} {a : Option Addr} {ks : List SX} (h : OwnSR W lo hi a ks) : SRow (fun b => lo ≤ b ∧ b < hi) W a ks ∧ ∀ (i : Nat) (k : SX), ks[i]? = some k → LiesS (fun b => lo ≤ b ∧ b < hi) W k := by
  induction h with
  | mk lo hi a ks g N l h row cell box apart ke kf ka kb iha ihb =>
    have hlt : ∀ (i : Nat) (k : SX), ks[i]? = some k → i < ks.length := fun i k hk => (List.getElem?_eq_some_iff.1 hk).1
    refine ⟨fun i k hk => ?_, fun i k hk => ?_⟩
    · obtain ⟨r1, r2, r3, r4, r5⟩ := row i k hk
      exact ⟨g, 0, r1, ⟨r2, r3⟩, cell i k hk⟩
    · have hi := hlt i k hk
      have b0 := box (4 * i) (by omega)
      have b1 := box (4 * i + 1) (by omega)
      have b2 := box (4 * i + 2) (by omega)
      have b3 := box (4 * i + 3) (by omega)
      obtain ⟨qa1, qa2⟩ := iha i k hk
      obtain ⟨qb1, qb2⟩ := ihb i k hk
      refine .mk k ((ke i k hk).all.mono (fun b hb _ => ⟨⟨by omega, by omega⟩, rfl⟩)) ((kf i k hk).all.mono (fun b hb _ => ⟨⟨by omega, by omega⟩, rfl⟩)) (qa1.mono (fun b hb _ => ⟨⟨by omega, by omega⟩, rfl⟩)) (qb1.mono (fun b hb _ => ⟨⟨by omega, by omega⟩, rfl⟩)) (fun j y hy => (qa2 j y hy).mono (fun b hb _ => ⟨⟨by omega, by omega⟩, rfl⟩)) (fun j y hy => (qb2 j y hy).mono (fun b hb _ => ⟨⟨by omega, by omega⟩, rfl⟩))

/-- The cells of the i-th statement of a row while it is written: cs; all else of the row as in A. -/
structure Rw (g N i : Nat) (A W : World) (cs : List Value) : Prop where
  row : RowAt W g N 40
  out : ∀ (o : Nat), (o < i * 12 ∨ i * 12 + 12 ≤ o) → W.cell? ⟨g, o, none⟩ = A.cell? ⟨g, o, none⟩
  at_ : ∀ (j : Nat) (v : Value), cs[j]? = some v → W.cell? ⟨g, i * 12 + j, none⟩ = some v
theorem Rw.set {g N i : Nat} {A W : World} {cs : List Value} (h : Rw g N i A W cs) (hN : i * 12 + 12 ≤ N) (j : Nat) (hj : j < 12) (v : Value) : Rw g N i A (W.setCell ⟨g, i * 12 + j, none⟩ v) (cs.set j v) := by
  refine ⟨h.row.set _ _, fun o ho => ?_, fun m u hm => ?_⟩
  · rw [set_far (by omega)]
    exact h.out o ho
  · by_cases e : m = j
    · subst e
      have hl : m < cs.length := by have := (List.getElem?_eq_some_iff.1 hm).1; simpa using this
      rw [List.getElem?_set_self hl] at hm
      cases hm
      exact h.row.put (by omega) _
    · rw [List.getElem?_set_ne (fun q => e q.symm)] at hm
      rw [set_far (by omega)]
      exact h.at_ m u hm
theorem Rw.on {g N i : Nat} {A W W' : World} {cs : List Value} (h : Rw g N i A W cs) (hb : W'.heap[g]? = W.heap[g]?) : Rw g N i A W' cs :=
  ⟨h.row.of_block hb, fun o ho => (cell_of_block (a := ⟨g, o, none⟩) hb).trans (h.out o ho), fun j v hj => (cell_of_block (a := ⟨g, _, none⟩) hb).trans (h.at_ j v hj)⟩
/-- A statement of a list while it is written, with the four lists within it. -/
structure StM (lo hi g N i len : Nat) (l h : Nat → Nat) (x : SX) (A W : World) (cs : List Value) (E F : List XT) (la lb : List SX) : Prop where
  rw : Rw g N i A W cs
  e : OwnR W (l (4 * i)) (h (4 * i)) x.e.base E
  f : OwnR W (l (4 * i + 1)) (h (4 * i + 1)) x.f.base F
  a : OwnSR W (l (4 * i + 2)) (h (4 * i + 2)) x.abase la
  b : OwnSR W (l (4 * i + 3)) (h (4 * i + 3)) x.bbase lb
  oth : ∀ (m : Nat), m < 4 * len → (m < 4 * i ∨ 4 * i + 4 ≤ m) → ∀ b, l m ≤ b → b < h m → W.heap[b]? = A.heap[b]?
  kept : Kept (fun b => lo ≤ b ∧ b < hi) A W
structure Bx (lo hi g i len : Nat) (l h : Nat → Nat) (A : World) : Prop where
  box : ∀ (m : Nat), m < 4 * len → lo ≤ l m ∧ h m ≤ hi ∧ (g < l m ∨ h m ≤ g)
  apart : ∀ (m n : Nat), m < 4 * len → n < 4 * len → m ≠ n → h m ≤ l n ∨ h n ≤ l m
  hsz : hi ≤ A.heap.size
  hil : i < len
  hgb : lo ≤ g ∧ g < hi
/-- A step that leaves the intervals alone. -/
theorem StM.step {lo hi g N i len : Nat} {l h : Nat → Nat} {x : SX} {A W W' : World} {cs cs' : List Value} {E F : List XT} {la lb : List SX} (hS : StM lo hi g N i len l h x A W cs E F la lb) (hX : Bx lo hi g i len l h A) (hR : Rw g N i A W' cs') (hk : Kept (fun b => b = g) W W') : StM lo hi g N i len l h x A W' cs' E F la lb := by
  have hz := hS.kept.size
  have hin : ∀ (m : Nat), m < 4 * len → ∀ b, l m ≤ b → b < h m → W'.heap[b]? = W.heap[b]? := fun m hm b h1 h2 => by
    obtain ⟨q1, q2, q3⟩ := hX.box m hm
    have := hX.hsz
    exact hk.block b (by omega) (fun e => by omega)
  have hi' := hX.hil
  exact ⟨hR, hS.e.mono (hin _ (by omega)), hS.f.mono (hin _ (by omega)), hS.a.mono (hin _ (by omega)), hS.b.mono (hin _ (by omega)), fun m hm hn b h1 h2 => (hin m hm b h1 h2).trans (hS.oth m hm hn b h1 h2), hS.kept.trans (hk.mono (fun b _ e => by subst e; exact hX.hgb))⟩
theorem StM.set {lo hi g N i len : Nat} {l h : Nat → Nat} {x : SX} {A W : World} {cs : List Value} {E F : List XT} {la lb : List SX} (hS : StM lo hi g N i len l h x A W cs E F la lb) (hX : Bx lo hi g i len l h A) (hN : i * 12 + 12 ≤ N) (j : Nat) (hj : j < 12) (v : Value) : StM lo hi g N i len l h x A (W.setCell ⟨g, i * 12 + j, none⟩ v) (cs.set j v) E F la lb :=
  hS.step hX (hS.rw.set hN j hj v) ((Kept.refl (fun b => b = g) W).setCell (p := ⟨g, i * 12 + j, none⟩) rfl _)
theorem StM.below {lo hi g N i len : Nat} {l h : Nat → Nat} {x : SX} {A W W' : World} {cs : List Value} {E F : List XT} {la lb : List SX} (hS : StM lo hi g N i len l h x A W cs E F la lb) (hX : Bx lo hi g i len l h A) (hb : Below W.heap.size W W') : StM lo hi g N i len l h x A W' cs E F la lb :=
  hS.step hX (hS.rw.on (hb.block g hS.rw.row.lt)) (Kept.of_new _ hb)
/-- A step within one interval. -/
theorem StM.sub {lo hi g N i len : Nat} {l h : Nat → Nat} {x : SX} {A W W' : World} {cs : List Value} {E F : List XT} {la lb : List SX} (hS : StM lo hi g N i len l h x A W cs E F la lb) (hX : Bx lo hi g i len l h A) (m : Nat) (hm : 4 * i ≤ m ∧ m < 4 * i + 4) (hk : Kept (fun b => l m ≤ b ∧ b < h m) W W') :
    Rw g N i A W' cs ∧ (∀ n, n < 4 * len → n ≠ m → ∀ b, l n ≤ b → b < h n → W'.heap[b]? = W.heap[b]?) ∧ Kept (fun b => lo ≤ b ∧ b < hi) A W' := by
  have hz := hS.kept.size
  have hh := hX.hsz
  have hi' := hX.hil
  obtain ⟨q1, q2, q3⟩ := hX.box m (by omega)
  refine ⟨hS.rw.on (hk.block g hS.rw.row.lt (fun e => by omega)), fun n hn hnm b h1 h2 => ?_, hS.kept.trans (hk.mono (fun b _ e => ⟨by omega, by omega⟩))⟩
  obtain ⟨p1, p2, p3⟩ := hX.box n hn
  have := hX.apart n m hn (by omega) hnm
  exact hk.block b (by omega) (fun e => by omega)
theorem StM.subE {lo hi g N i len : Nat} {l h : Nat → Nat} {x : SX} {A W W' : World} {cs : List Value} {E E' F : List XT} {la lb : List SX} (hS : StM lo hi g N i len l h x A W cs E F la lb) (hX : Bx lo hi g i len l h A) (hO : OwnR W' (l (4 * i)) (h (4 * i)) x.e.base E') (hk : Kept (fun b => l (4 * i) ≤ b ∧ b < h (4 * i)) W W') : StM lo hi g N i len l h x A W' cs E' F la lb := by
  obtain ⟨h1, h2, h3⟩ := hS.sub hX (4 * i) ⟨by omega, by omega⟩ hk
  have hi' := hX.hil
  exact ⟨h1, hO, hS.f.mono (h2 _ (by omega) (by omega)), hS.a.mono (h2 _ (by omega) (by omega)), hS.b.mono (h2 _ (by omega) (by omega)), fun m hm hn b q1 q2 => (h2 m hm (by omega) b q1 q2).trans (hS.oth m hm hn b q1 q2), h3⟩
theorem StM.subF {lo hi g N i len : Nat} {l h : Nat → Nat} {x : SX} {A W W' : World} {cs : List Value} {E F F' : List XT} {la lb : List SX} (hS : StM lo hi g N i len l h x A W cs E F la lb) (hX : Bx lo hi g i len l h A) (hO : OwnR W' (l (4 * i + 1)) (h (4 * i + 1)) x.f.base F') (hk : Kept (fun b => l (4 * i + 1) ≤ b ∧ b < h (4 * i + 1)) W W') : StM lo hi g N i len l h x A W' cs E F' la lb := by
  obtain ⟨h1, h2, h3⟩ := hS.sub hX (4 * i + 1) ⟨by omega, by omega⟩ hk
  have hi' := hX.hil
  exact ⟨h1, hS.e.mono (h2 _ (by omega) (by omega)), hO, hS.a.mono (h2 _ (by omega) (by omega)), hS.b.mono (h2 _ (by omega) (by omega)), fun m hm hn b q1 q2 => (h2 m hm (by omega) b q1 q2).trans (hS.oth m hm hn b q1 q2), h3⟩
theorem StM.subA {lo hi g N i len : Nat} {l h : Nat → Nat} {x : SX} {A W W' : World} {cs : List Value} {E F : List XT} {la la' lb : List SX} (hS : StM lo hi g N i len l h x A W cs E F la lb) (hX : Bx lo hi g i len l h A) (hO : OwnSR W' (l (4 * i + 2)) (h (4 * i + 2)) x.abase la') (hk : Kept (fun b => l (4 * i + 2) ≤ b ∧ b < h (4 * i + 2)) W W') : StM lo hi g N i len l h x A W' cs E F la' lb := by
  obtain ⟨h1, h2, h3⟩ := hS.sub hX (4 * i + 2) ⟨by omega, by omega⟩ hk
  have hi' := hX.hil
  exact ⟨h1, hS.e.mono (h2 _ (by omega) (by omega)), hS.f.mono (h2 _ (by omega) (by omega)), hO, hS.b.mono (h2 _ (by omega) (by omega)), fun m hm hn b q1 q2 => (h2 m hm (by omega) b q1 q2).trans (hS.oth m hm hn b q1 q2), h3⟩
theorem StM.subB {lo hi g N i len : Nat} {l h : Nat → Nat} {x : SX} {A W W' : World} {cs : List Value} {E F : List XT} {la lb lb' : List SX} (hS : StM lo hi g N i len l h x A W cs E F la lb) (hX : Bx lo hi g i len l h A) (hO : OwnSR W' (l (4 * i + 3)) (h (4 * i + 3)) x.bbase lb') (hk : Kept (fun b => l (4 * i + 3) ≤ b ∧ b < h (4 * i + 3)) W W') : StM lo hi g N i len l h x A W' cs E F la lb' := by
  obtain ⟨h1, h2, h3⟩ := hS.sub hX (4 * i + 3) ⟨by omega, by omega⟩ hk
  have hi' := hX.hil
  exact ⟨h1, hS.e.mono (h2 _ (by omega) (by omega)), hS.f.mono (h2 _ (by omega) (by omega)), hS.a.mono (h2 _ (by omega) (by omega)), hO, fun m hm hn b q1 q2 => (h2 m hm (by omega) b q1 q2).trans (hS.oth m hm hn b q1 q2), h3⟩
end Go.Proofs.Ytomdbaokidphjaa
