/-
  strings.Clone answers what it is given, in new memory of its own; no condition but that the string is no longer than Go allows.
  The words of a text: the specification's TextWords answers them, in a list of its own.
  A range over a function whose rounds end or return, at the wide fence, where rounds may write whatever is new since the loop began, and the iterator has no memory of its own; no condition on the program.
  The words of a text: the program's iterator yields them, in order, to whatever rounds take them; the text lies in memory that the rounds leave alone.
  What the law writes into an answer, and reads again: marks, a text a number.
-/
import Derived.Shelf.Pu.Clone
import Derived.Shelf.Lay
import Derived.Test.YtimfdfeleoaehaaTreeR
import Derived.Test.YtimfdfeleoaehaaSpanA
import Derived.Deep.AppendLies
import Derived.Deep.RegionLaw
import Derived.OwnWalk
import Derived.Test.YtimfdfeleoaehaaTreeS
import Derived.Laws.IdiomStrings
namespace Go.Proofs.Ytimfdfeleoaehaa
open Go.RowKit Go.Shelf
set_option linter.unusedSimpArgs false
set_option linter.unusedVariables false

end Go.Proofs.Ytimfdfeleoaehaa
namespace Go.Proofs.Ytimfdfeleoaehaa
open Go.RowKit Go.Shelf
set_option linter.unusedSimpArgs false
set_option linter.unusedVariables false

def sepB (b : UInt8) : Bool := decide ((b.toNat : Int) = 32 ∨ (b.toNat : Int) = 10)
mutual
def wst (s : ByteArray) : Nat → List ByteArray × Nat
  | 0 => ([], 0)
  | k + 1 => if sepB (s.data.getD k 32) then ((if (wst s k).2 < k then (wst s k).1 ++ [s.extract (wst s k).2 k] else (wst s k).1), k + 1) else wst s k
end
def wcut (s : ByteArray) (k : Nat) : List ByteArray := if (wst s k).2 < k then (wst s k).1 ++ [s.extract (wst s k).2 k] else (wst s k).1
def wds (s : ByteArray) : List ByteArray := wcut s s.size
theorem wst_sep {s : ByteArray} {k : Nat} (h : k < s.size) (hs : sepB s[k] = true) : wst s (k + 1) = (wcut s k, k + 1) := by
  have : s.data.getD k 32 = s[k] := by simp only [Array.getD]; rw [dif_pos (show k < s.data.size from h)]; rfl
  rw [wst, this, if_pos hs]; rfl
theorem wst_let {s : ByteArray} {k : Nat} (h : k < s.size) (hs : sepB s[k] = false) : wst s (k + 1) = wst s k := by
  have : s.data.getD k 32 = s[k] := by simp only [Array.getD]; rw [dif_pos (show k < s.data.size from h)]; rfl
  rw [wst, this, if_neg (by simp [hs])]
theorem wst_le (s : ByteArray) (k : Nat) : (wst s k).1.length ≤ (wst s k).2 ∧ (wst s k).2 ≤ k := by
  induction k with
  | zero => simp [wst]
  | succ k ih =>
    rw [wst]
    split
    · dsimp only
      split
      · simp; omega
      · omega
    · omega
theorem wcut_le (s : ByteArray) (k : Nat) : (wcut s k).length ≤ k := by
  have := wst_le s k
  unfold wcut
  split
  · simp; omega
  · omega

theorem wst_last (s : ByteArray) : wst s (s.size + 1) = (wds s, s.size + 1) := by
  have : s.data.getD s.size 32 = 32 := by simp only [Array.getD]; rw [dif_neg (show ¬ s.size < s.data.size from Nat.lt_irrefl _)]
  rw [wst, this, if_pos (by decide)]; rfl
theorem wst_next (s : ByteArray) (k : Nat) : (wst s k).1 <+: (wst s (k + 1)).1 := by
  rw [wst]
  split
  · dsimp only
    split
    · exact List.prefix_append _ _
    · exact List.prefix_refl _
  · exact List.prefix_refl _
theorem wst_pre (s : ByteArray) (k m : Nat) : (wst s k).1 <+: (wst s (k + m)).1 := by
  induction m with
  | zero => exact List.prefix_refl _
  | succ m ih => exact ih.trans (wst_next s (k + m))
theorem wst_wds (s : ByteArray) {k : Nat} (h : k ≤ s.size + 1) : (wst s k).1 <+: wds s := by
  have h1 := wst_pre s k (s.size + 1 - k)
  rw [Nat.add_sub_cancel' h, wst_last] at h1
  exact h1
theorem ext_none (s : ByteArray) (n : Nat) : (⟨#[]⟩ : ByteArray) = s.extract n n := by
  apply ByteArray.ext
  rw [ByteArray.data_extract]
  simp
  omega
theorem ext_join (s : ByteArray) {a b c : Nat} (h1 : a ≤ b) (h2 : b ≤ c) : s.extract a b ++ s.extract b c = s.extract a c := by
  apply ByteArray.ext
  rw [ByteArray.data_append, ByteArray.data_extract, ByteArray.data_extract, ByteArray.data_extract, Array.extract_append_extract, Nat.min_eq_left h1, Nat.max_eq_right h2]
theorem ext_size (s : ByteArray) {a b : Nat} (h : b ≤ s.size) : (s.extract a b).size = b - a := by
  rw [ByteArray.size_extract, Nat.min_eq_left h]
theorem empty_iff (x : ByteArray) : x.toList.isEmpty = decide (x.size = 0) := by
  rw [ByteArray.toList_eq, Bool.eq_iff_iff, List.isEmpty_iff, decide_eq_true_eq, ← List.length_eq_zero_iff]
  exact Iff.rfl
theorem some_iff (x : ByteArray) : (!x.toList.isEmpty) = decide (0 < x.size) := by
  rw [empty_iff, Bool.eq_iff_iff, Bool.not_eq_true', decide_eq_false_iff_not, decide_eq_true_eq]
  omega
theorem some_yes {x : ByteArray} (h : (!x.toList.isEmpty) = true) : 0 < x.size := by rw [some_iff] at h; simpa using h
theorem some_no {x : ByteArray} (h : (!x.toList.isEmpty) = false) : ¬ 0 < x.size := by rw [some_iff] at h; simpa using h
theorem infoStr : (Try.prog.info? 9).map (fun i => (i.zero, i.size, i.bytes)) = some (some (.string ByteArray.empty), 1, 16) := by kernel_rfl
def strs (l : List ByteArray) : List Value := l.map .string
theorem strs_snoc (l : List ByteArray) (x : ByteArray) : strs (l ++ [x]) = strs l ++ [.string x] := by simp [strs]
/-- A separator ends a word that is begun. -/
theorem wst_end {s x : ByteArray} {ws : List ByteArray} {k : Nat} (h : k < s.size) (hs : sepB s[k] = true) (hH : ws = (wst s k).1 ∧ x = s.extract (wst s k).2 k) :
    (0 < x.size → ws ++ [x] = (wst s (k + 1)).1) ∧ (¬ 0 < x.size → ws = (wst s (k + 1)).1) ∧ (⟨#[]⟩ : ByteArray) = s.extract (wst s (k + 1)).2 (k + 1) := by
  have h1 := wst_le s k
  have h2 : x.size = k - (wst s k).2 := by rw [hH.2, ext_size s (by omega)]
  rw [wst_sep h hs, hH.1, hH.2]
  rw [hH.2] at h2
  refine ⟨fun h0 => ?_, fun h0 => ?_, ext_none s _⟩
  · simp only [wcut]; rw [if_pos (by omega)]
  · simp only [wcut]; rw [if_neg (by omega)]
theorem wst_more {s x : ByteArray} {ws : List ByteArray} {k : Nat} (h : k < s.size) (hs : sepB s[k] = false) (hH : ws = (wst s k).1 ∧ x = s.extract (wst s k).2 k) :
    ws = (wst s (k + 1)).1 ∧ x ++ s.extract k (k + 1) = s.extract (wst s (k + 1)).2 (k + 1) := by
  have h1 := wst_le s k
  rw [wst_let h hs, hH.1, hH.2]
  exact ⟨rfl, ext_join s h1.2 (by omega)⟩
theorem wds_end {s x : ByteArray} {ws : List ByteArray} (hH : ws = (wst s s.size).1 ∧ x = s.extract (wst s s.size).2 s.size) :
    (0 < x.size → ws ++ [x] = wds s) ∧ (¬ 0 < x.size → ws = wds s) := by
  have h1 := wst_le s s.size
  have h2 : x.size = s.size - (wst s s.size).2 := by rw [hH.2, ext_size s (by omega)]
  rw [hH.1, hH.2]
  rw [hH.2] at h2
  refine ⟨fun h0 => ?_, fun h0 => ?_⟩
  · simp only [wds, wcut]; rw [if_pos (by omega)]
  · simp only [wds, wcut]; rw [if_neg (by omega)]

end Go.Proofs.Ytimfdfeleoaehaa
namespace Go.Proofs.Ytimfdfeleoaehaa
open Go.RowKit Go.Shelf
set_option linter.unusedSimpArgs false
set_option linter.unusedVariables false

def Iter2 {α : Type} (P : Program) (gf : Nat) (lb : Array Value) (encs : α → Array Value) (xs : List α) (S : Nat → Prop) (W : World) : Prop :=
  ∀ (n l : Nat) (J Jx : List α → World → Prop),
    (∀ pre A B, Kept (fun _ => False) A B → J pre A → J pre B) → (∀ pre A B, Kept (fun _ => False) A B → Jx pre A → Jx pre B) →
    (∀ m pre x W1, J pre W1 → pre ++ [x] <+: xs → YieldAt Fence.wide m P l (encs x) W1 fun e W' =>
      Kept S W1 W' ∧ ((e = .returned (.bool true) ∧ J (pre ++ [x]) W') ∨ (e = .returned (.bool false) ∧ Jx (pre ++ [x]) W'))) →
    J [] W →
    CallsIn Fence.wide n P gf (#[.func (.yield l) #[] #[]] ++ lb) W fun e W' => (∃ v, e = .returned v) ∧ Kept S W W' ∧ (J xs W' ∨ ∃ pre, pre <+: xs ∧ Jx pre W')

theorem range_law2 {α : Type} {P : Program} {n : Nat} {g : Operand} {ps : Array Tmp} {assign body : Code} {Q : Exit → Act → World → Prop} {a : Act} {w : World} {gf : Nat} {lb : Array Value}
    (hg : a.eval g = .func (.func gf) #[] lb) (eg : ∀ args w, (callFunc gf args).run P w = .ok (.enter gf args) w)
    (encs : α → Array Value) (hps : ∀ x, (encs x).size = ps.size) (xs : List α) (S : Nat → Prop) (I Ix : List α → World → Prop)
    (hSd : ¬ S w.heap.size) (hSl : ¬ S (w.heap.size + 1))
    (hI : ∀ pre A B, Kept (fun k => k = w.heap.size + 1) A B → I pre A → I pre B) (hIx : ∀ pre A B, Kept (fun k => k = w.heap.size + 1) A B → Ix pre A → Ix pre B) (h0 : I [] w)
    (hit : ∀ W, Below w.heap.size w W → w.heap.size + 2 ≤ W.heap.size → Iter2 P gf lb encs xs (fun k => S k ∨ k = w.heap.size + 1) W)
    (hround : ∀ (l m : Nat) (pre : List α) (x : α) (W : World), l = w.heap.size + 1 → l < W.heap.size → I pre W → pre ++ [x] <+: xs →
      assign.wpIn (Fence.wide.inRound l) m P (Exit.then (fun a₁ w₁ => Below W.heap.size W w₁ ∧
          ∀ w₂, Kept (fun k => k = l) w₁ w₂ → I pre w₂ → body.wpIn (Fence.wide.inRound l) m P (roundQ S I Ix (pre ++ [x]) w₂) a₁ w₂) (fun _ _ _ => False))
        { tmps := (ps.zip (encs x)).foldl (fun t (p, v) => t.setIfInBounds p v) a.tmps, defers := [] } W)
    (hdone : ∀ (D : Nat) (W : World), D = w.heap.size → I xs W → Kept S w W → W.heap[D]? = some (.deferred (some [])) → Q .normal { a with defers := mark D :: a.defers } W)
    (hstop : ∀ (D : Nat) (pre : List α) (W : World), D = w.heap.size → pre <+: xs → Ix pre W → Kept S w W → W.heap[D]? = some (.deferred (some [])) → Q .ret { a with defers := mark D :: a.defers } W) :
    (Code.rangeFunc g ps assign body).wpIn Fence.wide n P Q a w := by
  refine wpIn_rangeFunc ?_
  intro fn hfn
  obtain ⟨rc, hrc⟩ : ∃ rc : LoopState → Option Code → Loop, rc = fun st pe => { state := st, pending := pe, fn, tmps := a.tmps, params := ps, assign, body, defers := w.heap.size } := ⟨_, rfl⟩
  obtain ⟨W1, hW1⟩ : ∃ W1, (w.alloc (.deferred (some []))).alloc (.loop (rc .ready none)) = W1 := ⟨_, rfl⟩
  have hs1 : W1.heap.size = w.heap.size + 2 := by rw [← hW1]; simp
  have hb1 : Below w.heap.size w W1 := by rw [← hW1]; exact ((Below.refl _ w).alloc (Nat.le_refl _) _).alloc (by simp) _
  have hl1 : W1.heap[w.heap.size + 1]? = some (.loop (rc .ready none)) := by
    rw [← hW1]; have := World.alloc_heap_new (w.alloc (.deferred (some []))) (.loop (rc .ready none)); rwa [World.size_alloc] at this
  have hd1 : W1.heap[w.heap.size]? = some (.deferred (some [])) := by
    rw [← hW1]; exact (Below.heap_alloc _ _ _ (by simp)).trans (World.alloc_heap_new w _)
  refine ⟨w.heap.size + 1, [mark w.heap.size], W1, { target := .fn (.func gf) lb, args := #[.func (.yield (w.heap.size + 1)) #[] #[]] }, W1, gf,
    #[.func (.yield (w.heap.size + 1)) #[] #[]] ++ lb, W1, ?_, ?_, fun _ _ => trivial, ?_, (fun h => by cases h), ?_⟩
  · rw [← hW1, hrc]; exact run_enterLoop_outer _ _ _ _ _
  · simp only [resolve, hg]; simp [go_sem]
  · simp [invoke, go_sem, eg]
  · refine (hit W1 hb1 (by omega) (n - 1) (w.heap.size + 1)
      (fun pre W => I pre W ∧ W.heap[w.heap.size + 1]? = some (.loop (rc .ready none)) ∧ W.heap[w.heap.size]? = some (.deferred (some [])))
      (fun pre W => Ix pre W ∧ W.heap[w.heap.size + 1]? = some (.loop (rc .done (some .ret))) ∧ W.heap[w.heap.size]? = some (.deferred (some [])))
      (fun pre A B h hs => ⟨hI pre A B (h.mono (fun k _ h => h.elim)) hs.1, (h.block _ (Array.getElem?_eq_some_iff.1 hs.2.1).1 id).trans hs.2.1, (h.block _ (Array.getElem?_eq_some_iff.1 hs.2.2).1 id).trans hs.2.2⟩)
      (fun pre A B h hs => ⟨hIx pre A B (h.mono (fun k _ h => h.elim)) hs.1, (h.block _ (Array.getElem?_eq_some_iff.1 hs.2.1).1 id).trans hs.2.1, (h.block _ (Array.getElem?_eq_some_iff.1 hs.2.2).1 id).trans hs.2.2⟩)
      ?_ ⟨hI _ _ _ (Kept.of_new _ hb1) h0, hl1, hd1⟩).mono ?_
    · rintro m pre x W ⟨hi, hl, hd⟩ hpre
      have hlt : w.heap.size + 1 < W.heap.size := (Array.getElem?_eq_some_iff.1 hl).1
      have hy := run_yield (P := P) (args := encs x) hl (by rw [hrc]; exact hps x)
      rw [hrc] at hy
      refine ⟨fn, _, assign, body, hy, roundIn_of_wpIn hfn (wpIn_mono (hround _ m pre x W rfl hlt hi hpre) ?_)⟩
      clear hy
      rintro e a1 w1 hq
      cases e with
      | normal =>
        obtain ⟨hbw, hbody⟩ := hq
        have hl' := (hbw.block _ hlt).trans hl
        have hd' := (hbw.block _ (by omega)).trans hd
        have hlt' : w.heap.size + 1 < w1.heap.size := (Array.getElem?_eq_some_iff.1 hl').1
        refine ⟨_, run_beginRound hl' (by rw [hrc]), wpIn_mono (hbody _ ((Kept.refl (fun k => k = w.heap.size + 1) w1).putObj rfl _) (hI pre _ _ ?_ hi)) ?_⟩
        · exact (Kept.of_new _ hbw).trans ((Kept.refl (fun k => k = w.heap.size + 1) w1).putObj rfl _)
        · have hl2 : (w1.putObj (w.heap.size + 1) (.loop { rc .ready none with state := .busy })).heap[w.heap.size + 1]? = some (.loop { rc .ready none with state := .busy }) := World.putObj_heap_same hlt'
          have hd2 : (w1.putObj (w.heap.size + 1) (.loop { rc .ready none with state := .busy })).heap[w.heap.size]? = some (.deferred (some [])) := (World.putObj_heap_other (by omega)).trans hd'
          have hk2 : Kept (fun k => S k ∨ k = w.heap.size + 1) W (w1.putObj (w.heap.size + 1) (.loop { rc .ready none with state := .busy })) := (Kept.of_new _ hbw).putObj (.inr rfl) _
          rintro e a2 w3 hq
          cases e with
          | normal =>
            obtain ⟨hk3, hi3⟩ := hq
            have hl3 := (hk3.block _ (Array.getElem?_eq_some_iff.1 hl2).1 hSl).trans hl2
            have hd3 := (hk3.block _ (Array.getElem?_eq_some_iff.1 hd2).1 hSd).trans hd2
            have hr := run_endRound (P := P) none hl3
            refine ⟨_, _, hr, (hk2.trans (hk3.mono fun k _ h => .inl h)).putObj (.inr rfl) _, .inl ⟨rfl, ?_, ?_, ?_⟩⟩
            · exact hI _ _ _ ((Kept.refl (fun k => k = w.heap.size + 1) w3).putObj rfl _) hi3
            · rw [hrc]; rw [hrc] at hl3; exact World.putObj_heap_same (Array.getElem?_eq_some_iff.1 hl3).1
            · exact (World.putObj_heap_other (by omega)).trans hd3
          | ret =>
            obtain ⟨hk3, hi3⟩ := hq
            have hl3 := (hk3.block _ (Array.getElem?_eq_some_iff.1 hl2).1 hSl).trans hl2
            have hd3 := (hk3.block _ (Array.getElem?_eq_some_iff.1 hd2).1 hSd).trans hd2
            have hr := run_endRound (P := P) (some .ret) hl3
            refine ⟨_, _, hr, (hk2.trans (hk3.mono fun k _ h => .inl h)).putObj (.inr rfl) _, .inr ⟨rfl, ?_, ?_, ?_⟩⟩
            · exact hIx _ _ _ ((Kept.refl (fun k => k = w.heap.size + 1) w3).putObj rfl _) hi3
            · rw [hrc]; rw [hrc] at hl3; exact World.putObj_heap_same (Array.getElem?_eq_some_iff.1 hl3).1
            · exact (World.putObj_heap_other (by omega)).trans hd3
          | exit id => exact hq.elim
          | goto t => exact hq.elim
          | panic ch => exact hq.elim
          | outgrown => exact hq.elim
      | ret => exact hq.elim
      | exit id => exact hq.elim
      | goto t => exact hq.elim
      | panic ch => exact hq.elim
      | outgrown => exact hq.elim
    · rintro e W2 ⟨⟨v, rfl⟩, hk, h⟩
      have hk2 : ∀ o, Kept S w (W2.putObj (w.heap.size + 1) o) := fun o =>
        (((Kept.of_new (fun k => S k ∨ k = w.heap.size + 1) hb1).trans hk).putObj (.inr rfl) o).mono fun k hk h => h.elim id (fun e => by omega)
      have tail : ∀ o', Kept (fun k => k = w.heap.size + 1) W2 (W2.putObj (w.heap.size + 1) o') := fun o' => (Kept.refl (fun k => k = w.heap.size + 1) W2).putObj rfl _
      rcases h with ⟨hi, hl, hd⟩ | ⟨pre, hpre, hi, hl, hd⟩
      · have hr := run_endLoop (P := P) hl (by rw [hrc]; simp)
        refine ⟨none, _, by rw [hr, hrc], ?_⟩
        exact hdone _ _ rfl (hI _ _ _ (tail _) hi) (hk2 _) ((World.putObj_heap_other (by omega)).trans hd)
      · have hr := run_endLoop (P := P) hl (by rw [hrc]; simp)
        refine ⟨some .ret, _, by rw [hr, hrc], ?_⟩
        exact wpIn_ret (hstop _ pre _ rfl hpre (hIx _ _ _ (tail _) hi) (hk2 _) ((World.putObj_heap_other (by omega)).trans hd))

end Go.Proofs.Ytimfdfeleoaehaa
namespace Go.Proofs.Ytimfdfeleoaehaa
open Go.RowKit Go.Shelf
set_option linter.unusedSimpArgs false
set_option linter.unusedVariables false
attribute [local go_sem] Oper.semAt_some

theorem own_kept {A C : World} {base : Nat} {e : TypeId} {size n : Nat} {v : Value} {xs : List Value} (h : A.ownsRow base e size v n xs) (hb : ∀ g, v.ownBlock = some g → C.heap[g]? = A.heap[g]?) : C.ownsRow base e size v n xs := by
  obtain ⟨hl, h2⟩ := h
  refine ⟨hl, ?_⟩
  rcases h2 with h2 | ⟨g, cap, cur, rfl, h3, h4, h5⟩
  · exact .inl h2
  · exact .inr ⟨g, cap, cur, rfl, h3, (hb g rfl).trans h4, h5⟩

theorem own_le {A : World} {base base' : Nat} {e : TypeId} {size n : Nat} {v : Value} {xs : List Value} (h : A.ownsRow base e size v n xs) (hb : base' ≤ base) : A.ownsRow base' e size v n xs := by
  obtain ⟨hl, h2⟩ := h
  refine ⟨hl, ?_⟩
  rcases h2 with h2 | ⟨g, cap, cur, rfl, h3, h4, h5⟩
  · exact .inl h2
  · exact .inr ⟨g, cap, cur, rfl, Nat.le_trans hb h3, h4, h5⟩
theorem kept_grown {S : Nat → Prop} {A B : World} {row : Option Nat} (hg : A.grownBy B row) (hr : ∀ r, row = some r → S r) : Kept S A B :=
  ⟨hg.os, hg.tape, hg.output, hg.size, fun k hk hs => hg.block k hk (fun e => hs (hr k e.symm))⟩

end Go.Proofs.Ytimfdfeleoaehaa
namespace Go.Proofs.Ytimfdfeleoaehaa
open Go.RowKit Go.Shelf
set_option linter.unusedSimpArgs false
set_option linter.unusedVariables false

def digit (n : Nat) : ByteArray := ⟨#[UInt8.ofNat (48 + n % 10)]⟩
def digs (n : Nat) (acc : ByteArray) : ByteArray := if h : n = 0 then acc else digs (n / 10) (digit n ++ acc)
termination_by n
decreasing_by omega
def markB (k : Nat) : ByteArray := if k = 0 then ⟨#[109, 48]⟩ else ⟨#[109]⟩ ++ digs k ⟨#[]⟩

theorem digs_step (n : Nat) (x : ByteArray) (h : 0 < n) : digs n x = digs (n / 10) (digit n ++ x) := by
  rw [digs, dif_neg (by omega)]
theorem digs_none (x : ByteArray) : digs 0 x = x := by
  rw [digs, dif_pos rfl]
theorem conv_digit (n : Nat) (W : World) :
    (convert 94 9 (.slice (some ⟨W.heap.size, 0, none⟩) 1 1)).run Try.prog (W.alloc (.cells #[.int .u8 (48 + (n : Int) % 10)] 5)) = .ok (.string (digit n)) (W.alloc (.cells #[.int .u8 (48 + (n : Int) % 10)] 5)) := by
  refine (run_convert_bytes_back (W.alloc (.cells #[.int .u8 (48 + (n : Int) % 10)] 5)) 94 9 5 ⟨W.heap.size, 0, none⟩ 1 [UInt8.ofNat (48 + n % 10)] Try.underlying94 Try.underlying5 Try.underlying9 ?_).trans ?_
  · intro j hj
    have hj0 : j = 0 := by simpa using hj
    subst hj0
    have h1 : UInt8.toNat (UInt8.ofNat (48 + n % 10)) = 48 + n % 10 := by
      rw [UInt8.toNat_ofNat']
      omega
    have h2 : ([UInt8.ofNat (48 + n % 10)][0].toNat : Int) = 48 + (n : Int) % 10 := by
      show ((UInt8.ofNat (48 + n % 10)).toNat : Int) = _
      rw [h1]
      omega
    rw [h2]
    exact World.cell?_alloc_new W _ _ 0
  · rfl

set_option maxRecDepth 10000 in
set_option maxHeartbeats 1000000 in
theorem markText (k : Nat) (w : World) (hk : k ≤ 1152921504606846976) :
    Calls Try.prog 34 #[.int .i64 k] w fun e w' => e = .returned (.string (markB k)) ∧ Below w.heap.size w w' := by
  go_enter Try.func34, Try.ntmps34
  go_wp2_with fail
  · go_returns
    refine ⟨?_, Below.refl _ _⟩
    have h0 : k = 0 := by omega
    simp [markB, h0]
  · go_loopw [0, 3] (fun v0 v3 wr => ∃ (n : Nat) (x : ByteArray), v0 = .int .i64 n ∧ v3 = .string x ∧ x.size + n ≤ k ∧ Hid (digs n x = digs k ⟨#[]⟩) ∧ Below w.heap.size w wr) (fun v0 _ _ => (intOf v0).toNat)
    case atStart => exact ⟨k, ⟨#[]⟩, rfl, rfl, by simp [ByteArray.size], rfl, Below.refl _ _⟩
    case round =>
      obtain ⟨n, x, rfl, rfl, hx, hH, hB⟩ := hrel
      have hcv := conv_digit n wr
      have hz := hB.size
      have hd : (digit n).size = 1 := rfl
      go_wp2_with fail
      all_goals try (exfalso; omega)
      · have hn : 0 < n := by assumption
        refine ⟨⟨n / 10, digit n ++ x, by go_num, rfl, ?_, ?_, balloc hB _⟩, ?_⟩
        · rw [ByteArray.size_append, hd]
          omega
        · show _ = _
          rw [← digs_step n x hn]
          exact hH.out
        · simp [intOf]
          omega
      · have hn : n = 0 := by omega
        subst hn
        have h1 := hH.out
        rw [digs_none] at h1
        go_returns
        refine ⟨?_, hB⟩
        rw [markB, if_neg (by assumption), ← h1]
        rfl
theorem own_cells {w : World} {base : Nat} {v : Value} {l : List ByteArray} (h : w.ownsRow base 9 1 v l.length (strs l)) :
    ∃ a c, v = .slice a l.length c ∧ ∀ (i : Nat) (x : ByteArray), l[i]? = some x → ∃ b, a = some ⟨b, 0, none⟩ ∧ v.ownBlock = some b ∧ base ≤ b ∧ b < w.heap.size ∧ w.cell? ⟨b, i, none⟩ = some (.string x) := by
  rcases h.2 with ⟨rfl, h0⟩ | ⟨g, cap, cur, rfl, hb, hg, h3⟩
  · refine ⟨none, 0, by rw [h0], fun i x hx => ?_⟩
    have := (List.getElem?_eq_some_iff.1 hx).1
    omega
  · refine ⟨_, cap, rfl, fun i x hx => ⟨g, rfl, rfl, hb, (Array.getElem?_eq_some_iff.1 hg).1, ?_⟩⟩
    have hi := (List.getElem?_eq_some_iff.1 hx).1
    rw [h.cellAt i (by omega)]
    simp [strs, hx]
def marks (k n : Nat) : List ByteArray := (List.range n).map (fun i => markB (k + i))
theorem marks_length (k n : Nat) : (marks k n).length = n := by simp [marks]
theorem marks_get {k n i : Nat} (h : i < n) : (marks k n)[i]? = some (markB (k + i)) := by simp [marks, h]

theorem marks_store {k i : Nat} {l : List ByteArray} (h : i < l.length) : (strs (marks k i ++ l.drop i)).set i (.string (markB (k + i))) = strs (marks k (i + 1) ++ l.drop (i + 1)) := by
  have h1 : l.drop i = l[i] :: l.drop (i + 1) := List.drop_eq_getElem_cons h
  have h2 : marks k (i + 1) = marks k i ++ [markB (k + i)] := by simp [marks, List.range_succ]
  rw [h1, h2, strs, List.map_append, List.map_cons, List.set_append_right _ _ (by simp [marks_length])]
  simp [marks_length, strs]

end Go.Proofs.Ytimfdfeleoaehaa
