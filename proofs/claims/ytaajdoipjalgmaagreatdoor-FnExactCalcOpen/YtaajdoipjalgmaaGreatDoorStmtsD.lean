/-
  strings.Clone answers what it is given, in new memory of its own; no condition but that the string is no longer than Go allows.
  The words of a text: the specification's TextWords answers them, in a list of its own.
  A range over a function whose rounds end or return, at the wide fence, where rounds may write whatever is new since the loop began, and the iterator has no memory of its own; no condition on the program.
  The words of a text: the program's iterator yields them, in order, to whatever rounds take them; the text lies in memory that the rounds leave alone.
  What the law writes into an answer, and reads again: marks, a text a number.
  Lists of expressions that own their memory; what the law writes into them.
  Lists of statements that own their memory, and one of them while it is written.
  What the law writes into a list of statements that owns its memory.
  The program's copies of expressions: the same, in memory of their own.
  A list of copies of statements, each with all within it in an interval of blocks of its own.
  The program's copies of statements: the same, in memory of their own.
  A list of statements to which one is appended as nothing and then written: what it owns.
  The specification's copies of expressions.
  The specification's copies of lists of statements.
  The specification's copies of statements.
  All statements of a list: what the specification answers.
  All statements of a list: what the specification answers.
-/
import Derived.Shelf.Pu.Clone
import Derived.Shelf.Lay
import Derived.Test.YtaajdoipjalgmaaGreatDoorTreeR
import Derived.Test.YtaajdoipjalgmaaGreatDoorSpanA
import Derived.Deep.AppendLies
import Derived.Deep.RegionLaw
import Derived.OwnWalk
import Derived.Test.YtaajdoipjalgmaaGreatDoorTreeS
import Derived.Laws.IdiomStrings
import Derived.Test.YtaajdoipjalgmaaGreatDoorSameA
import Derived.Test.YtaajdoipjalgmaaGreatDoorStmtC
import Derived.Test.YtaajdoipjalgmaaGreatDoorHoldA
import Derived.Deep.DeepCutAuto
import Derived.Laws.OwnMore
import Derived.Deep.RegionHeld3
import Derived.Test.YtaajdoipjalgmaaGreatDoorOkI
namespace Go.Proofs.YtaajdoipjalgmaaGreatDoor
open Go.RowKit Go.Shelf
set_option linter.unusedSimpArgs false
set_option linter.unusedVariables false

end Go.Proofs.YtaajdoipjalgmaaGreatDoor
namespace Go.Proofs.YtaajdoipjalgmaaGreatDoor
open Go.RowKit Go.Shelf
set_option linter.unusedSimpArgs false
set_option linter.unusedVariables false

def sepB (b : UInt8) : Bool := decide ((b.toNat : Int) = 32 ∨ (b.toNat : Int) = 10)
mutual
def wst (s : ByteArray) : Nat → List ByteArray × Nat
  | 0 => ([], 0)
  | k + 1 => if sepB (s.data.getD k 32) then ((if (wst s k).2 < k then (wst s k).1 ++ [s.extract (wst s k).2 k] else (wst s k).1), k + 1) else wst s k
end
def wcut (s : ByteArray) (k : Nat) : List ByteArray := if (wst s k).2 < k then (wst s k).1 ++ [s.extract (wst s k).2 k] else (wst s k).1
def wds (s : ByteArray) : List ByteArray := wcut s s.size
theorem wst_sep {s : ByteArray} {k : Nat} (h : k < s.size) (hs : sepB s[k] = true) : wst s (k + 1) = (wcut s k, k + 1) := by
  have : s.data.getD k 32 = s[k] := by simp only [Array.getD]; rw [dif_pos (show k < s.data.size from h)]; rfl
  rw [wst, this, if_pos hs]; rfl
theorem wst_let {s : ByteArray} {k : Nat} (h : k < s.size) (hs : sepB s[k] = false) : wst s (k + 1) = wst s k := by
  have : s.data.getD k 32 = s[k] := by simp only [Array.getD]; rw [dif_pos (show k < s.data.size from h)]; rfl
  rw [wst, this, if_neg (by simp [hs])]
theorem wst_le (s : ByteArray) (k : Nat) : (wst s k).1.length ≤ (wst s k).2 ∧ (wst s k).2 ≤ k := by
  induction k with
  | zero => simp [wst]
  | succ k ih =>
    rw [wst]
    split
    · dsimp only
      split
      · simp; omega
      · omega
    · omega
theorem wcut_le (s : ByteArray) (k : Nat) : (wcut s k).length ≤ k := by
  have := wst_le s k
  unfold wcut
  split
  · simp; omega
  · omega

theorem wst_last (s : ByteArray) : wst s (s.size + 1) = (wds s, s.size + 1) := by
  have : s.data.getD s.size 32 = 32 := by simp only [Array.getD]; rw [dif_neg (show ¬ s.size < s.data.size from Nat.lt_irrefl _)]
  rw [wst, this, if_pos (by decide)]; rfl
theorem wst_next (s : ByteArray) (k : Nat) : (wst s k).1 <+: (wst s (k + 1)).1 := by
  rw [wst]
  split
  · dsimp only
    split
    · exact List.prefix_append _ _
    · exact List.prefix_refl _
  · exact List.prefix_refl _
theorem wst_pre (s : ByteArray) (k m : Nat) : (wst s k).1 <+: (wst s (k + m)).1 := by
  induction m with
  | zero => exact List.prefix_refl _
  | succ m ih => exact ih.trans (wst_next s (k + m))
theorem wst_wds (s : ByteArray) {k : Nat} (h : k ≤ s.size + 1) : (wst s k).1 <+: wds s := by
  have h1 := wst_pre s k (s.size + 1 - k)
  rw [Nat.add_sub_cancel' h, wst_last] at h1
  exact h1
theorem ext_none (s : ByteArray) (n : Nat) : (⟨#[]⟩ : ByteArray) = s.extract n n := by
  apply ByteArray.ext
  rw [ByteArray.data_extract]
  simp
  omega
theorem ext_join (s : ByteArray) {a b c : Nat} (h1 : a ≤ b) (h2 : b ≤ c) : s.extract a b ++ s.extract b c = s.extract a c := by
  apply ByteArray.ext
  rw [ByteArray.data_append, ByteArray.data_extract, ByteArray.data_extract, ByteArray.data_extract, Array.extract_append_extract, Nat.min_eq_left h1, Nat.max_eq_right h2]
theorem ext_size (s : ByteArray) {a b : Nat} (h : b ≤ s.size) : (s.extract a b).size = b - a := by
  rw [ByteArray.size_extract, Nat.min_eq_left h]
theorem empty_iff (x : ByteArray) : x.toList.isEmpty = decide (x.size = 0) := by
  rw [ByteArray.toList_eq, Bool.eq_iff_iff, List.isEmpty_iff, decide_eq_true_eq, ← List.length_eq_zero_iff]
  exact Iff.rfl
theorem some_iff (x : ByteArray) : (!x.toList.isEmpty) = decide (0 < x.size) := by
  rw [empty_iff, Bool.eq_iff_iff, Bool.not_eq_true', decide_eq_false_iff_not, decide_eq_true_eq]
  omega
theorem some_yes {x : ByteArray} (h : (!x.toList.isEmpty) = true) : 0 < x.size := by rw [some_iff] at h; simpa using h
theorem some_no {x : ByteArray} (h : (!x.toList.isEmpty) = false) : ¬ 0 < x.size := by rw [some_iff] at h; simpa using h
theorem infoStr : (Tryz.prog.info? 9).map (fun i => (i.zero, i.size, i.bytes)) = some (some (.string ByteArray.empty), 1, 16) := by kernel_rfl
def strs (l : List ByteArray) : List Value := l.map .string
theorem strs_snoc (l : List ByteArray) (x : ByteArray) : strs (l ++ [x]) = strs l ++ [.string x] := by simp [strs]
/-- A separator ends a word that is begun. -/
theorem wst_end {s x : ByteArray} {ws : List ByteArray} {k : Nat} (h : k < s.size) (hs : sepB s[k] = true) (hH : ws = (wst s k).1 ∧ x = s.extract (wst s k).2 k) :
    (0 < x.size → ws ++ [x] = (wst s (k + 1)).1) ∧ (¬ 0 < x.size → ws = (wst s (k + 1)).1) ∧ (⟨#[]⟩ : ByteArray) = s.extract (wst s (k + 1)).2 (k + 1) := by
  have h1 := wst_le s k
  have h2 : x.size = k - (wst s k).2 := by rw [hH.2, ext_size s (by omega)]
  rw [wst_sep h hs, hH.1, hH.2]
  rw [hH.2] at h2
  refine ⟨fun h0 => ?_, fun h0 => ?_, ext_none s _⟩
  · simp only [wcut]; rw [if_pos (by omega)]
  · simp only [wcut]; rw [if_neg (by omega)]
theorem wst_more {s x : ByteArray} {ws : List ByteArray} {k : Nat} (h : k < s.size) (hs : sepB s[k] = false) (hH : ws = (wst s k).1 ∧ x = s.extract (wst s k).2 k) :
    ws = (wst s (k + 1)).1 ∧ x ++ s.extract k (k + 1) = s.extract (wst s (k + 1)).2 (k + 1) := by
  have h1 := wst_le s k
  rw [wst_let h hs, hH.1, hH.2]
  exact ⟨rfl, ext_join s h1.2 (by omega)⟩
theorem wds_end {s x : ByteArray} {ws : List ByteArray} (hH : ws = (wst s s.size).1 ∧ x = s.extract (wst s s.size).2 s.size) :
    (0 < x.size → ws ++ [x] = wds s) ∧ (¬ 0 < x.size → ws = wds s) := by
  have h1 := wst_le s s.size
  have h2 : x.size = s.size - (wst s s.size).2 := by rw [hH.2, ext_size s (by omega)]
  rw [hH.1, hH.2]
  rw [hH.2] at h2
  refine ⟨fun h0 => ?_, fun h0 => ?_⟩
  · simp only [wds, wcut]; rw [if_pos (by omega)]
  · simp only [wds, wcut]; rw [if_neg (by omega)]

end Go.Proofs.YtaajdoipjalgmaaGreatDoor
namespace Go.Proofs.YtaajdoipjalgmaaGreatDoor
open Go.RowKit Go.Shelf
set_option linter.unusedSimpArgs false
set_option linter.unusedVariables false

def Iter2 {α : Type} (P : Program) (gf : Nat) (lb : Array Value) (encs : α → Array Value) (xs : List α) (S : Nat → Prop) (W : World) : Prop :=
  ∀ (n l : Nat) (J Jx : List α → World → Prop),
    (∀ pre A B, Kept (fun _ => False) A B → J pre A → J pre B) → (∀ pre A B, Kept (fun _ => False) A B → Jx pre A → Jx pre B) →
    (∀ m pre x W1, J pre W1 → pre ++ [x] <+: xs → YieldAt Fence.wide m P l (encs x) W1 fun e W' =>
      Kept S W1 W' ∧ ((e = .returned (.bool true) ∧ J (pre ++ [x]) W') ∨ (e = .returned (.bool false) ∧ Jx (pre ++ [x]) W'))) →
    J [] W →
    CallsIn Fence.wide n P gf (#[.func (.yield l) #[] #[]] ++ lb) W fun e W' => (∃ v, e = .returned v) ∧ Kept S W W' ∧ (J xs W' ∨ ∃ pre, pre <+: xs ∧ Jx pre W')

theorem range_law2 {α : Type} {P : Program} {n : Nat} {g : Operand} {ps : Array Tmp} {assign body : Code} {Q : Exit → Act → World → Prop} {a : Act} {w : World} {gf : Nat} {lb : Array Value}
    (hg : a.eval g = .func (.func gf) #[] lb) (eg : ∀ args w, (callFunc gf args).run P w = .ok (.enter gf args) w)
    (encs : α → Array Value) (hps : ∀ x, (encs x).size = ps.size) (xs : List α) (S : Nat → Prop) (I Ix : List α → World → Prop)
    (hSd : ¬ S w.heap.size) (hSl : ¬ S (w.heap.size + 1))
    (hI : ∀ pre A B, Kept (fun k => k = w.heap.size + 1) A B → I pre A → I pre B) (hIx : ∀ pre A B, Kept (fun k => k = w.heap.size + 1) A B → Ix pre A → Ix pre B) (h0 : I [] w)
    (hit : ∀ W, Below w.heap.size w W → w.heap.size + 2 ≤ W.heap.size → Iter2 P gf lb encs xs (fun k => S k ∨ k = w.heap.size + 1) W)
    (hround : ∀ (l m : Nat) (pre : List α) (x : α) (W : World), l = w.heap.size + 1 → l < W.heap.size → I pre W → pre ++ [x] <+: xs →
      assign.wpIn (Fence.wide.inRound l) m P (Exit.then (fun a₁ w₁ => Below W.heap.size W w₁ ∧
          ∀ w₂, Kept (fun k => k = l) w₁ w₂ → I pre w₂ → body.wpIn (Fence.wide.inRound l) m P (roundQ S I Ix (pre ++ [x]) w₂) a₁ w₂) (fun _ _ _ => False))
        { tmps := (ps.zip (encs x)).foldl (fun t (p, v) => t.setIfInBounds p v) a.tmps, defers := [] } W)
    (hdone : ∀ (D : Nat) (W : World), D = w.heap.size → I xs W → Kept S w W → W.heap[D]? = some (.deferred (some [])) → Q .normal { a with defers := mark D :: a.defers } W)
    (hstop : ∀ (D : Nat) (pre : List α) (W : World), D = w.heap.size → pre <+: xs → Ix pre W → Kept S w W → W.heap[D]? = some (.deferred (some [])) → Q .ret { a with defers := mark D :: a.defers } W) :
    (Code.rangeFunc g ps assign body).wpIn Fence.wide n P Q a w := by
  refine wpIn_rangeFunc ?_
  intro fn hfn
  obtain ⟨rc, hrc⟩ : ∃ rc : LoopState → Option Code → Loop, rc = fun st pe => { state := st, pending := pe, fn, tmps := a.tmps, params := ps, assign, body, defers := w.heap.size } := ⟨_, rfl⟩
  obtain ⟨W1, hW1⟩ : ∃ W1, (w.alloc (.deferred (some []))).alloc (.loop (rc .ready none)) = W1 := ⟨_, rfl⟩
  have hs1 : W1.heap.size = w.heap.size + 2 := by rw [← hW1]; simp
  have hb1 : Below w.heap.size w W1 := by rw [← hW1]; exact ((Below.refl _ w).alloc (Nat.le_refl _) _).alloc (by simp) _
  have hl1 : W1.heap[w.heap.size + 1]? = some (.loop (rc .ready none)) := by
    rw [← hW1]; have := World.alloc_heap_new (w.alloc (.deferred (some []))) (.loop (rc .ready none)); rwa [World.size_alloc] at this
  have hd1 : W1.heap[w.heap.size]? = some (.deferred (some [])) := by
    rw [← hW1]; exact (Below.heap_alloc _ _ _ (by simp)).trans (World.alloc_heap_new w _)
  refine ⟨w.heap.size + 1, [mark w.heap.size], W1, { target := .fn (.func gf) lb, args := #[.func (.yield (w.heap.size + 1)) #[] #[]] }, W1, gf,
    #[.func (.yield (w.heap.size + 1)) #[] #[]] ++ lb, W1, ?_, ?_, fun _ _ => trivial, ?_, (fun h => by cases h), ?_⟩
  · rw [← hW1, hrc]; exact run_enterLoop_outer _ _ _ _ _
  · simp only [resolve, hg]; simp [go_sem]
  · simp [invoke, go_sem, eg]
  · refine (hit W1 hb1 (by omega) (n - 1) (w.heap.size + 1)
      (fun pre W => I pre W ∧ W.heap[w.heap.size + 1]? = some (.loop (rc .ready none)) ∧ W.heap[w.heap.size]? = some (.deferred (some [])))
      (fun pre W => Ix pre W ∧ W.heap[w.heap.size + 1]? = some (.loop (rc .done (some .ret))) ∧ W.heap[w.heap.size]? = some (.deferred (some [])))
      (fun pre A B h hs => ⟨hI pre A B (h.mono (fun k _ h => h.elim)) hs.1, (h.block _ (Array.getElem?_eq_some_iff.1 hs.2.1).1 id).trans hs.2.1, (h.block _ (Array.getElem?_eq_some_iff.1 hs.2.2).1 id).trans hs.2.2⟩)
      (fun pre A B h hs => ⟨hIx pre A B (h.mono (fun k _ h => h.elim)) hs.1, (h.block _ (Array.getElem?_eq_some_iff.1 hs.2.1).1 id).trans hs.2.1, (h.block _ (Array.getElem?_eq_some_iff.1 hs.2.2).1 id).trans hs.2.2⟩)
      ?_ ⟨hI _ _ _ (Kept.of_new _ hb1) h0, hl1, hd1⟩).mono ?_
    · rintro m pre x W ⟨hi, hl, hd⟩ hpre
      have hlt : w.heap.size + 1 < W.heap.size := (Array.getElem?_eq_some_iff.1 hl).1
      have hy := run_yield (P := P) (args := encs x) hl (by rw [hrc]; exact hps x)
      rw [hrc] at hy
      refine ⟨fn, _, assign, body, hy, roundIn_of_wpIn hfn (wpIn_mono (hround _ m pre x W rfl hlt hi hpre) ?_)⟩
      clear hy
      rintro e a1 w1 hq
      cases e with
      | normal =>
        obtain ⟨hbw, hbody⟩ := hq
        have hl' := (hbw.block _ hlt).trans hl
        have hd' := (hbw.block _ (by omega)).trans hd
        have hlt' : w.heap.size + 1 < w1.heap.size := (Array.getElem?_eq_some_iff.1 hl').1
        refine ⟨_, run_beginRound hl' (by rw [hrc]), wpIn_mono (hbody _ ((Kept.refl (fun k => k = w.heap.size + 1) w1).putObj rfl _) (hI pre _ _ ?_ hi)) ?_⟩
        · exact (Kept.of_new _ hbw).trans ((Kept.refl (fun k => k = w.heap.size + 1) w1).putObj rfl _)
        · have hl2 : (w1.putObj (w.heap.size + 1) (.loop { rc .ready none with state := .busy })).heap[w.heap.size + 1]? = some (.loop { rc .ready none with state := .busy }) := World.putObj_heap_same hlt'
          have hd2 : (w1.putObj (w.heap.size + 1) (.loop { rc .ready none with state := .busy })).heap[w.heap.size]? = some (.deferred (some [])) := (World.putObj_heap_other (by omega)).trans hd'
          have hk2 : Kept (fun k => S k ∨ k = w.heap.size + 1) W (w1.putObj (w.heap.size + 1) (.loop { rc .ready none with state := .busy })) := (Kept.of_new _ hbw).putObj (.inr rfl) _
          rintro e a2 w3 hq
          cases e with
          | normal =>
            obtain ⟨hk3, hi3⟩ := hq
            have hl3 := (hk3.block _ (Array.getElem?_eq_some_iff.1 hl2).1 hSl).trans hl2
            have hd3 := (hk3.block _ (Array.getElem?_eq_some_iff.1 hd2).1 hSd).trans hd2
            have hr := run_endRound (P := P) none hl3
            refine ⟨_, _, hr, (hk2.trans (hk3.mono fun k _ h => .inl h)).putObj (.inr rfl) _, .inl ⟨rfl, ?_, ?_, ?_⟩⟩
            · exact hI _ _ _ ((Kept.refl (fun k => k = w.heap.size + 1) w3).putObj rfl _) hi3
            · rw [hrc]; rw [hrc] at hl3; exact World.putObj_heap_same (Array.getElem?_eq_some_iff.1 hl3).1
            · exact (World.putObj_heap_other (by omega)).trans hd3
          | ret =>
            obtain ⟨hk3, hi3⟩ := hq
            have hl3 := (hk3.block _ (Array.getElem?_eq_some_iff.1 hl2).1 hSl).trans hl2
            have hd3 := (hk3.block _ (Array.getElem?_eq_some_iff.1 hd2).1 hSd).trans hd2
            have hr := run_endRound (P := P) (some .ret) hl3
            refine ⟨_, _, hr, (hk2.trans (hk3.mono fun k _ h => .inl h)).putObj (.inr rfl) _, .inr ⟨rfl, ?_, ?_, ?_⟩⟩
            · exact hIx _ _ _ ((Kept.refl (fun k => k = w.heap.size + 1) w3).putObj rfl _) hi3
            · rw [hrc]; rw [hrc] at hl3; exact World.putObj_heap_same (Array.getElem?_eq_some_iff.1 hl3).1
            · exact (World.putObj_heap_other (by omega)).trans hd3
          | exit id => exact hq.elim
          | goto t => exact hq.elim
          | panic ch => exact hq.elim
          | outgrown => exact hq.elim
      | ret => exact hq.elim
      | exit id => exact hq.elim
      | goto t => exact hq.elim
      | panic ch => exact hq.elim
      | outgrown => exact hq.elim
    · rintro e W2 ⟨⟨v, rfl⟩, hk, h⟩
      have hk2 : ∀ o, Kept S w (W2.putObj (w.heap.size + 1) o) := fun o =>
        (((Kept.of_new (fun k => S k ∨ k = w.heap.size + 1) hb1).trans hk).putObj (.inr rfl) o).mono fun k hk h => h.elim id (fun e => by omega)
      have tail : ∀ o', Kept (fun k => k = w.heap.size + 1) W2 (W2.putObj (w.heap.size + 1) o') := fun o' => (Kept.refl (fun k => k = w.heap.size + 1) W2).putObj rfl _
      rcases h with ⟨hi, hl, hd⟩ | ⟨pre, hpre, hi, hl, hd⟩
      · have hr := run_endLoop (P := P) hl (by rw [hrc]; simp)
        refine ⟨none, _, by rw [hr, hrc], ?_⟩
        exact hdone _ _ rfl (hI _ _ _ (tail _) hi) (hk2 _) ((World.putObj_heap_other (by omega)).trans hd)
      · have hr := run_endLoop (P := P) hl (by rw [hrc]; simp)
        refine ⟨some .ret, _, by rw [hr, hrc], ?_⟩
        exact wpIn_ret (hstop _ pre _ rfl hpre (hIx _ _ _ (tail _) hi) (hk2 _) ((World.putObj_heap_other (by omega)).trans hd))

end Go.Proofs.YtaajdoipjalgmaaGreatDoor
namespace Go.Proofs.YtaajdoipjalgmaaGreatDoor
open Go.RowKit Go.Shelf
set_option linter.unusedSimpArgs false
set_option linter.unusedVariables false
attribute [local go_sem] Oper.semAt_some

theorem own_kept {A C : World} {base : Nat} {e : TypeId} {size n : Nat} {v : Value} {xs : List Value} (h : A.ownsRow base e size v n xs) (hb : ∀ g, v.ownBlock = some g → C.heap[g]? = A.heap[g]?) : C.ownsRow base e size v n xs := by
  obtain ⟨hl, h2⟩ := h
  refine ⟨hl, ?_⟩
  rcases h2 with h2 | ⟨g, cap, cur, rfl, h3, h4, h5⟩
  · exact .inl h2
  · exact .inr ⟨g, cap, cur, rfl, h3, (hb g rfl).trans h4, h5⟩

theorem own_le {A : World} {base base' : Nat} {e : TypeId} {size n : Nat} {v : Value} {xs : List Value} (h : A.ownsRow base e size v n xs) (hb : base' ≤ base) : A.ownsRow base' e size v n xs := by
  obtain ⟨hl, h2⟩ := h
  refine ⟨hl, ?_⟩
  rcases h2 with h2 | ⟨g, cap, cur, rfl, h3, h4, h5⟩
  · exact .inl h2
  · exact .inr ⟨g, cap, cur, rfl, Nat.le_trans hb h3, h4, h5⟩
theorem kept_grown {S : Nat → Prop} {A B : World} {row : Option Nat} (hg : A.grownBy B row) (hr : ∀ r, row = some r → S r) : Kept S A B :=
  ⟨hg.os, hg.tape, hg.output, hg.size, fun k hk hs => hg.block k hk (fun e => hs (hr k e.symm))⟩

end Go.Proofs.YtaajdoipjalgmaaGreatDoor
namespace Go.Proofs.YtaajdoipjalgmaaGreatDoor
open Go.RowKit Go.Shelf
set_option linter.unusedSimpArgs false
set_option linter.unusedVariables false

def digit (n : Nat) : ByteArray := ⟨#[UInt8.ofNat (48 + n % 10)]⟩
def digs (n : Nat) (acc : ByteArray) : ByteArray := if h : n = 0 then acc else digs (n / 10) (digit n ++ acc)
termination_by n
decreasing_by omega
def markB (k : Nat) : ByteArray := if k = 0 then ⟨#[109, 48]⟩ else ⟨#[109]⟩ ++ digs k ⟨#[]⟩

theorem digs_step (n : Nat) (x : ByteArray) (h : 0 < n) : digs n x = digs (n / 10) (digit n ++ x) := by
  rw [digs, dif_neg (by omega)]
theorem digs_none (x : ByteArray) : digs 0 x = x := by
  rw [digs, dif_pos rfl]
theorem conv_digit (n : Nat) (W : World) :
    (convert 173 9 (.slice (some ⟨W.heap.size, 0, none⟩) 1 1)).run Tryz.prog (W.alloc (.cells #[.int .u8 (48 + (n : Int) % 10)] 5)) = .ok (.string (digit n)) (W.alloc (.cells #[.int .u8 (48 + (n : Int) % 10)] 5)) := by
  refine (run_convert_bytes_back (W.alloc (.cells #[.int .u8 (48 + (n : Int) % 10)] 5)) 173 9 5 ⟨W.heap.size, 0, none⟩ 1 [UInt8.ofNat (48 + n % 10)] Tryz.underlying173 Tryz.underlying5 Tryz.underlying9 ?_).trans ?_
  · intro j hj
    have hj0 : j = 0 := by simpa using hj
    subst hj0
    have h1 : UInt8.toNat (UInt8.ofNat (48 + n % 10)) = 48 + n % 10 := by
      rw [UInt8.toNat_ofNat']
      omega
    have h2 : ([UInt8.ofNat (48 + n % 10)][0].toNat : Int) = 48 + (n : Int) % 10 := by
      show ((UInt8.ofNat (48 + n % 10)).toNat : Int) = _
      rw [h1]
      omega
    rw [h2]
    exact World.cell?_alloc_new W _ _ 0
  · rfl

set_option maxRecDepth 10000 in
set_option maxHeartbeats 1000000 in
theorem markText (k : Nat) (w : World) (hk : k ≤ 1152921504606846976) :
    Calls Tryz.prog 77 #[.int .i64 k] w fun e w' => e = .returned (.string (markB k)) ∧ Below w.heap.size w w' := by
  go_enter Tryz.func77, Tryz.ntmps77
  go_wp2_with fail
  · go_returns
    refine ⟨?_, Below.refl _ _⟩
    have h0 : k = 0 := by omega
    simp [markB, h0]
  · go_loopw [0, 3] (fun v0 v3 wr => ∃ (n : Nat) (x : ByteArray), v0 = .int .i64 n ∧ v3 = .string x ∧ x.size + n ≤ k ∧ Hid (digs n x = digs k ⟨#[]⟩) ∧ Below w.heap.size w wr) (fun v0 _ _ => (intOf v0).toNat)
    case atStart => exact ⟨k, ⟨#[]⟩, rfl, rfl, by simp [ByteArray.size], rfl, Below.refl _ _⟩
    case round =>
      obtain ⟨n, x, rfl, rfl, hx, hH, hB⟩ := hrel
      have hcv := conv_digit n wr
      have hz := hB.size
      have hd : (digit n).size = 1 := rfl
      go_wp2_with fail
      all_goals try (exfalso; omega)
      · have hn : 0 < n := by assumption
        refine ⟨⟨n / 10, digit n ++ x, by go_num, rfl, ?_, ?_, balloc hB _⟩, ?_⟩
        · rw [ByteArray.size_append, hd]
          omega
        · show _ = _
          rw [← digs_step n x hn]
          exact hH.out
        · simp [intOf]
          omega
      · have hn : n = 0 := by omega
        subst hn
        have h1 := hH.out
        rw [digs_none] at h1
        go_returns
        refine ⟨?_, hB⟩
        rw [markB, if_neg (by assumption), ← h1]
        rfl
theorem own_cells {w : World} {base : Nat} {v : Value} {l : List ByteArray} (h : w.ownsRow base 9 1 v l.length (strs l)) :
    ∃ a c, v = .slice a l.length c ∧ ∀ (i : Nat) (x : ByteArray), l[i]? = some x → ∃ b, a = some ⟨b, 0, none⟩ ∧ v.ownBlock = some b ∧ base ≤ b ∧ b < w.heap.size ∧ w.cell? ⟨b, i, none⟩ = some (.string x) := by
  rcases h.2 with ⟨rfl, h0⟩ | ⟨g, cap, cur, rfl, hb, hg, h3⟩
  · refine ⟨none, 0, by rw [h0], fun i x hx => ?_⟩
    have := (List.getElem?_eq_some_iff.1 hx).1
    omega
  · refine ⟨_, cap, rfl, fun i x hx => ⟨g, rfl, rfl, hb, (Array.getElem?_eq_some_iff.1 hg).1, ?_⟩⟩
    have hi := (List.getElem?_eq_some_iff.1 hx).1
    rw [h.cellAt i (by omega)]
    simp [strs, hx]
set_option maxHeartbeats 2000000 in
theorem eqStr (l : List ByteArray) (v v' : Value) (base base' : Nat) (w : World) (ha : w.ownsRow base 9 1 v l.length (strs l)) (hb : w.ownsRow base' 9 1 v' l.length (strs l)) (hlen : l.length ≤ 1048577) :
    Calls Tryz.prog 39 #[v, v'] w fun e w' => e = .returned (.bool true) ∧ Below w.heap.size w w' := by
  obtain ⟨a, c, rfl, hcl⟩ := own_cells ha
  obtain ⟨a', c', rfl, hcl'⟩ := own_cells hb
  clear ha hb
  obtain ⟨len, hl⟩ : ∃ len, l.length = len := ⟨_, rfl⟩
  rw [hl] at hlen ⊢
  go_enter Tryz.func39, Tryz.ntmps39
  go_wp2
  go_loopw [5] (fun v5 wr => ∃ (i : Nat), v5 = .int .i64 i ∧ i ≤ len ∧ Below w.heap.size w wr) (fun v5 _ => len - (intOf v5).toNat)
  case atStart => exact ⟨0, rfl, by omega, Below.refl _ _⟩
  case round =>
    obtain ⟨i, rfl, hi, hB⟩ := hrel
    by_cases hlt : i < len
    · obtain ⟨x, hx⟩ : ∃ x, l[i]? = some x := ⟨_, List.getElem?_eq_getElem (by omega)⟩
      obtain ⟨b1, hbase1, -, -, hok1, hc1⟩ := hcl i x hx
      obtain ⟨b2, hbase2, -, -, hok2, hc2⟩ := hcl' i x hx
      have e0 := below_cell hB hc1 hok1
      have g0 := below_cell hB hc2 hok2
      subst hbase1
      subst hbase2
      haveI : Nonempty (Later wr) := ⟨⟨wr, Below.refl _ _⟩⟩
      have e1 := Later.cell e0
      have g1 := Later.cell g0
      go_wp2_with fail
      refine region_class (fun w' => ∃ z : Later wr, w' = z.at) (by kernel_rfl) (by kernel_rfl) ⟨⟨_, (Below.refl _ _).drew⟩, rfl⟩ ?_
      repeat (go_big_quiet_step (fail))
      refine wpQuiet_nil ?_
      rintro w' ⟨z, rfl⟩
      go_wp2
      go_roundw
      case rel => exact ⟨i + 1, by go_num, by omega, hB.trans ((Later.below z).mono hB.size)⟩
      case measure => simp [intOf]; omega
    · go_wp2
      go_returns
      exact ⟨rfl, hB⟩

def marks (k n : Nat) : List ByteArray := (List.range n).map (fun i => markB (k + i))
theorem marks_length (k n : Nat) : (marks k n).length = n := by simp [marks]
theorem marks_get {k n i : Nat} (h : i < n) : (marks k n)[i]? = some (markB (k + i)) := by simp [marks, h]

theorem marks_store {k i : Nat} {l : List ByteArray} (h : i < l.length) : (strs (marks k i ++ l.drop i)).set i (.string (markB (k + i))) = strs (marks k (i + 1) ++ l.drop (i + 1)) := by
  have h1 : l.drop i = l[i] :: l.drop (i + 1) := List.drop_eq_getElem_cons h
  have h2 : marks k (i + 1) = marks k i ++ [markB (k + i)] := by simp [marks, List.range_succ]
  rw [h1, h2, strs, List.map_append, List.map_cons, List.set_append_right _ _ (by simp [marks_length])]
  simp [marks_length, strs]

set_option maxRecDepth 10000 in
set_option maxHeartbeats 2000000 in
theorem markStr (l : List ByteArray) (k : Nat) (v : Value) (base : Nat) (w : World) (ha : w.ownsRow base 9 1 v l.length (strs l)) (hn : l.length ≤ 1048577) (hk : k ≤ 1048577) :
    Calls Tryz.prog 43 #[v, .int .i64 k] w fun e w' => e = .returned (.int .i64 ((k + l.length : Nat) : Int)) ∧ w'.ownsRow base 9 1 v (marks k l.length).length (strs (marks k l.length)) ∧ Kept (fun b => v.ownBlock = some b) w w' := by
  obtain ⟨a, c, hv, -⟩ := own_cells ha
  obtain ⟨n, hl⟩ : ∃ n, l.length = n := ⟨_, rfl⟩
  have hvn : v.ownBlock = some (a.getD ⟨0, 0, none⟩).block ∨ n = 0 := by
    rcases ha.2 with ⟨-, h0⟩ | ⟨g, cap, cur, hv', -⟩
    · right; omega
    · left
      rw [hv] at hv' ⊢
      cases hv'
      rfl
  rw [hl] at ha hn hv ⊢
  subst hv
  go_enter Tryz.func43, Tryz.ntmps43
  go_wp2
  go_loopw [1, 5] (fun v1 v5 wr => ∃ (i : Nat), v5 = .int .i64 i ∧ v1 = .int .i64 ((k + i : Nat) : Int) ∧ i ≤ n ∧ wr.ownsRow base 9 1 (.slice a n c) n (strs (marks k i ++ l.drop i)) ∧ Kept (fun b => (Value.slice a n c).ownBlock = some b) w wr) (fun _ v5 _ => n - (intOf v5).toNat)
  case atStart => exact ⟨0, rfl, rfl, by omega, by simpa [marks] using ha, Kept.refl _ _⟩
  case round =>
    obtain ⟨i, rfl, rfl, hi, hown, hK⟩ := hrel
    by_cases hlt : i < n
    · obtain ⟨g, cap, hv, hbg, hgl⟩ := hown.form (by omega)
      cases hv
      have hce : wr.cell? ⟨g, i, none⟩ = (strs (marks k i ++ l.drop i))[i]? := hown.cellAt i (by omega)
      have hfz := hown.frozenAt i
      obtain ⟨u, hu⟩ : ∃ u, (strs (marks k i ++ l.drop i))[i]? = some u := ⟨_, List.getElem?_eq_getElem (by simp [strs, marks_length]; omega)⟩
      rw [hu] at hce
      go_wp2_with (go_at_call 77; refine (markText (k + i) _ (by omega)).mono ?_; rintro e w2 ⟨rfl, hb⟩; (have hown2 := own_kept (C := w2) hown (fun q hq => hb.block q (hown.lt q hq).2)); (have hce2 := below_cell hb hce hgl); (have hfz2 := hown2.frozenAt i))
      go_roundw
      case rel =>
        refine ⟨i + 1, by go_num, by go_num, by omega, ?_, (hK.trans (Kept.of_new _ hb)).setCell (p := ⟨g, i, none⟩) rfl _⟩
        have h1 := (hown2.stored i (.string (markB (k + i)))).1
        rw [marks_store (by omega)] at h1
        exact h1
      case measure => simp [intOf]; omega
    · have he : i = n := by omega
      subst he
      go_wp2
      go_returns
      refine ⟨rfl, ?_, hK⟩
      rw [← hl, List.drop_length, List.append_nil] at hown
      rw [marks_length, ← hl]
      exact hown
end Go.Proofs.YtaajdoipjalgmaaGreatDoor
namespace Go.Proofs.YtaajdoipjalgmaaGreatDoor
open Go.RowKit Go.Shelf
set_option linter.unusedSimpArgs false
set_option linter.unusedVariables false
attribute [local go_sem] Oper.semAt_some

mutual
def XT.mark : XT → Nat → XT
  | .mk _ _ _ a c ks, k => .mk ((k : Nat) : Int) ((k + 1 : Nat) : Int) (markB (k + 2)) a c (XT.markL ks (k + 3))
def XT.markL : List XT → Nat → List XT
  | [], _ => []
  | t :: ts, k => XT.mark t k :: XT.markL ts (k + 3 * XT.size t)
end
theorem XT.mark_eq (t : XT) (k : Nat) : t.mark k = .mk ((k : Nat) : Int) ((k + 1 : Nat) : Int) (markB (k + 2)) t.base t.cap (XT.markL t.kids (k + 3)) := by cases t; rw [XT.mark]; rfl
theorem XT.markL_length : ∀ (ks : List XT) (k : Nat), (XT.markL ks k).length = ks.length
  | [], _ => by rw [XT.markL]
  | t :: ts, k => by rw [XT.markL, List.length_cons, List.length_cons, XT.markL_length ts]
theorem XT.markL_get : ∀ (ks : List XT) (k i : Nat) (x : XT), ks[i]? = some x → (XT.markL ks k)[i]? = some (x.mark (k + 3 * XT.sizeAll (ks.take i)))
  | [], _, _, _, h => by simp at h
  | t :: ts, k, 0, x, h => by
    simp at h
    subst h
    simp [XT.markL, XT.sizeAll]
  | t :: ts, k, i + 1, x, h => by
    have h1 := XT.markL_get ts (k + 3 * t.size) i x (by simpa using h)
    rw [XT.markL, List.getElem?_cons_succ, h1, List.take_succ_cons, XT.sizeAll]
    congr 2
    omega
theorem XT.markL_back {ks : List XT} {k i : Nat} {y : XT} (h : (XT.markL ks k)[i]? = some y) : ∃ x, ks[i]? = some x ∧ y = x.mark (k + 3 * XT.sizeAll (ks.take i)) := by
  have hi : i < ks.length := by have := (List.getElem?_eq_some_iff.1 h).1; rw [XT.markL_length] at this; exact this
  refine ⟨_, List.getElem?_eq_getElem hi, ?_⟩
  rw [XT.markL_get ks k i _ (List.getElem?_eq_getElem hi)] at h
  exact (Option.some.inj h).symm
theorem XT.sizeAll_snoc {ks : List XT} {i : Nat} {t : XT} (h : ks[i]? = some t) : XT.sizeAll (ks.take (i + 1)) = XT.sizeAll (ks.take i) + t.size := by
  have ha : ∀ us bs : List XT, XT.sizeAll (us ++ bs) = XT.sizeAll us + XT.sizeAll bs := by
    intro us bs
    induction us with
    | nil => simp [XT.sizeAll]
    | cons x xs ih => simp [XT.sizeAll, ih]; omega
  rw [List.take_add_one, h, ha]
  simp [XT.sizeAll]
theorem XT.sizeAll_le (ks : List XT) (i : Nat) : XT.sizeAll (ks.take i) ≤ XT.sizeAll ks := by
  induction ks generalizing i with
  | nil => simp
  | cons x xs ih =>
    cases i with
    | zero => simp [XT.sizeAll]
    | succ i => have := ih i; simp [XT.sizeAll]; omega

theorem XT.len_le (ks : List XT) : ks.length ≤ XT.sizeAll ks := by
  induction ks with
  | nil => simp
  | cons x xs ih => have := XT.size_eq x; simp [XT.sizeAll]; omega
/-- A list of expressions in a block of its own, what is within each in an interval of blocks of its own. -/
inductive OwnR (W : World) : Nat → Nat → Option Addr → List XT → Prop
  | mk (lo hi : Nat) (a : Option Addr) (ks : List XT) (g N : Nat) (l h : Nat → Nat)
      (row : ∀ (i : Nat) (k : XT), ks[i]? = some k → a = some ⟨g, 0, none⟩ ∧ lo ≤ g ∧ g < hi ∧ RowAt W g N 123 ∧ ks.length * 4 ≤ N)
      (cell : ∀ (i : Nat) (k : XT), ks[i]? = some k → Cells4 W g (0 + i * 4) k)
      (box : ∀ (i : Nat), i < ks.length → lo ≤ l i ∧ h i ≤ hi ∧ (g < l i ∨ h i ≤ g))
      (apart : ∀ (i j : Nat), i < ks.length → j < ks.length → i ≠ j → h i ≤ l j ∨ h j ≤ l i)
      (kid : ∀ (i : Nat) (k : XT), ks[i]? = some k → OwnR W (l i) (h i) k.base k.kids) : OwnR W lo hi a ks
theorem OwnR.mono {A B : World} {lo hi : Nat} {a : Option Addr} {ks : List XT} (h : OwnR A lo hi a ks) : (∀ b, lo ≤ b → b < hi → B.heap[b]? = A.heap[b]?) → OwnR B lo hi a ks := by
  induction h with
  | mk lo hi a ks g N l h row cell box apart kid ih =>
    intro hb
    refine .mk lo hi a ks g N l h (fun i k hk => ?_) (fun i k hk => ?_) box apart (fun i k hk => ih i k hk (fun b h1 h2 => hb b ?_ ?_))
    · obtain ⟨r1, r2, r3, r4, r5⟩ := row i k hk
      exact ⟨r1, r2, r3, r4.of_block (hb g r2 r3), r5⟩
    · obtain ⟨r1, r2, r3, r4, r5⟩ := row i k hk
      have hc := cell i k hk
      have he := hb g r2 r3
      exact ⟨(cell_of_block (a := ⟨g, _, none⟩) he).trans hc.c0, (cell_of_block (a := ⟨g, _, none⟩) he).trans hc.c1, (cell_of_block (a := ⟨g, _, none⟩) he).trans hc.c2, (cell_of_block (a := ⟨g, _, none⟩) he).trans hc.c3⟩
    · have := (box i (List.getElem?_eq_some_iff.1 hk).1).1; omega
    · have := (box i (List.getElem?_eq_some_iff.1 hk).1).2.1; omega
theorem OwnR.parts {W : World} {lo hi : Nat} {a : Option Addr} {ks : List XT} (h : OwnR W lo hi a ks) : ∃ (g N : Nat) (l h : Nat → Nat), (∀ (i : Nat) (k : XT), ks[i]? = some k → a = some ⟨g, 0, none⟩ ∧ lo ≤ g ∧ g < hi ∧ RowAt W g N 123 ∧ ks.length * 4 ≤ N) ∧
    (∀ (i : Nat) (k : XT), ks[i]? = some k → Cells4 W g (0 + i * 4) k) ∧ (∀ (i : Nat), i < ks.length → lo ≤ l i ∧ h i ≤ hi ∧ (g < l i ∨ h i ≤ g)) ∧ (∀ (i j : Nat), i < ks.length → j < ks.length → i ≠ j → h i ≤ l j ∨ h j ≤ l i) ∧ (∀ (i : Nat) (k : XT), ks[i]? = some k → OwnR W (l i) (h i) k.base k.kids) := by
  cases h with
  | mk _ _ _ _ g N l h row cell box apart kid => exact ⟨g, N, l, h, row, cell, box, apart, kid⟩
theorem OwnR.wide {W : World} {lo hi lo' hi' : Nat} {a : Option Addr} {ks : List XT} (h : OwnR W lo hi a ks) (h1 : lo' ≤ lo) (h2 : hi ≤ hi') : OwnR W lo' hi' a ks := by
  cases h with
  | mk _ _ _ _ g N l h row cell box apart kid =>
    refine .mk lo' hi' a ks g N l h (fun i k hk => ?_) cell (fun i hi => ?_) apart kid
    · obtain ⟨r1, r2, r3, r4, r5⟩ := row i k hk
      exact ⟨r1, by omega, by omega, r4, r5⟩
    · obtain ⟨b1, b2, b3⟩ := box i hi
      exact ⟨by omega, by omega, b3⟩
theorem OwnR.lies {W : World} {lo hi : Nat} {a : Option Addr} {ks : List XT} (h : OwnR W lo hi a ks) : ERow (fun b => lo ≤ b ∧ b < hi) W a ks ∧ ∀ (i : Nat) (k : XT), ks[i]? = some k → Lies (fun b => lo ≤ b ∧ b < hi) W k := by
  induction h with
  | mk lo hi a ks g N l h row cell box apart kid ih =>
    refine ⟨fun i k hk => ?_, fun i k hk => ?_⟩
    · obtain ⟨r1, r2, r3, r4, r5⟩ := row i k hk
      exact ⟨g, 0, r1, ⟨r2, r3⟩, cell i k hk⟩
    · obtain ⟨b1, b2, b3⟩ := box i (List.getElem?_eq_some_iff.1 hk).1
      obtain ⟨q1, q2⟩ := ih i k hk
      refine .mk k (fun j y hy => ?_) (fun j y hy => ?_)
      · obtain ⟨b, o, e1, e2, e3⟩ := q1 j y hy
        exact ⟨b, o, e1, ⟨by omega, by omega⟩, e3⟩
      · exact (q2 j y hy).mono (fun b hb _ => ⟨⟨by omega, by omega⟩, rfl⟩)
def XT.cur (ks : List XT) (k i j : Nat) (x : XT) : XT := if j < i then x.mark (k + 3 * XT.sizeAll (ks.take j)) else x
theorem XT.cur_heads (ks : List XT) (k i j : Nat) (x : XT) : (XT.cur ks k i j x).base = x.base ∧ (XT.cur ks k i j x).cap = x.cap ∧ (XT.cur ks k i j x).kids.length = x.kids.length := by
  unfold XT.cur
  split
  · rw [XT.mark_eq]
    exact ⟨rfl, rfl, XT.markL_length _ _⟩
  · exact ⟨rfl, rfl, rfl⟩
structure MSt (ks : List XT) (g N : Nat) (l h : Nat → Nat) (k i : Nat) (W : World) : Prop where
  row : ∀ (j : Nat) (x : XT), ks[j]? = some x → RowAt W g N 123
  cell : ∀ (j : Nat) (x : XT), ks[j]? = some x → Cells4 W g (0 + j * 4) (XT.cur ks k i j x)
  kid : ∀ (j : Nat) (x : XT), ks[j]? = some x → OwnR W (l j) (h j) (XT.cur ks k i j x).base (XT.cur ks k i j x).kids

set_option maxRecDepth 10000 in
set_option maxHeartbeats 4000000 in
theorem markE (sz : Nat) : ∀ ks : List XT, XT.sizeAll ks ≤ sz → XT.sizeAll ks ≤ 1152921504606846976 → ∀ (lo hi : Nat) (a : Option Addr) (c k : Nat) (w : World), OwnR w lo hi a ks → hi ≤ w.heap.size → k + 3 * XT.sizeAll ks ≤ 1152921504606846976 →
    Calls Tryz.prog 109 #[.slice a ks.length c, .int .i64 k] w fun e w' => e = .returned (.int .i64 ((k + 3 * XT.sizeAll ks : Nat) : Int)) ∧ OwnR w' lo hi a (XT.markL ks k) ∧ Kept (fun b => lo ≤ b ∧ b < hi) w w' := by
  induction sz using Nat.strongRecOn with
  | _ sz ih =>
  intro ks hsz hlim lo hi a c k w hO hhi hk
  have hlen : ks.length ≤ 1152921504606846976 := Nat.le_trans (XT.len_le ks) hlim
  have ih' : Hid (∀ m < sz, ∀ ks : List XT, XT.sizeAll ks ≤ m → XT.sizeAll ks ≤ 1152921504606846976 → ∀ (lo hi : Nat) (a : Option Addr) (c k : Nat) (w : World), OwnR w lo hi a ks → hi ≤ w.heap.size → k + 3 * XT.sizeAll ks ≤ 1152921504606846976 →
    Calls Tryz.prog 109 #[.slice a ks.length c, .int .i64 k] w fun e w' => e = .returned (.int .i64 ((k + 3 * XT.sizeAll ks : Nat) : Int)) ∧ OwnR w' lo hi a (XT.markL ks k) ∧ Kept (fun b => lo ≤ b ∧ b < hi) w w') := ih
  clear ih
  obtain ⟨g, N, l, h, row, cell, box, apart, kid⟩ := hO.parts
  clear hO
  obtain ⟨len, hl⟩ : ∃ len, ks.length = len := ⟨_, rfl⟩
  have hS0 : MSt ks g N l h k 0 w := ⟨fun j x hx => (row j x hx).2.2.2.1, fun j x hx => by simpa [XT.cur] using cell j x hx, fun j x hx => by simpa [XT.cur] using kid j x hx⟩
  have hrowH : Hid (∀ (i : Nat) (k : XT), ks[i]? = some k → a = some ⟨g, 0, none⟩ ∧ lo ≤ g ∧ g < hi ∧ RowAt w g N 123 ∧ ks.length * 4 ≤ N) := row
  have hboxH : Hid (∀ (i : Nat), i < ks.length → lo ≤ l i ∧ h i ≤ hi ∧ (g < l i ∨ h i ≤ g)) := box
  have hapH : Hid (∀ (i j : Nat), i < ks.length → j < ks.length → i ≠ j → h i ≤ l j ∨ h j ≤ l i) := apart
  clear row cell box apart kid
  rw [hl] at hlen ⊢
  go_enter Tryz.func109, Tryz.ntmps109
  go_wp2_with fail
  go_loopw [1, 5] (fun v1 v5 wr => ∃ (i : Nat), v5 = .int .i64 i ∧ v1 = .int .i64 ((k + 3 * XT.sizeAll (ks.take i) : Nat) : Int) ∧ i ≤ len ∧ Hid (MSt ks g N l h k i wr) ∧ Kept (fun b => lo ≤ b ∧ b < hi) w wr) (fun _ v5 _ => len - (intOf v5).toNat)
  case atStart => exact ⟨0, rfl, by simp [XT.sizeAll], by omega, hS0, Kept.refl _ _⟩
  case round =>
    obtain ⟨i, rfl, rfl, hi', hS, hK⟩ := hrel
    by_cases hlt : i < len
    · obtain ⟨x, hx⟩ : ∃ x, ks[i]? = some x := ⟨_, List.getElem?_eq_getElem (by omega)⟩
      obtain ⟨ha, hg1, hg2', -, hN⟩ := hrowH.out i x hx
      obtain ⟨b1, b2, b3⟩ := hboxH.out i (by omega)
      have hR := hS.out.row i x hx
      have hc := hS.out.cell i x hx
      have hO := hS.out.kid i x hx
      have hcur : XT.cur ks k i i x = x := by simp [XT.cur]
      rw [hcur] at hc hO
      rw [Nat.zero_add] at hc
      have hsn := XT.sizeAll_snoc hx
      have hsl := XT.sizeAll_le ks (i + 1)
      have hse := x.size_eq
      have hxl := x.length_le
      obtain ⟨kk, hkk⟩ : ∃ n, k + 3 * XT.sizeAll (ks.take i) = n := ⟨_, rfl⟩
      have hsg := XT.size_get hx
      rw [hkk]
      have hgw : g < wr.heap.size := hR.lt
      -- the three stores
      obtain ⟨v0, r0⟩ := hR.cell (o := i * 4) (by omega)
      have f0 := hR.frozen (i * 4)
      obtain ⟨W1, hW1⟩ : ∃ W1, wr.setCell ⟨g, i * 4, none⟩ (.int .i64 ((kk : Nat) : Int)) = W1 := ⟨_, rfl⟩
      have hR1 : RowAt W1 g N 123 := by rw [← hW1]; exact hR.set _ _
      obtain ⟨v1, r1⟩ := hR1.cell (o := i * 4 + 1) (by omega)
      have f1 := hR1.frozen (i * 4 + 1)
      obtain ⟨W2, hW2⟩ : ∃ W2, W1.setCell ⟨g, i * 4 + 1, none⟩ (.int .i64 ((kk : Int) + 1)) = W2 := ⟨_, rfl⟩
      have hR2 : RowAt W2 g N 123 := by rw [← hW2]; exact hR1.set _ _
      have hK2 : Kept (fun b => b = g) wr W2 := by rw [← hW2, ← hW1]; exact ((Kept.refl (fun b => b = g) wr).setCell (p := ⟨g, i * 4, none⟩) rfl _).setCell (p := ⟨g, i * 4 + 1, none⟩) rfl _
      have hmt : Hid (Calls Tryz.prog 77 #[.int .i64 ((kk : Int) + 1 + 1)] W2 fun e w' => e = .returned (.string (markB (kk + 2))) ∧ Below W2.heap.size W2 w') := by
        have h := markText (kk + 2) W2 (by omega)
        exact h
      -- the cells of the row behind the two stores
      have e0 : W2.cell? ⟨g, i * 4, none⟩ = some (.int .i64 ((kk : Nat) : Int)) := by rw [← hW2, set_far (by omega), ← hW1]; exact hR.put (by omega) _
      have e1 : W2.cell? ⟨g, i * 4 + 1, none⟩ = some (.int .i64 ((kk : Int) + 1)) := by rw [← hW2]; exact hR1.put (by omega) _
      have e3 : W2.cell? ⟨g, i * 4 + 3, none⟩ = some (.slice x.base x.kids.length x.cap) := by rw [← hW2, set_far (by omega), ← hW1, set_far (by omega)]; exact hc.c3
      have hoth : ∀ (o : Nat), (o < i * 4 ∨ i * 4 + 3 ≤ o) → W2.cell? ⟨g, o, none⟩ = wr.cell? ⟨g, o, none⟩ := by
        intro o ho
        rw [← hW2, set_far (by omega), ← hW1, set_far (by omega)]
      subst ha
      go_wp2_with fail
      go_at_call 77
      refine hmt.out.mono ?_
      rintro e w3 ⟨rfl, hB3⟩
      clear r0 f0 r1 f1 hW1 hW2 hmt
      have hg2 : g < W2.heap.size := hR2.lt
      have hR3 := hR2.of_block (hB3.block _ hR2.lt)
      obtain ⟨v2, r2⟩ := hR3.cell (o := i * 4 + 2) (by omega)
      have f2 := hR3.frozen (i * 4 + 2)
      obtain ⟨W4, hW4⟩ : ∃ W4, w3.setCell ⟨g, i * 4 + 2, none⟩ (.string (markB (kk + 2))) = W4 := ⟨_, rfl⟩
      have hR4 : RowAt W4 g N 123 := by rw [← hW4]; exact hR3.set _ _
      have hK4 : Kept (fun b => b = g) wr W4 := by rw [← hW4]; exact (hK2.trans (Kept.of_new _ hB3)).setCell (p := ⟨g, i * 4 + 2, none⟩) rfl _
      have m0 : W4.cell? ⟨g, i * 4, none⟩ = some (.int .i64 ((kk : Nat) : Int)) := by rw [← hW4, set_far (by omega)]; exact below_cell hB3 e0 hg2
      have m1 : W4.cell? ⟨g, i * 4 + 1, none⟩ = some (.int .i64 ((kk : Int) + 1)) := by rw [← hW4, set_far (by omega)]; exact below_cell hB3 e1 hg2
      have m2 : W4.cell? ⟨g, i * 4 + 2, none⟩ = some (.string (markB (kk + 2))) := by rw [← hW4]; exact hR3.put (by omega) _
      have m3 : W4.cell? ⟨g, i * 4 + 3, none⟩ = some (.slice x.base x.kids.length x.cap) := by rw [← hW4, set_far (by omega)]; exact below_cell hB3 e3 hg2
      have hoth4 : ∀ (o : Nat), (o < i * 4 ∨ i * 4 + 3 ≤ o) → W4.cell? ⟨g, o, none⟩ = wr.cell? ⟨g, o, none⟩ := by
        intro o ho
        rw [← hW4, set_far (by omega), hB3.cell (by dsimp only; omega)]
        exact hoth o ho
      have hzr := hK.size
      have hz4 := hK4.size
      have hO4 : OwnR W4 (l i) (h i) x.base x.kids := hO.mono (fun b q1 q2 => hK4.block b (by omega) (fun e => by omega))
      have hcall := ih'.out (XT.sizeAll x.kids) (by omega) x.kids (Nat.le_refl _) (by omega) (l i) (h i) x.base x.cap (kk + 3) W4 hO4 (by omega) (by omega)
      have hcallH : Hid (Calls Tryz.prog 109 #[.slice x.base x.kids.length x.cap, .int .i64 ((kk : Int) + 1 + 1 + 1)] W4 fun e w' => e = .returned (.int .i64 ((kk + 3 + 3 * XT.sizeAll x.kids : Nat) : Int)) ∧ OwnR w' (l i) (h i) x.base (XT.markL x.kids (kk + 3)) ∧ Kept (fun b => l i ≤ b ∧ b < h i) W4 w') := hcall
      clear hcall
      go_wp2_with fail
      go_at_call 109
      refine hcallH.out.mono ?_
      rintro e w5 ⟨rfl, hO5, hK5⟩
      have hgk : ¬ (l i ≤ g ∧ g < h i) := fun hh => by omega
      have hR5 : RowAt w5 g N 123 := hR4.of_block (hK5.block g hR4.lt hgk)
      have hS5 : Hid (MSt ks g N l h k (i + 1) w5) := by
        have hS1 := hS.out
        refine ⟨fun j y hy => hR5, fun j y hy => ?_, fun j y hy => ?_⟩
        · by_cases hji : j = i
          · subst hji
            rw [hx] at hy
            cases hy
            have hcu : XT.cur ks k (j + 1) j x = x.mark kk := by unfold XT.cur; rw [if_pos (by omega), hkk]
            rw [hcu, XT.mark_eq, Nat.zero_add]
            refine ⟨hK5.cell m0 hgk, hK5.cell m1 hgk, hK5.cell m2 hgk, ?_⟩
            have m3' := hK5.cell m3 hgk
            simpa [XT.kids, XT.base, XT.cap, XT.markL_length] using m3'
          · have hcu : XT.cur ks k (i + 1) j y = XT.cur ks k i j y := by
              unfold XT.cur
              by_cases h1 : j < i
              · rw [if_pos h1, if_pos (by omega)]
              · rw [if_neg h1, if_neg (by omega)]
            rw [hcu]
            have hcj := hS1.cell j y hy
            rw [Nat.zero_add] at hcj ⊢
            exact ⟨hK5.cell ((hoth4 _ (by omega)).trans hcj.c0) hgk, hK5.cell ((hoth4 _ (by omega)).trans hcj.c1) hgk, hK5.cell ((hoth4 _ (by omega)).trans hcj.c2) hgk, hK5.cell ((hoth4 _ (by omega)).trans hcj.c3) hgk⟩
        · by_cases hji : j = i
          · subst hji
            rw [hx] at hy
            cases hy
            have hcu : XT.cur ks k (j + 1) j x = x.mark kk := by unfold XT.cur; rw [if_pos (by omega), hkk]
            rw [hcu, XT.mark_eq]
            exact hO5
          · have hcu : XT.cur ks k (i + 1) j y = XT.cur ks k i j y := by
              unfold XT.cur
              by_cases h1 : j < i
              · rw [if_pos h1, if_pos (by omega)]
              · rw [if_neg h1, if_neg (by omega)]
            rw [hcu]
            have hjl : j < ks.length := (List.getElem?_eq_some_iff.1 hy).1
            have hbj := hboxH.out j hjl
            have hap := hapH.out j i hjl (by omega) hji
            refine (hS1.kid j y hy).mono (fun b q1 q2 => ?_)
            rw [hK5.block b (by omega) (fun hh => by omega)]
            exact hK4.block b (by omega) (fun e => by omega)
      go_wp2
      refine ⟨⟨i + 1, by go_num, congrArg (Value.int IntKind.i64) (by omega), by omega, hS5, ?_⟩, by simp [intOf]; omega⟩
      exact (hK.trans (hK4.mono (fun b _ e => by subst e; exact ⟨hg1, hg2'⟩))).trans (hK5.mono (fun b _ hh => ⟨by omega, by omega⟩))
    · have he : i = len := by omega
      have htk : ks.take i = ks := List.take_of_length_le (by omega)
      rw [htk]
      go_wp2
      go_returns
      refine ⟨rfl, ?_, hK⟩
      have hS1 := hS.out
      refine .mk lo hi a _ g N l h (fun j y hy => ?_) (fun j y hy => ?_) (fun j hj => hboxH.out j (by rw [XT.markL_length] at hj; exact hj)) (fun j j' hj hj' => hapH.out j j' (by rw [XT.markL_length] at hj; exact hj) (by rw [XT.markL_length] at hj'; exact hj')) (fun j y hy => ?_)
      · obtain ⟨x, hx, rfl⟩ := XT.markL_back hy
        obtain ⟨q1, q2, q3, q4, q5⟩ := hrowH.out j x hx
        exact ⟨q1, q2, q3, hS1.row j x hx, by rw [XT.markL_length]; exact q5⟩
      · obtain ⟨x, hx, rfl⟩ := XT.markL_back hy
        have hc := hS1.cell j x hx
        have hj : j < ks.length := (List.getElem?_eq_some_iff.1 hx).1
        unfold XT.cur at hc
        rw [if_pos (by omega)] at hc
        exact hc
      · obtain ⟨x, hx, rfl⟩ := XT.markL_back hy
        have hc := hS1.kid j x hx
        have hj : j < ks.length := (List.getElem?_eq_some_iff.1 hx).1
        unfold XT.cur at hc
        rw [if_pos (by omega)] at hc
        exact hc
set_option maxRecDepth 10000 in
set_option maxHeartbeats 4000000 in
theorem heldE (sz : Nat) : ∀ ks : List XT, XT.sizeAll ks ≤ sz → XT.sizeAll ks ≤ 1152921504606846976 → ∀ (a : Option Addr) (c k : Nat) (ok : Nat → Prop) (w : World), (∀ b, ok b → b < w.heap.size) → ERow ok w a (XT.markL ks k) → (∀ (i : Nat) (y : XT), (XT.markL ks k)[i]? = some y → Lies ok w y) → k + 3 * XT.sizeAll ks ≤ 1152921504606846976 →
    Calls Tryz.prog 151 #[.slice a ks.length c, .int .i64 k] w fun e w' => e = .returned (.int .i64 ((k + 3 * XT.sizeAll ks : Nat) : Int)) ∧ Below w.heap.size w w' := by
  induction sz using Nat.strongRecOn with
  | _ sz ih =>
  intro ks hsz hlim a c k ok w hok hR hL hk
  have hlen : ks.length ≤ 1152921504606846976 := Nat.le_trans (XT.len_le ks) hlim
  have ih' : Hid (∀ m < sz, ∀ ks : List XT, XT.sizeAll ks ≤ m → XT.sizeAll ks ≤ 1152921504606846976 → ∀ (a : Option Addr) (c k : Nat) (ok : Nat → Prop) (w : World), (∀ b, ok b → b < w.heap.size) → ERow ok w a (XT.markL ks k) → (∀ (i : Nat) (y : XT), (XT.markL ks k)[i]? = some y → Lies ok w y) → k + 3 * XT.sizeAll ks ≤ 1152921504606846976 →
    Calls Tryz.prog 151 #[.slice a ks.length c, .int .i64 k] w fun e w' => e = .returned (.int .i64 ((k + 3 * XT.sizeAll ks : Nat) : Int)) ∧ Below w.heap.size w w') := ih
  clear ih
  obtain ⟨len, hl⟩ : ∃ len, ks.length = len := ⟨_, rfl⟩
  rw [hl] at hlen ⊢
  have hRH : Hid (ERow ok w a (XT.markL ks k)) := hR
  have hLH : Hid (∀ (i : Nat) (y : XT), (XT.markL ks k)[i]? = some y → Lies ok w y) := hL
  clear hR hL
  go_enter Tryz.func151, Tryz.ntmps151
  go_wp2_with fail
  go_loopw [1, 5] (fun v1 v5 wr => ∃ (i : Nat), v5 = .int .i64 i ∧ v1 = .int .i64 ((k + 3 * XT.sizeAll (ks.take i) : Nat) : Int) ∧ i ≤ len ∧ Below w.heap.size w wr) (fun _ v5 _ => len - (intOf v5).toNat)
  case atStart => exact ⟨0, rfl, by simp [XT.sizeAll], by omega, Below.refl _ _⟩
  case round =>
    obtain ⟨i, rfl, rfl, hi', hB⟩ := hrel
    by_cases hlt : i < len
    · obtain ⟨x, hx⟩ : ∃ x, ks[i]? = some x := ⟨_, List.getElem?_eq_getElem (by omega)⟩
      have hy := XT.markL_get ks k i x hx
      have hsn := XT.sizeAll_snoc hx
      have hsl := XT.sizeAll_le ks (i + 1)
      have hse := x.size_eq
      have hsg := XT.size_get hx
      obtain ⟨kk, hkk⟩ : ∃ n, k + 3 * XT.sizeAll (ks.take i) = n := ⟨_, rfl⟩
      rw [hkk] at hy ⊢
      obtain ⟨b, o, ha, hob, hc⟩ := hRH.out i _ hy
      have hd := hc.below hB (hok b hob)
      rw [XT.mark_eq] at hd
      have m0 : wr.cell? ⟨b, o + i * 4, none⟩ = some (.int .i64 ((kk : Nat) : Int)) := hd.c0
      have m1 : wr.cell? ⟨b, o + i * 4 + 1, none⟩ = some (.int .i64 ((kk : Int) + 1)) := hd.c1
      have m2 : wr.cell? ⟨b, o + i * 4 + 2, none⟩ = some (.string (markB (kk + 2))) := hd.c2
      have m3 : wr.cell? ⟨b, o + i * 4 + 3, none⟩ = some (.slice x.base x.kids.length x.cap) := by
        have h3 := hd.c3
        simpa [XT.kids, XT.base, XT.cap, XT.markL_length] using h3
      have hLx := (hLH.out i _ hy).under hB hok
      rw [XT.mark_eq] at hLx
      have hokr : ∀ b, ok b → b < wr.heap.size := fun b hb => Nat.lt_of_lt_of_le (hok b hb) hB.size
      subst ha
      haveI : Nonempty (Later wr) := ⟨⟨wr, Below.refl _ _⟩⟩
      have e2 := Later.cell m2
      have hmt : Hid (∀ z : World, Calls Tryz.prog 77 #[.int .i64 ((kk : Int) + 1 + 1)] z fun e w' => e = .returned (.string (markB (kk + 2))) ∧ Below z.heap.size z w') := fun z => markText (kk + 2) z (by omega)
      have hcall : Hid (∀ z, Below wr.heap.size wr z → Calls Tryz.prog 151 #[.slice x.base x.kids.length x.cap, .int .i64 ((kk : Int) + 1 + 1 + 1)] z fun e w' => e = .returned (.int .i64 ((kk + 3 + 3 * XT.sizeAll x.kids : Nat) : Int)) ∧ Below z.heap.size z w') := fun z hz =>
        ih'.out (XT.sizeAll x.kids) (by omega) x.kids (Nat.le_refl _) (by omega) x.base x.cap (kk + 3) ok z (fun b hb => Nat.lt_of_lt_of_le (hokr b hb) hz.size) (fun j y hj => by
          obtain ⟨b', o', q1, q2, q3⟩ := hLx.cells j y hj
          exact ⟨b', o', q1, q2, q3.below hz (hokr b' q2)⟩) (fun j y hj => (hLx.kid j y hj).under hz hokr) (by omega)
      go_wp2_with fail
      go_cut [37] (fun v wx => v = .bool false ∧ Below wr.heap.size wr wx)
      case first =>
        refine region_class (fun w' => ∃ z : Later wr, w' = z.at) (by kernel_rfl) (by kernel_rfl) ⟨⟨_, (Below.refl _ _).drew⟩, rfl⟩ ?_
        repeat (go_big_quiet_step ((go_at_call 77; refine (hmt.out _).mono ?_; rintro e w2 ⟨rfl, hb⟩; exact ⟨rfl, ⟨_, bstep (Later.below _) hb⟩, rfl⟩)))
        refine wpQuiet_nil ?_
        rintro w' ⟨z, rfl⟩
        go_wp2_with fail
        go_meet
        case rel => exact ⟨rfl, Later.below z⟩
      case rest =>
        obtain ⟨hv, hbx⟩ := hcut
        subst hv
        have n3 := below_cell hbx m3 (World.block_lt_of_cell? wr _ m3)
        clear m0 m1 m2 m3
        go_wp2_with fail
        go_at_call 151
        refine (hcall.out _ hbx).mono ?_
        rintro e w5 ⟨rfl, hb5⟩
        go_wp2
        all_goals first | (exfalso; omega) | skip
        refine ⟨⟨i + 1, by go_num, congrArg (Value.int IntKind.i64) (by omega), by omega, bstep (hB.trans (hbx.mono hB.size)) hb5⟩, by simp [intOf]; omega⟩
    · have he : i = len := by omega
      have htk : ks.take i = ks := List.take_of_length_le (by omega)
      rw [htk]
      go_wp2
      go_returns
      exact ⟨rfl, hB⟩
end Go.Proofs.YtaajdoipjalgmaaGreatDoor
namespace Go.Proofs.YtaajdoipjalgmaaGreatDoor
open Go.RowKit Go.Shelf
set_option linter.unusedSimpArgs false
set_option linter.unusedVariables false

mutual
def SX.cnt : SX → Nat
  | .mk _ _ e f _ _ la _ _ lb => 8 + 3 * XT.sizeAll e.kids + 3 * XT.sizeAll f.kids + SX.cntL la + SX.cntL lb
def SX.cntL : List SX → Nat
  | [] => 0
  | t :: ts => SX.cnt t + SX.cntL ts
end
theorem SX.cnt_eq (s : SX) : s.cnt = 8 + 3 * XT.sizeAll s.e.kids + 3 * XT.sizeAll s.f.kids + SX.cntL s.la + SX.cntL s.lb := by cases s; rw [SX.cnt]; rfl
mutual
def SX.mark : SX → Nat → SX
  | .mk _ _ e f ab ac la bb bc lb, k => .mk ((k : Nat) : Int) (markB (k + 1)) (.mk ((k + 2 : Nat) : Int) ((k + 3 : Nat) : Int) (markB (k + 4)) e.base e.cap (XT.markL e.kids (k + 5)))
      (.mk ((k + 5 + 3 * XT.sizeAll e.kids : Nat) : Int) ((k + 6 + 3 * XT.sizeAll e.kids : Nat) : Int) (markB (k + 7 + 3 * XT.sizeAll e.kids)) f.base f.cap (XT.markL f.kids (k + 8 + 3 * XT.sizeAll e.kids)))
      ab ac (SX.markL la (k + 8 + 3 * XT.sizeAll e.kids + 3 * XT.sizeAll f.kids)) bb bc (SX.markL lb (k + 8 + 3 * XT.sizeAll e.kids + 3 * XT.sizeAll f.kids + SX.cntL la))
def SX.markL : List SX → Nat → List SX
  | [], _ => []
  | t :: ts, k => SX.mark t k :: SX.markL ts (k + SX.cnt t)
end
theorem SX.mark_eq (s : SX) (k : Nat) : s.mark k = .mk ((k : Nat) : Int) (markB (k + 1)) (.mk ((k + 2 : Nat) : Int) ((k + 3 : Nat) : Int) (markB (k + 4)) s.e.base s.e.cap (XT.markL s.e.kids (k + 5)))
      (.mk ((k + 5 + 3 * XT.sizeAll s.e.kids : Nat) : Int) ((k + 6 + 3 * XT.sizeAll s.e.kids : Nat) : Int) (markB (k + 7 + 3 * XT.sizeAll s.e.kids)) s.f.base s.f.cap (XT.markL s.f.kids (k + 8 + 3 * XT.sizeAll s.e.kids)))
      s.abase s.acap (SX.markL s.la (k + 8 + 3 * XT.sizeAll s.e.kids + 3 * XT.sizeAll s.f.kids)) s.bbase s.bcap (SX.markL s.lb (k + 8 + 3 * XT.sizeAll s.e.kids + 3 * XT.sizeAll s.f.kids + SX.cntL s.la)) := by
  cases s; rw [SX.mark]; rfl
theorem SX.markL_length : ∀ (ks : List SX) (k : Nat), (SX.markL ks k).length = ks.length
  | [], _ => by rw [SX.markL]
  | t :: ts, k => by rw [SX.markL, List.length_cons, List.length_cons, SX.markL_length ts]
theorem SX.markL_get : ∀ (ks : List SX) (k i : Nat) (x : SX), ks[i]? = some x → (SX.markL ks k)[i]? = some (x.mark (k + SX.cntL (ks.take i)))
  | [], _, _, _, h => by simp at h
  | t :: ts, k, 0, x, h => by
    simp at h
    subst h
    simp [SX.markL, SX.cntL]
  | t :: ts, k, i + 1, x, h => by
    have h1 := SX.markL_get ts (k + t.cnt) i x (by simpa using h)
    rw [SX.markL, List.getElem?_cons_succ, h1, List.take_succ_cons, SX.cntL]
    congr 2
    omega
theorem SX.markL_back {ks : List SX} {k i : Nat} {y : SX} (h : (SX.markL ks k)[i]? = some y) : ∃ x, ks[i]? = some x ∧ y = x.mark (k + SX.cntL (ks.take i)) := by
  have hi : i < ks.length := by have := (List.getElem?_eq_some_iff.1 h).1; rw [SX.markL_length] at this; exact this
  refine ⟨_, List.getElem?_eq_getElem hi, ?_⟩
  rw [SX.markL_get ks k i _ (List.getElem?_eq_getElem hi)] at h
  exact (Option.some.inj h).symm
theorem SX.cntL_append (us bs : List SX) : SX.cntL (us ++ bs) = SX.cntL us + SX.cntL bs := by
  induction us with
  | nil => simp [SX.cntL]
  | cons x xs ih => simp [SX.cntL, ih]; omega
theorem SX.cntL_snoc {ks : List SX} {i : Nat} {t : SX} (h : ks[i]? = some t) : SX.cntL (ks.take (i + 1)) = SX.cntL (ks.take i) + t.cnt := by
  rw [List.take_add_one, h, SX.cntL_append]
  simp [SX.cntL]
theorem SX.cntL_le (ks : List SX) (i : Nat) : SX.cntL (ks.take i) ≤ SX.cntL ks := by
  have h := SX.cntL_append (ks.take i) (ks.drop i)
  rw [List.take_append_drop] at h
  omega
theorem SX.cnt_get {ks : List SX} {i : Nat} {t : SX} (h : ks[i]? = some t) : t.cnt ≤ SX.cntL ks := by
  have h1 := SX.cntL_snoc h
  have h2 := SX.cntL_le ks (i + 1)
  omega
theorem SX.len_cnt (ks : List SX) : ks.length * 8 ≤ SX.cntL ks := by
  induction ks with
  | nil => simp [SX.cntL]
  | cons x xs ih => have := SX.cnt_eq x; simp [SX.cntL]; omega

/-- A list of statements in a block of its own, each list within each in an interval of blocks of its own. -/
inductive OwnSR (W : World) : Nat → Nat → Option Addr → List SX → Prop
  | mk (lo hi : Nat) (a : Option Addr) (ks : List SX) (g N : Nat) (l h : Nat → Nat)
      (row : ∀ (i : Nat) (k : SX), ks[i]? = some k → a = some ⟨g, 0, none⟩ ∧ lo ≤ g ∧ g < hi ∧ RowAt W g N 125 ∧ ks.length * 12 ≤ N)
      (cell : ∀ (i : Nat) (k : SX), ks[i]? = some k → Cells12 W g (0 + i * 12) k)
      (box : ∀ (m : Nat), m < 4 * ks.length → lo ≤ l m ∧ h m ≤ hi ∧ (g < l m ∨ h m ≤ g))
      (apart : ∀ (m n : Nat), m < 4 * ks.length → n < 4 * ks.length → m ≠ n → h m ≤ l n ∨ h n ≤ l m)
      (ke : ∀ (i : Nat) (k : SX), ks[i]? = some k → OwnR W (l (4 * i)) (h (4 * i)) k.e.base k.e.kids)
      (kf : ∀ (i : Nat) (k : SX), ks[i]? = some k → OwnR W (l (4 * i + 1)) (h (4 * i + 1)) k.f.base k.f.kids)
      (ka : ∀ (i : Nat) (k : SX), ks[i]? = some k → OwnSR W (l (4 * i + 2)) (h (4 * i + 2)) k.abase k.la)
      (kb : ∀ (i : Nat) (k : SX), ks[i]? = some k → OwnSR W (l (4 * i + 3)) (h (4 * i + 3)) k.bbase k.lb) : OwnSR W lo hi a ks
theorem OwnSR.mono {A B : World} {lo hi : Nat} {a : Option Addr} {ks : List SX} (h : OwnSR A lo hi a ks) : (∀ b, lo ≤ b → b < hi → B.heap[b]? = A.heap[b]?) → OwnSR B lo hi a ks := by
  induction h with
  | mk lo hi a ks g N l h row cell box apart ke kf ka kb iha ihb =>
    intro hb
    have hin : ∀ (m : Nat), m < 4 * ks.length → ∀ b, l m ≤ b → b < h m → B.heap[b]? = A.heap[b]? := fun m hm b h1 h2 => by
      obtain ⟨q1, q2, q3⟩ := box m hm
      exact hb b (by omega) (by omega)
    have hlt : ∀ (i : Nat) (k : SX), ks[i]? = some k → i < ks.length := fun i k hk => (List.getElem?_eq_some_iff.1 hk).1
    refine .mk lo hi a ks g N l h (fun i k hk => ?_) (fun i k hk => ?_) box apart (fun i k hk => (ke i k hk).mono (hin _ (by have := hlt i k hk; omega))) (fun i k hk => (kf i k hk).mono (hin _ (by have := hlt i k hk; omega))) (fun i k hk => iha i k hk (hin _ (by have := hlt i k hk; omega))) (fun i k hk => ihb i k hk (hin _ (by have := hlt i k hk; omega)))
    · obtain ⟨r1, r2, r3, r4, r5⟩ := row i k hk
      exact ⟨r1, r2, r3, r4.of_block (hb g r2 r3), r5⟩
    · obtain ⟨r1, r2, r3, r4, r5⟩ := row i k hk
      exact (cell i k hk).of_block (hb g r2 r3)
theorem OwnSR.parts {W : World} {lo hi : Nat} {a : Option Addr} {ks : List SX} (h : OwnSR W lo hi a ks) : ∃ (g N : Nat) (l h : Nat → Nat), (∀ (i : Nat) (k : SX), ks[i]? = some k → a = some ⟨g, 0, none⟩ ∧ lo ≤ g ∧ g < hi ∧ RowAt W g N 125 ∧ ks.length * 12 ≤ N) ∧
    (∀ (i : Nat) (k : SX), ks[i]? = some k → Cells12 W g (0 + i * 12) k) ∧ (∀ (m : Nat), m < 4 * ks.length → lo ≤ l m ∧ h m ≤ hi ∧ (g < l m ∨ h m ≤ g)) ∧ (∀ (m n : Nat), m < 4 * ks.length → n < 4 * ks.length → m ≠ n → h m ≤ l n ∨ h n ≤ l m) ∧
    (∀ (i : Nat) (k : SX), ks[i]? = some k → OwnR W (l (4 * i)) (h (4 * i)) k.e.base k.e.kids) ∧ (∀ (i : Nat) (k : SX), ks[i]? = some k → OwnR W (l (4 * i + 1)) (h (4 * i + 1)) k.f.base k.f.kids) ∧
    (∀ (i : Nat) (k : SX), ks[i]? = some k → OwnSR W (l (4 * i + 2)) (h (4 * i + 2)) k.abase k.la) ∧ (∀ (i : Nat) (k : SX), ks[i]? = some k → OwnSR W (l (4 * i + 3)) (h (4 * i + 3)) k.bbase k.lb) := by
  cases h with
  | mk _ _ _ _ g N l h row cell box apart ke kf ka kb => exact ⟨g, N, l, h, row, cell, box, apart, ke, kf, ka, kb⟩
theorem OwnSR.wide {W : World} {lo hi lo' hi' : Nat} {a : Option Addr} {ks : List SX} (h : OwnSR W lo hi a ks) (h1 : lo' ≤ lo) (h2 : hi ≤ hi') : OwnSR W lo' hi' a ks := by
  obtain ⟨g, N, l, h, row, cell, box, apart, ke, kf, ka, kb⟩ := h.parts
  refine .mk lo' hi' a ks g N l h (fun i k hk => ?_) cell (fun i hi => ?_) apart ke kf ka kb
  · obtain ⟨r1, r2, r3, r4, r5⟩ := row i k hk
    exact ⟨r1, by omega, by omega, r4, r5⟩
  · obtain ⟨b1, b2, b3⟩ := box i hi
    exact ⟨by omega, by omega, b3⟩
theorem OwnR.all {W : World} {lo hi : Nat} {t : XT} (h : OwnR W lo hi t.base t.kids) : Lies (fun b => lo ≤ b ∧ b < hi) W t := .mk t h.lies.1 h.lies.2
theorem OwnSR.lies {W : World} {lo hi : Nat} {a : Option Addr} {ks : List SX} (h : OwnSR W lo hi a ks) : SRow (fun b => lo ≤ b ∧ b < hi) W a ks ∧ ∀ (i : Nat) (k : SX), ks[i]? = some k → LiesS (fun b => lo ≤ b ∧ b < hi) W k := by
  induction h with
  | mk lo hi a ks g N l h row cell box apart ke kf ka kb iha ihb =>
    have hlt : ∀ (i : Nat) (k : SX), ks[i]? = some k → i < ks.length := fun i k hk => (List.getElem?_eq_some_iff.1 hk).1
    refine ⟨fun i k hk => ?_, fun i k hk => ?_⟩
    · obtain ⟨r1, r2, r3, r4, r5⟩ := row i k hk
      exact ⟨g, 0, r1, ⟨r2, r3⟩, cell i k hk⟩
    · have hi := hlt i k hk
      have b0 := box (4 * i) (by omega)
      have b1 := box (4 * i + 1) (by omega)
      have b2 := box (4 * i + 2) (by omega)
      have b3 := box (4 * i + 3) (by omega)
      obtain ⟨qa1, qa2⟩ := iha i k hk
      obtain ⟨qb1, qb2⟩ := ihb i k hk
      refine .mk k ((ke i k hk).all.mono (fun b hb _ => ⟨⟨by omega, by omega⟩, rfl⟩)) ((kf i k hk).all.mono (fun b hb _ => ⟨⟨by omega, by omega⟩, rfl⟩)) (qa1.mono (fun b hb _ => ⟨⟨by omega, by omega⟩, rfl⟩)) (qb1.mono (fun b hb _ => ⟨⟨by omega, by omega⟩, rfl⟩)) (fun j y hy => (qa2 j y hy).mono (fun b hb _ => ⟨⟨by omega, by omega⟩, rfl⟩)) (fun j y hy => (qb2 j y hy).mono (fun b hb _ => ⟨⟨by omega, by omega⟩, rfl⟩))

/-- The cells of the i-th statement of a row while it is written: cs; all else of the row as in A. -/
structure Rw (g N i : Nat) (A W : World) (cs : List Value) : Prop where
  row : RowAt W g N 125
  out : ∀ (o : Nat), (o < i * 12 ∨ i * 12 + 12 ≤ o) → W.cell? ⟨g, o, none⟩ = A.cell? ⟨g, o, none⟩
  at_ : ∀ (j : Nat) (v : Value), cs[j]? = some v → W.cell? ⟨g, i * 12 + j, none⟩ = some v
theorem Rw.set {g N i : Nat} {A W : World} {cs : List Value} (h : Rw g N i A W cs) (hN : i * 12 + 12 ≤ N) (j : Nat) (hj : j < 12) (v : Value) : Rw g N i A (W.setCell ⟨g, i * 12 + j, none⟩ v) (cs.set j v) := by
  refine ⟨h.row.set _ _, fun o ho => ?_, fun m u hm => ?_⟩
  · rw [set_far (by omega)]
    exact h.out o ho
  · by_cases e : m = j
    · subst e
      have hl : m < cs.length := by have := (List.getElem?_eq_some_iff.1 hm).1; simpa using this
      rw [List.getElem?_set_self hl] at hm
      cases hm
      exact h.row.put (by omega) _
    · rw [List.getElem?_set_ne (fun q => e q.symm)] at hm
      rw [set_far (by omega)]
      exact h.at_ m u hm
theorem Rw.on {g N i : Nat} {A W W' : World} {cs : List Value} (h : Rw g N i A W cs) (hb : W'.heap[g]? = W.heap[g]?) : Rw g N i A W' cs :=
  ⟨h.row.of_block hb, fun o ho => (cell_of_block (a := ⟨g, o, none⟩) hb).trans (h.out o ho), fun j v hj => (cell_of_block (a := ⟨g, _, none⟩) hb).trans (h.at_ j v hj)⟩
/-- A statement of a list while it is written, with the four lists within it. -/
structure StM (lo hi g N i len : Nat) (l h : Nat → Nat) (x : SX) (A W : World) (cs : List Value) (E F : List XT) (la lb : List SX) : Prop where
  rw : Rw g N i A W cs
  e : OwnR W (l (4 * i)) (h (4 * i)) x.e.base E
  f : OwnR W (l (4 * i + 1)) (h (4 * i + 1)) x.f.base F
  a : OwnSR W (l (4 * i + 2)) (h (4 * i + 2)) x.abase la
  b : OwnSR W (l (4 * i + 3)) (h (4 * i + 3)) x.bbase lb
  oth : ∀ (m : Nat), m < 4 * len → (m < 4 * i ∨ 4 * i + 4 ≤ m) → ∀ b, l m ≤ b → b < h m → W.heap[b]? = A.heap[b]?
  kept : Kept (fun b => lo ≤ b ∧ b < hi) A W
structure Bx (lo hi g i len : Nat) (l h : Nat → Nat) (A : World) : Prop where
  box : ∀ (m : Nat), m < 4 * len → lo ≤ l m ∧ h m ≤ hi ∧ (g < l m ∨ h m ≤ g)
  apart : ∀ (m n : Nat), m < 4 * len → n < 4 * len → m ≠ n → h m ≤ l n ∨ h n ≤ l m
  hsz : hi ≤ A.heap.size
  hil : i < len
  hgb : lo ≤ g ∧ g < hi
/-- A step that leaves the intervals alone. -/
theorem StM.step {lo hi g N i len : Nat} {l h : Nat → Nat} {x : SX} {A W W' : World} {cs cs' : List Value} {E F : List XT} {la lb : List SX} (hS : StM lo hi g N i len l h x A W cs E F la lb) (hX : Bx lo hi g i len l h A) (hR : Rw g N i A W' cs') (hk : Kept (fun b => b = g) W W') : StM lo hi g N i len l h x A W' cs' E F la lb := by
  have hz := hS.kept.size
  have hin : ∀ (m : Nat), m < 4 * len → ∀ b, l m ≤ b → b < h m → W'.heap[b]? = W.heap[b]? := fun m hm b h1 h2 => by
    obtain ⟨q1, q2, q3⟩ := hX.box m hm
    have := hX.hsz
    exact hk.block b (by omega) (fun e => by omega)
  have hi' := hX.hil
  exact ⟨hR, hS.e.mono (hin _ (by omega)), hS.f.mono (hin _ (by omega)), hS.a.mono (hin _ (by omega)), hS.b.mono (hin _ (by omega)), fun m hm hn b h1 h2 => (hin m hm b h1 h2).trans (hS.oth m hm hn b h1 h2), hS.kept.trans (hk.mono (fun b _ e => by subst e; exact hX.hgb))⟩
theorem StM.set {lo hi g N i len : Nat} {l h : Nat → Nat} {x : SX} {A W : World} {cs : List Value} {E F : List XT} {la lb : List SX} (hS : StM lo hi g N i len l h x A W cs E F la lb) (hX : Bx lo hi g i len l h A) (hN : i * 12 + 12 ≤ N) (j : Nat) (hj : j < 12) (v : Value) : StM lo hi g N i len l h x A (W.setCell ⟨g, i * 12 + j, none⟩ v) (cs.set j v) E F la lb :=
  hS.step hX (hS.rw.set hN j hj v) ((Kept.refl (fun b => b = g) W).setCell (p := ⟨g, i * 12 + j, none⟩) rfl _)
theorem StM.below {lo hi g N i len : Nat} {l h : Nat → Nat} {x : SX} {A W W' : World} {cs : List Value} {E F : List XT} {la lb : List SX} (hS : StM lo hi g N i len l h x A W cs E F la lb) (hX : Bx lo hi g i len l h A) (hb : Below W.heap.size W W') : StM lo hi g N i len l h x A W' cs E F la lb :=
  hS.step hX (hS.rw.on (hb.block g hS.rw.row.lt)) (Kept.of_new _ hb)
/-- A step within one interval. -/
theorem StM.sub {lo hi g N i len : Nat} {l h : Nat → Nat} {x : SX} {A W W' : World} {cs : List Value} {E F : List XT} {la lb : List SX} (hS : StM lo hi g N i len l h x A W cs E F la lb) (hX : Bx lo hi g i len l h A) (m : Nat) (hm : 4 * i ≤ m ∧ m < 4 * i + 4) (hk : Kept (fun b => l m ≤ b ∧ b < h m) W W') :
    Rw g N i A W' cs ∧ (∀ n, n < 4 * len → n ≠ m → ∀ b, l n ≤ b → b < h n → W'.heap[b]? = W.heap[b]?) ∧ Kept (fun b => lo ≤ b ∧ b < hi) A W' := by
  have hz := hS.kept.size
  have hh := hX.hsz
  have hi' := hX.hil
  obtain ⟨q1, q2, q3⟩ := hX.box m (by omega)
  refine ⟨hS.rw.on (hk.block g hS.rw.row.lt (fun e => by omega)), fun n hn hnm b h1 h2 => ?_, hS.kept.trans (hk.mono (fun b _ e => ⟨by omega, by omega⟩))⟩
  obtain ⟨p1, p2, p3⟩ := hX.box n hn
  have := hX.apart n m hn (by omega) hnm
  exact hk.block b (by omega) (fun e => by omega)
theorem StM.subE {lo hi g N i len : Nat} {l h : Nat → Nat} {x : SX} {A W W' : World} {cs : List Value} {E E' F : List XT} {la lb : List SX} (hS : StM lo hi g N i len l h x A W cs E F la lb) (hX : Bx lo hi g i len l h A) (hO : OwnR W' (l (4 * i)) (h (4 * i)) x.e.base E') (hk : Kept (fun b => l (4 * i) ≤ b ∧ b < h (4 * i)) W W') : StM lo hi g N i len l h x A W' cs E' F la lb := by
  obtain ⟨h1, h2, h3⟩ := hS.sub hX (4 * i) ⟨by omega, by omega⟩ hk
  have hi' := hX.hil
  exact ⟨h1, hO, hS.f.mono (h2 _ (by omega) (by omega)), hS.a.mono (h2 _ (by omega) (by omega)), hS.b.mono (h2 _ (by omega) (by omega)), fun m hm hn b q1 q2 => (h2 m hm (by omega) b q1 q2).trans (hS.oth m hm hn b q1 q2), h3⟩
theorem StM.subF {lo hi g N i len : Nat} {l h : Nat → Nat} {x : SX} {A W W' : World} {cs : List Value} {E F F' : List XT} {la lb : List SX} (hS : StM lo hi g N i len l h x A W cs E F la lb) (hX : Bx lo hi g i len l h A) (hO : OwnR W' (l (4 * i + 1)) (h (4 * i + 1)) x.f.base F') (hk : Kept (fun b => l (4 * i + 1) ≤ b ∧ b < h (4 * i + 1)) W W') : StM lo hi g N i len l h x A W' cs E F' la lb := by
  obtain ⟨h1, h2, h3⟩ := hS.sub hX (4 * i + 1) ⟨by omega, by omega⟩ hk
  have hi' := hX.hil
  exact ⟨h1, hS.e.mono (h2 _ (by omega) (by omega)), hO, hS.a.mono (h2 _ (by omega) (by omega)), hS.b.mono (h2 _ (by omega) (by omega)), fun m hm hn b q1 q2 => (h2 m hm (by omega) b q1 q2).trans (hS.oth m hm hn b q1 q2), h3⟩
theorem StM.subA {lo hi g N i len : Nat} {l h : Nat → Nat} {x : SX} {A W W' : World} {cs : List Value} {E F : List XT} {la la' lb : List SX} (hS : StM lo hi g N i len l h x A W cs E F la lb) (hX : Bx lo hi g i len l h A) (hO : OwnSR W' (l (4 * i + 2)) (h (4 * i + 2)) x.abase la') (hk : Kept (fun b => l (4 * i + 2) ≤ b ∧ b < h (4 * i + 2)) W W') : StM lo hi g N i len l h x A W' cs E F la' lb := by
  obtain ⟨h1, h2, h3⟩ := hS.sub hX (4 * i + 2) ⟨by omega, by omega⟩ hk
  have hi' := hX.hil
  exact ⟨h1, hS.e.mono (h2 _ (by omega) (by omega)), hS.f.mono (h2 _ (by omega) (by omega)), hO, hS.b.mono (h2 _ (by omega) (by omega)), fun m hm hn b q1 q2 => (h2 m hm (by omega) b q1 q2).trans (hS.oth m hm hn b q1 q2), h3⟩
theorem StM.subB {lo hi g N i len : Nat} {l h : Nat → Nat} {x : SX} {A W W' : World} {cs : List Value} {E F : List XT} {la lb lb' : List SX} (hS : StM lo hi g N i len l h x A W cs E F la lb) (hX : Bx lo hi g i len l h A) (hO : OwnSR W' (l (4 * i + 3)) (h (4 * i + 3)) x.bbase lb') (hk : Kept (fun b => l (4 * i + 3) ≤ b ∧ b < h (4 * i + 3)) W W') : StM lo hi g N i len l h x A W' cs E F la lb' := by
  obtain ⟨h1, h2, h3⟩ := hS.sub hX (4 * i + 3) ⟨by omega, by omega⟩ hk
  have hi' := hX.hil
  exact ⟨h1, hS.e.mono (h2 _ (by omega) (by omega)), hS.f.mono (h2 _ (by omega) (by omega)), hS.a.mono (h2 _ (by omega) (by omega)), hO, fun m hm hn b q1 q2 => (h2 m hm (by omega) b q1 q2).trans (hS.oth m hm hn b q1 q2), h3⟩
end Go.Proofs.YtaajdoipjalgmaaGreatDoor
namespace Go.Proofs.YtaajdoipjalgmaaGreatDoor
open Go.RowKit Go.Shelf
set_option linter.unusedSimpArgs false
set_option linter.unusedVariables false
attribute [local go_sem] Oper.semAt_some

def SX.cur (ks : List SX) (k i j : Nat) (x : SX) : SX := if j < i then x.mark (k + SX.cntL (ks.take j)) else x
structure MStS (ks : List SX) (g N : Nat) (l h : Nat → Nat) (k i : Nat) (W : World) : Prop where
  row : ∀ (j : Nat) (x : SX), ks[j]? = some x → RowAt W g N 125
  cell : ∀ (j : Nat) (x : SX), ks[j]? = some x → Cells12 W g (0 + j * 12) (SX.cur ks k i j x)
  ke : ∀ (j : Nat) (x : SX), ks[j]? = some x → OwnR W (l (4 * j)) (h (4 * j)) (SX.cur ks k i j x).e.base (SX.cur ks k i j x).e.kids
  kf : ∀ (j : Nat) (x : SX), ks[j]? = some x → OwnR W (l (4 * j + 1)) (h (4 * j + 1)) (SX.cur ks k i j x).f.base (SX.cur ks k i j x).f.kids
  ka : ∀ (j : Nat) (x : SX), ks[j]? = some x → OwnSR W (l (4 * j + 2)) (h (4 * j + 2)) (SX.cur ks k i j x).abase (SX.cur ks k i j x).la
  kb : ∀ (j : Nat) (x : SX), ks[j]? = some x → OwnSR W (l (4 * j + 3)) (h (4 * j + 3)) (SX.cur ks k i j x).bbase (SX.cur ks k i j x).lb
abbrev SX.vals (x : SX) : List Value := [.int .i64 x.kind, .string x.name, .int .i64 x.e.kind, .int .i64 x.e.num, .string x.e.name, .slice x.e.base x.e.kids.length x.e.cap, .int .i64 x.f.kind, .int .i64 x.f.num, .string x.f.name, .slice x.f.base x.f.kids.length x.f.cap, .slice x.abase x.la.length x.acap, .slice x.bbase x.lb.length x.bcap]
theorem Cells12.vals {W : World} {b o : Nat} {x : SX} (h : Cells12 W b o x) : ∀ (j : Nat) (v : Value), x.vals[j]? = some v → W.cell? ⟨b, o + j, none⟩ = some v := by
  intro j v hj
  match j, hj with
  | 0, hj => cases hj; exact h.c0
  | 1, hj => cases hj; exact h.c1
  | 2, hj => cases hj; exact h.c2
  | 3, hj => cases hj; exact h.c3
  | 4, hj => cases hj; exact h.c4
  | 5, hj => cases hj; exact h.c5
  | 6, hj => cases hj; exact h.c6
  | 7, hj => cases hj; exact h.c7
  | 8, hj => cases hj; exact h.c8
  | 9, hj => cases hj; exact h.c9
  | 10, hj => cases hj; exact h.c10
  | 11, hj => cases hj; exact h.c11
  | n + 12, hj => simp at hj
/-- Behind the round: the i-th is written, the others are as they were. -/
theorem MStS.next {ks : List SX} {lo hi g N i len k kk : Nat} {l h : Nat → Nat} {x : SX} {A W : World} {cs : List Value} (hl : ks.length = len) (hx : ks[i]? = some x) (hkk : k + SX.cntL (ks.take i) = kk) (hS : MStS ks g N l h k i A) (hX : Bx lo hi g i len l h A)
    (hM : StM lo hi g N i len l h x A W cs (x.mark kk).e.kids (x.mark kk).f.kids (x.mark kk).la (x.mark kk).lb) (hc : Cells12 W g (0 + i * 12) (x.mark kk)) : MStS ks g N l h k (i + 1) W := by
  have hlt : ∀ (j : Nat) (y : SX), ks[j]? = some y → j < len := fun j y hy => by rw [← hl]; exact (List.getElem?_eq_some_iff.1 hy).1
  have hme : SX.cur ks k (i + 1) i x = x.mark kk := by unfold SX.cur; rw [if_pos (by omega), hkk]
  have hot : ∀ (j : Nat) (y : SX), j ≠ i → SX.cur ks k (i + 1) j y = SX.cur ks k i j y := by
    intro j y hj
    unfold SX.cur
    by_cases h1 : j < i
    · rw [if_pos h1, if_pos (by omega)]
    · rw [if_neg h1, if_neg (by omega)]
  have hmk := x.mark_eq kk
  refine ⟨fun j y hy => hM.rw.row, fun j y hy => ?_, fun j y hy => ?_, fun j y hy => ?_, fun j y hy => ?_, fun j y hy => ?_⟩
  all_goals
    by_cases hji : j = i
    · subst hji
      rw [hx] at hy
      cases hy
      rw [hme]
      first | exact hc | (have hq := hM.e; rw [hmk] at hq ⊢; exact hq) | (have hq := hM.f; rw [hmk] at hq ⊢; exact hq) | (have hq := hM.a; rw [hmk] at hq ⊢; exact hq) | (have hq := hM.b; rw [hmk] at hq ⊢; exact hq)
    · rw [hot j y hji]
      have hjl := hlt j y hy
      have hil := hX.hil
      first
        | (have hcj := hS.cell j y hy
           rw [Nat.zero_add] at hcj ⊢
           exact ⟨(hM.rw.out _ (by omega)).trans hcj.c0, (hM.rw.out _ (by omega)).trans hcj.c1, (hM.rw.out _ (by omega)).trans hcj.c2, (hM.rw.out _ (by omega)).trans hcj.c3, (hM.rw.out _ (by omega)).trans hcj.c4, (hM.rw.out _ (by omega)).trans hcj.c5, (hM.rw.out _ (by omega)).trans hcj.c6, (hM.rw.out _ (by omega)).trans hcj.c7, (hM.rw.out _ (by omega)).trans hcj.c8, (hM.rw.out _ (by omega)).trans hcj.c9, (hM.rw.out _ (by omega)).trans hcj.c10, (hM.rw.out _ (by omega)).trans hcj.c11⟩)
        | exact (hS.ke j y hy).mono (hM.oth _ (by omega) (by omega))
        | exact (hS.kf j y hy).mono (hM.oth _ (by omega) (by omega))
        | exact (hS.ka j y hy).mono (hM.oth _ (by omega) (by omega))
        | exact (hS.kb j y hy).mono (hM.oth _ (by omega) (by omega))
set_option maxRecDepth 10000 in
set_option maxHeartbeats 8000000 in
theorem markS (sz : Nat) : ∀ ks : List SX, SX.cntL ks ≤ sz → ∀ (lo hi : Nat) (a : Option Addr) (c k : Nat) (w : World), OwnSR w lo hi a ks → hi ≤ w.heap.size → k + SX.cntL ks ≤ 1152921504606846976 →
    Calls Tryz.prog 78 #[.slice a ks.length c, .int .i64 k] w fun e w' => e = .returned (.int .i64 ((k + SX.cntL ks : Nat) : Int)) ∧ OwnSR w' lo hi a (SX.markL ks k) ∧ Kept (fun b => lo ≤ b ∧ b < hi) w w' := by
  induction sz using Nat.strongRecOn with
  | _ sz ih =>
  intro ks hsz lo hi a c k w hO hhi hk
  have ih' : Hid (∀ m < sz, ∀ ks : List SX, SX.cntL ks ≤ m → ∀ (lo hi : Nat) (a : Option Addr) (c k : Nat) (w : World), OwnSR w lo hi a ks → hi ≤ w.heap.size → k + SX.cntL ks ≤ 1152921504606846976 →
    Calls Tryz.prog 78 #[.slice a ks.length c, .int .i64 k] w fun e w' => e = .returned (.int .i64 ((k + SX.cntL ks : Nat) : Int)) ∧ OwnSR w' lo hi a (SX.markL ks k) ∧ Kept (fun b => lo ≤ b ∧ b < hi) w w') := ih
  clear ih
  obtain ⟨g, N, l, h, row, cell, box, apart, ke, kf, ka, kb⟩ := hO.parts
  clear hO
  obtain ⟨len, hl⟩ : ∃ len, ks.length = len := ⟨_, rfl⟩
  have hlc := SX.len_cnt ks
  have hS0 : Hid (MStS ks g N l h k 0 w) := ⟨fun j x hx => (row j x hx).2.2.2.1, fun j x hx => by simpa [SX.cur] using cell j x hx, fun j x hx => by simpa [SX.cur] using ke j x hx, fun j x hx => by simpa [SX.cur] using kf j x hx, fun j x hx => by simpa [SX.cur] using ka j x hx, fun j x hx => by simpa [SX.cur] using kb j x hx⟩
  have hrowH : Hid (∀ (i : Nat) (k : SX), ks[i]? = some k → a = some ⟨g, 0, none⟩ ∧ lo ≤ g ∧ g < hi ∧ RowAt w g N 125 ∧ ks.length * 12 ≤ N) := row
  have hboxH : Hid (∀ (m : Nat), m < 4 * ks.length → lo ≤ l m ∧ h m ≤ hi ∧ (g < l m ∨ h m ≤ g)) := box
  have hapH : Hid (∀ (m n : Nat), m < 4 * ks.length → n < 4 * ks.length → m ≠ n → h m ≤ l n ∨ h n ≤ l m) := apart
  clear row cell box apart ke kf ka kb
  rw [hl] at hlc ⊢
  go_enter Tryz.func78, Tryz.ntmps78
  go_wp2_with fail
  go_loopw [1, 5] (fun v1 v5 wr => ∃ (i : Nat), v5 = .int .i64 i ∧ v1 = .int .i64 ((k + SX.cntL (ks.take i) : Nat) : Int) ∧ i ≤ len ∧ Hid (MStS ks g N l h k i wr) ∧ Kept (fun b => lo ≤ b ∧ b < hi) w wr) (fun _ v5 _ => len - (intOf v5).toNat)
  case atStart => exact ⟨0, rfl, by simp [SX.cntL], by omega, hS0, Kept.refl _ _⟩
  case round =>
    obtain ⟨i, rfl, rfl, hi', hS, hK⟩ := hrel
    rename World => wo
    by_cases hlt : i < len
    · obtain ⟨x, hx⟩ : ∃ x, ks[i]? = some x := ⟨_, List.getElem?_eq_getElem (by omega)⟩
      obtain ⟨ha, hg1, hg2, -, hN0⟩ := hrowH.out i x hx
      rw [hl] at hN0
      have hN : i * 12 + 12 ≤ N := by omega
      have hzo := hK.size
      have hX : Bx lo hi g i len l h wo := ⟨fun m hm => hboxH.out m (by omega), fun m n hm hn => hapH.out m n (by omega) (by omega), by omega, hlt, hg1, hg2⟩
      have hcur : SX.cur ks k i i x = x := by simp [SX.cur]
      have hc := hS.out.cell i x hx
      rw [hcur, Nat.zero_add] at hc
      have T0 : StM lo hi g N i len l h x wo wo x.vals x.e.kids x.f.kids x.la x.lb := by
        have q1 := hS.out.ke i x hx
        have q2 := hS.out.kf i x hx
        have q3 := hS.out.ka i x hx
        have q4 := hS.out.kb i x hx
        rw [hcur] at q1 q2 q3 q4
        exact ⟨⟨hS.out.row i x hx, fun o _ => rfl, hc.vals⟩, q1, q2, q3, q4, fun _ _ _ _ _ _ => rfl, Kept.refl _ _⟩
      clear hc
      have hsn := SX.cntL_snoc hx
      have hsl := SX.cntL_le ks (i + 1)
      have hce := x.cnt_eq
      have hcg := SX.cnt_get hx
      obtain ⟨kk, hkk⟩ : ∃ n, k + SX.cntL (ks.take i) = n := ⟨_, rfl⟩
      rw [hkk]
      subst ha
      have r0 := T0.rw.at_ 0 _ rfl
      have f0 := T0.rw.row.frozen (i * 12)
      rw [Nat.add_zero] at r0
      obtain ⟨V0, qV0⟩ : ∃ X, wo.setCell ⟨g, i * 12, none⟩ (.int .i64 ((kk : Nat) : Int)) = X := ⟨_, rfl⟩
      have T1 : StM lo hi g N i len l h x wo V0 ((x.vals).set 0 (.int .i64 ((kk : Nat) : Int))) (x.e.kids) (x.f.kids) (x.la) (x.lb) := by
        have hq := T0.set hX hN 0 (by omega) (.int .i64 ((kk : Nat) : Int))
        rw [Nat.add_zero, qV0] at hq
        exact hq
      have hmt : Hid (Calls Tryz.prog 77 #[.int .i64 ((kk : Int) + 1)] V0 fun e w' => e = .returned (.string (markB (kk + 1))) ∧ Below V0.heap.size V0 w') := markText (kk + 1) V0 (by omega)
      go_wp2_with fail
      go_at_call 77
      refine hmt.out.mono ?_
      rintro e V1 ⟨rfl, hb⟩
      have T2 := T1.below hX hb
      clear r0 f0 qV0
      clear hmt hb T1
      have r2 := T2.rw.at_ 1 _ rfl
      have f2 := T2.rw.row.frozen (i * 12 + 1)
      obtain ⟨V2, qV2⟩ : ∃ X, V1.setCell ⟨g, i * 12 + 1, none⟩ (.string (markB (kk + 1))) = X := ⟨_, rfl⟩
      have T3 : StM lo hi g N i len l h x wo V2 (((x.vals).set 0 (.int .i64 ((kk : Nat) : Int))).set 1 (.string (markB (kk + 1)))) (x.e.kids) (x.f.kids) (x.la) (x.lb) := by
        have hq := T2.set hX hN 1 (by omega) (.string (markB (kk + 1)))
        rw [qV2] at hq
        exact hq
      have r3 := T3.rw.at_ 2 _ rfl
      have f3 := T3.rw.row.frozen (i * 12 + 2)
      obtain ⟨V3, qV3⟩ : ∃ X, V2.setCell ⟨g, i * 12 + 2, none⟩ (.int .i64 ((kk : Int) + 1 + 1)) = X := ⟨_, rfl⟩
      have T4 : StM lo hi g N i len l h x wo V3 ((((x.vals).set 0 (.int .i64 ((kk : Nat) : Int))).set 1 (.string (markB (kk + 1)))).set 2 (.int .i64 ((kk : Int) + 1 + 1))) (x.e.kids) (x.f.kids) (x.la) (x.lb) := by
        have hq := T3.set hX hN 2 (by omega) (.int .i64 ((kk : Int) + 1 + 1))
        rw [qV3] at hq
        exact hq
      have r4 := T4.rw.at_ 3 _ rfl
      have f4 := T4.rw.row.frozen (i * 12 + 3)
      obtain ⟨V4, qV4⟩ : ∃ X, V3.setCell ⟨g, i * 12 + 3, none⟩ (.int .i64 ((kk : Int) + 1 + 1 + 1)) = X := ⟨_, rfl⟩
      have T5 : StM lo hi g N i len l h x wo V4 (((((x.vals).set 0 (.int .i64 ((kk : Nat) : Int))).set 1 (.string (markB (kk + 1)))).set 2 (.int .i64 ((kk : Int) + 1 + 1))).set 3 (.int .i64 ((kk : Int) + 1 + 1 + 1))) (x.e.kids) (x.f.kids) (x.la) (x.lb) := by
        have hq := T4.set hX hN 3 (by omega) (.int .i64 ((kk : Int) + 1 + 1 + 1))
        rw [qV4] at hq
        exact hq
      have hmt : Hid (Calls Tryz.prog 77 #[.int .i64 ((kk : Int) + 1 + 1 + 1 + 1)] V4 fun e w' => e = .returned (.string (markB (kk + 4))) ∧ Below V4.heap.size V4 w') := markText (kk + 4) V4 (by omega)
      go_wp2_with fail
      go_at_call 77
      refine hmt.out.mono ?_
      rintro e V5 ⟨rfl, hb⟩
      have T6 := T5.below hX hb
      clear r2 f2 qV2 r3 f3 qV3 r4 f4 qV4
      clear hmt hb T5
      have r6 := T6.rw.at_ 4 _ rfl
      have f6 := T6.rw.row.frozen (i * 12 + 4)
      obtain ⟨V6, qV6⟩ : ∃ X, V5.setCell ⟨g, i * 12 + 4, none⟩ (.string (markB (kk + 4))) = X := ⟨_, rfl⟩
      have T7 : StM lo hi g N i len l h x wo V6 ((((((x.vals).set 0 (.int .i64 ((kk : Nat) : Int))).set 1 (.string (markB (kk + 1)))).set 2 (.int .i64 ((kk : Int) + 1 + 1))).set 3 (.int .i64 ((kk : Int) + 1 + 1 + 1))).set 4 (.string (markB (kk + 4)))) (x.e.kids) (x.f.kids) (x.la) (x.lb) := by
        have hq := T6.set hX hN 4 (by omega) (.string (markB (kk + 4)))
        rw [qV6] at hq
        exact hq
      have r7 := T7.rw.at_ 5 _ rfl
      have hcl : Hid (Calls Tryz.prog 109 #[.slice x.e.base x.e.kids.length x.e.cap, .int .i64 ((kk : Int) + 1 + 1 + 1 + 1 + 1)] V6 fun e w' => e = .returned (.int .i64 ((kk + 5 + 3 * XT.sizeAll x.e.kids : Nat) : Int)) ∧ OwnR w' (l (4 * i)) (h (4 * i)) x.e.base (XT.markL x.e.kids (kk + 5)) ∧ Kept (fun b => l (4 * i) ≤ b ∧ b < h (4 * i)) V6 w') :=
        markE _ x.e.kids (Nat.le_refl _) (by omega) _ _ x.e.base x.e.cap (kk + 5) V6 T7.e (by have h1 := (hX.box (4 * i) (by omega)).2.1; have h2 := T7.kept.size; omega) (by omega)
      go_wp2_with fail
      go_at_call 109
      refine hcl.out.mono ?_
      rintro e V7 ⟨rfl, hO, hb⟩
      have T8 := T7.subE hX hO hb
      clear r6 f6 qV6 r7
      clear hcl hO hb T7
      obtain ⟨k1, hk1⟩ : ∃ n, kk + 5 + 3 * XT.sizeAll x.e.kids = n := ⟨_, rfl⟩
      rw [hk1]
      have r8 := T8.rw.at_ 6 _ rfl
      have f8 := T8.rw.row.frozen (i * 12 + 6)
      obtain ⟨V8, qV8⟩ : ∃ X, V7.setCell ⟨g, i * 12 + 6, none⟩ (.int .i64 ((k1 : Nat) : Int)) = X := ⟨_, rfl⟩
      have T9 : StM lo hi g N i len l h x wo V8 (((((((x.vals).set 0 (.int .i64 ((kk : Nat) : Int))).set 1 (.string (markB (kk + 1)))).set 2 (.int .i64 ((kk : Int) + 1 + 1))).set 3 (.int .i64 ((kk : Int) + 1 + 1 + 1))).set 4 (.string (markB (kk + 4)))).set 6 (.int .i64 ((k1 : Nat) : Int))) (XT.markL x.e.kids (kk + 5)) (x.f.kids) (x.la) (x.lb) := by
        have hq := T8.set hX hN 6 (by omega) (.int .i64 ((k1 : Nat) : Int))
        rw [qV8] at hq
        exact hq
      have r9 := T9.rw.at_ 7 _ rfl
      have f9 := T9.rw.row.frozen (i * 12 + 7)
      obtain ⟨V9, qV9⟩ : ∃ X, V8.setCell ⟨g, i * 12 + 7, none⟩ (.int .i64 ((k1 : Int) + 1)) = X := ⟨_, rfl⟩
      have T10 : StM lo hi g N i len l h x wo V9 ((((((((x.vals).set 0 (.int .i64 ((kk : Nat) : Int))).set 1 (.string (markB (kk + 1)))).set 2 (.int .i64 ((kk : Int) + 1 + 1))).set 3 (.int .i64 ((kk : Int) + 1 + 1 + 1))).set 4 (.string (markB (kk + 4)))).set 6 (.int .i64 ((k1 : Nat) : Int))).set 7 (.int .i64 ((k1 : Int) + 1))) (XT.markL x.e.kids (kk + 5)) (x.f.kids) (x.la) (x.lb) := by
        have hq := T9.set hX hN 7 (by omega) (.int .i64 ((k1 : Int) + 1))
        rw [qV9] at hq
        exact hq
      have hmt : Hid (Calls Tryz.prog 77 #[.int .i64 ((k1 : Int) + 1 + 1)] V9 fun e w' => e = .returned (.string (markB (k1 + 2))) ∧ Below V9.heap.size V9 w') := markText (k1 + 2) V9 (by omega)
      go_wp2_with fail
      go_at_call 77
      refine hmt.out.mono ?_
      rintro e V10 ⟨rfl, hb⟩
      have T11 := T10.below hX hb
      clear r8 f8 qV8 r9 f9 qV9
      clear hmt hb T10
      have r11 := T11.rw.at_ 8 _ rfl
      have f11 := T11.rw.row.frozen (i * 12 + 8)
      obtain ⟨V11, qV11⟩ : ∃ X, V10.setCell ⟨g, i * 12 + 8, none⟩ (.string (markB (k1 + 2))) = X := ⟨_, rfl⟩
      have T12 : StM lo hi g N i len l h x wo V11 (((((((((x.vals).set 0 (.int .i64 ((kk : Nat) : Int))).set 1 (.string (markB (kk + 1)))).set 2 (.int .i64 ((kk : Int) + 1 + 1))).set 3 (.int .i64 ((kk : Int) + 1 + 1 + 1))).set 4 (.string (markB (kk + 4)))).set 6 (.int .i64 ((k1 : Nat) : Int))).set 7 (.int .i64 ((k1 : Int) + 1))).set 8 (.string (markB (k1 + 2)))) (XT.markL x.e.kids (kk + 5)) (x.f.kids) (x.la) (x.lb) := by
        have hq := T11.set hX hN 8 (by omega) (.string (markB (k1 + 2)))
        rw [qV11] at hq
        exact hq
      have r12 := T12.rw.at_ 9 _ rfl
      have hcl : Hid (Calls Tryz.prog 109 #[.slice x.f.base x.f.kids.length x.f.cap, .int .i64 ((k1 : Int) + 1 + 1 + 1)] V11 fun e w' => e = .returned (.int .i64 ((k1 + 3 + 3 * XT.sizeAll x.f.kids : Nat) : Int)) ∧ OwnR w' (l (4 * i + 1)) (h (4 * i + 1)) x.f.base (XT.markL x.f.kids (k1 + 3)) ∧ Kept (fun b => l (4 * i + 1) ≤ b ∧ b < h (4 * i + 1)) V11 w') :=
        markE _ x.f.kids (Nat.le_refl _) (by omega) _ _ x.f.base x.f.cap (k1 + 3) V11 T12.f (by have h1 := (hX.box (4 * i + 1) (by omega)).2.1; have h2 := T12.kept.size; omega) (by omega)
      go_wp2_with fail
      go_at_call 109
      refine hcl.out.mono ?_
      rintro e V12 ⟨rfl, hO, hb⟩
      have T13 := T12.subF hX hO hb
      clear r11 f11 qV11 r12
      clear hcl hO hb T12
      obtain ⟨k2, hk2⟩ : ∃ n, k1 + 3 + 3 * XT.sizeAll x.f.kids = n := ⟨_, rfl⟩
      rw [hk2]
      have r13 := T13.rw.at_ 10 _ rfl
      have hcl : Hid (Calls Tryz.prog 78 #[.slice x.abase x.la.length x.acap, .int .i64 ((k2 : Nat) : Int)] V12 fun e w' => e = .returned (.int .i64 ((k2 + SX.cntL x.la : Nat) : Int)) ∧ OwnSR w' (l (4 * i + 2)) (h (4 * i + 2)) x.abase (SX.markL x.la (k2)) ∧ Kept (fun b => l (4 * i + 2) ≤ b ∧ b < h (4 * i + 2)) V12 w') :=
        ih'.out (SX.cntL x.la) (by omega) x.la (Nat.le_refl _) _ _ x.abase x.acap k2 V12 T13.a (by have h1 := (hX.box (4 * i + 2) (by omega)).2.1; have h2 := T13.kept.size; omega) (by omega)
      go_wp2_with fail
      go_at_call 78
      refine hcl.out.mono ?_
      rintro e V13 ⟨rfl, hO, hb⟩
      have T14 := T13.subA hX hO hb
      clear r13
      clear hcl hO hb T13
      obtain ⟨k3, hk3⟩ : ∃ n, k2 + SX.cntL x.la = n := ⟨_, rfl⟩
      rw [hk3]
      have r14 := T14.rw.at_ 11 _ rfl
      have hcl : Hid (Calls Tryz.prog 78 #[.slice x.bbase x.lb.length x.bcap, .int .i64 ((k3 : Nat) : Int)] V13 fun e w' => e = .returned (.int .i64 ((k3 + SX.cntL x.lb : Nat) : Int)) ∧ OwnSR w' (l (4 * i + 3)) (h (4 * i + 3)) x.bbase (SX.markL x.lb (k3)) ∧ Kept (fun b => l (4 * i + 3) ≤ b ∧ b < h (4 * i + 3)) V13 w') :=
        ih'.out (SX.cntL x.lb) (by omega) x.lb (Nat.le_refl _) _ _ x.bbase x.bcap k3 V13 T14.b (by have h1 := (hX.box (4 * i + 3) (by omega)).2.1; have h2 := T14.kept.size; omega) (by omega)
      go_wp2_with fail
      go_at_call 78
      refine hcl.out.mono ?_
      rintro e V14 ⟨rfl, hO, hb⟩
      have T15 := T14.subB hX hO hb
      clear r14
      clear hcl hO hb T14
      obtain ⟨k4, hk4⟩ : ∃ n, k3 + SX.cntL x.lb = n := ⟨_, rfl⟩
      rw [hk4]
      have hmk := x.mark_eq kk
      have p1 : kk + 5 + 3 * XT.sizeAll x.e.kids = k1 := hk1
      have p1' : kk + 6 + 3 * XT.sizeAll x.e.kids = k1 + 1 := by omega
      have p2 : kk + 7 + 3 * XT.sizeAll x.e.kids = k1 + 2 := by omega
      have p3 : kk + 8 + 3 * XT.sizeAll x.e.kids = k1 + 3 := by omega
      have p4 : k1 + 3 + 3 * XT.sizeAll x.f.kids = k2 := hk2
      rw [p3, p4, p2, p1', p1, hk3] at hmk
      have hN5 : Hid (MStS ks g N l h k (i + 1) V14) := by
        refine MStS.next (cs := _) hl hx hkk hS.out hX (by rw [hmk]; exact T15) ?_
        rw [hmk, Nat.zero_add]
        have hat := T15.rw.at_
        refine ⟨?_, hat 1 _ rfl, hat 2 _ rfl, hat 3 _ rfl, hat 4 _ rfl, ?_, hat 6 _ rfl, hat 7 _ rfl, hat 8 _ rfl, ?_, ?_, ?_⟩
        · have h0 := hat 0 _ rfl
          exact h0
        · have h5 := hat 5 _ rfl
          simpa [SX.e, XT.kids, XT.base, XT.cap, XT.markL_length] using h5
        · have h9 := hat 9 _ rfl
          simpa [SX.f, XT.kids, XT.base, XT.cap, XT.markL_length] using h9
        · have h10 := hat 10 _ rfl
          simpa [SX.la, SX.abase, SX.acap, SX.markL_length] using h10
        · have h11 := hat 11 _ rfl
          simpa [SX.lb, SX.bbase, SX.bcap, SX.markL_length] using h11
      have hkf := T15.kept
      clear hmk p1 p1' p2 p3 p4 T15
      go_wp2
      exact ⟨⟨i + 1, by go_num, congrArg (Value.int IntKind.i64) (by omega), by omega, hN5, hK.trans hkf⟩, by simp [intOf]; omega⟩
    · have he : i = len := by omega
      have htk : ks.take i = ks := List.take_of_length_le (by omega)
      rw [htk]
      go_wp2
      go_returns
      refine ⟨rfl, ?_, hK⟩
      have hS1 := hS.out
      have hcur : ∀ (j : Nat) (x : SX), ks[j]? = some x → SX.cur ks k i j x = x.mark (k + SX.cntL (ks.take j)) := by
        intro j x hx
        have hj : j < ks.length := (List.getElem?_eq_some_iff.1 hx).1
        unfold SX.cur
        rw [if_pos (by omega)]
      refine .mk lo hi a _ g N l h (fun j y hy => ?_) (fun j y hy => ?_) (fun j hj => hboxH.out j (by rw [SX.markL_length] at hj; exact hj)) (fun j j' hj hj' => hapH.out j j' (by rw [SX.markL_length] at hj; exact hj) (by rw [SX.markL_length] at hj'; exact hj')) (fun j y hy => ?_) (fun j y hy => ?_) (fun j y hy => ?_) (fun j y hy => ?_)
      · obtain ⟨x, hx, rfl⟩ := SX.markL_back hy
        obtain ⟨q1, q2, q3, q4, q5⟩ := hrowH.out j x hx
        exact ⟨q1, q2, q3, hS1.row j x hx, by rw [SX.markL_length]; exact q5⟩
      all_goals
        obtain ⟨x, hx, rfl⟩ := SX.markL_back hy
        rw [← hcur j x hx]
        first | exact hS1.cell j x hx | exact hS1.ke j x hx | exact hS1.kf j x hx | exact hS1.ka j x hx | exact hS1.kb j x hx
end Go.Proofs.YtaajdoipjalgmaaGreatDoor
namespace Go.Proofs.YtaajdoipjalgmaaGreatDoor
open Go.RowKit Go.Shelf
set_option linter.unusedSimpArgs false
set_option linter.unusedVariables false
attribute [local go_sem] Oper.semAt_some

def c4 (t : XT) : List Value := [.int .i64 t.kind, .int .i64 t.num, .string t.name, .slice t.base t.kids.length t.cap]
def fl4 : List XT → List Value
  | [] => []
  | t :: ts => c4 t ++ fl4 ts
theorem fl4_length (us : List XT) : (fl4 us).length = us.length * 4 := by
  induction us with
  | nil => rfl
  | cons x xs ih => simp [fl4, c4, ih]; omega
theorem fl4_snoc (us : List XT) (t : XT) : fl4 (us ++ [t]) = fl4 us ++ c4 t := by
  induction us with
  | nil => simp [fl4]
  | cons x xs ih => simp [fl4, ih]
theorem fl4_get {us : List XT} {i j : Nat} {t : XT} {v : Value} (h : us[i]? = some t) (hv : (c4 t)[j]? = some v) : (fl4 us)[i * 4 + j]? = some v := by
  induction us generalizing i with
  | nil => simp at h
  | cons x xs ih =>
    have hj : j < 4 := by have := (List.getElem?_eq_some_iff.1 hv).1; simpa [c4] using this
    cases i with
    | zero =>
      simp at h
      subst h
      rw [fl4, List.getElem?_append_left (by simp [c4]; omega)]
      simpa using hv
    | succ i =>
      rw [fl4, List.getElem?_append_right (by simp [c4]; omega)]
      have h1 := ih (i := i) (by simpa using h)
      have h2 : (i + 1) * 4 + j - (c4 x).length = i * 4 + j := by simp [c4]; omega
      rw [h2]
      exact h1
/-- A list that has been appended to, each of its expressions with all within it in an interval of blocks of its own. -/
structure AccE (W : World) (base : Nat) (v : Value) (us : List XT) (l h : Nat → Nat) : Prop where
  own : W.ownsRow base 123 4 v us.length (fl4 us)
  int : ∀ (i : Nat), i < us.length → base ≤ l i ∧ h i ≤ W.heap.size ∧ (∀ g, v.ownBlock = some g → g < l i ∨ h i ≤ g)
  ord : ∀ (i j : Nat), i < j → j < us.length → h i ≤ l j
  kid : ∀ (i : Nat) (t : XT), us[i]? = some t → OwnR W (l i) (h i) t.base t.kids
theorem AccE.nil (W : World) (base : Nat) : AccE W base (.slice none 0 0) [] (fun _ => 0) (fun _ => 0) :=
  ⟨World.ownsRow_nil _ _ _ _, fun i h => by simp at h, fun i j _ h => by simp at h, fun i t h => by simp at h⟩
theorem AccE.below {A B : World} {base : Nat} {v : Value} {us : List XT} {l h : Nat → Nat} (hA : AccE A base v us l h) (hb : Below A.heap.size A B) : AccE B base v us l h := by
  refine ⟨own_on hA.own (fun g hg => hb.block g (hA.own.lt g hg).2), fun i hi => ?_, hA.ord, fun i t ht => (hA.kid i t ht).mono (fun b q1 q2 => hb.block b ?_)⟩
  · obtain ⟨h1, h2, h3⟩ := hA.int i hi
    exact ⟨h1, Nat.le_trans h2 hb.size, h3⟩
  · have := (hA.int i (List.getElem?_eq_some_iff.1 ht).1).2.1; omega
theorem AccE.push {A B : World} {base n : Nat} {v v' : Value} {us : List XT} {l h : Nat → Nat} {t : XT} {lo hi : Nat} (hA : AccE A base v us l h) (hn : us.length = n) (hO : OwnR A lo hi t.base t.kids) (hlo : ∀ i, i < us.length → h i ≤ lo) (hb : base ≤ lo) (hhi : hi ≤ A.heap.size) (hv : ∀ g, v.ownBlock = some g → g < lo ∨ hi ≤ g) (hbase : base ≤ A.heap.size)
    (hown : B.ownsRow base 123 4 v' (n + 1) (fl4 us ++ c4 t)) (hback : Back A B base 123 4 n 1 v v' (fl4 us) (c4 t)) :
    AccE B base v' (us ++ [t]) (fun i => if i = n then lo else l i) (fun i => if i = n then hi else h i) := by
  -- all but the row is as it was
  have hblk : ∀ b, b < A.heap.size → (∀ g, v.ownBlock = some g → b ≠ g) → B.heap[b]? = A.heap[b]? := by
    intro b hb hg
    rcases hback with ⟨h1, h2, h3, h4⟩ | ⟨h1, h3⟩
    · exact h3.block b hb (fun e => hg b e.symm rfl)
    · exact h3.block b hb
  have hz : A.heap.size ≤ B.heap.size := by
    rcases hback with ⟨h1, h2, h3, h4⟩ | ⟨h1, h3⟩
    · exact h3.size
    · exact h3.size
  have hv' : ∀ g, v'.ownBlock = some g → v.ownBlock = some g ∨ g = A.heap.size := by
    intro g hg
    rcases hback with ⟨h1, h2, h3, h4⟩ | ⟨h1, h3⟩
    · rw [h1] at hg; exact .inl hg
    · rw [h1] at hg; cases hg; exact .inr rfl
  refine ⟨?_, fun i hi' => ?_, fun i j hij hj => ?_, fun i y hy => ?_⟩
  · rw [fl4_snoc, List.length_append, hn]
    exact hown
  · simp only [List.length_append, List.length_singleton] at hi'
    by_cases e : i = n
    · simp only [e, if_true]
      refine ⟨hb, by omega, fun g hg => ?_⟩
      rcases hv' g hg with h1 | h1
      · exact hv g h1
      · right; omega
    · simp only [e, if_false]
      obtain ⟨h1, h2, h3⟩ := hA.int i (by omega)
      refine ⟨h1, by omega, fun g hg => ?_⟩
      rcases hv' g hg with h4 | h4
      · exact h3 g h4
      · right; omega
  · simp only [List.length_append, List.length_singleton] at hj
    have hi' : i ≠ n := by omega
    simp only [hi', if_false]
    by_cases e : j = n
    · simp only [e, if_true]
      exact hlo i (by omega)
    · simp only [e, if_false]
      exact hA.ord i j hij (by omega)
  · by_cases e : i < us.length
    · rw [List.getElem?_append_left e] at hy
      have hi' : i ≠ n := by omega
      simp only [hi', if_false]
      obtain ⟨h1, h2, h3⟩ := hA.int i e
      exact (hA.kid i y hy).mono (fun b q1 q2 => hblk b (by omega) (fun g hg e => by rcases h3 g hg with h | h <;> omega))
    · have hi' : i = n := by
        have := (List.getElem?_eq_some_iff.1 hy).1
        simp at this
        omega
      rw [List.getElem?_append_right (by omega)] at hy
      simp [hi', hn] at hy
      subst hy
      simp only [hi', if_true]
      exact hO.mono (fun b q1 q2 => hblk b (by omega) (fun g hg e => by rcases hv g hg with h | h <;> omega))
theorem AccE.done {W : World} {base : Nat} {v : Value} {us : List XT} {l h : Nat → Nat} (hA : AccE W base v us l h) : ∃ a c, v = .slice a us.length c ∧ OwnR W base W.heap.size a us := by
  rcases hA.own.2 with ⟨rfl, h0⟩ | ⟨g, cap, cur, rfl, hb, hg, hnc, hcm, hcs, htk⟩
  · have : us = [] := List.length_eq_zero_iff.1 h0
    subst this
    exact ⟨none, 0, rfl, .mk _ _ _ _ 0 0 (fun _ => 0) (fun _ => 0) (fun i k hk => by simp at hk) (fun i k hk => by simp at hk) (fun i hi => by simp at hi) (fun i j hi => by simp at hi) (fun i k hk => by simp at hk)⟩
  · refine ⟨_, cap, rfl, .mk base W.heap.size _ us g (cap * 4) l h (fun i k hk => ⟨rfl, hb, (Array.getElem?_eq_some_iff.1 hg).1, ⟨cur, hg, hcs⟩, by omega⟩) (fun i k hk => ?_) (fun i hi => ?_) (fun i j hi hj hij => ?_) hA.kid⟩
    · have hcell : ∀ (j : Nat) (u : Value), (c4 k)[j]? = some u → W.cell? ⟨g, 0 + i * 4 + j, none⟩ = some u := by
        intro j u hj
        have h1 := hA.own.cells (g := g) rfl _ u (fl4_get hk hj)
        have hadd : (⟨g, 0, none⟩ : Addr).add (i * 4 + j) = ⟨g, 0 + i * 4 + j, none⟩ := by unfold Addr.add; split <;> simp_all
        rw [hadd] at h1
        exact h1
      exact ⟨hcell 0 _ rfl, hcell 1 _ rfl, hcell 2 _ rfl, hcell 3 _ rfl⟩
    · obtain ⟨h1, h2, h3⟩ := hA.int i hi
      exact ⟨h1, h2, h3 g rfl⟩
    · rcases Nat.lt_or_gt_of_ne hij with h1 | h1
      · exact .inl (hA.ord i j h1 hj)
      · exact .inr (hA.ord j i h1 hi)
theorem news4 (w : World) (t : XT) (T : TypeId) : ∀ j u, (c4 t)[j]? = some u → (w.alloc (.cells #[.int .i64 t.kind, .int .i64 t.num, .string t.name, .slice t.base t.kids.length t.cap] T)).cell? ((⟨w.heap.size, 0, none⟩ : Addr).add j) = some u := by
  intro j u hj
  have hadd : (⟨w.heap.size, 0, none⟩ : Addr).add j = ⟨w.heap.size, j, none⟩ := by unfold Addr.add; split <;> simp_all
  rw [hadd]
  have h := World.cell?_alloc_new w #[.int .i64 t.kind, .int .i64 t.num, .string t.name, .slice t.base t.kids.length t.cap] T j
  rw [h]
  simpa [c4] using hj

set_option maxRecDepth 10000 in
set_option maxHeartbeats 4000000 in
theorem eachE (ks : List XT) (a : Option Addr) (c : Nat) (ok : Nat → Prop) (w : World) (hok : ∀ b, ok b → b < w.heap.size) (hcl : ERow ok w a ks) (hlen : ks.length ≤ 1048577)
    (H : ∀ (i : Nat) (k : XT), ks[i]? = some k → ∀ (w' : World), Below w.heap.size w w' →
      Calls Tryz.prog 111 #[k.val] w' fun e w'' => ∃ t : XT, e = .returned t.val ∧ Same k t ∧ OwnR w'' w'.heap.size w''.heap.size t.base t.kids ∧ Below w'.heap.size w' w'') :
    Calls Tryz.prog 150 #[.slice a ks.length c, .func (.func 111) #[] #[]] w fun e w' => ∃ (v : Value) (us : List XT) (l h : Nat → Nat), e = .returned v ∧ us.length = ks.length ∧ (∀ (i : Nat) (x y : XT), ks[i]? = some x → us[i]? = some y → Same x y) ∧ AccE w' w.heap.size v us l h ∧ Below w.heap.size w w' := by
  obtain ⟨len, hl⟩ : ∃ len, ks.length = len := ⟨_, rfl⟩
  rw [hl] at hlen ⊢
  obtain ⟨i0, hi0, hz0, hz1, hz2⟩ := info_parts infoE
  go_enter Tryz.func150, Tryz.ntmps150
  go_wp2_with fail
  go_loopw [5, 10] (fun v5 v10 wr => ∃ (i : Nat) (us : List XT) (l h : Nat → Nat), v10 = .int .i64 i ∧ i ≤ len ∧ us.length = i ∧ Hid (∀ (j : Nat) (x y : XT), ks[j]? = some x → us[j]? = some y → Same x y) ∧ Hid (AccE wr w.heap.size v5 us l h) ∧ Below w.heap.size w wr) (fun _ v10 _ => len - (intOf v10).toNat)
  case atStart => exact ⟨0, [], _, _, rfl, by omega, rfl, fun j x y _ hy => by simp at hy, AccE.nil _ _, Below.refl _ _⟩
  case round =>
    obtain ⟨i, us, l, h, rfl, hi, hul, hsm, hA, hB⟩ := hrel
    obtain ⟨v, rfl⟩ : ∃ v, v = u5 := ⟨_, rfl⟩
    by_cases hlt : i < len
    · obtain ⟨x, hx⟩ : ∃ x, ks[i]? = some x := ⟨_, List.getElem?_eq_getElem (by omega)⟩
      obtain ⟨b1, o1, hbase1, hok1, hc1⟩ := hcl i x hx
      obtain ⟨c0, c1, c2, c3⟩ := hc1.below hB (hok b1 hok1)
      obtain ⟨W1, hW1⟩ : ∃ W1, wr.alloc (.cells #[.int .i64 x.kind, .int .i64 x.num, .string x.name, .slice x.base x.kids.length x.cap] 123) = W1 := ⟨_, rfl⟩
      have hB1 : Below wr.heap.size wr W1 := by rw [← hW1]; exact (Below.refl _ _).alloc (Nat.le_refl _) _
      have hs1 : wr.heap.size + 1 = W1.heap.size := by rw [← hW1]; simp
      have hC1 : Cells4 W1 wr.heap.size 0 x := by rw [← hW1]; exact Cells4.new wr x
      have hcall : Hid (Calls Tryz.prog 111 #[x.val] W1 fun e w'' => ∃ t : XT, e = .returned t.val ∧ Same x t ∧ OwnR w'' W1.heap.size w''.heap.size t.base t.kids ∧ Below W1.heap.size W1 w'') := H i x hx W1 (bstep hB hB1)
      obtain ⟨d0, d1, d2, d3⟩ := hC1
      have hA1 := hA.out.below hB1
      subst hbase1
      go_wp2_with fail
      go_at_call 111
      refine hcall.out.mono ?_
      rintro e w2 ⟨t, rfl, hxt, hO, hB2⟩
      clear c0 c1 c2 c3 d0 d1 d2 d3 hcall hW1
      have hA2 := hA1.below hB2
      have hz2' := hB2.size
      obtain ⟨W3, hW3⟩ : ∃ W3, w2.alloc (.cells #[.int .i64 t.kind, .int .i64 t.num, .string t.name, .slice t.base t.kids.length t.cap] 123) = W3 := ⟨_, rfl⟩
      have hB3 : Below w2.heap.size w2 W3 := by rw [← hW3]; exact (Below.refl _ _).alloc (Nat.le_refl _) _
      have hs3 : w2.heap.size + 1 = W3.heap.size := by rw [← hW3]; simp
      have hnew : ∀ j u, (c4 t)[j]? = some u → W3.cell? ((⟨w2.heap.size, 0, none⟩ : Addr).add j) = some u := by rw [← hW3]; exact news4 w2 t _
      have hA3 := hA2.below hB3
      have hO3 : OwnR W3 W1.heap.size w2.heap.size t.base t.kids := hO.mono (fun b q1 q2 => hB3.block b q2)
      have hzw := hB.size
      have hown3 : Hid (W3.ownsRow w.heap.size 123 4 v us.length (fl4 us)) := hA3.own
      have hnewH : Hid (∀ j u, (c4 t)[j]? = some u → W3.cell? ((⟨w2.heap.size, 0, none⟩ : Addr).add j) = some u) := hnew
      clear hnew
      go_wp2_with (at_builtin; refine wpList_append_back _ rfl _ _ 121 rfl w.heap.size 123 i0 _ 4 56 Tryz.underlying121 hi0 hz0 hz1 hz2 rfl (by decide) v us.length (fl4 us) rfl hown3.out ⟨w2.heap.size, 0, none⟩ 1 1 (c4 t) rfl rfl hnewH.out (by simp [c4, Value.oneCell']) (by unfold maxLen; omega) (by omega) (by omega) (by omega) ?_; intro v' w4 hown' hback)
      have hP := hA3.push rfl hO3 (fun j hj => by have := (hA1.int j hj).2.1; omega) (by omega) (by omega) (fun g hg => by have := (hA1.own.lt g hg).2; omega) (by omega) hown' hback
      have hB4 : Below w.heap.size w w4 := by
        have h0 : Below w.heap.size w W3 := bstep (bstep (bstep hB hB1) hB2) hB3
        refine h0.trans (hback.kept.below (by omega) (fun k hk => ?_))
        rcases hk with hk | hk
        · exact (hA3.own.lt k hk).1
        · exact (hown'.lt k hk).1
      refine ⟨⟨i + 1, us ++ [t], _, _, by go_num, by omega, by simp [hul], ?_, hP, hB4⟩, by simp [intOf]; omega⟩
      intro j y z hy hz
      by_cases hj : j < us.length
      · rw [List.getElem?_append_left hj] at hz
        exact hsm.out j y z hy hz
      · have hji : j = i := by
          have := (List.getElem?_eq_some_iff.1 hz).1
          simp at this
          omega
        subst hji
        rw [List.getElem?_append_right (by omega)] at hz
        simp [hul] at hz
        subst hz
        rw [hx] at hy
        cases hy
        exact hxt
    · have he : i = len := by omega
      go_wp2_with fail
      go_returns
      exact ⟨v, us, l, h, rfl, by omega, hsm.out, hA.out, hB⟩
set_option maxRecDepth 10000 in
set_option maxHeartbeats 4000000 in
theorem copyE (sz : Nat) : ∀ t : XT, t.size ≤ sz → sz ≤ 1048577 → ∀ (ok : Nat → Prop) (w : World), (∀ b, ok b → b < w.heap.size) → Lies ok w t →
    Calls Tryz.prog 111 #[t.val] w fun e w' => ∃ t' : XT, e = .returned t'.val ∧ Same t t' ∧ OwnR w' w.heap.size w'.heap.size t'.base t'.kids ∧ Below w.heap.size w w' := by
  induction sz with
  | zero => intro t h; rw [XT.size_eq] at h; omega
  | succ sz ih =>
  intro t hsz hlim ok w hok hL
  have hlt := t.length_le
  obtain ⟨W1, hW1⟩ : ∃ W1, w.alloc (.cells #[.int .i64 t.kind, .int .i64 t.num, .string t.name, .slice t.base t.kids.length t.cap] 123) = W1 := ⟨_, rfl⟩
  obtain ⟨W2, hW2⟩ : ∃ W2, W1.alloc (.cells #[.int .i64 0, .int .i64 0, .string ⟨#[]⟩, .slice none 0 0] 123) = W2 := ⟨_, rfl⟩
  have s1 : W1.heap.size = w.heap.size + 1 := by rw [← hW1]; simp
  have s2 : W2.heap.size = w.heap.size + 2 := by rw [← hW2]; simp [s1]
  have hB2 : Below w.heap.size w W2 := by rw [← hW2, ← hW1]; exact ((Below.refl _ w).alloc (Nat.le_refl _) _).alloc (by simp) _
  have hR1 : RowAt W2 w.heap.size 4 123 := by
    have h := RowAt.new w #[.int .i64 t.kind, .int .i64 t.num, .string t.name, .slice t.base t.kids.length t.cap] 123
    rw [hW1] at h
    rw [← hW2]
    exact h.of_block (Below.heap_alloc _ _ _ (by omega))
  have hR2 : RowAt W2 (w.heap.size + 1) 4 123 := by
    have h := RowAt.new W1 #[.int .i64 0, .int .i64 0, .string ⟨#[]⟩, .slice none 0 0] 123
    rw [hW2, s1] at h
    exact h
  have hC : Cells4 W2 w.heap.size 0 t := by
    have h := Cells4.new w t
    rw [hW1] at h
    rw [← hW2]
    exact h.below (n := W1.heap.size) ((Below.refl _ _).alloc (Nat.le_refl _) _) (by omega)
  have hL2 := hL.under hB2 hok
  have hok2 : ∀ b, ok b → b < W2.heap.size := fun b hb => Nat.lt_of_lt_of_le (hok b hb) hB2.size
  have hcall := eachE t.kids t.base t.cap ok W2 hok2 hL2.cells (by omega) (fun i k hk w' hBw => ih k (by have h5 := XT.size_get hk; have h6 := t.size_eq; omega) (by omega) ok w' (fun b hb => Nat.lt_of_lt_of_le (hok2 b hb) hBw.size) ((hL2.kid i k hk).under hBw hok2))
  have hcH : Hid (Calls Tryz.prog 150 #[.slice t.base t.kids.length t.cap, .func (.func 111) #[] #[]] W2 fun e w' => ∃ (v : Value) (us : List XT) (l h : Nat → Nat), e = .returned v ∧ us.length = t.kids.length ∧ (∀ (i : Nat) (x y : XT), t.kids[i]? = some x → us[i]? = some y → Same x y) ∧ AccE w' W2.heap.size v us l h ∧ Below W2.heap.size W2 w') := hcall
  clear hcall
  have c3 := hC.c3
  rw [Nat.zero_add] at c3
  go_enter Tryz.func111, Tryz.ntmps111
  go_wp2_with fail
  go_at_call 150
  refine hcH.out.mono ?_
  rintro e w3 ⟨v, us, l, h, rfl, hul, hus, hA, hB3⟩
  obtain ⟨a', c', rfl, hO⟩ := hA.done
  clear c3 hcH hW1 hW2
  have hz3 := hB3.size
  have hC3 := hC.below hB3 (by omega)
  have hR13 := hR1.of_block (hB3.block _ (by omega))
  have hR23 := hR2.of_block (hB3.block _ (by omega))
  have m0 : w3.cell? ⟨w.heap.size, 0, none⟩ = some (.int .i64 t.kind) := hC3.c0
  have m1 : w3.cell? ⟨w.heap.size, 1, none⟩ = some (.int .i64 t.num) := hC3.c1
  have m2 : w3.cell? ⟨w.heap.size, 2, none⟩ = some (.string t.name) := hC3.c2
  obtain ⟨v3, m3⟩ := hR13.cell (o := 3) (by omega)
  have f3 := hR13.frozen 3
  obtain ⟨u0, q0⟩ := hR23.cell (o := 0) (by omega)
  obtain ⟨u1, q1⟩ := hR23.cell (o := 1) (by omega)
  obtain ⟨u2, q2⟩ := hR23.cell (o := 2) (by omega)
  obtain ⟨u3, q3⟩ := hR23.cell (o := 3) (by omega)
  have g0 := hR23.frozen 0
  have g1 := hR23.frozen 1
  have g2 := hR23.frozen 2
  have g3 := hR23.frozen 3
  rw [hul]
  go_wp2
  have hK5 : Kept (fun k => k = w.heap.size ∨ k = w.heap.size + 1) w3 (((((w3.setCell ⟨w.heap.size, 3, none⟩ (.slice a' t.kids.length c')).setCell ⟨w.heap.size + 1, 0, none⟩ (.int .i64 t.kind)).setCell ⟨w.heap.size + 1, 1, none⟩ (.int .i64 t.num)).setCell ⟨w.heap.size + 1, 2, none⟩ (.string t.name)).setCell ⟨w.heap.size + 1, 3, none⟩ (.slice a' t.kids.length c')) :=
    (((((Kept.refl (fun k => k = w.heap.size ∨ k = w.heap.size + 1) w3).setCell (p := ⟨w.heap.size, 3, none⟩) (.inl rfl) _).setCell (p := ⟨w.heap.size + 1, 0, none⟩) (.inr rfl) _).setCell (p := ⟨w.heap.size + 1, 1, none⟩) (.inr rfl) _).setCell (p := ⟨w.heap.size + 1, 2, none⟩) (.inr rfl) _).setCell (p := ⟨w.heap.size + 1, 3, none⟩) (.inr rfl) _
  first | go_returns | (refine bodyPost_ret (by simp [results, Tryz.results111, go_sem, *]; try rfl) rfl ?_)
  refine ⟨.mk t.kind t.num t.name a' c' us, ?_, ?_, ?_, ?_⟩
  · simp only [XT.val, XT.kind, XT.num, XT.name, XT.kids, XT.base, XT.cap, hul]
  · exact .mk _ _ rfl rfl rfl hul (fun i a b ha hb => hus i a b ha hb)
  · have hz5 := hK5.size
    exact (hO.mono (fun b h1 h2 => hK5.block b h2 (fun e => by omega))).wide (by omega) hz5
  · exact (hB2.trans (hB3.mono (by omega))).trans (hK5.below (by omega) (fun k h => by omega))
end Go.Proofs.YtaajdoipjalgmaaGreatDoor
namespace Go.Proofs.YtaajdoipjalgmaaGreatDoor
open Go.RowKit Go.Shelf
set_option linter.unusedSimpArgs false
set_option linter.unusedVariables false
attribute [local go_sem] Oper.semAt_some

def fl12 : List SX → List Value
  | [] => []
  | t :: ts => t.vals ++ fl12 ts
theorem fl12_length (us : List SX) : (fl12 us).length = us.length * 12 := by
  induction us with
  | nil => rfl
  | cons x xs ih => simp [fl12, ih]; omega
theorem fl12_snoc (us : List SX) (t : SX) : fl12 (us ++ [t]) = fl12 us ++ t.vals := by
  induction us with
  | nil => simp [fl12]
  | cons x xs ih => rw [List.cons_append, fl12, fl12, ih, List.append_assoc]
theorem fl12_get {us : List SX} {i j : Nat} {t : SX} {v : Value} (h : us[i]? = some t) (hv : t.vals[j]? = some v) : (fl12 us)[i * 12 + j]? = some v := by
  induction us generalizing i with
  | nil => simp at h
  | cons x xs ih =>
    have hj : j < 12 := by have := (List.getElem?_eq_some_iff.1 hv).1; simpa using this
    have hlx : x.vals.length = 12 := rfl
    cases i with
    | zero =>
      simp only [List.getElem?_cons_zero, Option.some.injEq] at h
      subst h
      rw [fl12, List.getElem?_append_left (by rw [hlx]; omega), Nat.zero_mul, Nat.zero_add]
      exact hv
    | succ i =>
      rw [fl12, List.getElem?_append_right (by rw [hlx]; omega)]
      have h1 := ih (i := i) (by simpa using h)
      have h2 : (i + 1) * 12 + j - x.vals.length = i * 12 + j := by rw [hlx]; omega
      rw [h2]
      exact h1
/-- A statement whose four lists lie in intervals of their own within one. -/
def OwnS1 (W : World) (lo hi : Nat) (x : SX) : Prop := ∃ (l h : Nat → Nat), (∀ m, m < 4 → lo ≤ l m ∧ h m ≤ hi) ∧ (∀ m n, m < 4 → n < 4 → m ≠ n → h m ≤ l n ∨ h n ≤ l m) ∧
  OwnR W (l 0) (h 0) x.e.base x.e.kids ∧ OwnR W (l 1) (h 1) x.f.base x.f.kids ∧ OwnSR W (l 2) (h 2) x.abase x.la ∧ OwnSR W (l 3) (h 3) x.bbase x.lb
theorem OwnS1.mono {A B : World} {lo hi : Nat} {x : SX} (h : OwnS1 A lo hi x) (hb : ∀ b, lo ≤ b → b < hi → B.heap[b]? = A.heap[b]?) : OwnS1 B lo hi x := by
  obtain ⟨l, h, h1, h2, h3, h4, h5, h6⟩ := h
  have hin : ∀ m, m < 4 → ∀ b, l m ≤ b → b < h m → B.heap[b]? = A.heap[b]? := fun m hm b q1 q2 => by
    obtain ⟨p1, p2⟩ := h1 m hm
    exact hb b (by omega) (by omega)
  exact ⟨l, h, h1, h2, h3.mono (hin 0 (by omega)), h4.mono (hin 1 (by omega)), h5.mono (hin 2 (by omega)), h6.mono (hin 3 (by omega))⟩
theorem OwnS1.wide {W : World} {lo hi lo' hi' : Nat} {x : SX} (h : OwnS1 W lo hi x) (h1 : lo' ≤ lo) (h2 : hi ≤ hi') : OwnS1 W lo' hi' x := by
  obtain ⟨l, h, q1, q⟩ := h
  exact ⟨l, h, fun m hm => by obtain ⟨p1, p2⟩ := q1 m hm; exact ⟨by omega, by omega⟩, q⟩
structure AccS (W : World) (base : Nat) (v : Value) (us : List SX) (l h : Nat → Nat) : Prop where
  own : W.ownsRow base 125 12 v us.length (fl12 us)
  int : ∀ (i : Nat), i < us.length → base ≤ l i ∧ h i ≤ W.heap.size ∧ (∀ g, v.ownBlock = some g → g < l i ∨ h i ≤ g)
  ord : ∀ (i j : Nat), i < j → j < us.length → h i ≤ l j
  kid : ∀ (i : Nat) (t : SX), us[i]? = some t → OwnS1 W (l i) (h i) t
theorem AccS.nil (W : World) (base : Nat) : AccS W base (.slice none 0 0) [] (fun _ => 0) (fun _ => 0) :=
  ⟨World.ownsRow_nil _ _ _ _, fun i h => by simp at h, fun i j _ h => by simp at h, fun i t h => by simp at h⟩
theorem AccS.below {A B : World} {base : Nat} {v : Value} {us : List SX} {l h : Nat → Nat} (hA : AccS A base v us l h) (hb : Below A.heap.size A B) : AccS B base v us l h := by
  refine ⟨own_on hA.own (fun g hg => hb.block g (hA.own.lt g hg).2), fun i hi => ?_, hA.ord, fun i t ht => (hA.kid i t ht).mono (fun b q1 q2 => hb.block b ?_)⟩
  · obtain ⟨h1, h2, h3⟩ := hA.int i hi
    exact ⟨h1, Nat.le_trans h2 hb.size, h3⟩
  · have := (hA.int i (List.getElem?_eq_some_iff.1 ht).1).2.1; omega
theorem AccS.push {A B : World} {base n : Nat} {v v' : Value} {us : List SX} {l h : Nat → Nat} {t : SX} {lo hi : Nat} (hA : AccS A base v us l h) (hn : us.length = n) (hO : OwnS1 A lo hi t) (hlo : ∀ i, i < us.length → h i ≤ lo) (hb : base ≤ lo) (hhi : hi ≤ A.heap.size) (hv : ∀ g, v.ownBlock = some g → g < lo ∨ hi ≤ g) (hbase : base ≤ A.heap.size)
    (hown : B.ownsRow base 125 12 v' (n + 1) (fl12 us ++ t.vals)) (hback : Back A B base 125 12 n 1 v v' (fl12 us) t.vals) :
    AccS B base v' (us ++ [t]) (fun i => if i = n then lo else l i) (fun i => if i = n then hi else h i) := by
  have hblk : ∀ b, b < A.heap.size → (∀ g, v.ownBlock = some g → b ≠ g) → B.heap[b]? = A.heap[b]? := by
    intro b hb hg
    rcases hback with ⟨h1, h2, h3, h4⟩ | ⟨h1, h3⟩
    · exact h3.block b hb (fun e => hg b e.symm rfl)
    · exact h3.block b hb
  have hz : A.heap.size ≤ B.heap.size := by
    rcases hback with ⟨h1, h2, h3, h4⟩ | ⟨h1, h3⟩
    · exact h3.size
    · exact h3.size
  have hv' : ∀ g, v'.ownBlock = some g → v.ownBlock = some g ∨ g = A.heap.size := by
    intro g hg
    rcases hback with ⟨h1, h2, h3, h4⟩ | ⟨h1, h3⟩
    · rw [h1] at hg; exact .inl hg
    · rw [h1] at hg; cases hg; exact .inr rfl
  refine ⟨?_, fun i hi' => ?_, fun i j hij hj => ?_, fun i y hy => ?_⟩
  · rw [fl12_snoc, List.length_append, hn]
    exact hown
  · simp only [List.length_append, List.length_singleton] at hi'
    by_cases e : i = n
    · simp only [e, if_true]
      refine ⟨hb, by omega, fun g hg => ?_⟩
      rcases hv' g hg with h1 | h1
      · exact hv g h1
      · right; omega
    · simp only [e, if_false]
      obtain ⟨h1, h2, h3⟩ := hA.int i (by omega)
      refine ⟨h1, by omega, fun g hg => ?_⟩
      rcases hv' g hg with h4 | h4
      · exact h3 g h4
      · right; omega
  · simp only [List.length_append, List.length_singleton] at hj
    have hi' : i ≠ n := by omega
    simp only [hi', if_false]
    by_cases e : j = n
    · simp only [e, if_true]
      exact hlo i (by omega)
    · simp only [e, if_false]
      exact hA.ord i j hij (by omega)
  · by_cases e : i < us.length
    · rw [List.getElem?_append_left e] at hy
      have hi' : i ≠ n := by omega
      simp only [hi', if_false]
      obtain ⟨h1, h2, h3⟩ := hA.int i e
      exact (hA.kid i y hy).mono (fun b q1 q2 => hblk b (by omega) (fun g hg e => by rcases h3 g hg with h | h <;> omega))
    · have hi' : i = n := by
        have := (List.getElem?_eq_some_iff.1 hy).1
        simp at this
        omega
      rw [List.getElem?_append_right (by omega)] at hy
      simp [hi', hn] at hy
      subst hy
      simp only [hi', if_true]
      exact hO.mono (fun b q1 q2 => hblk b (by omega) (fun g hg e => by rcases hv g hg with h | h <;> omega))
theorem AccS.done {W : World} {base : Nat} {v : Value} {us : List SX} {l h : Nat → Nat} (hA : AccS W base v us l h) : ∃ a c, v = .slice a us.length c ∧ OwnSR W base W.heap.size a us := by
  rcases hA.own.2 with ⟨rfl, h0⟩ | ⟨g, cap, cur, rfl, hb, hg, hnc, hcm, hcs, htk⟩
  · have : us = [] := List.length_eq_zero_iff.1 h0
    subst this
    exact ⟨none, 0, rfl, .mk _ _ _ _ 0 0 (fun _ => 0) (fun _ => 0) (fun i k hk => by simp at hk) (fun i k hk => by simp at hk) (fun i hi => by simp at hi) (fun i j hi => by simp at hi) (fun i k hk => by simp at hk) (fun i k hk => by simp at hk) (fun i k hk => by simp at hk) (fun i k hk => by simp at hk)⟩
  · -- the intervals of each statement, in one list
    obtain ⟨f, hf⟩ : ∃ f : Nat → (Nat → Nat) × (Nat → Nat), ∀ i, ∀ t, us[i]? = some t → (∀ m, m < 4 → l i ≤ (f i).1 m ∧ (f i).2 m ≤ h i) ∧ (∀ m n, m < 4 → n < 4 → m ≠ n → (f i).2 m ≤ (f i).1 n ∨ (f i).2 n ≤ (f i).1 m) ∧
        OwnR W ((f i).1 0) ((f i).2 0) t.e.base t.e.kids ∧ OwnR W ((f i).1 1) ((f i).2 1) t.f.base t.f.kids ∧ OwnSR W ((f i).1 2) ((f i).2 2) t.abase t.la ∧ OwnSR W ((f i).1 3) ((f i).2 3) t.bbase t.lb := by
      refine (Classical.skolem (b := fun _ => (Nat → Nat) × (Nat → Nat)) (p := fun (i : Nat) (q : (Nat → Nat) × (Nat → Nat)) => ∀ t, us[i]? = some t → (∀ m, m < 4 → l i ≤ q.1 m ∧ q.2 m ≤ h i) ∧ (∀ m n, m < 4 → n < 4 → m ≠ n → q.2 m ≤ q.1 n ∨ q.2 n ≤ q.1 m) ∧
        OwnR W (q.1 0) (q.2 0) t.e.base t.e.kids ∧ OwnR W (q.1 1) (q.2 1) t.f.base t.f.kids ∧ OwnSR W (q.1 2) (q.2 2) t.abase t.la ∧ OwnSR W (q.1 3) (q.2 3) t.bbase t.lb)).1 (fun i => ?_)
      cases hu : us[i]? with
      | none => exact ⟨⟨fun _ => 0, fun _ => 0⟩, fun t ht => by cases ht⟩
      | some t =>
        obtain ⟨l', h', q⟩ := hA.kid i t hu
        exact ⟨⟨l', h'⟩, fun y hy => by cases hy; exact q⟩
    have hget : ∀ i, i < us.length → ∃ t, us[i]? = some t := fun i hi => ⟨_, List.getElem?_eq_getElem hi⟩
    refine ⟨_, cap, rfl, .mk base W.heap.size _ us g (cap * 12) (fun m => (f (m / 4)).1 (m % 4)) (fun m => (f (m / 4)).2 (m % 4)) (fun i k hk => ⟨rfl, hb, (Array.getElem?_eq_some_iff.1 hg).1, ⟨cur, hg, hcs⟩, by omega⟩) (fun i k hk => ?_) (fun m hm => ?_) (fun m n hm hn hmn => ?_) (fun i k hk => ?_) (fun i k hk => ?_) (fun i k hk => ?_) (fun i k hk => ?_)⟩
    · have hcell : ∀ (j : Nat) (u : Value), k.vals[j]? = some u → W.cell? ⟨g, 0 + i * 12 + j, none⟩ = some u := by
        intro j u hj
        have h1 := hA.own.cells (g := g) rfl _ u (fl12_get hk hj)
        have hadd : (⟨g, 0, none⟩ : Addr).add (i * 12 + j) = ⟨g, 0 + i * 12 + j, none⟩ := by unfold Addr.add; split <;> simp_all
        rw [hadd] at h1
        exact h1
      exact ⟨hcell 0 _ rfl, hcell 1 _ rfl, hcell 2 _ rfl, hcell 3 _ rfl, hcell 4 _ rfl, hcell 5 _ rfl, hcell 6 _ rfl, hcell 7 _ rfl, hcell 8 _ rfl, hcell 9 _ rfl, hcell 10 _ rfl, hcell 11 _ rfl⟩
    · obtain ⟨t, ht⟩ := hget (m / 4) (by omega)
      obtain ⟨h1, h2, h3⟩ := hA.int (m / 4) (by omega)
      obtain ⟨p1, p2⟩ := (hf _ t ht).1 (m % 4) (by omega)
      have h4 := h3 g rfl
      exact ⟨by omega, by omega, by omega⟩
    · obtain ⟨t, ht⟩ := hget (m / 4) (by omega)
      obtain ⟨u, hu⟩ := hget (n / 4) (by omega)
      by_cases e : m / 4 = n / 4
      · rw [e] at ht ⊢
        exact (hf _ t ht).2.1 (m % 4) (n % 4) (by omega) (by omega) (by omega)
      · have p1 := (hf _ t ht).1 (m % 4) (by omega)
        have p2 := (hf _ u hu).1 (n % 4) (by omega)
        rcases Nat.lt_or_gt_of_ne e with h1 | h1
        · have := hA.ord _ _ h1 (by omega); left; omega
        · have := hA.ord _ _ h1 (by omega); right; omega
    · have h1 : (4 * i) / 4 = i := by omega
      have h2 : (4 * i) % 4 = 0 := by omega
      rw [h1, h2]
      exact (hf i k hk).2.2.1
    · have h1 : (4 * i + 1) / 4 = i := by omega
      have h2 : (4 * i + 1) % 4 = 1 := by omega
      rw [h1, h2]
      exact (hf i k hk).2.2.2.1
    · have h1 : (4 * i + 2) / 4 = i := by omega
      have h2 : (4 * i + 2) % 4 = 2 := by omega
      rw [h1, h2]
      exact (hf i k hk).2.2.2.2.1
    · have h1 : (4 * i + 3) / 4 = i := by omega
      have h2 : (4 * i + 3) % 4 = 3 := by omega
      rw [h1, h2]
      exact (hf i k hk).2.2.2.2.2
theorem news12 (w : World) (t : SX) (T : TypeId) : ∀ j u, t.vals[j]? = some u → (w.alloc (.cells #[.int .i64 t.kind, .string t.name, .int .i64 t.e.kind, .int .i64 t.e.num, .string t.e.name, .slice t.e.base t.e.kids.length t.e.cap, .int .i64 t.f.kind, .int .i64 t.f.num, .string t.f.name, .slice t.f.base t.f.kids.length t.f.cap, .slice t.abase t.la.length t.acap, .slice t.bbase t.lb.length t.bcap] T)).cell? ((⟨w.heap.size, 0, none⟩ : Addr).add j) = some u := by
  intro j u hj
  have hadd : (⟨w.heap.size, 0, none⟩ : Addr).add j = ⟨w.heap.size, 0 + j, none⟩ := by unfold Addr.add; split <;> simp_all
  rw [hadd]
  exact (Cells12.new w t T).vals j u hj
set_option maxRecDepth 10000 in
set_option maxHeartbeats 4000000 in
theorem eachS (ks : List SX) (a : Option Addr) (c : Nat) (ok : Nat → Prop) (w : World) (hok : ∀ b, ok b → b < w.heap.size) (hcl : SRow ok w a ks) (hlen : ks.length ≤ 1048577)
    (H : ∀ (i : Nat) (k : SX), ks[i]? = some k → ∀ (w' : World), Below w.heap.size w w' →
      Calls Tryz.prog 84 #[k.val] w' fun e w'' => ∃ t : SX, e = .returned t.val ∧ SameS k t ∧ OwnS1 w'' w'.heap.size w''.heap.size t ∧ Below w'.heap.size w' w'') :
    Calls Tryz.prog 83 #[.slice a ks.length c, .func (.func 84) #[] #[]] w fun e w' => ∃ (v : Value) (us : List SX) (l h : Nat → Nat), e = .returned v ∧ us.length = ks.length ∧ (∀ (i : Nat) (x y : SX), ks[i]? = some x → us[i]? = some y → SameS x y) ∧ AccS w' w.heap.size v us l h ∧ Below w.heap.size w w' := by
  obtain ⟨len, hl⟩ : ∃ len, ks.length = len := ⟨_, rfl⟩
  rw [hl] at hlen ⊢
  obtain ⟨i0, hi0, hz0, hz1, hz2⟩ := info_parts infoS
  go_enter Tryz.func83, Tryz.ntmps83
  go_wp2_with fail
  go_loopw [5, 10] (fun v5 v10 wr => ∃ (i : Nat) (us : List SX) (l h : Nat → Nat), v10 = .int .i64 i ∧ i ≤ len ∧ us.length = i ∧ Hid (∀ (j : Nat) (x y : SX), ks[j]? = some x → us[j]? = some y → SameS x y) ∧ Hid (AccS wr w.heap.size v5 us l h) ∧ Below w.heap.size w wr) (fun _ v10 _ => len - (intOf v10).toNat)
  case atStart => exact ⟨0, [], _, _, rfl, by omega, rfl, fun j x y _ hy => by simp at hy, AccS.nil _ _, Below.refl _ _⟩
  case round =>
    obtain ⟨i, us, l, h, rfl, hi, hul, hsm, hA, hB⟩ := hrel
    obtain ⟨v, rfl⟩ : ∃ v, v = u5 := ⟨_, rfl⟩
    by_cases hlt : i < len
    · obtain ⟨x, hx⟩ : ∃ x, ks[i]? = some x := ⟨_, List.getElem?_eq_getElem (by omega)⟩
      obtain ⟨b1, o1, hbase1, hok1, hc1⟩ := hcl i x hx
      obtain ⟨c0, c1, c2, c3, c4', c5, c6, c7, c8, c9, c10, c11⟩ := hc1.below hB (hok b1 hok1)
      obtain ⟨W1, hW1⟩ : ∃ W1, wr.alloc (.cells #[.int .i64 x.kind, .string x.name, .int .i64 x.e.kind, .int .i64 x.e.num, .string x.e.name, .slice x.e.base x.e.kids.length x.e.cap, .int .i64 x.f.kind, .int .i64 x.f.num, .string x.f.name, .slice x.f.base x.f.kids.length x.f.cap, .slice x.abase x.la.length x.acap, .slice x.bbase x.lb.length x.bcap] 125) = W1 := ⟨_, rfl⟩
      have hB1 : Below wr.heap.size wr W1 := by rw [← hW1]; exact (Below.refl _ _).alloc (Nat.le_refl _) _
      have hs1 : wr.heap.size + 1 = W1.heap.size := by rw [← hW1]; simp
      have hC1 : Cells12 W1 wr.heap.size 0 x := by rw [← hW1]; exact Cells12.new wr x _
      have hcall : Hid (Calls Tryz.prog 84 #[x.val] W1 fun e w'' => ∃ t : SX, e = .returned t.val ∧ SameS x t ∧ OwnS1 w'' W1.heap.size w''.heap.size t ∧ Below W1.heap.size W1 w'') := H i x hx W1 (bstep hB hB1)
      obtain ⟨d0, d1, d2, d3, d4, d5, d6, d7, d8, d9, d10, d11⟩ := hC1
      have hA1 := hA.out.below hB1
      subst hbase1
      go_wp2_with fail
      go_at_call 84
      refine hcall.out.mono ?_
      rintro e w2 ⟨t, rfl, hxt, hO, hB2⟩
      clear c0 c1 c2 c3 c4' c5 c6 c7 c8 c9 c10 c11 d0 d1 d2 d3 d4 d5 d6 d7 d8 d9 d10 d11 hcall hW1
      have hA2 := hA1.below hB2
      have hz2' := hB2.size
      obtain ⟨W3, hW3⟩ : ∃ W3, w2.alloc (.cells #[.int .i64 t.kind, .string t.name, .int .i64 t.e.kind, .int .i64 t.e.num, .string t.e.name, .slice t.e.base t.e.kids.length t.e.cap, .int .i64 t.f.kind, .int .i64 t.f.num, .string t.f.name, .slice t.f.base t.f.kids.length t.f.cap, .slice t.abase t.la.length t.acap, .slice t.bbase t.lb.length t.bcap] 125) = W3 := ⟨_, rfl⟩
      have hB3 : Below w2.heap.size w2 W3 := by rw [← hW3]; exact (Below.refl _ _).alloc (Nat.le_refl _) _
      have hs3 : w2.heap.size + 1 = W3.heap.size := by rw [← hW3]; simp
      have hnewH : Hid (∀ j u, t.vals[j]? = some u → W3.cell? ((⟨w2.heap.size, 0, none⟩ : Addr).add j) = some u) := by
        have h := news12 w2 t 125
        rw [hW3] at h
        exact h
      have hA3 := hA2.below hB3
      have hO3 : OwnS1 W3 W1.heap.size w2.heap.size t := hO.mono (fun b q1 q2 => hB3.block b q2)
      have hzw := hB.size
      have hown3 : Hid (W3.ownsRow w.heap.size 125 12 v us.length (fl12 us)) := hA3.own
      go_wp2_with (at_builtin; refine wpList_append_back _ rfl _ _ 81 rfl w.heap.size 125 i0 _ 12 184 Tryz.underlying81 hi0 hz0 hz1 hz2 rfl (by decide) v us.length (fl12 us) rfl hown3.out ⟨w2.heap.size, 0, none⟩ 1 1 t.vals rfl rfl hnewH.out (by simp [Value.oneCell']) (by unfold maxLen; omega) (by omega) (by omega) (by omega) ?_; intro v' w4 hown' hback)
      have hP := hA3.push rfl hO3 (fun j hj => by have := (hA1.int j hj).2.1; omega) (by omega) (by omega) (fun g hg => by have := (hA1.own.lt g hg).2; omega) (by omega) hown' hback
      have hB4 : Below w.heap.size w w4 := by
        have h0 : Below w.heap.size w W3 := bstep (bstep (bstep hB hB1) hB2) hB3
        refine h0.trans (hback.kept.below (by omega) (fun k hk => ?_))
        rcases hk with hk | hk
        · exact (hA3.own.lt k hk).1
        · exact (hown'.lt k hk).1
      refine ⟨⟨i + 1, us ++ [t], _, _, by go_num, by omega, by simp [hul], ?_, hP, hB4⟩, by simp [intOf]; omega⟩
      intro j y z hy hz
      by_cases hj : j < us.length
      · rw [List.getElem?_append_left hj] at hz
        exact hsm.out j y z hy hz
      · have hji : j = i := by
          have := (List.getElem?_eq_some_iff.1 hz).1
          simp at this
          omega
        subst hji
        rw [List.getElem?_append_right (by omega)] at hz
        simp [hul] at hz
        subst hz
        rw [hx] at hy
        cases hy
        exact hxt
    · have he : i = len := by omega
      go_wp2_with fail
      go_returns
      exact ⟨v, us, l, h, rfl, by omega, hsm.out, hA.out, hB⟩
end Go.Proofs.YtaajdoipjalgmaaGreatDoor
namespace Go.Proofs.YtaajdoipjalgmaaGreatDoor
open Go.RowKit Go.Shelf
set_option linter.unusedSimpArgs false
set_option linter.unusedVariables false
attribute [local go_sem] Oper.semAt_some

theorem put4o {W : World} {g N : Nat} {t : TypeId} (hR : RowAt W g N t) (o : Nat) (ho : o + 3 < N) (y : XT) :
    RowAt ((((W.setCell ⟨g, o, none⟩ (.int .i64 y.kind)).setCell ⟨g, o + 1, none⟩ (.int .i64 y.num)).setCell ⟨g, o + 2, none⟩ (.string y.name)).setCell ⟨g, o + 3, none⟩ (.slice y.base y.kids.length y.cap)) g N t ∧
    Kept (fun k => k = g) W ((((W.setCell ⟨g, o, none⟩ (.int .i64 y.kind)).setCell ⟨g, o + 1, none⟩ (.int .i64 y.num)).setCell ⟨g, o + 2, none⟩ (.string y.name)).setCell ⟨g, o + 3, none⟩ (.slice y.base y.kids.length y.cap)) ∧
    Cells4 ((((W.setCell ⟨g, o, none⟩ (.int .i64 y.kind)).setCell ⟨g, o + 1, none⟩ (.int .i64 y.num)).setCell ⟨g, o + 2, none⟩ (.string y.name)).setCell ⟨g, o + 3, none⟩ (.slice y.base y.kids.length y.cap)) g o y ∧
    ∀ p, (p < o ∨ o + 4 ≤ p) → ((((W.setCell ⟨g, o, none⟩ (.int .i64 y.kind)).setCell ⟨g, o + 1, none⟩ (.int .i64 y.num)).setCell ⟨g, o + 2, none⟩ (.string y.name)).setCell ⟨g, o + 3, none⟩ (.slice y.base y.kids.length y.cap)).cell? ⟨g, p, none⟩ = W.cell? ⟨g, p, none⟩ := by
  have r1 := hR.set o (.int .i64 y.kind)
  have r2 := r1.set (o + 1) (.int .i64 y.num)
  have r3 := r2.set (o + 2) (.string y.name)
  have r4 := r3.set (o + 3) (.slice y.base y.kids.length y.cap)
  refine ⟨r4, ((((Kept.refl (fun k => k = g) W).setCell (p := ⟨g, o, none⟩) rfl _).setCell (p := ⟨g, o + 1, none⟩) rfl _).setCell (p := ⟨g, o + 2, none⟩) rfl _).setCell (p := ⟨g, o + 3, none⟩) rfl _, ⟨?_, ?_, ?_, ?_⟩, fun p hp => ?_⟩
  · rw [set_far (by omega), set_far (by omega), set_far (by omega)]
    exact hR.put (by omega) _
  · rw [set_far (by omega), set_far (by omega)]
    exact r1.put (by omega) _
  · rw [set_far (by omega)]
    exact r2.put (by omega) _
  · exact r3.put (by omega) _
  · rw [set_far (by omega), set_far (by omega), set_far (by omega), set_far (by omega)]
def isPart (s : SX) (t : XT) : Prop := t = s.e ∨ t = s.f
structure Half (w : World) (s : SX) (e' f' : XT) (lE hE lF hF : Nat) (X : World) : Prop where
  cells : Cells12 X w.heap.size 0 (.mk s.kind s.name e' f' s.abase s.acap s.la s.bbase s.bcap s.lb)
  r1 : RowAt X w.heap.size 12 125
  r2 : RowAt X (w.heap.size + 1) 12 125
  se : Same s.e e'
  sf : Same s.f f'
  oe : OwnR X lE hE e'.base e'.kids
  of : OwnR X lF hF f'.base f'.kids
  b : w.heap.size + 2 ≤ lE ∧ hE ≤ lF ∧ hF ≤ X.heap.size ∧ w.heap.size + 2 ≤ lF ∧ hE ≤ X.heap.size
  below : Below w.heap.size w X
theorem Half.make {w W2 x1 x2 : World} {s : SX} {e' f' : XT} (s2 : W2.heap.size = w.heap.size + 2) (hB2 : Below w.heap.size w W2) (hC : Cells12 W2 w.heap.size 0 s) (hR1 : RowAt W2 w.heap.size 12 125) (hR2 : RowAt W2 (w.heap.size + 1) 12 125) (hse : Same s.e e') (hsf : Same s.f f')
    (hx1 : Below W2.heap.size W2 x1) {y : World} (hy : Below W2.heap.size W2 y) (hO : OwnR x1 y.heap.size x1.heap.size e'.base e'.kids) (hO' : OwnR x2 x1.heap.size x2.heap.size f'.base f'.kids) (hb2 : Below x1.heap.size x1 x2) :
    Half w s e' f' y.heap.size x1.heap.size x1.heap.size x2.heap.size ((((((((x2.setCell ⟨w.heap.size, 2, none⟩ (.int .i64 e'.kind)).setCell ⟨w.heap.size, 3, none⟩ (.int .i64 e'.num)).setCell ⟨w.heap.size, 4, none⟩ (.string e'.name)).setCell ⟨w.heap.size, 5, none⟩ (.slice e'.base e'.kids.length e'.cap)).setCell ⟨w.heap.size, 6, none⟩ (.int .i64 f'.kind)).setCell ⟨w.heap.size, 7, none⟩ (.int .i64 f'.num)).setCell ⟨w.heap.size, 8, none⟩ (.string f'.name)).setCell ⟨w.heap.size, 9, none⟩ (.slice f'.base f'.kids.length f'.cap)) ∧
    Half w s e' f' y.heap.size x1.heap.size x1.heap.size x2.heap.size ((((((((x2.setCell ⟨w.heap.size, 6, none⟩ (.int .i64 f'.kind)).setCell ⟨w.heap.size, 7, none⟩ (.int .i64 f'.num)).setCell ⟨w.heap.size, 8, none⟩ (.string f'.name)).setCell ⟨w.heap.size, 9, none⟩ (.slice f'.base f'.kids.length f'.cap)).setCell ⟨w.heap.size, 2, none⟩ (.int .i64 e'.kind)).setCell ⟨w.heap.size, 3, none⟩ (.int .i64 e'.num)).setCell ⟨w.heap.size, 4, none⟩ (.string e'.name)).setCell ⟨w.heap.size, 5, none⟩ (.slice e'.base e'.kids.length e'.cap)) := by
  have hx2 := bstep hx1 hb2
  have hz1 := hx1.size
  have hz2 := hb2.size
  have hzy := hy.size
  have k1 := hR1.of_block (hx2.block _ (by omega))
  have k2 := hR2.of_block (hx2.block _ (by omega))
  have kC := hC.below hx2 (by omega)
  have hBx : Below w.heap.size w x2 := hB2.trans (hx2.mono (by omega))
  have fin : ∀ X : World, RowAt X w.heap.size 12 125 → Kept (fun k => k = w.heap.size) x2 X → Cells4 X w.heap.size 2 e' → Cells4 X w.heap.size 6 f' → (∀ p, (p < 2 ∨ 10 ≤ p) → X.cell? ⟨w.heap.size, p, none⟩ = x2.cell? ⟨w.heap.size, p, none⟩) → Half w s e' f' y.heap.size x1.heap.size x1.heap.size x2.heap.size X := by
    intro X hr hk he hf ho
    have hzX := hk.size
    refine ⟨⟨(ho 0 (by omega)).trans kC.c0, (ho 1 (by omega)).trans kC.c1, he.c0, he.c1, he.c2, he.c3, hf.c0, hf.c1, hf.c2, hf.c3, (ho 10 (by omega)).trans kC.c10, (ho 11 (by omega)).trans kC.c11⟩, hr, k2.of_block (hk.block _ (by omega) (by omega)), hse, hsf, ?_, ?_, ⟨by omega, by omega, by omega, by omega, by omega⟩, hBx.trans (hk.below (by omega) (fun k e => by omega))⟩
    · exact hO.mono (fun b q1 q2 => (hk.block b (by omega) (by omega)).trans (hb2.block b q2))
    · exact hO'.mono (fun b q1 q2 => hk.block b (by omega) (by omega))
  constructor
  · obtain ⟨p1, p2, p3, p4⟩ := put4o k1 2 (by omega) e'
    obtain ⟨q1, q2, q3, q4⟩ := put4o p1 6 (by omega) f'
    exact fin _ q1 (p2.trans q2) ⟨(q4 2 (by omega)).trans p3.c0, (q4 3 (by omega)).trans p3.c1, (q4 4 (by omega)).trans p3.c2, (q4 5 (by omega)).trans p3.c3⟩ q3 (fun p hp => (q4 p (by omega)).trans (p4 p (by omega)))
  · obtain ⟨p1, p2, p3, p4⟩ := put4o k1 6 (by omega) f'
    obtain ⟨q1, q2, q3, q4⟩ := put4o p1 2 (by omega) e'
    exact fin _ q1 (p2.trans q2) q3 ⟨(q4 6 (by omega)).trans p3.c0, (q4 7 (by omega)).trans p3.c1, (q4 8 (by omega)).trans p3.c2, (q4 9 (by omega)).trans p3.c3⟩ (fun p hp => (q4 p (by omega)).trans (p4 p (by omega)))
def isList (s : SX) (a : Option Addr) (ks : List SX) (c : Nat) : Prop := (a = s.abase ∧ ks = s.la ∧ c = s.acap) ∨ (a = s.bbase ∧ ks = s.lb ∧ c = s.bcap)
structure Full (w : World) (s s' : SX) (X : World) : Prop where
  cells : Cells12 X w.heap.size 0 s'
  r2 : RowAt X (w.heap.size + 1) 12 125
  same : SameS s s'
  own : OwnS1 X (w.heap.size + 2) X.heap.size s'
  below : Below w.heap.size w X
theorem Full.make {w Y x1 x2 y : World} {s : SX} {e' f' : XT} {lE hE lF hF : Nat} (hH : Half w s e' f' lE hE lF hF Y) (hy : Below Y.heap.size Y y) {a' b' : Option Addr} {ca cb : Nat} {la' lb' : List SX} (hla : la'.length = s.la.length) (hlb : lb'.length = s.lb.length)
    (ha : ∀ (i : Nat) (p q : SX), s.la[i]? = some p → la'[i]? = some q → SameS p q) (hb : ∀ (i : Nat) (p q : SX), s.lb[i]? = some p → lb'[i]? = some q → SameS p q)
    (hx1 : Below Y.heap.size Y x1) (hO : OwnSR x1 y.heap.size x1.heap.size a' la') (hO' : OwnSR x2 x1.heap.size x2.heap.size b' lb') (hb2 : Below x1.heap.size x1 x2) :
    Full w s (.mk s.kind s.name e' f' a' ca la' b' cb lb') ((x2.setCell ⟨w.heap.size, 10, none⟩ (.slice a' s.la.length ca)).setCell ⟨w.heap.size, 11, none⟩ (.slice b' s.lb.length cb)) ∧
    Full w s (.mk s.kind s.name e' f' a' ca la' b' cb lb') ((x2.setCell ⟨w.heap.size, 11, none⟩ (.slice b' s.lb.length cb)).setCell ⟨w.heap.size, 10, none⟩ (.slice a' s.la.length ca)) := by
  have hx2 := bstep hx1 hb2
  have hz1 := hx1.size
  have hz2 := hb2.size
  have hzy := hy.size
  obtain ⟨q1, q2, q3, q4, q5⟩ := hH.b
  have hzY : w.heap.size + 1 < Y.heap.size := hH.r2.lt
  have k1 := hH.r1.of_block (hx2.block _ (by omega))
  have k2 := hH.r2.of_block (hx2.block _ (by omega))
  have kC := hH.cells.below hx2 (by omega)
  have hBx : Below w.heap.size w x2 := hH.below.trans (hx2.mono (by have := hH.below.size; omega))
  have fin : ∀ X : World, Kept (fun k => k = w.heap.size) x2 X → X.cell? ⟨w.heap.size, 10, none⟩ = some (.slice a' la'.length ca) → X.cell? ⟨w.heap.size, 11, none⟩ = some (.slice b' lb'.length cb) → (∀ p, p < 10 → X.cell? ⟨w.heap.size, p, none⟩ = x2.cell? ⟨w.heap.size, p, none⟩) → Full w s (.mk s.kind s.name e' f' a' ca la' b' cb lb') X := by
    intro X hk h10 h11 ho
    have hzX := hk.size
    refine ⟨⟨(ho 0 (by omega)).trans kC.c0, (ho 1 (by omega)).trans kC.c1, (ho 2 (by omega)).trans kC.c2, (ho 3 (by omega)).trans kC.c3, (ho 4 (by omega)).trans kC.c4, (ho 5 (by omega)).trans kC.c5, (ho 6 (by omega)).trans kC.c6, (ho 7 (by omega)).trans kC.c7, (ho 8 (by omega)).trans kC.c8, (ho 9 (by omega)).trans kC.c9, h10, h11⟩, k2.of_block (hk.block _ (by omega) (by omega)), .mk _ _ rfl rfl hH.se hH.sf hla hlb ha hb, ?_, hBx.trans (hk.below (by have := hH.below.size; omega) (fun k e => by omega))⟩
    refine ⟨fun m => if m = 0 then lE else if m = 1 then lF else if m = 2 then y.heap.size else x1.heap.size, fun m => if m = 0 then hE else if m = 1 then hF else if m = 2 then x1.heap.size else x2.heap.size, fun m hm => ?_, fun m n hm hn hmn => ?_, ?_, ?_, ?_, ?_⟩
    · rcases (show m = 0 ∨ m = 1 ∨ m = 2 ∨ m = 3 by omega) with rfl | rfl | rfl | rfl <;> simp <;> omega
    · rcases (show m = 0 ∨ m = 1 ∨ m = 2 ∨ m = 3 by omega) with rfl | rfl | rfl | rfl <;> rcases (show n = 0 ∨ n = 1 ∨ n = 2 ∨ n = 3 by omega) with rfl | rfl | rfl | rfl <;> first | exact absurd rfl hmn | (simp; done) | (simp; omega)
    · exact hH.oe.mono (fun b p1 p2 => (hk.block b (by first | omega | (simp at p2; omega)) (by first | omega | (simp at p1; omega))).trans (hx2.block b (by first | omega | (simp at p2; omega))))
    · exact hH.of.mono (fun b p1 p2 => (hk.block b (by first | omega | (simp at p2; omega)) (by first | omega | (simp at p1; omega))).trans (hx2.block b (by first | omega | (simp at p2; omega))))
    · exact hO.mono (fun b p1 p2 => (hk.block b (by first | omega | (simp at p2; omega)) (by first | omega | (simp at p1; omega))).trans (hb2.block b (by first | omega | (simp at p2; omega))))
    · exact hO'.mono (fun b p1 p2 => hk.block b (by first | omega | (simp at p2; omega)) (by first | omega | (simp at p1; omega)))
  rw [← hla, ← hlb]
  constructor
  · refine fin _ (((Kept.refl (fun k => k = w.heap.size) x2).setCell (p := ⟨w.heap.size, 10, none⟩) rfl _).setCell (p := ⟨w.heap.size, 11, none⟩) rfl _) ?_ ?_ (fun p hp => ?_)
    · rw [set_far (by omega)]; exact k1.put (by omega) _
    · exact (k1.set 10 _).put (by omega) _
    · rw [set_far (by omega), set_far (by omega)]
  · refine fin _ (((Kept.refl (fun k => k = w.heap.size) x2).setCell (p := ⟨w.heap.size, 11, none⟩) rfl _).setCell (p := ⟨w.heap.size, 10, none⟩) rfl _) ?_ ?_ (fun p hp => ?_)
    · exact (k1.set 11 _).put (by omega) _
    · rw [set_far (by omega)]; exact k1.put (by omega) _
    · rw [set_far (by omega), set_far (by omega)]
set_option maxRecDepth 10000 in
set_option maxHeartbeats 8000000 in
theorem copyS (sz : Nat) : ∀ s : SX, s.size ≤ sz → SmallS s → ∀ (ok : Nat → Prop) (w : World), (∀ b, ok b → b < w.heap.size) → LiesS ok w s →
    Calls Tryz.prog 84 #[s.val] w fun e w' => ∃ s' : SX, e = .returned s'.val ∧ SameS s s' ∧ OwnS1 w' w.heap.size w'.heap.size s' ∧ Below w.heap.size w w' := by
  induction sz with
  | zero => intro t h; rw [SX.size_eq] at h; omega
  | succ sz ih =>
  intro s hsz hm ok w hok hL
  obtain ⟨m1, m2, m3, m4, m5, m6⟩ := hm.parts
  have hse := s.size_eq
  obtain ⟨W1, hW1⟩ : ∃ W1, w.alloc (.cells #[.int .i64 s.kind, .string s.name, .int .i64 s.e.kind, .int .i64 s.e.num, .string s.e.name, .slice s.e.base s.e.kids.length s.e.cap, .int .i64 s.f.kind, .int .i64 s.f.num, .string s.f.name, .slice s.f.base s.f.kids.length s.f.cap, .slice s.abase s.la.length s.acap, .slice s.bbase s.lb.length s.bcap] 125) = W1 := ⟨_, rfl⟩
  obtain ⟨W2, hW2⟩ : ∃ W2, W1.alloc (.cells #[.int .i64 0, .string ⟨#[]⟩, .int .i64 0, .int .i64 0, .string ⟨#[]⟩, .slice none 0 0, .int .i64 0, .int .i64 0, .string ⟨#[]⟩, .slice none 0 0, .slice none 0 0, .slice none 0 0] 125) = W2 := ⟨_, rfl⟩
  have s1 : W1.heap.size = w.heap.size + 1 := by rw [← hW1]; simp
  have s2 : W2.heap.size = w.heap.size + 2 := by rw [← hW2]; simp [s1]
  have hB2 : Below w.heap.size w W2 := by rw [← hW2, ← hW1]; exact ((Below.refl _ w).alloc (Nat.le_refl _) _).alloc (by simp) _
  have hR1 : RowAt W2 w.heap.size 12 125 := by
    have h := RowAt.new w #[.int .i64 s.kind, .string s.name, .int .i64 s.e.kind, .int .i64 s.e.num, .string s.e.name, .slice s.e.base s.e.kids.length s.e.cap, .int .i64 s.f.kind, .int .i64 s.f.num, .string s.f.name, .slice s.f.base s.f.kids.length s.f.cap, .slice s.abase s.la.length s.acap, .slice s.bbase s.lb.length s.bcap] 125
    rw [hW1] at h
    rw [← hW2]
    exact h.of_block (Below.heap_alloc _ _ _ (by omega))
  have hR2 : RowAt W2 (w.heap.size + 1) 12 125 := by
    have h := RowAt.new W1 #[.int .i64 0, .string ⟨#[]⟩, .int .i64 0, .int .i64 0, .string ⟨#[]⟩, .slice none 0 0, .int .i64 0, .int .i64 0, .string ⟨#[]⟩, .slice none 0 0, .slice none 0 0, .slice none 0 0] 125
    rw [hW2, s1] at h
    exact h
  have hC : Cells12 W2 w.heap.size 0 s := by
    have h := Cells12.new w s 125
    rw [hW1] at h
    rw [← hW2]
    exact h.below (n := W1.heap.size) ((Below.refl _ _).alloc (Nat.le_refl _) _) (by omega)
  have hL2 := hL.under hB2 hok
  have hok2 : ∀ b, ok b → b < W2.heap.size := fun b hb => Nat.lt_of_lt_of_le (hok b hb) hB2.size
  have g1 := m2.1
  have g2 := m3.1
  have HC : Hid (∀ (t : XT) (x : World), isPart s t → Below W2.heap.size W2 x → Calls Tryz.prog 111 #[t.val] x fun e w' => ∃ t' : XT, e = .returned t'.val ∧ Same t t' ∧ OwnR w' x.heap.size w'.heap.size t'.base t'.kids ∧ Below x.heap.size x w') := by
    rintro t x (rfl | rfl) hx
    · exact copyE _ _ (Nat.le_refl _) (by omega) ok x (fun b hb => Nat.lt_of_lt_of_le (hok2 b hb) hx.size) (hL2.parts.1.under hx hok2)
    · exact copyE _ _ (Nat.le_refl _) (by omega) ok x (fun b hb => Nat.lt_of_lt_of_le (hok2 b hb) hx.size) (hL2.parts.2.1.under hx hok2)
  have hEE : isPart s s.e := .inl rfl
  have hFF : isPart s s.f := .inr rfl
  have hXd : Below W2.heap.size W2 W2.drew := (Below.refl _ W2).drew
  have hzd : W2.drew.heap.size = W2.heap.size := rfl
  obtain ⟨c0, c1, c2, c3, c4', c5, c6, c7, c8, c9, c10, c11⟩ := hC.below hXd (by omega)
  go_enter Tryz.func84, Tryz.ntmps84
  go_wp2_with fail
  go_cut [] (fun wx => ∃ (e' f' : XT) (lE hE lF hF : Nat), Hid (Half w s e' f' lE hE lF hF wx))
  case first =>
    go_region_law (first | (go_simp; go_at_call 111; refine (HC.out _ _ (by exact hEE) (by exact hXd)).mono ?_; rintro e x1 ⟨e', rfl, hs1, hO1, hb1⟩; (have hx1 := bstep hXd hb1); (obtain ⟨k0, k1, k2, k3, k4, k5, k6, k7, k8, k9, k10, k11⟩ := hC.below hx1 (by omega))) | (go_simp; go_at_call 111; refine (HC.out _ _ (by exact hFF) (by exact hx1)).mono ?_; rintro e x2 ⟨f', rfl, hs2', hO2, hb2⟩; (have hx2 := bstep hx1 hb2); (have hRx := hR1.of_block (hx2.block _ (by omega))); (obtain ⟨n0, n1, n2, n3, n4, n5, n6, n7, n8, n9, n10, n11⟩ := hC.below hx2 (by omega)); (have z2 := hRx.frozen 2); (have z3 := hRx.frozen 3); (have z4 := hRx.frozen 4); (have z5 := hRx.frozen 5); (have z6 := hRx.frozen 6); (have z7 := hRx.frozen 7); (have z8 := hRx.frozen 8); (have z9 := hRx.frozen 9)))
    all_goals
      obtain ⟨hEF, hFE⟩ := Half.make s2 hB2 hC hR1 hR2 hs1 hs2' hx1 hXd hO1 hO2 hb2
      go_wp2_with fail
      go_meet
      case rel => first | exact ⟨e', f', _, _, _, _, hEF⟩ | exact ⟨e', f', _, _, _, _, hFE⟩
  case rest =>
    obtain ⟨e', f', lE, hE, lF, hF, hH0⟩ := hcut
    rename World => Y
    have hH := hH0.out
    clear c0 c1 c2 c3 c4' c5 c6 c7 c8 c9 c10 c11 hXd hzd HC hEE hFF hW1 hW2
    have hLY := hL.under hH.below hok
    have hzY : w.heap.size + 1 < Y.heap.size := hH.r2.lt
    have hokY : ∀ b, ok b → b < Y.heap.size := fun b hb => by have := hok b hb; omega
    have HL : Hid (∀ (ks : List SX) (a : Option Addr) (c : Nat) (x : World), isList s a ks c → Below Y.heap.size Y x → Calls Tryz.prog 83 #[.slice a ks.length c, .func (.func 84) #[] #[]] x fun e w' => ∃ (a' : Option Addr) (c' : Nat) (us : List SX), e = .returned (.slice a' ks.length c') ∧ Hid (us.length = ks.length ∧ (∀ (i : Nat) (p q : SX), ks[i]? = some p → us[i]? = some q → SameS p q) ∧ OwnSR w' x.heap.size w'.heap.size a' us) ∧ Below x.heap.size x w') := by
      rintro ks a c x hp hx
      have hokx : ∀ b, ok b → b < x.heap.size := fun b hb => Nat.lt_of_lt_of_le (hokY b hb) hx.size
      have lx := (hLY.under hx hokY).parts
      have fin : ∀ (r : SRow ok x a ks) (hsz' : SX.sizeAll ks ≤ sz) (hl : ks.length ≤ 1048577) (hm' : ∀ (i : Nat) (k : SX), ks[i]? = some k → SmallS k) (hk' : ∀ (i : Nat) (k : SX), ks[i]? = some k → LiesS ok x k), Calls Tryz.prog 83 #[.slice a ks.length c, .func (.func 84) #[] #[]] x fun e w' => ∃ (a' : Option Addr) (c' : Nat) (us : List SX), e = .returned (.slice a' ks.length c') ∧ Hid (us.length = ks.length ∧ (∀ (i : Nat) (p q : SX), ks[i]? = some p → us[i]? = some q → SameS p q) ∧ OwnSR w' x.heap.size w'.heap.size a' us) ∧ Below x.heap.size x w' := by
        intro r hsz' hl hm' hk'
        refine (eachS ks a c ok x hokx r hl (fun i k hk w' hBw => ih k (by have := SX.size_get hk; omega) (hm' i k hk) ok w' (fun b hb => Nat.lt_of_lt_of_le (hokx b hb) hBw.size) ((hk' i k hk).under hBw hokx))).mono ?_
        rintro e w' ⟨v, us, l, h, rfl, h1, h2, h3, h4⟩
        obtain ⟨a', c', rfl, hO⟩ := h3.done
        exact ⟨a', c', us, by rw [h1], ⟨h1, h2, hO⟩, h4⟩
      rcases hp with ⟨rfl, rfl, rfl⟩ | ⟨rfl, rfl, rfl⟩
      · exact fin lx.2.2.1 (by omega) (by omega) m5 lx.2.2.2.2.1
      · exact fin lx.2.2.2.1 (by omega) (by omega) m6 lx.2.2.2.2.2
    have hLA : isList s s.abase s.la s.acap := .inl ⟨rfl, rfl, rfl⟩
    have hLB : isList s s.bbase s.lb s.bcap := .inr ⟨rfl, rfl, rfl⟩
    have hXd : Below Y.heap.size Y Y.drew := (Below.refl _ Y).drew
    have cA : Y.drew.cell? ⟨w.heap.size, 10, none⟩ = some (.slice s.abase s.la.length s.acap) := hH.cells.c10
    have cB : Y.drew.cell? ⟨w.heap.size, 11, none⟩ = some (.slice s.bbase s.lb.length s.bcap) := hH.cells.c11
    clear hLY hL hL2 ih m5 m6 hC hR1 hR2
    go_wp2_with fail
    go_cut [] (fun wx => ∃ (s' : SX), Hid (Full w s s' wx))
    case first =>
      go_region_law (first | (go_simp; go_at_call 83; refine (HL.out _ _ _ _ (by exact hLA) (by exact hXd)).mono ?_; rintro e x1 ⟨a1, ca, la1, rfl, hh1, hb1⟩; (have hx1 := bstep hXd hb1); (have k11 := (hH.cells.below hx1 (by omega)).c11); (have k10 := (hH.cells.below hx1 (by omega)).c10)) | (go_simp; go_at_call 83; refine (HL.out _ _ _ _ (by exact hLB) (by exact hx1)).mono ?_; rintro e x2 ⟨b1, cb, lb1, rfl, hh2, hb2⟩; (have hx2 := bstep hx1 hb2); (have hRx := hH.r1.of_block (hx2.block _ (by omega))); (have n10 : x2.cell? ⟨w.heap.size, 10, none⟩ = some (.slice s.abase s.la.length s.acap) := (hH.cells.below hx2 (by omega)).c10); (have n11 : x2.cell? ⟨w.heap.size, 11, none⟩ = some (.slice s.bbase s.lb.length s.bcap) := (hH.cells.below hx2 (by omega)).c11); (have z10 := hRx.frozen 10); (have z11 := hRx.frozen 11)))
      all_goals
        obtain ⟨hl1, hs1, hO1⟩ := hh1.out
        obtain ⟨hl2, hs2', hO2⟩ := hh2.out
        obtain ⟨hAB, hBA⟩ := Full.make (ca := ca) (cb := cb) hH hXd hl1 hl2 hs1 hs2' hx1 hO1 hO2 hb2
        clear hl1 hl2 hs1 hs2' hO1 hO2
        go_wp2_with fail
        go_meet
        case rel => first | exact ⟨_, hAB⟩ | exact ⟨_, hBA⟩
    case rest =>
      obtain ⟨s', hF0⟩ := hcut
      rename World => Z
      have hF' := hF0.out
      clear cA cB hXd HL hLA hLB hH hH0 hF0
      obtain ⟨c0, c1, c2, c3, c4', c5, c6, c7, c8, c9, c10, c11⟩ := hF'.cells
      have hr2 := hF'.r2
      have hzZ := hr2.lt
      obtain ⟨p0, t0⟩ := hr2.cell (o := 0) (by omega)
      have ft0 := hr2.frozen 0
      obtain ⟨p1, t1⟩ := hr2.cell (o := 1) (by omega)
      have ft1 := hr2.frozen 1
      obtain ⟨p2, t2⟩ := hr2.cell (o := 2) (by omega)
      have ft2 := hr2.frozen 2
      obtain ⟨p3, t3⟩ := hr2.cell (o := 3) (by omega)
      have ft3 := hr2.frozen 3
      obtain ⟨p4, t4⟩ := hr2.cell (o := 4) (by omega)
      have ft4 := hr2.frozen 4
      obtain ⟨p5, t5⟩ := hr2.cell (o := 5) (by omega)
      have ft5 := hr2.frozen 5
      obtain ⟨p6, t6⟩ := hr2.cell (o := 6) (by omega)
      have ft6 := hr2.frozen 6
      obtain ⟨p7, t7⟩ := hr2.cell (o := 7) (by omega)
      have ft7 := hr2.frozen 7
      obtain ⟨p8, t8⟩ := hr2.cell (o := 8) (by omega)
      have ft8 := hr2.frozen 8
      obtain ⟨p9, t9⟩ := hr2.cell (o := 9) (by omega)
      have ft9 := hr2.frozen 9
      obtain ⟨p10, t10⟩ := hr2.cell (o := 10) (by omega)
      have ft10 := hr2.frozen 10
      obtain ⟨p11, t11⟩ := hr2.cell (o := 11) (by omega)
      have ft11 := hr2.frozen 11
      go_wp2
      have hK : Kept (fun k => k = w.heap.size + 1) Z ((((((((((((Z.setCell ⟨w.heap.size + 1, 0, none⟩ (.int .i64 s'.kind)).setCell ⟨w.heap.size + 1, 1, none⟩ (.string s'.name)).setCell ⟨w.heap.size + 1, 2, none⟩ (.int .i64 s'.e.kind)).setCell ⟨w.heap.size + 1, 3, none⟩ (.int .i64 s'.e.num)).setCell ⟨w.heap.size + 1, 4, none⟩ (.string s'.e.name)).setCell ⟨w.heap.size + 1, 5, none⟩ (.slice s'.e.base s'.e.kids.length s'.e.cap)).setCell ⟨w.heap.size + 1, 6, none⟩ (.int .i64 s'.f.kind)).setCell ⟨w.heap.size + 1, 7, none⟩ (.int .i64 s'.f.num)).setCell ⟨w.heap.size + 1, 8, none⟩ (.string s'.f.name)).setCell ⟨w.heap.size + 1, 9, none⟩ (.slice s'.f.base s'.f.kids.length s'.f.cap)).setCell ⟨w.heap.size + 1, 10, none⟩ (.slice s'.abase s'.la.length s'.acap)).setCell ⟨w.heap.size + 1, 11, none⟩ (.slice s'.bbase s'.lb.length s'.bcap)) := (((((((((((((Kept.refl (fun k => k = w.heap.size + 1) Z).setCell (p := ⟨w.heap.size + 1, 0, none⟩) rfl (.int .i64 s'.kind)).setCell (p := ⟨w.heap.size + 1, 1, none⟩) rfl (.string s'.name)).setCell (p := ⟨w.heap.size + 1, 2, none⟩) rfl (.int .i64 s'.e.kind)).setCell (p := ⟨w.heap.size + 1, 3, none⟩) rfl (.int .i64 s'.e.num)).setCell (p := ⟨w.heap.size + 1, 4, none⟩) rfl (.string s'.e.name)).setCell (p := ⟨w.heap.size + 1, 5, none⟩) rfl (.slice s'.e.base s'.e.kids.length s'.e.cap)).setCell (p := ⟨w.heap.size + 1, 6, none⟩) rfl (.int .i64 s'.f.kind)).setCell (p := ⟨w.heap.size + 1, 7, none⟩) rfl (.int .i64 s'.f.num)).setCell (p := ⟨w.heap.size + 1, 8, none⟩) rfl (.string s'.f.name)).setCell (p := ⟨w.heap.size + 1, 9, none⟩) rfl (.slice s'.f.base s'.f.kids.length s'.f.cap)).setCell (p := ⟨w.heap.size + 1, 10, none⟩) rfl (.slice s'.abase s'.la.length s'.acap)).setCell (p := ⟨w.heap.size + 1, 11, none⟩) rfl (.slice s'.bbase s'.lb.length s'.bcap))
      first | go_returns | (refine bodyPost_ret (by simp [results, Tryz.results84, go_sem, *]; try rfl) rfl ?_)
      refine ⟨s', rfl, hF'.same, ?_, ?_⟩
      · exact (hF'.own.mono (fun b q1 q2 => hK.block b (by omega) (by omega))).wide (by omega) hK.size
      · exact hF'.below.trans (hK.below (by omega) (fun k e => by omega))
end Go.Proofs.YtaajdoipjalgmaaGreatDoor
namespace Go.Proofs.YtaajdoipjalgmaaGreatDoor
open Go.RowKit Go.Shelf
set_option linter.unusedSimpArgs false
set_option linter.unusedVariables false
attribute [local go_sem] Oper.semAt_some

theorem AccS.on {A B : World} {base : Nat} {v : Value} {us : List SX} {l h : Nat → Nat} (hA : AccS A base v us l h) (hz : A.heap.size ≤ B.heap.size) (hb : ∀ k, k < A.heap.size → (v.ownBlock = some k ∨ ∃ i, i < us.length ∧ l i ≤ k ∧ k < h i) → B.heap[k]? = A.heap[k]?) : AccS B base v us l h := by
  refine ⟨own_on hA.own (fun g hg => hb g (hA.own.lt g hg).2 (.inl hg)), fun i hi => ?_, hA.ord, fun i t ht => (hA.kid i t ht).mono (fun b q1 q2 => ?_)⟩
  · obtain ⟨h1, h2, h3⟩ := hA.int i hi
    exact ⟨h1, Nat.le_trans h2 hz, h3⟩
  · have hi := (List.getElem?_eq_some_iff.1 ht).1
    exact hb b (by have := (hA.int i hi).2.1; omega) (.inr ⟨i, hi, q1, q2⟩)
def zE : XT := .mk 0 0 ⟨#[]⟩ none 0 []
def zS : SX := .mk 0 ⟨#[]⟩ zE zE none 0 [] none 0 []
theorem OwnS1.zero (W : World) {lo hi : Nat} (h : lo ≤ hi) : OwnS1 W lo hi zS := by
  refine ⟨fun _ => lo, fun _ => lo, fun m _ => ⟨Nat.le_refl _, h⟩, fun m n _ _ _ => .inl (Nat.le_refl _), ?_, ?_, ?_, ?_⟩
  · exact .mk _ _ _ _ 0 0 (fun _ => 0) (fun _ => 0) (fun i k hk => by simp [zS, SX.e, zE, XT.kids] at hk) (fun i k hk => by simp [zS, SX.e, zE, XT.kids] at hk) (fun i hi => by simp [zS, SX.e, zE, XT.kids] at hi) (fun i j hi => by simp [zS, SX.e, zE, XT.kids] at hi) (fun i k hk => by simp [zS, SX.e, zE, XT.kids] at hk)
  · exact .mk _ _ _ _ 0 0 (fun _ => 0) (fun _ => 0) (fun i k hk => by simp [zS, SX.f, zE, XT.kids] at hk) (fun i k hk => by simp [zS, SX.f, zE, XT.kids] at hk) (fun i hi => by simp [zS, SX.f, zE, XT.kids] at hi) (fun i j hi => by simp [zS, SX.f, zE, XT.kids] at hi) (fun i k hk => by simp [zS, SX.f, zE, XT.kids] at hk)
  · exact .mk _ _ _ _ 0 0 (fun _ => 0) (fun _ => 0) (fun i k hk => by simp [zS, SX.la] at hk) (fun i k hk => by simp [zS, SX.la] at hk) (fun i hi => by simp [zS, SX.la] at hi) (fun i j hi => by simp [zS, SX.la] at hi) (fun i k hk => by simp [zS, SX.la] at hk) (fun i k hk => by simp [zS, SX.la] at hk) (fun i k hk => by simp [zS, SX.la] at hk) (fun i k hk => by simp [zS, SX.la] at hk)
  · exact .mk _ _ _ _ 0 0 (fun _ => 0) (fun _ => 0) (fun i k hk => by simp [zS, SX.lb] at hk) (fun i k hk => by simp [zS, SX.lb] at hk) (fun i hi => by simp [zS, SX.lb] at hi) (fun i j hi => by simp [zS, SX.lb] at hi) (fun i k hk => by simp [zS, SX.lb] at hk) (fun i k hk => by simp [zS, SX.lb] at hk) (fun i k hk => by simp [zS, SX.lb] at hk) (fun i k hk => by simp [zS, SX.lb] at hk)
/-- The last of a list is written. -/
theorem AccS.put {Z B : World} {base n g : Nat} {v : Value} {us : List SX} {l h : Nat → Nat} {z t : SX} {lo hi : Nat} (hA : AccS Z base v (us ++ [z]) l h) (hn : us.length = n) (hv : v.ownBlock = some g) (hO : OwnS1 Z lo hi t) (hlo : ∀ i, i < n → h i ≤ lo) (hb : base ≤ lo) (hhi : hi ≤ Z.heap.size) (hg : g < lo ∨ hi ≤ g)
    (hK : Kept (fun k => k = g) Z B) (hrow : B.ownsRow base 125 12 v (n + 1) (fl12 us ++ t.vals)) :
    AccS B base v (us ++ [t]) (fun i => if i = n then lo else l i) (fun i => if i = n then hi else h i) := by
  have hz := hK.size
  refine ⟨?_, fun i hi' => ?_, fun i j hij hj => ?_, fun i y hy => ?_⟩
  · rw [fl12_snoc, List.length_append, hn]
    exact hrow
  · simp only [List.length_append, List.length_singleton] at hi'
    by_cases e : i = n
    · simp only [e, if_true]
      exact ⟨hb, by omega, fun g' hg' => by rw [hv] at hg'; cases hg'; exact hg⟩
    · simp only [e, if_false]
      obtain ⟨h1, h2, h3⟩ := hA.int i (by simp; omega)
      exact ⟨h1, by omega, h3⟩
  · simp only [List.length_append, List.length_singleton] at hj
    have hi' : i ≠ n := by omega
    simp only [hi', if_false]
    by_cases e : j = n
    · simp only [e, if_true]
      exact hlo i (by omega)
    · simp only [e, if_false]
      exact hA.ord i j hij (by simp; omega)
  · by_cases e : i < us.length
    · rw [List.getElem?_append_left e] at hy
      have hi' : i ≠ n := by omega
      simp only [hi', if_false]
      obtain ⟨h1, h2, h3⟩ := hA.int i (by simp; omega)
      have h4 := h3 g hv
      exact (hA.kid i y (by rw [List.getElem?_append_left e]; exact hy)).mono (fun b q1 q2 => hK.block b (by omega) (by omega))
    · have hi' : i = n := by
        have := (List.getElem?_eq_some_iff.1 hy).1
        simp at this
        omega
      rw [List.getElem?_append_right (by omega)] at hy
      simp [hi', hn] at hy
      subst hy
      simp only [hi', if_true]
      exact hO.mono (fun b q1 q2 => hK.block b (by omega) (by omega))
theorem set_right (xs ys : List Value) (j : Nat) (u : Value) : (xs ++ ys).set (xs.length + j) u = xs ++ ys.set j u := by
  rw [List.set_append_right _ _ (by omega)]
  congr 2
  omega
/-- Twelve cells of the last one. -/
theorem put12L {Z : World} {base n g cap : Nat} {us : List SX} {z : SX} (t : SX) (hn : us.length = n) (h : Z.ownsRow base 125 12 (.slice (some ⟨g, 0, none⟩) (n + 1) cap) (n + 1) (fl12 us ++ z.vals)) (o : Nat) (ho : o = n * 12) :
    let B := (((((((((((Z.setCell ⟨g, o, none⟩ (.int .i64 t.kind)).setCell ⟨g, o + 1, none⟩ (.string t.name)).setCell ⟨g, o + 2, none⟩ (.int .i64 t.e.kind)).setCell ⟨g, o + 3, none⟩ (.int .i64 t.e.num)).setCell ⟨g, o + 4, none⟩ (.string t.e.name)).setCell ⟨g, o + 5, none⟩ (.slice t.e.base t.e.kids.length t.e.cap)).setCell ⟨g, o + 6, none⟩ (.int .i64 t.f.kind)).setCell ⟨g, o + 7, none⟩ (.int .i64 t.f.num)).setCell ⟨g, o + 8, none⟩ (.string t.f.name)).setCell ⟨g, o + 9, none⟩ (.slice t.f.base t.f.kids.length t.f.cap)).setCell ⟨g, o + 10, none⟩ (.slice t.abase t.la.length t.acap)).setCell ⟨g, o + 11, none⟩ (.slice t.bbase t.lb.length t.bcap)
    B.ownsRow base 125 12 (.slice (some ⟨g, 0, none⟩) (n + 1) cap) (n + 1) (fl12 us ++ t.vals) ∧ Kept (fun k => k = g) Z B := by
  intro B
  have hl : (fl12 us).length = o := by rw [fl12_length, hn, ho]
  refine ⟨?_, ?_⟩
  · have r0 := (h.stored o (.int .i64 t.kind)).1
    have r1 := (r0.stored (o + 1) (.string t.name)).1
    have r2 := (r1.stored (o + 2) (.int .i64 t.e.kind)).1
    have r3 := (r2.stored (o + 3) (.int .i64 t.e.num)).1
    have r4 := (r3.stored (o + 4) (.string t.e.name)).1
    have r5 := (r4.stored (o + 5) (.slice t.e.base t.e.kids.length t.e.cap)).1
    have r6 := (r5.stored (o + 6) (.int .i64 t.f.kind)).1
    have r7 := (r6.stored (o + 7) (.int .i64 t.f.num)).1
    have r8 := (r7.stored (o + 8) (.string t.f.name)).1
    have r9 := (r8.stored (o + 9) (.slice t.f.base t.f.kids.length t.f.cap)).1
    have r10 := (r9.stored (o + 10) (.slice t.abase t.la.length t.acap)).1
    have r11 := (r10.stored (o + 11) (.slice t.bbase t.lb.length t.bcap)).1
    have e : ∀ ys : List Value, ys.length = 12 → ((((((((((((fl12 us ++ ys).set o (.int .i64 t.kind)).set (o + 1) (.string t.name)).set (o + 2) (.int .i64 t.e.kind)).set (o + 3) (.int .i64 t.e.num)).set (o + 4) (.string t.e.name)).set (o + 5) (.slice t.e.base t.e.kids.length t.e.cap)).set (o + 6) (.int .i64 t.f.kind)).set (o + 7) (.int .i64 t.f.num)).set (o + 8) (.string t.f.name)).set (o + 9) (.slice t.f.base t.f.kids.length t.f.cap)).set (o + 10) (.slice t.abase t.la.length t.acap)).set (o + 11) (.slice t.bbase t.lb.length t.bcap) = fl12 us ++ t.vals := by
      intro ys hy
      have s0 := set_right (fl12 us) ys 0 (.int .i64 t.kind)
      rw [hl, Nat.add_zero] at s0
      rw [s0, ← hl]
      simp only [set_right]
      match ys, hy with
      | [a, b, c, d, e, f, g, h, i, j, k, l], _ => rfl
    rw [e _ rfl] at r11
    exact r11
  · exact (((((((((((((Kept.refl (fun k => k = g) Z).setCell (p := ⟨g, o, none⟩) rfl _).setCell (p := ⟨g, o + 1, none⟩) rfl _).setCell (p := ⟨g, o + 2, none⟩) rfl _).setCell (p := ⟨g, o + 3, none⟩) rfl _).setCell (p := ⟨g, o + 4, none⟩) rfl _).setCell (p := ⟨g, o + 5, none⟩) rfl _).setCell (p := ⟨g, o + 6, none⟩) rfl _).setCell (p := ⟨g, o + 7, none⟩) rfl _).setCell (p := ⟨g, o + 8, none⟩) rfl _).setCell (p := ⟨g, o + 9, none⟩) rfl _).setCell (p := ⟨g, o + 10, none⟩) rfl _).setCell (p := ⟨g, o + 11, none⟩) rfl _)
end Go.Proofs.YtaajdoipjalgmaaGreatDoor
namespace Go.Proofs.YtaajdoipjalgmaaGreatDoor
open Go.RowKit Go.Shelf
set_option linter.unusedSimpArgs false
set_option linter.unusedVariables false
attribute [local go_sem] Oper.semAt_some

theorem step_append_back {P : Program} (w : World) {ops : Array Oper} {o : Oper} {a : Act} {K : Act → World → Prop} {Q : Exit → Act → World → Prop} {E : Prop} (hgd : o.guard = none) (s x : Operand) (t : TypeId)
    (ho : o.op = .call { callee := .builtin .append, args := #[s, x], argTypes := #[t, t] })
    (base : Nat) (e : TypeId) (i : TypeInfo) (z : Value) (size bytes : Nat) (ht : P.underlying t = some (.slice e)) (hi : P.info? e = some i) (hz : i.zero = some z)
    (hsize : i.size = size) (hby : i.bytes = bytes) (hzs : z.cells.size = size) (hsz : 0 < size)
    (v : Value) (n : Nat) (xs : List Value) (hs : a.eval s = v) (hown : w.ownsRow base e size v n xs)
    (ad : Addr) (m c : Nat) (news : List Value) (hx : a.eval x = .slice (some ad) m c) (hl : news.length = m * size) (hnews : ∀ j u, news[j]? = some u → w.cell? (ad.add j) = some u) (h1 : ∀ u ∈ news, u.oneCell' = true)
    (h63 : n + m ≤ maxLen) (hbytes : (n + m) * bytes ≤ 140737488355328) (hbase : base ≤ w.heap.size) (hm : 0 < m)
    (h : ∀ v' w', w'.ownsRow base e size v' (n + m) (xs ++ news) → Back w w' base e size n m v v' xs news → K (a.put o.dst v') w') :
    if Region.wanted o (yielded ops a.tmps) = true then Oper.wp P o a w K Q else E := by
  have hw : Region.wanted o (yielded ops a.tmps) = true := by simp [Region.wanted, hgd]
  rw [if_pos hw]
  obtain ⟨v', w', hr, h2, h3⟩ := run_append_back (P := P) w base t o.type e i z size bytes ht hi hz hsize hby hzs hsz v n xs hown ad m c news hl hnews h1 h63 hbytes hbase hm
  unfold Oper.wp execOp
  simp only [ho, resolve, invoke, builtin, Sem.run_bind, Sem.run_pure, Result.andThen_ok, List.map_toArray, List.map_cons, List.map_nil, hs, hx, hr]
  exact h v' w' h2 h3
/-- What lies around while the specification copies an expression: the expression's box, the answer's, and the copy's own with the list so far. -/
structure Mid (w : World) (t : XT) (vv : Value) (X : World) : Prop where
  box : Cells4 X w.heap.size 0 t
  r1 : RowAt X (w.heap.size + 1) 4 123
  r2 : RowAt X (w.heap.size + 2) 4 123
  k0 : X.cell? ⟨w.heap.size + 2, 0, none⟩ = some (.int .i64 t.kind)
  k1 : X.cell? ⟨w.heap.size + 2, 1, none⟩ = some (.int .i64 t.num)
  k2 : X.cell? ⟨w.heap.size + 2, 2, none⟩ = some (.string t.name)
  k3 : X.cell? ⟨w.heap.size + 2, 3, none⟩ = some vv
theorem Mid.on {w : World} {t : XT} {vv : Value} {A B : World} (h : Mid w t vv A) (hb : ∀ b, b < w.heap.size + 3 → B.heap[b]? = A.heap[b]?) : Mid w t vv B := by
  have q0 := hb w.heap.size (by omega)
  have q1 := hb (w.heap.size + 1) (by omega)
  have q2 := hb (w.heap.size + 2) (by omega)
  exact ⟨⟨(cell_of_block (a := ⟨w.heap.size, _, none⟩) q0).trans h.box.c0, (cell_of_block (a := ⟨w.heap.size, _, none⟩) q0).trans h.box.c1, (cell_of_block (a := ⟨w.heap.size, _, none⟩) q0).trans h.box.c2, (cell_of_block (a := ⟨w.heap.size, _, none⟩) q0).trans h.box.c3⟩, h.r1.of_block q1, h.r2.of_block q2,
    (cell_of_block (a := ⟨w.heap.size + 2, _, none⟩) q2).trans h.k0, (cell_of_block (a := ⟨w.heap.size + 2, _, none⟩) q2).trans h.k1, (cell_of_block (a := ⟨w.heap.size + 2, _, none⟩) q2).trans h.k2, (cell_of_block (a := ⟨w.heap.size + 2, _, none⟩) q2).trans h.k3⟩
theorem Mid.lt {w : World} {t : XT} {vv : Value} {A : World} (h : Mid w t vv A) : w.heap.size + 3 ≤ A.heap.size := h.r2.lt
theorem Mid.below {w : World} {t : XT} {vv : Value} {A B : World} (h : Mid w t vv A) (hb : Below A.heap.size A B) : Mid w t vv B := h.on (fun b q => hb.block b (by have := h.lt; omega))
theorem Mid.put {w : World} {t : XT} {vv : Value} {A : World} (h : Mid w t vv A) (v' : Value) : Mid w t v' (A.setCell ⟨w.heap.size + 2, 3, none⟩ v') := by
  have q0 : (A.setCell ⟨w.heap.size + 2, 3, none⟩ v').heap[w.heap.size]? = A.heap[w.heap.size]? := Below.heap_setCell _ _ _ _ (by dsimp only; omega)
  have q1 : (A.setCell ⟨w.heap.size + 2, 3, none⟩ v').heap[w.heap.size + 1]? = A.heap[w.heap.size + 1]? := Below.heap_setCell _ _ _ _ (by dsimp only; omega)
  exact ⟨⟨(cell_of_block (a := ⟨w.heap.size, _, none⟩) q0).trans h.box.c0, (cell_of_block (a := ⟨w.heap.size, _, none⟩) q0).trans h.box.c1, (cell_of_block (a := ⟨w.heap.size, _, none⟩) q0).trans h.box.c2, (cell_of_block (a := ⟨w.heap.size, _, none⟩) q0).trans h.box.c3⟩, h.r1.of_block q1, h.r2.set _ _,
    (set_far (by omega) _).trans h.k0, (set_far (by omega) _).trans h.k1, (set_far (by omega) _).trans h.k2, h.r2.put (by omega) _⟩
theorem AccE.far {w W : World} {v : Value} {us : List XT} {l h : Nat → Nat} (hA : AccE W (w.heap.size + 3) v us l h) (u : Value) : AccE (W.setCell ⟨w.heap.size + 2, 3, none⟩ u) (w.heap.size + 3) v us l h := by
  have hb : ∀ b, w.heap.size + 3 ≤ b → (W.setCell ⟨w.heap.size + 2, 3, none⟩ u).heap[b]? = W.heap[b]? := fun b hb => Below.heap_setCell _ _ _ _ (by dsimp only; omega)
  refine ⟨own_on hA.own (fun g hg => hb g (hA.own.lt g hg).1), fun i hi => ?_, hA.ord, fun i t ht => (hA.kid i t ht).mono (fun b q1 q2 => hb b ?_)⟩
  · obtain ⟨h1, h2, h3⟩ := hA.int i hi
    exact ⟨h1, by simpa using h2, h3⟩
  · have := (hA.int i (List.getElem?_eq_some_iff.1 ht).1).1; omega
set_option maxRecDepth 10000 in
set_option maxHeartbeats 8000000 in
theorem specCopyE (sz : Nat) : ∀ t : XT, t.size ≤ sz → sz ≤ 1048577 → ∀ (ok : Nat → Prop) (w : World), (∀ b, ok b → b < w.heap.size) → Lies ok w t →
    Calls Tryz.prog 110 #[t.val] w fun e w' => ∃ t' : XT, e = .returned t'.val ∧ Same t t' ∧ OwnR w' w.heap.size w'.heap.size t'.base t'.kids ∧ Below w.heap.size w w' := by
  induction sz with
  | zero => intro t h; rw [XT.size_eq] at h; omega
  | succ sz ih =>
  intro t hsz hlim ok w hok hL
  have hlt := t.length_le
  have hse := t.size_eq
  obtain ⟨i0, hi0, hz0, hz1, hz2⟩ := info_parts infoE
  have HC : Hid (∀ (i : Nat) (k : XT), t.kids[i]? = some k → ∀ (x : World), Below w.heap.size w x → Calls Tryz.prog 110 #[k.val] x fun e w'' => ∃ t' : XT, e = .returned t'.val ∧ Same k t' ∧ OwnR w'' x.heap.size w''.heap.size t'.base t'.kids ∧ Below x.heap.size x w'') := fun i k hk x hx =>
    ih k (by have h5 := XT.size_get hk; omega) (by omega) ok x (fun b hb => Nat.lt_of_lt_of_le (hok b hb) hx.size) ((hL.kid i k hk).under hx hok)
  have hrow : Hid (ERow ok w t.base t.kids) := hL.cells
  clear ih hL
  go_enter Tryz.func110, Tryz.ntmps110
  go_wp2_with fail
  obtain ⟨W1, hW1⟩ : ∃ W1, w.alloc (.cells #[.int .i64 t.kind, .int .i64 t.num, .string t.name, .slice t.base t.kids.length t.cap] 123) = W1 := ⟨_, rfl⟩
  obtain ⟨W2, hW2⟩ : ∃ W2, W1.alloc (.cells #[.int .i64 0, .int .i64 0, .string ⟨#[]⟩, .slice none 0 0] 123) = W2 := ⟨_, rfl⟩
  obtain ⟨W3, hW3⟩ : ∃ W3, W2.alloc (.cells #[.int .i64 t.kind, .int .i64 t.num, .string t.name, .slice none 0 0] 123) = W3 := ⟨_, rfl⟩
  rw [hW1, hW2, hW3]
  have s1 : W1.heap.size = w.heap.size + 1 := by rw [← hW1]; simp
  have s2 : W2.heap.size = w.heap.size + 2 := by rw [← hW2]; simp [s1]
  have s3 : W3.heap.size = w.heap.size + 3 := by rw [← hW3]; simp [s2]
  have hB3 : Below w.heap.size w W3 := by rw [← hW3, ← hW2, ← hW1]; exact (((Below.refl _ w).alloc (Nat.le_refl _) _).alloc (by simp) _).alloc (by simp; omega) _
  have hM3 : Mid w t (.slice none 0 0) W3 := by
    have b1 : Cells4 W1 w.heap.size 0 t := by rw [← hW1]; exact Cells4.new w t
    have b2 : RowAt W2 (w.heap.size + 1) 4 123 := by
      have h := RowAt.new W1 #[.int .i64 0, .int .i64 0, .string ⟨#[]⟩, .slice none 0 0] 123
      rw [hW2, s1] at h
      exact h
    have b3 : RowAt W3 (w.heap.size + 2) 4 123 := by
      have h := RowAt.new W2 #[.int .i64 t.kind, .int .i64 t.num, .string t.name, .slice none 0 0] 123
      rw [hW3, s2] at h
      exact h
    have e12 : Below W1.heap.size W1 W2 := by rw [← hW2]; exact (Below.refl _ _).alloc (Nat.le_refl _) _
    have e23 : Below W2.heap.size W2 W3 := by rw [← hW3]; exact (Below.refl _ _).alloc (Nat.le_refl _) _
    refine ⟨(b1.below e12 (by omega)).below e23 (by omega), b2.of_block (e23.block _ (by omega)), b3, ?_, ?_, ?_, ?_⟩
    · rw [← hW3, ← s2]; exact World.cell?_alloc_new W2 _ _ 0
    · rw [← hW3, ← s2]; exact World.cell?_alloc_new W2 _ _ 1
    · rw [← hW3, ← s2]; exact World.cell?_alloc_new W2 _ _ 2
    · rw [← hW3, ← s2]; exact World.cell?_alloc_new W2 _ _ 3
  have hA3 : AccE W3 (w.heap.size + 3) (.slice none 0 0) [] (fun _ => 0) (fun _ => 0) := AccE.nil _ _
  clear hW1 hW2 hW3
  go_loopw [4] (fun v4 wr => ∃ (i : Nat) (us : List XT) (l h : Nat → Nat) (vv : Value), v4 = .int .i64 i ∧ i ≤ t.kids.length ∧ us.length = i ∧ Hid (∀ (j : Nat) (x y : XT), t.kids[j]? = some x → us[j]? = some y → Same x y) ∧ Hid (AccE wr (w.heap.size + 3) vv us l h) ∧ Hid (Mid w t vv wr) ∧ Below w.heap.size w wr) (fun v4 _ => t.kids.length - (intOf v4).toNat)
  case atStart => exact ⟨0, [], _, _, _, rfl, by omega, rfl, fun j x y _ hy => by simp at hy, hA3, hM3, hB3⟩
  case round =>
    obtain ⟨i, us, l, h, vv, rfl, hi, hul, hsm, hA, hM, hB⟩ := hrel
    have hzm := hM.out.lt
    by_cases hlt' : i < t.kids.length
    · obtain ⟨x, hx⟩ : ∃ x, t.kids[i]? = some x := ⟨_, List.getElem?_eq_getElem (by omega)⟩
      obtain ⟨b1, o1, hbase1, hok1, hc1⟩ := hrow.out i x hx
      have hBd : Below w.heap.size w wr.drew := hB.trans ((Below.refl _ wr).drew.mono hB.size)
      have hMd : Mid w t vv wr.drew := hM.out.below ((Below.refl _ wr).drew)
      have hAd : AccE wr.drew (w.heap.size + 3) vv us l h := hA.out.below ((Below.refl _ wr).drew)
      have hzd : wr.drew.heap.size = wr.heap.size := rfl
      obtain ⟨c0, c1, c2, c3⟩ := hc1.below hB (hok b1 hok1)
      have d3 : wr.cell? ⟨w.heap.size, 3, none⟩ = some (.slice t.base t.kids.length t.cap) := hM.out.box.c3
      have k3 : wr.cell? ⟨w.heap.size + 1 + 1, 3, none⟩ = some vv := hM.out.k3
      rw [hbase1] at d3
      go_wp2_with fail
      go_region_law (first | (refine step_append_back _ rfl _ _ 121 rfl (w.heap.size + 3) 123 i0 _ 4 56 Tryz.underlying121 hi0 hz0 hz1 hz2 rfl (by decide) vv us.length (fl4 us) rfl hown9.out ⟨w8.heap.size, 0, none⟩ 1 1 (c4 t8) rfl rfl hnew.out (by simp [c4, Value.oneCell']) (by unfold maxLen; omega) (by omega) (by omega) (by omega) ?_; intro v' w10 hown' hback; (obtain ⟨g', cap', hv'⟩ := ownsRow_succ hown'); (subst hv'); (have hM10 : Mid w t vv w10 := hM9.on (fun b hb => hback.kept.block b (by omega) (fun hh => by rcases hh with hh | hh; (have := (hown9.out.lt b hh).1; omega); (have := (hown'.lt b hh).1; omega)))); (have q3 : w10.cell? ⟨w.heap.size + 1 + 1, 3, none⟩ = some vv := hM10.k3); (have f3 : w10.frozen? ⟨w.heap.size + 1 + 1, 3, none⟩ = false := hM10.r2.frozen 3)) | (go_simp; go_at_call 110; refine (HC.out i x hx _ (by exact hBd)).mono ?_; rintro e w8 ⟨t8, rfl, hs8, hO8, hb8⟩; (have hM8 := hMd.below hb8); (have n3 : w8.cell? ⟨w.heap.size + 1 + 1, 3, none⟩ = some vv := hM8.k3); (have hz8 := hb8.size); (have hB9 : Below w8.heap.size w8 (w8.alloc (.cells #[.int .i64 t8.kind, .int .i64 t8.num, .string t8.name, .slice t8.base t8.kids.length t8.cap] 123)) := (Below.refl _ _).alloc (Nat.le_refl _) _); (have hM9 := hM8.below hB9); (have n9 : (w8.alloc (.cells #[.int .i64 t8.kind, .int .i64 t8.num, .string t8.name, .slice t8.base t8.kids.length t8.cap] 123)).cell? ⟨w.heap.size + 1 + 1, 3, none⟩ = some vv := hM9.k3); (have hA8 := hAd.below hb8); (have hA9 := hA8.below hB9); (have hown9 : Hid ((w8.alloc (.cells #[.int .i64 t8.kind, .int .i64 t8.num, .string t8.name, .slice t8.base t8.kids.length t8.cap] 123)).ownsRow (w.heap.size + 3) 123 4 vv us.length (fl4 us)) := hA9.own); (have hnew : Hid (∀ j u, (c4 t8)[j]? = some u → (w8.alloc (.cells #[.int .i64 t8.kind, .int .i64 t8.num, .string t8.name, .slice t8.base t8.kids.length t8.cap] 123)).cell? ((⟨w8.heap.size, 0, none⟩ : Addr).add j) = some u) := news4 w8 t8 _); (have hz9 : (w8.alloc (.cells #[.int .i64 t8.kind, .int .i64 t8.num, .string t8.name, .slice t8.base t8.kids.length t8.cap] 123)).heap.size = w8.heap.size + 1 := by simp)))
      all_goals
        have hO9 : OwnR (w8.alloc (.cells #[.int .i64 t8.kind, .int .i64 t8.num, .string t8.name, .slice t8.base t8.kids.length t8.cap] 123)) wr.heap.size w8.heap.size t8.base t8.kids := hO8.mono (fun b q1 q2 => hB9.block b q2)
        have hP := hA9.push rfl hO9 (fun j hj => by have := (hAd.int j hj).2.1; omega) (by omega) (by omega) (fun g hg => by have := (hAd.own.lt g hg).2; omega) (by omega) hown' hback
        have hB10 : Below w.heap.size w w10 := by
          refine (bstep (bstep hBd hb8) hB9).trans (hback.kept.below (by have := hB.size; omega) (fun k hk => ?_))
          rcases hk with hk | hk
          · have := (hown9.out.lt k hk).1; omega
          · have := (hown'.lt k hk).1; omega
        have hMf := hM10.put (.slice (some ⟨g', 0, none⟩) (us.length + 1) cap')
        have hPf := hP.far (w := w) (.slice (some ⟨g', 0, none⟩) (us.length + 1) cap')
        have hBf : Below w.heap.size w (w10.setCell ⟨w.heap.size + 2, 3, none⟩ (.slice (some ⟨g', 0, none⟩) (us.length + 1) cap')) := Below.setCell hB10 (by dsimp only; omega) _
        have hsf : Hid (∀ (j : Nat) (p q : XT), t.kids[j]? = some p → (us ++ [t8])[j]? = some q → Same p q) := by
          intro j y z hy hz
          by_cases hj : j < us.length
          · rw [List.getElem?_append_left hj] at hz
            exact hsm.out j y z hy hz
          · have hji : j = i := by
              have := (List.getElem?_eq_some_iff.1 hz).1
              simp at this
              omega
            subst hji
            rw [List.getElem?_append_right (by omega)] at hz
            simp [hul] at hz
            subst hz
            rw [hx] at hy
            cases hy
            exact hs8
        rw [hul] at hPf hMf hBf
        go_wp2_with fail
        go_roundw
        case rel => exact ⟨i + 1, us ++ [t8], _, _, _, by go_num, by omega, by simp [hul], hsf, hPf, hMf, hBf⟩
        case measure => simp [intOf]; omega
    · obtain rfl : i = t.kids.length := by omega
      obtain ⟨a', c', rfl, hO⟩ := hA.out.done
      have hMo := hM.out
      have d3 : wr.cell? ⟨w.heap.size, 3, none⟩ = some (.slice t.base t.kids.length t.cap) := hMo.box.c3
      have q0 : wr.cell? ⟨w.heap.size + 1 + 1, 0, none⟩ = some (.int .i64 t.kind) := hMo.k0
      have q1 : wr.cell? ⟨w.heap.size + 1 + 1, 1, none⟩ = some (.int .i64 t.num) := hMo.k1
      have q2 : wr.cell? ⟨w.heap.size + 1 + 1, 2, none⟩ = some (.string t.name) := hMo.k2
      have q3 : wr.cell? ⟨w.heap.size + 1 + 1, 3, none⟩ = some (.slice a' us.length c') := hMo.k3
      have hr1 := hMo.r1
      obtain ⟨p0, t0⟩ := hr1.cell (o := 0) (by omega)
      obtain ⟨p1, t1⟩ := hr1.cell (o := 1) (by omega)
      obtain ⟨p2, t2⟩ := hr1.cell (o := 2) (by omega)
      obtain ⟨p3, t3⟩ := hr1.cell (o := 3) (by omega)
      have f0 := hr1.frozen 0
      have f1 := hr1.frozen 1
      have f2 := hr1.frozen 2
      have f3 := hr1.frozen 3
      rw [hul] at q3
      go_wp2
      have hK : Kept (fun k => k = w.heap.size + 1) wr ((((wr.setCell ⟨w.heap.size + 1, 0, none⟩ (.int .i64 t.kind)).setCell ⟨w.heap.size + 1, 1, none⟩ (.int .i64 t.num)).setCell ⟨w.heap.size + 1, 2, none⟩ (.string t.name)).setCell ⟨w.heap.size + 1, 3, none⟩ (.slice a' t.kids.length c')) :=
        ((((Kept.refl (fun k => k = w.heap.size + 1) wr).setCell (p := ⟨w.heap.size + 1, 0, none⟩) rfl _).setCell (p := ⟨w.heap.size + 1, 1, none⟩) rfl _).setCell (p := ⟨w.heap.size + 1, 2, none⟩) rfl _).setCell (p := ⟨w.heap.size + 1, 3, none⟩) rfl _
      first | go_returns | (refine bodyPost_ret (by simp [results, Tryz.results110, go_sem, *]; try rfl) rfl ?_)
      refine ⟨.mk t.kind t.num t.name a' c' us, ?_, .mk _ _ rfl rfl rfl (show us.length = t.kids.length from hul) (fun j p q hp hq => hsm.out j p q hp hq), ?_, ?_⟩
      · show _ = Ending.returned (.agg #[.int .i64 t.kind, .int .i64 t.num, .string t.name, .slice a' us.length c'])
        rw [hul]
      · exact (hO.mono (fun b h1 h2 => hK.block b h2 (fun e => by omega))).wide (by omega) hK.size
      · exact hB.trans (hK.below (by omega) (fun k e => by omega))
end Go.Proofs.YtaajdoipjalgmaaGreatDoor
namespace Go.Proofs.YtaajdoipjalgmaaGreatDoor
open Go.RowKit Go.Shelf
set_option linter.unusedSimpArgs false
set_option linter.unusedVariables false
attribute [local go_sem] Oper.semAt_some

theorem AccS.made (w : World) {base : Nat} (hb : base ≤ w.heap.size) : AccS (w.alloc (.cells #[] 125)) base (.slice (some ⟨w.heap.size, 0, none⟩) 0 0) [] (fun _ => 0) (fun _ => 0) :=
  ⟨World.ownsRow_made w #[] 0 hb (Nat.zero_le _) rfl, fun i h => by simp at h, fun i j _ h => by simp at h, fun i t h => by simp at h⟩
set_option maxRecDepth 10000 in
set_option maxHeartbeats 4000000 in
theorem specEachS (ks : List SX) (a : Option Addr) (c : Nat) (ok : Nat → Prop) (w : World) (hok : ∀ b, ok b → b < w.heap.size) (hcl : SRow ok w a ks) (hlen : ks.length ≤ 1048577)
    (H : ∀ (i : Nat) (k : SX), ks[i]? = some k → ∀ (w' : World), Below w.heap.size w w' →
      Calls Tryz.prog 82 #[k.val] w' fun e w'' => ∃ t : SX, e = .returned t.val ∧ SameS k t ∧ OwnS1 w'' w'.heap.size w''.heap.size t ∧ Below w'.heap.size w' w'') :
    Calls Tryz.prog 53 #[.slice a ks.length c] w fun e w' => ∃ (v : Value) (us : List SX) (l h : Nat → Nat), e = .returned v ∧ us.length = ks.length ∧ (∀ (i : Nat) (x y : SX), ks[i]? = some x → us[i]? = some y → SameS x y) ∧ AccS w' w.heap.size v us l h ∧ Below w.heap.size w w' := by
  obtain ⟨len, hl⟩ : ∃ len, ks.length = len := ⟨_, rfl⟩
  rw [hl] at hlen ⊢
  obtain ⟨i0, hi0, hz0, hz1, hz2⟩ := info_parts infoS
  go_enter Tryz.func53, Tryz.ntmps53
  go_wp2_with fail
  go_loopw [3, 4] (fun v5 v10 wr => ∃ (i : Nat) (us : List SX) (l h : Nat → Nat), v10 = .int .i64 i ∧ i ≤ len ∧ us.length = i ∧ Hid (∀ (j : Nat) (x y : SX), ks[j]? = some x → us[j]? = some y → SameS x y) ∧ Hid (AccS wr w.heap.size v5 us l h) ∧ Below w.heap.size w wr) (fun _ v10 _ => len - (intOf v10).toNat)
  case atStart => exact ⟨0, [], (fun _ => 0), (fun _ => 0), rfl, by omega, rfl, fun j x y _ hy => by simp at hy, AccS.made _ (Nat.le_refl _), (Below.refl _ _).alloc (Nat.le_refl _) _⟩
  case round =>
    obtain ⟨i, us, l, h, rfl, hi, hul, hsm, hA, hB⟩ := hrel
    obtain ⟨v, rfl⟩ : ∃ v, v = u3 := ⟨_, rfl⟩
    by_cases hlt : i < len
    · obtain ⟨x, hx⟩ : ∃ x, ks[i]? = some x := ⟨_, List.getElem?_eq_getElem (by omega)⟩
      obtain ⟨b1, o1, hbase1, hok1, hc1⟩ := hcl i x hx
      obtain ⟨c0, c1, c2, c3, c4', c5, c6, c7, c8, c9, c10, c11⟩ := hc1.below hB (hok b1 hok1)
      have hB1 : Below wr.heap.size wr wr := Below.refl _ _
      have hcall : Hid (Calls Tryz.prog 82 #[x.val] wr fun e w'' => ∃ t : SX, e = .returned t.val ∧ SameS x t ∧ OwnS1 w'' wr.heap.size w''.heap.size t ∧ Below wr.heap.size wr w'') := H i x hx wr hB
      have hA1 := hA.out.below hB1
      subst hbase1
      go_wp2_with fail
      go_at_call 82
      refine hcall.out.mono ?_
      rintro e w2 ⟨t, rfl, hxt, hO, hB2⟩
      clear c0 c1 c2 c3 c4' c5 c6 c7 c8 c9 c10 c11 hcall
      have hA2 := hA1.below hB2
      have hz2' := hB2.size
      obtain ⟨W3, hW3⟩ : ∃ W3, w2.alloc (.cells #[.int .i64 t.kind, .string t.name, .int .i64 t.e.kind, .int .i64 t.e.num, .string t.e.name, .slice t.e.base t.e.kids.length t.e.cap, .int .i64 t.f.kind, .int .i64 t.f.num, .string t.f.name, .slice t.f.base t.f.kids.length t.f.cap, .slice t.abase t.la.length t.acap, .slice t.bbase t.lb.length t.bcap] 125) = W3 := ⟨_, rfl⟩
      have hB3 : Below w2.heap.size w2 W3 := by rw [← hW3]; exact (Below.refl _ _).alloc (Nat.le_refl _) _
      have hs3 : w2.heap.size + 1 = W3.heap.size := by rw [← hW3]; simp
      have hnewH : Hid (∀ j u, t.vals[j]? = some u → W3.cell? ((⟨w2.heap.size, 0, none⟩ : Addr).add j) = some u) := by
        have h := news12 w2 t 125
        rw [hW3] at h
        exact h
      have hA3 := hA2.below hB3
      have hO3 : OwnS1 W3 wr.heap.size w2.heap.size t := hO.mono (fun b q1 q2 => hB3.block b q2)
      have hzw := hB.size
      have hown3 : Hid (W3.ownsRow w.heap.size 125 12 v us.length (fl12 us)) := hA3.own
      go_wp2_with (at_builtin; refine wpList_append_back _ rfl _ _ 81 rfl w.heap.size 125 i0 _ 12 184 Tryz.underlying81 hi0 hz0 hz1 hz2 rfl (by decide) v us.length (fl12 us) rfl hown3.out ⟨w2.heap.size, 0, none⟩ 1 1 t.vals rfl rfl hnewH.out (by simp [Value.oneCell']) (by unfold maxLen; omega) (by omega) (by omega) (by omega) ?_; intro v' w4 hown' hback)
      have hP := hA3.push rfl hO3 (fun j hj => by have := (hA1.int j hj).2.1; omega) (by omega) (by omega) (fun g hg => by have := (hA1.own.lt g hg).2; omega) (by omega) hown' hback
      have hB4 : Below w.heap.size w w4 := by
        have h0 : Below w.heap.size w W3 := bstep (bstep (bstep hB hB1) hB2) hB3
        refine h0.trans (hback.kept.below (by omega) (fun k hk => ?_))
        rcases hk with hk | hk
        · exact (hA3.own.lt k hk).1
        · exact (hown'.lt k hk).1
      refine ⟨⟨i + 1, us ++ [t], _, _, by go_num, by omega, by simp [hul], ?_, hP, hB4⟩, by simp [intOf]; omega⟩
      intro j y z hy hz
      by_cases hj : j < us.length
      · rw [List.getElem?_append_left hj] at hz
        exact hsm.out j y z hy hz
      · have hji : j = i := by
          have := (List.getElem?_eq_some_iff.1 hz).1
          simp at this
          omega
        subst hji
        rw [List.getElem?_append_right (by omega)] at hz
        simp [hul] at hz
        subst hz
        rw [hx] at hy
        cases hy
        exact hxt
    · have he : i = len := by omega
      go_wp2_with fail
      go_returns
      exact ⟨v, us, l, h, rfl, by omega, hsm.out, hA.out, hB⟩
end Go.Proofs.YtaajdoipjalgmaaGreatDoor
namespace Go.Proofs.YtaajdoipjalgmaaGreatDoor
open Go.RowKit Go.Shelf
set_option linter.unusedSimpArgs false
set_option linter.unusedVariables false
attribute [local go_sem] Oper.semAt_some

set_option maxRecDepth 20000 in
set_option maxHeartbeats 16000000 in
theorem specCopyS (sz : Nat) : ∀ s : SX, s.size ≤ sz → SmallS s → ∀ (ok : Nat → Prop) (w : World), (∀ b, ok b → b < w.heap.size) → LiesS ok w s →
    Calls Tryz.prog 82 #[s.val] w fun e w' => ∃ s' : SX, e = .returned s'.val ∧ SameS s s' ∧ OwnS1 w' w.heap.size w'.heap.size s' ∧ Below w.heap.size w w' := by
  induction sz with
  | zero => intro t h; rw [SX.size_eq] at h; omega
  | succ sz ih =>
  intro s hsz hm ok w hok hL
  obtain ⟨m1, m2, m3, m4, m5, m6⟩ := hm.parts
  have hse := s.size_eq
  obtain ⟨W1, hW1⟩ : ∃ W1, w.alloc (.cells #[.int .i64 s.kind, .string s.name, .int .i64 s.e.kind, .int .i64 s.e.num, .string s.e.name, .slice s.e.base s.e.kids.length s.e.cap, .int .i64 s.f.kind, .int .i64 s.f.num, .string s.f.name, .slice s.f.base s.f.kids.length s.f.cap, .slice s.abase s.la.length s.acap, .slice s.bbase s.lb.length s.bcap] 125) = W1 := ⟨_, rfl⟩
  obtain ⟨W2, hW2⟩ : ∃ W2, W1.alloc (.cells #[.int .i64 0, .string ⟨#[]⟩, .int .i64 0, .int .i64 0, .string ⟨#[]⟩, .slice none 0 0, .int .i64 0, .int .i64 0, .string ⟨#[]⟩, .slice none 0 0, .slice none 0 0, .slice none 0 0] 125) = W2 := ⟨_, rfl⟩
  have s1 : W1.heap.size = w.heap.size + 1 := by rw [← hW1]; simp
  have s2 : W2.heap.size = w.heap.size + 2 := by rw [← hW2]; simp [s1]
  have hB2 : Below w.heap.size w W2 := by rw [← hW2, ← hW1]; exact ((Below.refl _ w).alloc (Nat.le_refl _) _).alloc (by simp) _
  have hR1 : RowAt W2 w.heap.size 12 125 := by
    have h := RowAt.new w #[.int .i64 s.kind, .string s.name, .int .i64 s.e.kind, .int .i64 s.e.num, .string s.e.name, .slice s.e.base s.e.kids.length s.e.cap, .int .i64 s.f.kind, .int .i64 s.f.num, .string s.f.name, .slice s.f.base s.f.kids.length s.f.cap, .slice s.abase s.la.length s.acap, .slice s.bbase s.lb.length s.bcap] 125
    rw [hW1] at h
    rw [← hW2]
    exact h.of_block (Below.heap_alloc _ _ _ (by omega))
  have hR2 : RowAt W2 (w.heap.size + 1) 12 125 := by
    have h := RowAt.new W1 #[.int .i64 0, .string ⟨#[]⟩, .int .i64 0, .int .i64 0, .string ⟨#[]⟩, .slice none 0 0, .int .i64 0, .int .i64 0, .string ⟨#[]⟩, .slice none 0 0, .slice none 0 0, .slice none 0 0] 125
    rw [hW2, s1] at h
    exact h
  have hC : Cells12 W2 w.heap.size 0 s := by
    have h := Cells12.new w s 125
    rw [hW1] at h
    rw [← hW2]
    exact h.below (n := W1.heap.size) ((Below.refl _ _).alloc (Nat.le_refl _) _) (by omega)
  have hL2 := hL.under hB2 hok
  have hok2 : ∀ b, ok b → b < W2.heap.size := fun b hb => Nat.lt_of_lt_of_le (hok b hb) hB2.size
  have g1 := m2.1
  have g2 := m3.1
  have HC : Hid (∀ (t : XT) (x : World), isPart s t → Below W2.heap.size W2 x → Calls Tryz.prog 110 #[t.val] x fun e w' => ∃ t' : XT, e = .returned t'.val ∧ Same t t' ∧ OwnR w' x.heap.size w'.heap.size t'.base t'.kids ∧ Below x.heap.size x w') := by
    rintro t x (rfl | rfl) hx
    · exact specCopyE _ _ (Nat.le_refl _) (by omega) ok x (fun b hb => Nat.lt_of_lt_of_le (hok2 b hb) hx.size) (hL2.parts.1.under hx hok2)
    · exact specCopyE _ _ (Nat.le_refl _) (by omega) ok x (fun b hb => Nat.lt_of_lt_of_le (hok2 b hb) hx.size) (hL2.parts.2.1.under hx hok2)
  have hEE : isPart s s.e := .inl rfl
  have hFF : isPart s s.f := .inr rfl
  have HL : Hid (∀ (ks : List SX) (a : Option Addr) (c : Nat) (x : World), isList s a ks c → Below W2.heap.size W2 x → Calls Tryz.prog 53 #[.slice a ks.length c] x fun e w' => ∃ (a' : Option Addr) (c' : Nat) (us : List SX), e = .returned (.slice a' ks.length c') ∧ Hid (us.length = ks.length ∧ (∀ (i : Nat) (p q : SX), ks[i]? = some p → us[i]? = some q → SameS p q) ∧ OwnSR w' x.heap.size w'.heap.size a' us) ∧ Below x.heap.size x w') := by
    rintro ks a c x hp hx
    have hokx : ∀ b, ok b → b < x.heap.size := fun b hb => Nat.lt_of_lt_of_le (hok2 b hb) hx.size
    have lx := (hL2.under hx hok2).parts
    have fin : ∀ (r : SRow ok x a ks) (hsz' : SX.sizeAll ks ≤ sz) (hl : ks.length ≤ 1048577) (hm' : ∀ (i : Nat) (k : SX), ks[i]? = some k → SmallS k) (hk' : ∀ (i : Nat) (k : SX), ks[i]? = some k → LiesS ok x k), Calls Tryz.prog 53 #[.slice a ks.length c] x fun e w' => ∃ (a' : Option Addr) (c' : Nat) (us : List SX), e = .returned (.slice a' ks.length c') ∧ Hid (us.length = ks.length ∧ (∀ (i : Nat) (p q : SX), ks[i]? = some p → us[i]? = some q → SameS p q) ∧ OwnSR w' x.heap.size w'.heap.size a' us) ∧ Below x.heap.size x w' := by
      intro r hsz' hl hm' hk'
      refine (specEachS ks a c ok x hokx r hl (fun i k hk w' hBw => ih k (by have := SX.size_get hk; omega) (hm' i k hk) ok w' (fun b hb => Nat.lt_of_lt_of_le (hokx b hb) hBw.size) ((hk' i k hk).under hBw hokx))).mono ?_
      rintro e w' ⟨v, us, l, h, rfl, h1, h2, h3, h4⟩
      obtain ⟨a', c', rfl, hO⟩ := h3.done
      exact ⟨a', c', us, by rw [h1], ⟨h1, h2, hO⟩, h4⟩
    rcases hp with ⟨rfl, rfl, rfl⟩ | ⟨rfl, rfl, rfl⟩
    · exact fin lx.2.2.1 (by omega) (by omega) m5 lx.2.2.2.2.1
    · exact fin lx.2.2.2.1 (by omega) (by omega) m6 lx.2.2.2.2.2
  have hLA : isList s s.abase s.la s.acap := .inl ⟨rfl, rfl, rfl⟩
  have hLB : isList s s.bbase s.lb s.bcap := .inr ⟨rfl, rfl, rfl⟩
  have hXd : Below W2.heap.size W2 W2.drew := (Below.refl _ W2).drew
  have hzd : W2.drew.heap.size = W2.heap.size := rfl
  have c0 : W2.cell? ⟨w.heap.size, 0, none⟩ = some (.int .i64 s.kind) := (hC.below (Below.refl W2.heap.size W2) (by omega)).c0
  have c1 : W2.cell? ⟨w.heap.size, 1, none⟩ = some (.string s.name) := (hC.below (Below.refl W2.heap.size W2) (by omega)).c1
  have c2 : W2.cell? ⟨w.heap.size, 2, none⟩ = some (.int .i64 s.e.kind) := (hC.below (Below.refl W2.heap.size W2) (by omega)).c2
  have c3 : W2.cell? ⟨w.heap.size, 3, none⟩ = some (.int .i64 s.e.num) := (hC.below (Below.refl W2.heap.size W2) (by omega)).c3
  have c4 : W2.cell? ⟨w.heap.size, 4, none⟩ = some (.string s.e.name) := (hC.below (Below.refl W2.heap.size W2) (by omega)).c4
  have c5 : W2.cell? ⟨w.heap.size, 5, none⟩ = some (.slice s.e.base s.e.kids.length s.e.cap) := (hC.below (Below.refl W2.heap.size W2) (by omega)).c5
  have c6 : W2.cell? ⟨w.heap.size, 6, none⟩ = some (.int .i64 s.f.kind) := (hC.below (Below.refl W2.heap.size W2) (by omega)).c6
  have c7 : W2.cell? ⟨w.heap.size, 7, none⟩ = some (.int .i64 s.f.num) := (hC.below (Below.refl W2.heap.size W2) (by omega)).c7
  have c8 : W2.cell? ⟨w.heap.size, 8, none⟩ = some (.string s.f.name) := (hC.below (Below.refl W2.heap.size W2) (by omega)).c8
  have c9 : W2.cell? ⟨w.heap.size, 9, none⟩ = some (.slice s.f.base s.f.kids.length s.f.cap) := (hC.below (Below.refl W2.heap.size W2) (by omega)).c9
  have c10 : W2.cell? ⟨w.heap.size, 10, none⟩ = some (.slice s.abase s.la.length s.acap) := (hC.below (Below.refl W2.heap.size W2) (by omega)).c10
  have c11 : W2.cell? ⟨w.heap.size, 11, none⟩ = some (.slice s.bbase s.lb.length s.bcap) := (hC.below (Below.refl W2.heap.size W2) (by omega)).c11
  clear ih hL hL2 m5 m6
  go_enter Tryz.func82, Tryz.ntmps82
  go_wp2_with fail
  go_region_held3 (fun w' => w'.cell? ⟨w.heap.size, 0, none⟩ = some (.int .i64 s.kind) ∧ w'.cell? ⟨w.heap.size, 1, none⟩ = some (.string s.name) ∧ w'.cell? ⟨w.heap.size, 2, none⟩ = some (.int .i64 s.e.kind) ∧ w'.cell? ⟨w.heap.size, 3, none⟩ = some (.int .i64 s.e.num) ∧ w'.cell? ⟨w.heap.size, 4, none⟩ = some (.string s.e.name) ∧ w'.cell? ⟨w.heap.size, 5, none⟩ = some (.slice s.e.base s.e.kids.length s.e.cap) ∧ w'.cell? ⟨w.heap.size, 6, none⟩ = some (.int .i64 s.f.kind) ∧ w'.cell? ⟨w.heap.size, 7, none⟩ = some (.int .i64 s.f.num) ∧ w'.cell? ⟨w.heap.size, 8, none⟩ = some (.string s.f.name) ∧ w'.cell? ⟨w.heap.size, 9, none⟩ = some (.slice s.f.base s.f.kids.length s.f.cap) ∧ w'.cell? ⟨w.heap.size, 10, none⟩ = some (.slice s.abase s.la.length s.acap) ∧ w'.cell? ⟨w.heap.size, 11, none⟩ = some (.slice s.bbase s.lb.length s.bcap)) (simp [*, go_sem, World.cell?_alloc_some, World.cell?_setCell_far, apart1, apart2, apart3, apart4, apart5, apart6]) (first | (go_at_call 110; refine (HC.out _ _ (by exact hEE) (by exact hXd)).mono ?_; rintro e x1 ⟨e', rfl, hs1, hO1, hb1⟩; (have hx1 := bstep hXd hb1); (have k0 : x1.cell? ⟨w.heap.size, 0, none⟩ = some (.int .i64 s.kind) := (hC.below hx1 (by omega)).c0); (have k1 : x1.cell? ⟨w.heap.size, 1, none⟩ = some (.string s.name) := (hC.below hx1 (by omega)).c1); (have k2 : x1.cell? ⟨w.heap.size, 2, none⟩ = some (.int .i64 s.e.kind) := (hC.below hx1 (by omega)).c2); (have k3 : x1.cell? ⟨w.heap.size, 3, none⟩ = some (.int .i64 s.e.num) := (hC.below hx1 (by omega)).c3); (have k4 : x1.cell? ⟨w.heap.size, 4, none⟩ = some (.string s.e.name) := (hC.below hx1 (by omega)).c4); (have k5 : x1.cell? ⟨w.heap.size, 5, none⟩ = some (.slice s.e.base s.e.kids.length s.e.cap) := (hC.below hx1 (by omega)).c5); (have k6 : x1.cell? ⟨w.heap.size, 6, none⟩ = some (.int .i64 s.f.kind) := (hC.below hx1 (by omega)).c6); (have k7 : x1.cell? ⟨w.heap.size, 7, none⟩ = some (.int .i64 s.f.num) := (hC.below hx1 (by omega)).c7); (have k8 : x1.cell? ⟨w.heap.size, 8, none⟩ = some (.string s.f.name) := (hC.below hx1 (by omega)).c8); (have k9 : x1.cell? ⟨w.heap.size, 9, none⟩ = some (.slice s.f.base s.f.kids.length s.f.cap) := (hC.below hx1 (by omega)).c9); (have k10 : x1.cell? ⟨w.heap.size, 10, none⟩ = some (.slice s.abase s.la.length s.acap) := (hC.below hx1 (by omega)).c10); (have k11 : x1.cell? ⟨w.heap.size, 11, none⟩ = some (.slice s.bbase s.lb.length s.bcap) := (hC.below hx1 (by omega)).c11)) | (go_at_call 110; refine (HC.out _ _ (by exact hFF) (by exact hx1)).mono ?_; rintro e x2 ⟨f', rfl, hs2, hO2, hb2⟩; (have hx2 := bstep hx1 hb2); (have l0 : x2.cell? ⟨w.heap.size, 0, none⟩ = some (.int .i64 s.kind) := (hC.below hx2 (by omega)).c0); (have l1 : x2.cell? ⟨w.heap.size, 1, none⟩ = some (.string s.name) := (hC.below hx2 (by omega)).c1); (have l2 : x2.cell? ⟨w.heap.size, 2, none⟩ = some (.int .i64 s.e.kind) := (hC.below hx2 (by omega)).c2); (have l3 : x2.cell? ⟨w.heap.size, 3, none⟩ = some (.int .i64 s.e.num) := (hC.below hx2 (by omega)).c3); (have l4 : x2.cell? ⟨w.heap.size, 4, none⟩ = some (.string s.e.name) := (hC.below hx2 (by omega)).c4); (have l5 : x2.cell? ⟨w.heap.size, 5, none⟩ = some (.slice s.e.base s.e.kids.length s.e.cap) := (hC.below hx2 (by omega)).c5); (have l6 : x2.cell? ⟨w.heap.size, 6, none⟩ = some (.int .i64 s.f.kind) := (hC.below hx2 (by omega)).c6); (have l7 : x2.cell? ⟨w.heap.size, 7, none⟩ = some (.int .i64 s.f.num) := (hC.below hx2 (by omega)).c7); (have l8 : x2.cell? ⟨w.heap.size, 8, none⟩ = some (.string s.f.name) := (hC.below hx2 (by omega)).c8); (have l9 : x2.cell? ⟨w.heap.size, 9, none⟩ = some (.slice s.f.base s.f.kids.length s.f.cap) := (hC.below hx2 (by omega)).c9); (have l10 : x2.cell? ⟨w.heap.size, 10, none⟩ = some (.slice s.abase s.la.length s.acap) := (hC.below hx2 (by omega)).c10); (have l11 : x2.cell? ⟨w.heap.size, 11, none⟩ = some (.slice s.bbase s.lb.length s.bcap) := (hC.below hx2 (by omega)).c11)) | (go_at_call 53; refine (HL.out _ _ _ _ (by exact hLA) (by exact hx2)).mono ?_; rintro e x3 ⟨a1, ca, la1, rfl, hh1, hb3⟩; (have hx3 := bstep hx2 hb3); (have n0 : x3.cell? ⟨w.heap.size, 0, none⟩ = some (.int .i64 s.kind) := (hC.below hx3 (by omega)).c0); (have n1 : x3.cell? ⟨w.heap.size, 1, none⟩ = some (.string s.name) := (hC.below hx3 (by omega)).c1); (have n2 : x3.cell? ⟨w.heap.size, 2, none⟩ = some (.int .i64 s.e.kind) := (hC.below hx3 (by omega)).c2); (have n3 : x3.cell? ⟨w.heap.size, 3, none⟩ = some (.int .i64 s.e.num) := (hC.below hx3 (by omega)).c3); (have n4 : x3.cell? ⟨w.heap.size, 4, none⟩ = some (.string s.e.name) := (hC.below hx3 (by omega)).c4); (have n5 : x3.cell? ⟨w.heap.size, 5, none⟩ = some (.slice s.e.base s.e.kids.length s.e.cap) := (hC.below hx3 (by omega)).c5); (have n6 : x3.cell? ⟨w.heap.size, 6, none⟩ = some (.int .i64 s.f.kind) := (hC.below hx3 (by omega)).c6); (have n7 : x3.cell? ⟨w.heap.size, 7, none⟩ = some (.int .i64 s.f.num) := (hC.below hx3 (by omega)).c7); (have n8 : x3.cell? ⟨w.heap.size, 8, none⟩ = some (.string s.f.name) := (hC.below hx3 (by omega)).c8); (have n9 : x3.cell? ⟨w.heap.size, 9, none⟩ = some (.slice s.f.base s.f.kids.length s.f.cap) := (hC.below hx3 (by omega)).c9); (have n10 : x3.cell? ⟨w.heap.size, 10, none⟩ = some (.slice s.abase s.la.length s.acap) := (hC.below hx3 (by omega)).c10); (have n11 : x3.cell? ⟨w.heap.size, 11, none⟩ = some (.slice s.bbase s.lb.length s.bcap) := (hC.below hx3 (by omega)).c11)) | (go_at_call 53; refine (HL.out _ _ _ _ (by exact hLB) (by exact hx3)).mono ?_; rintro e x4 ⟨b1, cb, lb1, rfl, hh2, hb4⟩; (have hx4 := bstep hx3 hb4); (have o0 : x4.cell? ⟨w.heap.size, 0, none⟩ = some (.int .i64 s.kind) := (hC.below hx4 (by omega)).c0); (have o1 : x4.cell? ⟨w.heap.size, 1, none⟩ = some (.string s.name) := (hC.below hx4 (by omega)).c1); (have o2 : x4.cell? ⟨w.heap.size, 2, none⟩ = some (.int .i64 s.e.kind) := (hC.below hx4 (by omega)).c2); (have o3 : x4.cell? ⟨w.heap.size, 3, none⟩ = some (.int .i64 s.e.num) := (hC.below hx4 (by omega)).c3); (have o4 : x4.cell? ⟨w.heap.size, 4, none⟩ = some (.string s.e.name) := (hC.below hx4 (by omega)).c4); (have o5 : x4.cell? ⟨w.heap.size, 5, none⟩ = some (.slice s.e.base s.e.kids.length s.e.cap) := (hC.below hx4 (by omega)).c5); (have o6 : x4.cell? ⟨w.heap.size, 6, none⟩ = some (.int .i64 s.f.kind) := (hC.below hx4 (by omega)).c6); (have o7 : x4.cell? ⟨w.heap.size, 7, none⟩ = some (.int .i64 s.f.num) := (hC.below hx4 (by omega)).c7); (have o8 : x4.cell? ⟨w.heap.size, 8, none⟩ = some (.string s.f.name) := (hC.below hx4 (by omega)).c8); (have o9 : x4.cell? ⟨w.heap.size, 9, none⟩ = some (.slice s.f.base s.f.kids.length s.f.cap) := (hC.below hx4 (by omega)).c9); (have o10 : x4.cell? ⟨w.heap.size, 10, none⟩ = some (.slice s.abase s.la.length s.acap) := (hC.below hx4 (by omega)).c10); (have o11 : x4.cell? ⟨w.heap.size, 11, none⟩ = some (.slice s.bbase s.lb.length s.bcap) := (hC.below hx4 (by omega)).c11); (have hRx := hR2.of_block (hx4.block _ (by omega))); (obtain ⟨p0, t0⟩ := hRx.cell (o := 0) (by omega)); (have z0 := hRx.frozen 0); (obtain ⟨p1, t1⟩ := hRx.cell (o := 1) (by omega)); (have z1 := hRx.frozen 1); (obtain ⟨p2, t2⟩ := hRx.cell (o := 2) (by omega)); (have z2 := hRx.frozen 2); (obtain ⟨p3, t3⟩ := hRx.cell (o := 3) (by omega)); (have z3 := hRx.frozen 3); (obtain ⟨p4, t4⟩ := hRx.cell (o := 4) (by omega)); (have z4 := hRx.frozen 4); (obtain ⟨p5, t5⟩ := hRx.cell (o := 5) (by omega)); (have z5 := hRx.frozen 5); (obtain ⟨p6, t6⟩ := hRx.cell (o := 6) (by omega)); (have z6 := hRx.frozen 6); (obtain ⟨p7, t7⟩ := hRx.cell (o := 7) (by omega)); (have z7 := hRx.frozen 7); (obtain ⟨p8, t8⟩ := hRx.cell (o := 8) (by omega)); (have z8 := hRx.frozen 8); (obtain ⟨p9, t9⟩ := hRx.cell (o := 9) (by omega)); (have z9 := hRx.frozen 9); (obtain ⟨p10, t10⟩ := hRx.cell (o := 10) (by omega)); (have z10 := hRx.frozen 10); (obtain ⟨p11, t11⟩ := hRx.cell (o := 11) (by omega)); (have z11 := hRx.frozen 11)))
  all_goals
    obtain ⟨hl1, hq1, hO3⟩ := hh1.out
    obtain ⟨hl2, hq2, hO4⟩ := hh2.out
    have zz1 := hx1.size
    have zz2 := hb2.size
    have zz3 := hb3.size
    have zz4 := hb4.size
    have hK : Kept (fun k => k = w.heap.size + 1) x4 ((((((((((((x4.setCell ⟨w.heap.size + 1, 0, none⟩ (.int .i64 s.kind)).setCell ⟨w.heap.size + 1, 1, none⟩ (.string s.name)).setCell ⟨w.heap.size + 1, 2, none⟩ (.int .i64 e'.kind)).setCell ⟨w.heap.size + 1, 3, none⟩ (.int .i64 e'.num)).setCell ⟨w.heap.size + 1, 4, none⟩ (.string e'.name)).setCell ⟨w.heap.size + 1, 5, none⟩ (.slice e'.base e'.kids.length e'.cap)).setCell ⟨w.heap.size + 1, 6, none⟩ (.int .i64 f'.kind)).setCell ⟨w.heap.size + 1, 7, none⟩ (.int .i64 f'.num)).setCell ⟨w.heap.size + 1, 8, none⟩ (.string f'.name)).setCell ⟨w.heap.size + 1, 9, none⟩ (.slice f'.base f'.kids.length f'.cap)).setCell ⟨w.heap.size + 1, 10, none⟩ (.slice a1 s.la.length ca)).setCell ⟨w.heap.size + 1, 11, none⟩ (.slice b1 s.lb.length cb)) := (((((((((((((Kept.refl (fun k => k = w.heap.size + 1) x4).setCell (p := ⟨w.heap.size + 1, 0, none⟩) rfl (.int .i64 s.kind)).setCell (p := ⟨w.heap.size + 1, 1, none⟩) rfl (.string s.name)).setCell (p := ⟨w.heap.size + 1, 2, none⟩) rfl (.int .i64 e'.kind)).setCell (p := ⟨w.heap.size + 1, 3, none⟩) rfl (.int .i64 e'.num)).setCell (p := ⟨w.heap.size + 1, 4, none⟩) rfl (.string e'.name)).setCell (p := ⟨w.heap.size + 1, 5, none⟩) rfl (.slice e'.base e'.kids.length e'.cap)).setCell (p := ⟨w.heap.size + 1, 6, none⟩) rfl (.int .i64 f'.kind)).setCell (p := ⟨w.heap.size + 1, 7, none⟩) rfl (.int .i64 f'.num)).setCell (p := ⟨w.heap.size + 1, 8, none⟩) rfl (.string f'.name)).setCell (p := ⟨w.heap.size + 1, 9, none⟩) rfl (.slice f'.base f'.kids.length f'.cap)).setCell (p := ⟨w.heap.size + 1, 10, none⟩) rfl (.slice a1 s.la.length ca)).setCell (p := ⟨w.heap.size + 1, 11, none⟩) rfl (.slice b1 s.lb.length cb))
    have hown : OwnS1 ((((((((((((x4.setCell ⟨w.heap.size + 1, 0, none⟩ (.int .i64 s.kind)).setCell ⟨w.heap.size + 1, 1, none⟩ (.string s.name)).setCell ⟨w.heap.size + 1, 2, none⟩ (.int .i64 e'.kind)).setCell ⟨w.heap.size + 1, 3, none⟩ (.int .i64 e'.num)).setCell ⟨w.heap.size + 1, 4, none⟩ (.string e'.name)).setCell ⟨w.heap.size + 1, 5, none⟩ (.slice e'.base e'.kids.length e'.cap)).setCell ⟨w.heap.size + 1, 6, none⟩ (.int .i64 f'.kind)).setCell ⟨w.heap.size + 1, 7, none⟩ (.int .i64 f'.num)).setCell ⟨w.heap.size + 1, 8, none⟩ (.string f'.name)).setCell ⟨w.heap.size + 1, 9, none⟩ (.slice f'.base f'.kids.length f'.cap)).setCell ⟨w.heap.size + 1, 10, none⟩ (.slice a1 s.la.length ca)).setCell ⟨w.heap.size + 1, 11, none⟩ (.slice b1 s.lb.length cb)) w.heap.size ((((((((((((x4.setCell ⟨w.heap.size + 1, 0, none⟩ (.int .i64 s.kind)).setCell ⟨w.heap.size + 1, 1, none⟩ (.string s.name)).setCell ⟨w.heap.size + 1, 2, none⟩ (.int .i64 e'.kind)).setCell ⟨w.heap.size + 1, 3, none⟩ (.int .i64 e'.num)).setCell ⟨w.heap.size + 1, 4, none⟩ (.string e'.name)).setCell ⟨w.heap.size + 1, 5, none⟩ (.slice e'.base e'.kids.length e'.cap)).setCell ⟨w.heap.size + 1, 6, none⟩ (.int .i64 f'.kind)).setCell ⟨w.heap.size + 1, 7, none⟩ (.int .i64 f'.num)).setCell ⟨w.heap.size + 1, 8, none⟩ (.string f'.name)).setCell ⟨w.heap.size + 1, 9, none⟩ (.slice f'.base f'.kids.length f'.cap)).setCell ⟨w.heap.size + 1, 10, none⟩ (.slice a1 s.la.length ca)).setCell ⟨w.heap.size + 1, 11, none⟩ (.slice b1 s.lb.length cb)).heap.size (.mk s.kind s.name e' f' a1 ca la1 b1 cb lb1) := by
      have hzK := hK.size
      refine ⟨fun m => if m = 0 then W2.heap.size else if m = 1 then x1.heap.size else if m = 2 then x2.heap.size else x3.heap.size, fun m => if m = 0 then x1.heap.size else if m = 1 then x2.heap.size else if m = 2 then x3.heap.size else x4.heap.size, fun m hm => ?_, fun m n hm hn hmn => ?_, ?_, ?_, ?_, ?_⟩
      · rcases (show m = 0 ∨ m = 1 ∨ m = 2 ∨ m = 3 by omega) with rfl | rfl | rfl | rfl <;> simp <;> omega
      · rcases (show m = 0 ∨ m = 1 ∨ m = 2 ∨ m = 3 by omega) with rfl | rfl | rfl | rfl <;> rcases (show n = 0 ∨ n = 1 ∨ n = 2 ∨ n = 3 by omega) with rfl | rfl | rfl | rfl <;> first | exact absurd rfl hmn | (simp; done) | (simp; omega)
      · exact hO1.mono (fun b p1 p2 => (hK.block b (by first | omega | (simp at p2; omega)) (by first | omega | (simp at p1; omega))).trans ((hb4.block b (by first | omega | (simp at p2; omega))).trans ((hb3.block b (by first | omega | (simp at p2; omega))).trans (hb2.block b (by first | omega | (simp at p2; omega))))))
      · exact hO2.mono (fun b p1 p2 => (hK.block b (by first | omega | (simp at p2; omega)) (by first | omega | (simp at p1; omega))).trans ((hb4.block b (by first | omega | (simp at p2; omega))).trans (hb3.block b (by first | omega | (simp at p2; omega)))))
      · exact hO3.mono (fun b p1 p2 => (hK.block b (by first | omega | (simp at p2; omega)) (by first | omega | (simp at p1; omega))).trans (hb4.block b (by first | omega | (simp at p2; omega))))
      · exact hO4.mono (fun b p1 p2 => hK.block b (by first | omega | (simp at p2; omega)) (by first | omega | (simp at p1; omega)))
    have hbel : Below w.heap.size w ((((((((((((x4.setCell ⟨w.heap.size + 1, 0, none⟩ (.int .i64 s.kind)).setCell ⟨w.heap.size + 1, 1, none⟩ (.string s.name)).setCell ⟨w.heap.size + 1, 2, none⟩ (.int .i64 e'.kind)).setCell ⟨w.heap.size + 1, 3, none⟩ (.int .i64 e'.num)).setCell ⟨w.heap.size + 1, 4, none⟩ (.string e'.name)).setCell ⟨w.heap.size + 1, 5, none⟩ (.slice e'.base e'.kids.length e'.cap)).setCell ⟨w.heap.size + 1, 6, none⟩ (.int .i64 f'.kind)).setCell ⟨w.heap.size + 1, 7, none⟩ (.int .i64 f'.num)).setCell ⟨w.heap.size + 1, 8, none⟩ (.string f'.name)).setCell ⟨w.heap.size + 1, 9, none⟩ (.slice f'.base f'.kids.length f'.cap)).setCell ⟨w.heap.size + 1, 10, none⟩ (.slice a1 s.la.length ca)).setCell ⟨w.heap.size + 1, 11, none⟩ (.slice b1 s.lb.length cb)) := (hB2.trans (hx4.mono (by omega))).trans (hK.below (by omega) (fun k e => by omega))
    have hsame : SameS s (.mk s.kind s.name e' f' a1 ca la1 b1 cb lb1) := .mk _ _ rfl rfl hs1 hs2 hl1 hl2 hq1 hq2
    have hval : (SX.mk s.kind s.name e' f' a1 ca la1 b1 cb lb1).val = .agg #[.int .i64 s.kind, .string s.name, .int .i64 e'.kind, .int .i64 e'.num, .string e'.name, .slice e'.base e'.kids.length e'.cap, .int .i64 f'.kind, .int .i64 f'.num, .string f'.name, .slice f'.base f'.kids.length f'.cap, .slice a1 s.la.length ca, .slice b1 s.lb.length cb] := by
      show Value.agg #[.int .i64 s.kind, .string s.name, .int .i64 e'.kind, .int .i64 e'.num, .string e'.name, .slice e'.base e'.kids.length e'.cap, .int .i64 f'.kind, .int .i64 f'.num, .string f'.name, .slice f'.base f'.kids.length f'.cap, .slice a1 la1.length ca, .slice b1 lb1.length cb] = _
      rw [hl1, hl2]
    clear hl1 hl2 hq1 hq2 hO1 hO2 hO3 hO4
    go_wp2
    first | go_returns | (refine bodyPost_ret (by simp [results, Tryz.results82, go_sem, *]; try rfl) rfl ?_)
    exact ⟨_, congrArg Ending.returned hval.symm, hsame, hown, hbel⟩
end Go.Proofs.YtaajdoipjalgmaaGreatDoor
namespace Go.Proofs.YtaajdoipjalgmaaGreatDoor
open Go.RowKit Go.Shelf
set_option linter.unusedSimpArgs false
set_option linter.unusedVariables false
attribute [local go_sem] Oper.semAt_some

/-- A list appended to another: an append of none leaves all as it was but for what is new. -/
def Back0 (w w' : World) (v v' : Value) : Prop := Kept (fun k => v.ownBlock = some k) w w' ∧ (∀ g, v'.ownBlock = some g → v.ownBlock = some g ∨ g = w.heap.size) ∧ (v ≠ .slice none 0 0 → v' ≠ .slice none 0 0)
theorem operAppend0 {P : Program} (w : World) {o : Oper} {a : Act} {K : Act → World → Prop} {Q : Exit → Act → World → Prop} (s x : Operand) (t : TypeId)
    (ho : o.op = .call { callee := .builtin .append, args := #[s, x], argTypes := #[t, t] })
    (base : Nat) (e : TypeId) (i : TypeInfo) (z : Value) (size bytes : Nat) (ht : P.underlying t = some (.slice e)) (hi : P.info? e = some i) (hz : i.zero = some z)
    (hsize : i.size = size) (hby : i.bytes = bytes) (hzs : z.cells.size = size) (hsz : 0 < size)
    (v : Value) (n : Nat) (xs : List Value) (hs : a.eval s = v) (hown : w.ownsRow base e size v n xs)
    (ad : Addr) (m c : Nat) (news : List Value) (hx : a.eval x = .slice (some ad) m c) (hl : news.length = m * size) (hnews : ∀ j u, news[j]? = some u → w.cell? (ad.add j) = some u) (h1 : ∀ u ∈ news, u.oneCell' = true)
    (h63 : n + m ≤ maxLen) (hbytes : (n + m) * bytes ≤ 140737488355328) (hbase : base ≤ w.heap.size)
    (h : ∀ v' w', w'.ownsRow base e size v' (n + m) (xs ++ news) → Back0 w w' v v' → K (a.put o.dst v') w') : o.wp P a w K Q := by
  obtain ⟨v', w', hr, h2, h3, h4, h5⟩ := run_append_own_at (P := P) w base t o.type e i z size bytes ht hi hz hsize hby hzs hsz v n xs hown ad m c news hl hnews h1 h63 hbytes hbase
  unfold Oper.wp execOp
  simp only [ho, resolve, invoke, builtin, Sem.run_bind, Sem.run_pure, Result.andThen_ok, List.map_toArray, List.map_cons, List.map_nil, hs, hx, hr]
  refine h v' w' h2 ⟨⟨h3.os, h3.tape, h3.output, h3.size, fun k hk hn => h3.block k hk (fun e => hn e.symm)⟩, fun g hg => ?_, fun hn he => hn (h4.1 he).1⟩
  rcases h5 with h5 | h5
  · rw [h5] at hg; exact .inl hg
  · rw [h5] at hg; cases hg; exact .inr rfl
theorem fl12_append (us vs : List SX) : fl12 (us ++ vs) = fl12 us ++ fl12 vs := by
  induction us with
  | nil => rfl
  | cons x xs ih => rw [List.cons_append, fl12, fl12, ih, List.append_assoc]
theorem AccS.pushAll {A B : World} {base base2 : Nat} {v v' v2 : Value} {us vs : List SX} {l h l2 h2 : Nat → Nat} (hA : AccS A base v us l h) (h2A : AccS A base2 v2 vs l2 h2) (hlo : ∀ i, i < us.length → h i ≤ base2) (hb : base ≤ base2) (hv : ∀ g, v.ownBlock = some g → g < base2)
    (hown : B.ownsRow base 125 12 v' (us.length + vs.length) (fl12 us ++ fl12 vs)) (hback : Back0 A B v v') :
    AccS B base v' (us ++ vs) (fun i => if i < us.length then l i else l2 (i - us.length)) (fun i => if i < us.length then h i else h2 (i - us.length)) := by
  obtain ⟨hk, hv', -⟩ := hback
  have hz := hk.size
  refine ⟨?_, fun i hi' => ?_, fun i j hij hj => ?_, fun i y hy => ?_⟩
  · rw [fl12_append, List.length_append]
    exact hown
  · rw [List.length_append] at hi'
    by_cases e : i < us.length
    · simp only [e, if_true]
      obtain ⟨h1, h2, h3⟩ := hA.int i e
      refine ⟨h1, by omega, fun g hg => ?_⟩
      rcases hv' g hg with h4 | h4
      · exact h3 g h4
      · right; omega
    · simp only [e, if_false]
      obtain ⟨h1, h2, h3⟩ := h2A.int (i - us.length) (by omega)
      refine ⟨by omega, by omega, fun g hg => ?_⟩
      rcases hv' g hg with h4 | h4
      · have := hv g h4; left; omega
      · right; omega
  · rw [List.length_append] at hj
    by_cases e : j < us.length
    · have e' : i < us.length := by omega
      simp only [e, e', if_true]
      exact hA.ord i j hij e
    · by_cases e' : i < us.length
      · simp only [e, e', if_true, if_false]
        have q1 := hlo i e'
        have q2 := (h2A.int (j - us.length) (by omega)).1
        omega
      · simp only [e, e', if_false]
        exact h2A.ord _ _ (by omega) (by omega)
  · by_cases e : i < us.length
    · rw [List.getElem?_append_left e] at hy
      simp only [e, if_true]
      obtain ⟨h1, h2, h3⟩ := hA.int i e
      exact (hA.kid i y hy).mono (fun b q1 q2 => hk.block b (by omega) (fun h => by rcases h3 b h with h9 | h9 <;> omega))
    · rw [List.getElem?_append_right (by omega)] at hy
      simp only [e, if_false]
      have hi2 := (List.getElem?_eq_some_iff.1 hy).1
      obtain ⟨h1, h2, h3⟩ := h2A.int _ hi2
      exact (h2A.kid _ y hy).mono (fun b q1 q2 => hk.block b (by omega) (fun h => by have := hv b h; omega))
theorem wpList_append0 {P : Program} (w : World) {ops : Array Oper} {rest : List Oper} {o : Oper} {a : Act} {Q : Exit → Act → World → Prop} (hgd : o.guard = none) (s x : Operand) (t : TypeId)
    (ho : o.op = .call { callee := .builtin .append, args := #[s, x], argTypes := #[t, t] })
    (base : Nat) (e : TypeId) (i : TypeInfo) (z : Value) (size bytes : Nat) (ht : P.underlying t = some (.slice e)) (hi : P.info? e = some i) (hz : i.zero = some z)
    (hsize : i.size = size) (hby : i.bytes = bytes) (hzs : z.cells.size = size) (hsz : 0 < size)
    (v : Value) (n : Nat) (xs : List Value) (hs : a.eval s = v) (hown : w.ownsRow base e size v n xs)
    (ad : Addr) (m c : Nat) (news : List Value) (hx : a.eval x = .slice (some ad) m c) (hl : news.length = m * size) (hnews : ∀ j u, news[j]? = some u → w.cell? (ad.add j) = some u) (h1 : ∀ u ∈ news, u.oneCell' = true)
    (h63 : n + m ≤ maxLen) (hbytes : (n + m) * bytes ≤ 140737488355328) (hbase : base ≤ w.heap.size)
    (h : ∀ v' w', w'.ownsRow base e size v' (n + m) (xs ++ news) → Back0 w w' v v' → wpList P ops Q rest (a.put o.dst v') w') : wpList P ops Q (o :: rest) a w :=
  wpList_plain hgd fun K hK => operAppend0 w s x t ho base e i z size bytes ht hi hz hsize hby hzs hsz v n xs hs hown ad m c news hx hl hnews h1 h63 hbytes hbase (fun v' w' h2 h3 => hK _ _ (h v' w' h2 h3))
mutual
def SX.flat : SX → List SX
  | .mk k n e f a c la b d lb => .mk k n e f a c la b d lb :: (SX.flatAll la ++ SX.flatAll lb)
def SX.flatAll : List SX → List SX
  | [] => []
  | t :: ts => SX.flat t ++ SX.flatAll ts
end
theorem SX.flat_eq (s : SX) : s.flat = s :: (SX.flatAll s.la ++ SX.flatAll s.lb) := by cases s; rfl
theorem SX.flatAll_append (us bs : List SX) : SX.flatAll (us ++ bs) = SX.flatAll us ++ SX.flatAll bs := by
  induction us with
  | nil => simp [SX.flatAll]
  | cons x xs ih => simp [SX.flatAll, ih]
theorem SX.flatAll_take {ks : List SX} {i : Nat} {t : SX} (h : ks[i]? = some t) : SX.flatAll (ks.take (i + 1)) = SX.flatAll (ks.take i) ++ t.flat := by
  rw [List.take_add_one, h, SX.flatAll_append]
  simp [SX.flatAll]
theorem SX.flatAll_take_le (ks : List SX) (i : Nat) : (SX.flatAll (ks.take i)).length ≤ (SX.flatAll ks).length := by
  have h : SX.flatAll ks = SX.flatAll (ks.take i) ++ SX.flatAll (ks.drop i) := by rw [← SX.flatAll_append, List.take_append_drop]
  rw [h, List.length_append]
  omega
mutual
theorem SX.within_flat : ∀ (s : SX) (r : Int), (s.within r).map Prod.snd = s.flat
  | .mk k n e f a c la b d lb, r => by
    have h1 := SX.withinAll_flat la (wrap64 (r + 1))
    have h2 := SX.withinAll_flat lb (wrap64 (r + 1))
    simp [SX.within, SX.flat, h1, h2]
theorem SX.withinAll_flat : ∀ (ks : List SX) (r : Int), (SX.withinAll ks r).map Prod.snd = SX.flatAll ks
  | [], r => by simp [SX.withinAll, SX.flatAll]
  | t :: ts, r => by
    have h1 := SX.within_flat t r
    have h2 := SX.withinAll_flat ts r
    simp [SX.withinAll, SX.flatAll, h1, h2]
end
mutual
theorem SX.flat_le : ∀ (s : SX), s.flat.length ≤ s.size
  | .mk k n e f a c la b d lb => by
    have h1 := SX.flatAll_le la
    have h2 := SX.flatAll_le lb
    simp [SX.flat, SX.size_eq, SX.la, SX.lb]
    omega
theorem SX.flatAll_le : ∀ (ks : List SX), (SX.flatAll ks).length ≤ SX.sizeAll ks
  | [] => by simp [SX.flatAll]
  | t :: ts => by
    have h1 := SX.flat_le t
    have h2 := SX.flatAll_le ts
    simp [SX.flatAll, SX.sizeAll]
    omega
end
/-- Two lists of statements, one by one the same. -/
def SameL (xs us : List SX) : Prop := us.length = xs.length ∧ ∀ (i : Nat) (x y : SX), xs[i]? = some x → us[i]? = some y → SameS x y
theorem SameL.nil : SameL [] [] := ⟨rfl, fun i x y h => by simp at h⟩
theorem SameL.one {x y : SX} (h : SameS x y) : SameL [x] [y] := ⟨rfl, fun i a b ha hb => by
  match i, ha, hb with
  | 0, ha, hb => simp at ha hb; subst ha hb; exact h⟩
theorem SameL.append {xs us ys vs : List SX} (h : SameL xs us) (k : SameL ys vs) : SameL (xs ++ ys) (us ++ vs) := by
  refine ⟨by simp [h.1, k.1], fun i a b ha hb => ?_⟩
  by_cases hi : i < us.length
  · rw [List.getElem?_append_left hi] at hb
    rw [List.getElem?_append_left (by rw [← h.1]; exact hi)] at ha
    exact h.2 i a b ha hb
  · rw [List.getElem?_append_right (by omega)] at hb
    rw [List.getElem?_append_right (by have := h.1; omega)] at ha
    rw [h.1] at hb
    exact k.2 _ a b ha hb
end Go.Proofs.YtaajdoipjalgmaaGreatDoor
namespace Go.Proofs.YtaajdoipjalgmaaGreatDoor
open Go.RowKit Go.Shelf
set_option linter.unusedSimpArgs false
set_option linter.unusedVariables false
attribute [local go_sem] Oper.semAt_some

theorem AccS.cellsOf {W : World} {base n : Nat} {v : Value} {us : List SX} {l h : Nat → Nat} (hA : AccS W base v us l h) (hn : v ≠ .slice none 0 0) : ∃ g cap, v = .slice (some ⟨g, 0, none⟩) us.length cap ∧ ∀ j u, (fl12 us)[j]? = some u → W.cell? ((⟨g, 0, none⟩ : Addr).add j) = some u := by
  rcases hA.own.2 with ⟨e, -⟩ | ⟨g, cap, cur, rfl, -⟩
  · exact absurd e hn
  · exact ⟨g, cap, rfl, hA.own.cells (g := g) rfl⟩
theorem fl12_one (us : List SX) : ∀ u ∈ fl12 us, u.oneCell' = true := by
  induction us with
  | nil => simp [fl12]
  | cons x xs ih =>
    intro u hu
    rw [fl12, List.mem_append] at hu
    rcases hu with hu | hu
    · simp [SX.vals] at hu
      rcases hu with rfl | rfl | rfl | rfl | rfl | rfl | rfl | rfl | rfl | rfl | rfl | rfl <;> rfl
    · exact ih u hu

set_option maxRecDepth 20000 in
set_option maxHeartbeats 8000000 in
theorem specStmts (sz : Nat) : ∀ ks : List SX, SX.sizeAll ks ≤ sz → sz ≤ 2097152 → (∀ (i : Nat) (k : SX), ks[i]? = some k → SmallS k) → ∀ (a : Option Addr) (c : Nat) (ok : Nat → Prop) (w : World), (∀ b, ok b → b < w.heap.size) → SRow ok w a ks → (∀ (i : Nat) (k : SX), ks[i]? = some k → LiesS ok w k) →
    Calls Tryz.prog 92 #[.slice a ks.length c] w fun e w' => ∃ (v : Value) (us : List SX) (l h : Nat → Nat), e = .returned v ∧ v ≠ .slice none 0 0 ∧ SameL (SX.flatAll ks) us ∧ AccS w' w.heap.size v us l h ∧ Below w.heap.size w w' := by
  induction sz using Nat.strongRecOn with
  | _ sz ih =>
  intro ks hsz hlim hsm a c ok w hok hcl hL
  obtain ⟨len, hl⟩ : ∃ len, ks.length = len := ⟨_, rfl⟩
  have hlen : len ≤ 2097152 := by have := SX.length_le ks; omega
  have hfl := SX.flatAll_le ks
  rw [hl]
  obtain ⟨i0, hi0, hz0, hz1, hz2⟩ := info_parts infoS
  go_enter Tryz.func92, Tryz.ntmps92
  go_wp2_with fail
  go_loopw [3, 4] (fun v5 v10 wr => ∃ (i : Nat) (us : List SX) (l h : Nat → Nat), v10 = .int .i64 i ∧ i ≤ len ∧ Hid (v5 ≠ .slice none 0 0) ∧ Hid (SameL (SX.flatAll (ks.take i)) us) ∧ Hid (AccS wr w.heap.size v5 us l h) ∧ Below w.heap.size w wr) (fun _ v10 _ => len - (intOf v10).toNat)
  case atStart => exact ⟨0, [], (fun _ => 0), (fun _ => 0), rfl, by omega, (show (Value.slice (some ⟨w.heap.size, 0, none⟩) 0 0) ≠ .slice none 0 0 from fun h => by cases h), SameL.nil, AccS.made _ (Nat.le_refl _), (Below.refl _ _).alloc (Nat.le_refl _) _⟩
  case round =>
    obtain ⟨i, us, l, h, rfl, hi, hnn, hsm', hA, hB⟩ := hrel
    obtain ⟨v, rfl⟩ : ∃ v, v = u3 := ⟨_, rfl⟩
    by_cases hlt : i < len
    · obtain ⟨x, hx⟩ : ∃ x, ks[i]? = some x := ⟨_, List.getElem?_eq_getElem (by omega)⟩
      obtain ⟨b1, o1, hbase1, hok1, hc1⟩ := hcl i x hx
      obtain ⟨c0, c1, c2, c3, c4', c5, c6, c7, c8, c9, c10, c11⟩ := hc1.below hB (hok b1 hok1)
      have hxs := hsm i x hx
      have hxl := hL i x hx
      obtain ⟨p1, p2, p3, p4, p5, p6⟩ := hxl.parts
      obtain ⟨m1, m2, m3, m4, m5, m6⟩ := hxs.parts
      have hxz := SX.size_get hx
      have hse := x.size_eq
      have hfx := SX.flatAll_take hx
      have hfl2 := SX.flatAll_take_le ks (i + 1)
      rw [hfx, x.flat_eq] at hfl2
      simp only [List.length_append, List.length_cons] at hfl2
      have hul := hsm'.out.1.symm
      have hcall : Hid (Calls Tryz.prog 82 #[x.val] wr fun e w'' => ∃ t : SX, e = .returned t.val ∧ SameS x t ∧ OwnS1 w'' wr.heap.size w''.heap.size t ∧ Below wr.heap.size wr w'') := specCopyS _ x (Nat.le_refl _) hxs ok wr (fun b hb => Nat.lt_of_lt_of_le (hok b hb) hB.size) (hxl.under hB hok)
      have hHA : Hid (∀ W, Below w.heap.size w W → Calls Tryz.prog 92 #[.slice x.abase x.la.length x.acap] W fun e w' => ∃ (v : Value) (us : List SX) (l h : Nat → Nat), e = .returned v ∧ v ≠ .slice none 0 0 ∧ SameL (SX.flatAll x.la) us ∧ AccS w' W.heap.size v us l h ∧ Below W.heap.size W w') := fun W hW =>
        ih _ (by omega) x.la (Nat.le_refl _) (by omega) m5 _ _ ok W (fun b hb => Nat.lt_of_lt_of_le (hok b hb) hW.size) (p3.under hW hok) (fun i k hk => (p5 i k hk).under hW hok)
      have hHB : Hid (∀ W, Below w.heap.size w W → Calls Tryz.prog 92 #[.slice x.bbase x.lb.length x.bcap] W fun e w' => ∃ (v : Value) (us : List SX) (l h : Nat → Nat), e = .returned v ∧ v ≠ .slice none 0 0 ∧ SameL (SX.flatAll x.lb) us ∧ AccS w' W.heap.size v us l h ∧ Below W.heap.size W w') := fun W hW =>
        ih _ (by omega) x.lb (Nat.le_refl _) (by omega) m6 _ _ ok W (fun b hb => Nat.lt_of_lt_of_le (hok b hb) hW.size) (p4.under hW hok) (fun i k hk => (p6 i k hk).under hW hok)
      clear ih p1 p2 p3 p4 p5 p6 m1 m2 m3 m4 m5 m6 hxl
      subst hbase1
      go_wp2_with fail
      go_at_call 82
      refine hcall.out.mono ?_
      rintro e w2 ⟨t, rfl, hxt, hO, hB2⟩
      clear c0 c1 c2 c3 c4' c5 c6 c7 c8 c9 c10 c11 hcall
      have hA2 := hA.out.below hB2
      have hz2' := hB2.size
      obtain ⟨W3, hW3⟩ : ∃ W3, w2.alloc (.cells #[.int .i64 t.kind, .string t.name, .int .i64 t.e.kind, .int .i64 t.e.num, .string t.e.name, .slice t.e.base t.e.kids.length t.e.cap, .int .i64 t.f.kind, .int .i64 t.f.num, .string t.f.name, .slice t.f.base t.f.kids.length t.f.cap, .slice t.abase t.la.length t.acap, .slice t.bbase t.lb.length t.bcap] 125) = W3 := ⟨_, rfl⟩
      have hB3 : Below w2.heap.size w2 W3 := by rw [← hW3]; exact (Below.refl _ _).alloc (Nat.le_refl _) _
      have hs3 : w2.heap.size + 1 = W3.heap.size := by rw [← hW3]; simp
      have hnewH : Hid (∀ j u, t.vals[j]? = some u → W3.cell? ((⟨w2.heap.size, 0, none⟩ : Addr).add j) = some u) := by
        have h := news12 w2 t 125
        rw [hW3] at h
        exact h
      have hA3 := hA2.below hB3
      have hO3 : OwnS1 W3 wr.heap.size w2.heap.size t := hO.mono (fun b q1 q2 => hB3.block b q2)
      have hzw := hB.size
      have hown3 : Hid (W3.ownsRow w.heap.size 125 12 v us.length (fl12 us)) := hA3.own
      go_wp2_with (at_builtin; refine wpList_append_back _ rfl _ _ 81 rfl w.heap.size 125 i0 _ 12 184 Tryz.underlying81 hi0 hz0 hz1 hz2 rfl (by decide) v us.length (fl12 us) rfl hown3.out ⟨w2.heap.size, 0, none⟩ 1 1 t.vals rfl rfl hnewH.out (by simp [Value.oneCell']) (by unfold maxLen; omega) (by omega) (by omega) (by omega) ?_; intro v' w4 hown' hback; (obtain ⟨g', cap', rfl⟩ := ownsRow_succ hown'); (have hB4 : Below w.heap.size w w4 := (bstep (bstep hB hB2) hB3).trans (hback.kept.below (by omega) (fun k hk => hk.elim (fun hk => (hA3.own.lt k hk).1) (fun hk => (hown'.lt k hk).1)))); (obtain ⟨c0, c1, c2, c3, c4', c5, c6, c7, c8, c9, c10, c11⟩ := hc1.below hB4 (hok b1 hok1)); (clear c0 c1 c2 c3 c4' c5 c6 c7 c8 c9))
      go_at_call 92
      refine (hHA.out _ hB4).mono ?_
      rintro e w5 ⟨va, ua, la, ha, rfl, hna, hsa, hAa, hB5⟩
      clear c10 c11 hHA
      obtain ⟨l1, h1, hP1⟩ : ∃ l1 h1, AccS w4 w.heap.size (.slice (some ⟨g', 0, none⟩) (us.length + 1) cap') (us ++ [t]) l1 h1 := ⟨_, _, hA3.push rfl hO3 (fun j hj => by have := (hA.out.int j hj).2.1; omega) (by omega) (by omega) (fun g hg => by have := (hA.out.own.lt g hg).2; omega) (by omega) hown' hback⟩
      have hP1' := hP1.below hB5
      have hz4 := hB4.size
      have hz5 := hB5.size
      obtain ⟨ga, ca, rfl, hnewA⟩ := hAa.cellsOf (n := 0) hna
      have hlA := hsa.1.symm
      have hnewA' : Hid (∀ j u, (fl12 ua)[j]? = some u → w5.cell? ((⟨ga, 0, none⟩ : Addr).add j) = some u) := hnewA
      clear hnewA hback hown' hown3 hnewH hA3 hA2 hO3 hO hB3 hW3
      have hownA : Hid (w5.ownsRow w.heap.size 125 12 (.slice (some ⟨g', 0, none⟩) (us.length + 1) cap') (us.length + 1) (fl12 (us ++ [t]))) := by have h := hP1'.own; rw [List.length_append, List.length_singleton] at h; exact h
      have hB05 := bstep hB4 hB5
      go_wp2_with (at_builtin; refine wpList_append0 _ rfl _ _ 81 rfl w.heap.size 125 i0 _ 12 184 Tryz.underlying81 hi0 hz0 hz1 hz2 rfl (by decide) (.slice (some ⟨g', 0, none⟩) (us.length + 1) cap') (us.length + 1) (fl12 (us ++ [t])) rfl hownA.out ⟨ga, 0, none⟩ ua.length ca (fl12 ua) rfl (fl12_length ua) hnewA'.out (fl12_one ua) (by unfold maxLen; omega) (by omega) (by omega) ?_; intro v6 w6 hown6 hback6; (have hB6 : Below w.heap.size w w6 := hB05.trans (hback6.1.below (by omega) (fun k hk => (hownA.out.lt k hk).1))); (obtain ⟨c0, c1, c2, c3, c4', c5, c6, c7, c8, c9, c10, c11⟩ := hc1.below hB6 (hok b1 hok1)); (clear c0 c1 c2 c3 c4' c5 c6 c7 c8 c9))
      go_at_call 92
      refine (hHB.out _ hB6).mono ?_
      rintro e w7 ⟨vb, ub, lb, hb, rfl, hnb, hsb, hAb, hB7⟩
      clear c10 c11 hHB
      obtain ⟨l2, h2, hP2⟩ : ∃ l2 h2, AccS w6 w.heap.size v6 ((us ++ [t]) ++ ua) l2 h2 := ⟨_, _, hP1'.pushAll hAa (fun j hj => (hP1.int j hj).2.1) (by omega) (fun g hg => (hP1.own.lt g hg).2) (by rw [List.length_append, List.length_singleton]; exact hown6) hback6⟩
      have hn6 : v6 ≠ .slice none 0 0 := hback6.2.2 (fun h => by cases h)
      have hP2' := hP2.below hB7
      have hz6 := hB6.size
      have hz7 := hB7.size
      obtain ⟨gb, cb, rfl, hnewB⟩ := hAb.cellsOf (n := 0) hnb
      have hlB := hsb.1.symm
      have hnewB' : Hid (∀ j u, (fl12 ub)[j]? = some u → w7.cell? ((⟨gb, 0, none⟩ : Addr).add j) = some u) := hnewB
      clear hnewB hback6 hown6 hownA hnewA' hP1' hAa
      have hownB : Hid (w7.ownsRow w.heap.size 125 12 v6 (us.length + 1 + ua.length) (fl12 ((us ++ [t]) ++ ua))) := by have h := hP2'.own; rw [List.length_append, List.length_append, List.length_singleton] at h; exact h
      have hB07 := bstep hB6 hB7
      go_wp2_with (at_builtin; refine wpList_append0 _ rfl _ _ 81 rfl w.heap.size 125 i0 _ 12 184 Tryz.underlying81 hi0 hz0 hz1 hz2 rfl (by decide) v6 (us.length + 1 + ua.length) (fl12 ((us ++ [t]) ++ ua)) rfl hownB.out ⟨gb, 0, none⟩ ub.length cb (fl12 ub) rfl (fl12_length ub) hnewB'.out (fl12_one ub) (by unfold maxLen; omega) (by omega) (by omega) ?_; intro v8 w8 hown8 hback8; (have hB8 : Below w.heap.size w w8 := hB07.trans (hback8.1.below (by omega) (fun k hk => (hownB.out.lt k hk).1))))
      have hP3 := hP2'.pushAll hAb (fun j hj => (hP2.int j hj).2.1) (by omega) (fun g hg => (hP2.own.lt g hg).2) (by rw [List.length_append, List.length_append, List.length_singleton]; exact hown8) hback8
      refine ⟨⟨i + 1, _, _, _, by go_num, by omega, hback8.2.2 hn6, ?_, hP3, hB8⟩, by simp [intOf]; omega⟩
      show SameL _ _
      rw [hfx, x.flat_eq]
      have h9 := ((hsm'.out.append (SameL.one hxt)).append hsa).append hsb
      simpa [List.append_assoc] using h9
    · have he : i = len := by omega
      go_wp2_with fail
      go_returns
      refine ⟨v, us, l, h, rfl, hnn.out, ?_, hA.out, hB⟩
      have h9 := hsm'.out
      rw [he, ← hl, List.take_length] at h9
      exact h9
end Go.Proofs.YtaajdoipjalgmaaGreatDoor
