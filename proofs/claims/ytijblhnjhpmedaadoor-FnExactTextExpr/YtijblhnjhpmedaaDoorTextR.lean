/-
  A range over a function whose rounds end or return, at the wide fence, where rounds may write whatever is new since the loop began, and the iterator has no memory of its own; no condition on the program.
-/
import Derived.Test.YtijblhnjhpmedaaDoorTreeR
namespace Go.Proofs.YtijblhnjhpmedaaDoor
open Go.RowKit Go.Shelf
set_option linter.unusedSimpArgs false
set_option linter.unusedVariables false

def Iter2 {α : Type} (P : Program) (gf : Nat) (lb : Array Value) (encs : α → Array Value) (xs : List α) (S : Nat → Prop) (W : World) : Prop :=
  ∀ (n l : Nat) (J Jx : List α → World → Prop),
    (∀ pre A B, Kept (fun _ => False) A B → J pre A → J pre B) → (∀ pre A B, Kept (fun _ => False) A B → Jx pre A → Jx pre B) →
    (∀ m pre x W1, J pre W1 → pre ++ [x] <+: xs → YieldAt Fence.wide m P l (encs x) W1 fun e W' =>
      Kept S W1 W' ∧ ((e = .returned (.bool true) ∧ J (pre ++ [x]) W') ∨ (e = .returned (.bool false) ∧ Jx (pre ++ [x]) W'))) →
    J [] W →
    CallsIn Fence.wide n P gf (#[.func (.yield l) #[] #[]] ++ lb) W fun e W' => (∃ v, e = .returned v) ∧ Kept S W W' ∧ (J xs W' ∨ ∃ pre, pre <+: xs ∧ Jx pre W')

theorem range_law2 {α : Type} {P : Program} {n : Nat} {g : Operand} {ps : Array Tmp} {assign body : Code} {Q : Exit → Act → World → Prop} {a : Act} {w : World} {gf : Nat} {lb : Array Value}
    (hg : a.eval g = .func (.func gf) #[] lb) (eg : ∀ args w, (callFunc gf args).run P w = .ok (.enter gf args) w)
    (encs : α → Array Value) (hps : ∀ x, (encs x).size = ps.size) (xs : List α) (S : Nat → Prop) (I Ix : List α → World → Prop)
    (hSd : ¬ S w.heap.size) (hSl : ¬ S (w.heap.size + 1))
    (hI : ∀ pre A B, Kept (fun k => k = w.heap.size + 1) A B → I pre A → I pre B) (hIx : ∀ pre A B, Kept (fun k => k = w.heap.size + 1) A B → Ix pre A → Ix pre B) (h0 : I [] w)
    (hit : ∀ W, Below w.heap.size w W → w.heap.size + 2 ≤ W.heap.size → Iter2 P gf lb encs xs (fun k => S k ∨ k = w.heap.size + 1) W)
    (hround : ∀ (l m : Nat) (pre : List α) (x : α) (W : World), l = w.heap.size + 1 → l < W.heap.size → I pre W → pre ++ [x] <+: xs →
      assign.wpIn (Fence.wide.inRound l) m P (Exit.then (fun a₁ w₁ => Below W.heap.size W w₁ ∧
          ∀ w₂, Kept (fun k => k = l) w₁ w₂ → I pre w₂ → body.wpIn (Fence.wide.inRound l) m P (roundQ S I Ix (pre ++ [x]) w₂) a₁ w₂) (fun _ _ _ => False))
        { tmps := (ps.zip (encs x)).foldl (fun t (p, v) => t.setIfInBounds p v) a.tmps, defers := [] } W)
    (hdone : ∀ (D : Nat) (W : World), D = w.heap.size → I xs W → Kept S w W → W.heap[D]? = some (.deferred (some [])) → Q .normal { a with defers := mark D :: a.defers } W)
    (hstop : ∀ (D : Nat) (pre : List α) (W : World), D = w.heap.size → pre <+: xs → Ix pre W → Kept S w W → W.heap[D]? = some (.deferred (some [])) → Q .ret { a with defers := mark D :: a.defers } W) :
    (Code.rangeFunc g ps assign body).wpIn Fence.wide n P Q a w := by
  refine wpIn_rangeFunc ?_
  intro fn hfn
  obtain ⟨rc, hrc⟩ : ∃ rc : LoopState → Option Code → Loop, rc = fun st pe => { state := st, pending := pe, fn, tmps := a.tmps, params := ps, assign, body, defers := w.heap.size } := ⟨_, rfl⟩
  obtain ⟨W1, hW1⟩ : ∃ W1, (w.alloc (.deferred (some []))).alloc (.loop (rc .ready none)) = W1 := ⟨_, rfl⟩
  have hs1 : W1.heap.size = w.heap.size + 2 := by rw [← hW1]; simp
  have hb1 : Below w.heap.size w W1 := by rw [← hW1]; exact ((Below.refl _ w).alloc (Nat.le_refl _) _).alloc (by simp) _
  have hl1 : W1.heap[w.heap.size + 1]? = some (.loop (rc .ready none)) := by
    rw [← hW1]; have := World.alloc_heap_new (w.alloc (.deferred (some []))) (.loop (rc .ready none)); rwa [World.size_alloc] at this
  have hd1 : W1.heap[w.heap.size]? = some (.deferred (some [])) := by
    rw [← hW1]; exact (Below.heap_alloc _ _ _ (by simp)).trans (World.alloc_heap_new w _)
  refine ⟨w.heap.size + 1, [mark w.heap.size], W1, { target := .fn (.func gf) lb, args := #[.func (.yield (w.heap.size + 1)) #[] #[]] }, W1, gf,
    #[.func (.yield (w.heap.size + 1)) #[] #[]] ++ lb, W1, ?_, ?_, fun _ _ => trivial, ?_, (fun h => by cases h), ?_⟩
  · rw [← hW1, hrc]; exact run_enterLoop_outer _ _ _ _ _
  · simp only [resolve, hg]; simp [go_sem]
  · simp [invoke, go_sem, eg]
  · refine (hit W1 hb1 (by omega) (n - 1) (w.heap.size + 1)
      (fun pre W => I pre W ∧ W.heap[w.heap.size + 1]? = some (.loop (rc .ready none)) ∧ W.heap[w.heap.size]? = some (.deferred (some [])))
      (fun pre W => Ix pre W ∧ W.heap[w.heap.size + 1]? = some (.loop (rc .done (some .ret))) ∧ W.heap[w.heap.size]? = some (.deferred (some [])))
      (fun pre A B h hs => ⟨hI pre A B (h.mono (fun k _ h => h.elim)) hs.1, (h.block _ (Array.getElem?_eq_some_iff.1 hs.2.1).1 id).trans hs.2.1, (h.block _ (Array.getElem?_eq_some_iff.1 hs.2.2).1 id).trans hs.2.2⟩)
      (fun pre A B h hs => ⟨hIx pre A B (h.mono (fun k _ h => h.elim)) hs.1, (h.block _ (Array.getElem?_eq_some_iff.1 hs.2.1).1 id).trans hs.2.1, (h.block _ (Array.getElem?_eq_some_iff.1 hs.2.2).1 id).trans hs.2.2⟩)
      ?_ ⟨hI _ _ _ (Kept.of_new _ hb1) h0, hl1, hd1⟩).mono ?_
    · rintro m pre x W ⟨hi, hl, hd⟩ hpre
      have hlt : w.heap.size + 1 < W.heap.size := (Array.getElem?_eq_some_iff.1 hl).1
      have hy := run_yield (P := P) (args := encs x) hl (by rw [hrc]; exact hps x)
      rw [hrc] at hy
      refine ⟨fn, _, assign, body, hy, roundIn_of_wpIn hfn (wpIn_mono (hround _ m pre x W rfl hlt hi hpre) ?_)⟩
      clear hy
      rintro e a1 w1 hq
      cases e with
      | normal =>
        obtain ⟨hbw, hbody⟩ := hq
        have hl' := (hbw.block _ hlt).trans hl
        have hd' := (hbw.block _ (by omega)).trans hd
        have hlt' : w.heap.size + 1 < w1.heap.size := (Array.getElem?_eq_some_iff.1 hl').1
        refine ⟨_, run_beginRound hl' (by rw [hrc]), wpIn_mono (hbody _ ((Kept.refl (fun k => k = w.heap.size + 1) w1).putObj rfl _) (hI pre _ _ ?_ hi)) ?_⟩
        · exact (Kept.of_new _ hbw).trans ((Kept.refl (fun k => k = w.heap.size + 1) w1).putObj rfl _)
        · have hl2 : (w1.putObj (w.heap.size + 1) (.loop { rc .ready none with state := .busy })).heap[w.heap.size + 1]? = some (.loop { rc .ready none with state := .busy }) := World.putObj_heap_same hlt'
          have hd2 : (w1.putObj (w.heap.size + 1) (.loop { rc .ready none with state := .busy })).heap[w.heap.size]? = some (.deferred (some [])) := (World.putObj_heap_other (by omega)).trans hd'
          have hk2 : Kept (fun k => S k ∨ k = w.heap.size + 1) W (w1.putObj (w.heap.size + 1) (.loop { rc .ready none with state := .busy })) := (Kept.of_new _ hbw).putObj (.inr rfl) _
          rintro e a2 w3 hq
          cases e with
          | normal =>
            obtain ⟨hk3, hi3⟩ := hq
            have hl3 := (hk3.block _ (Array.getElem?_eq_some_iff.1 hl2).1 hSl).trans hl2
            have hd3 := (hk3.block _ (Array.getElem?_eq_some_iff.1 hd2).1 hSd).trans hd2
            have hr := run_endRound (P := P) none hl3
            refine ⟨_, _, hr, (hk2.trans (hk3.mono fun k _ h => .inl h)).putObj (.inr rfl) _, .inl ⟨rfl, ?_, ?_, ?_⟩⟩
            · exact hI _ _ _ ((Kept.refl (fun k => k = w.heap.size + 1) w3).putObj rfl _) hi3
            · rw [hrc]; rw [hrc] at hl3; exact World.putObj_heap_same (Array.getElem?_eq_some_iff.1 hl3).1
            · exact (World.putObj_heap_other (by omega)).trans hd3
          | ret =>
            obtain ⟨hk3, hi3⟩ := hq
            have hl3 := (hk3.block _ (Array.getElem?_eq_some_iff.1 hl2).1 hSl).trans hl2
            have hd3 := (hk3.block _ (Array.getElem?_eq_some_iff.1 hd2).1 hSd).trans hd2
            have hr := run_endRound (P := P) (some .ret) hl3
            refine ⟨_, _, hr, (hk2.trans (hk3.mono fun k _ h => .inl h)).putObj (.inr rfl) _, .inr ⟨rfl, ?_, ?_, ?_⟩⟩
            · exact hIx _ _ _ ((Kept.refl (fun k => k = w.heap.size + 1) w3).putObj rfl _) hi3
            · rw [hrc]; rw [hrc] at hl3; exact World.putObj_heap_same (Array.getElem?_eq_some_iff.1 hl3).1
            · exact (World.putObj_heap_other (by omega)).trans hd3
          | exit id => exact hq.elim
          | goto t => exact hq.elim
          | panic ch => exact hq.elim
          | outgrown => exact hq.elim
      | ret => exact hq.elim
      | exit id => exact hq.elim
      | goto t => exact hq.elim
      | panic ch => exact hq.elim
      | outgrown => exact hq.elim
    · rintro e W2 ⟨⟨v, rfl⟩, hk, h⟩
      have hk2 : ∀ o, Kept S w (W2.putObj (w.heap.size + 1) o) := fun o =>
        (((Kept.of_new (fun k => S k ∨ k = w.heap.size + 1) hb1).trans hk).putObj (.inr rfl) o).mono fun k hk h => h.elim id (fun e => by omega)
      have tail : ∀ o', Kept (fun k => k = w.heap.size + 1) W2 (W2.putObj (w.heap.size + 1) o') := fun o' => (Kept.refl (fun k => k = w.heap.size + 1) W2).putObj rfl _
      rcases h with ⟨hi, hl, hd⟩ | ⟨pre, hpre, hi, hl, hd⟩
      · have hr := run_endLoop (P := P) hl (by rw [hrc]; simp)
        refine ⟨none, _, by rw [hr, hrc], ?_⟩
        exact hdone _ _ rfl (hI _ _ _ (tail _) hi) (hk2 _) ((World.putObj_heap_other (by omega)).trans hd)
      · have hr := run_endLoop (P := P) hl (by rw [hrc]; simp)
        refine ⟨some .ret, _, by rw [hr, hrc], ?_⟩
        exact wpIn_ret (hstop _ pre _ rfl hpre (hIx _ _ _ (tail _) hi) (hk2 _) ((World.putObj_heap_other (by omega)).trans hd))

end Go.Proofs.YtijblhnjhpmedaaDoor
