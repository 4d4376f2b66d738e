/-
  A range over a function whose rounds are told that the loop's record lies, and a range over a function within a round of another one; no condition on the program.
-/
import Derived.Test.YtaajdoipjalgmaaGreatDoorTreeR
namespace Go.Proofs.YtaajdoipjalgmaaGreatDoor
open Go.RowKit Go.Shelf
set_option linter.unusedSimpArgs false
set_option linter.unusedVariables false

theorem range_lawM {α : Type} {P : Program} {n : Nat} {g : Operand} {ps : Array Tmp} {assign body : Code} {Q : Exit → Act → World → Prop} {a : Act} {w : World} {gf : Nat} {lb : Array Value}
    (hg : a.eval g = .func (.func gf) #[] lb) (eg : ∀ args w, (callFunc gf args).run P w = .ok (.enter gf args) w)
    (encs : α → Array Value) (hps : ∀ x, (encs x).size = ps.size) (xs : List α) (S : Nat → Prop) (I Ix : List α → World → Prop)
    (hS : ∀ k, S k → k < w.heap.size)
    (hI : ∀ pre A B, Below w.heap.size A B → I pre A → I pre B) (hIx : ∀ pre A B, Below w.heap.size A B → Ix pre A → Ix pre B) (h0 : I [] w)
    (hit : ∀ W, Below w.heap.size w W → w.heap.size + 2 ≤ W.heap.size → Iter P gf lb encs xs (fun k => S k ∨ k = w.heap.size + 1) W)
    (hround : ∀ (l m : Nat) (pre : List α) (x : α) (W : World), w.heap.size ≤ l → l < W.heap.size → I pre W → pre ++ [x] <+: xs →
      assign.wpIn (Fence.wide.inRound l) m P (Exit.then (fun a₁ w₁ => Below W.heap.size W w₁ ∧
          ∀ w₂, Kept (fun k => k = l) w₁ w₂ → (∃ r, w₂.heap[l]? = some (.loop r)) → I pre w₂ → body.wpIn (Fence.wide.inRound l) m P (roundQ S I Ix (pre ++ [x]) w₂) a₁ w₂) (fun _ _ _ => False))
        { tmps := (ps.zip (encs x)).foldl (fun t (p, v) => t.setIfInBounds p v) a.tmps, defers := [] } W)
    (hdone : ∀ (D : Nat) (W : World), D = w.heap.size → I xs W → Kept S w W → W.heap[D]? = some (.deferred (some [])) → Q .normal { a with defers := mark D :: a.defers } W)
    (hstop : ∀ (D : Nat) (pre : List α) (W : World), D = w.heap.size → pre <+: xs → Ix pre W → Kept S w W → W.heap[D]? = some (.deferred (some [])) → Q .ret { a with defers := mark D :: a.defers } W) :
    (Code.rangeFunc g ps assign body).wpIn Fence.wide n P Q a w := by
  refine wpIn_rangeFunc ?_
  intro fn hfn
  obtain ⟨rc, hrc⟩ : ∃ rc : LoopState → Option Code → Loop, rc = fun st pe => { state := st, pending := pe, fn, tmps := a.tmps, params := ps, assign, body, defers := w.heap.size } := ⟨_, rfl⟩
  obtain ⟨W1, hW1⟩ : ∃ W1, (w.alloc (.deferred (some []))).alloc (.loop (rc .ready none)) = W1 := ⟨_, rfl⟩
  have hs1 : W1.heap.size = w.heap.size + 2 := by rw [← hW1]; simp
  have hb1 : Below w.heap.size w W1 := by rw [← hW1]; exact ((Below.refl _ w).alloc (Nat.le_refl _) _).alloc (by simp) _
  have hl1 : W1.heap[w.heap.size + 1]? = some (.loop (rc .ready none)) := by
    rw [← hW1]; have := World.alloc_heap_new (w.alloc (.deferred (some []))) (.loop (rc .ready none)); rwa [World.size_alloc] at this
  have hd1 : W1.heap[w.heap.size]? = some (.deferred (some [])) := by
    rw [← hW1]; exact (Below.heap_alloc _ _ _ (by simp)).trans (World.alloc_heap_new w _)
  have hSl : ¬ S (w.heap.size + 1) := fun h => by have := hS _ h; omega
  have hSd : ¬ S w.heap.size := fun h => by have := hS _ h; omega
  refine ⟨w.heap.size + 1, [mark w.heap.size], W1, { target := .fn (.func gf) lb, args := #[.func (.yield (w.heap.size + 1)) #[] #[]] }, W1, gf,
    #[.func (.yield (w.heap.size + 1)) #[] #[]] ++ lb, W1, ?_, ?_, fun _ _ => trivial, ?_, (fun h => by cases h), ?_⟩
  · rw [← hW1, hrc]; exact run_enterLoop_outer _ _ _ _ _
  · simp only [resolve, hg]; simp [go_sem]
  · simp [invoke, go_sem, eg]
  · refine (hit W1 hb1 (by omega) (n - 1) (w.heap.size + 1)
      (fun pre W => I pre W ∧ W.heap[w.heap.size + 1]? = some (.loop (rc .ready none)) ∧ W.heap[w.heap.size]? = some (.deferred (some [])))
      (fun pre W => Ix pre W ∧ W.heap[w.heap.size + 1]? = some (.loop (rc .done (some .ret))) ∧ W.heap[w.heap.size]? = some (.deferred (some [])))
      (fun pre A B h hs => ⟨hI pre A B (h.mono (by omega)) hs.1, (h.block _ (by omega)).trans hs.2.1, (h.block _ (by omega)).trans hs.2.2⟩)
      (fun pre A B h hs => ⟨hIx pre A B (h.mono (by omega)) hs.1, (h.block _ (by omega)).trans hs.2.1, (h.block _ (by omega)).trans hs.2.2⟩)
      ?_ ⟨hI _ _ _ hb1 h0, hl1, hd1⟩).mono ?_
    · rintro m pre x W ⟨hi, hl, hd⟩ hpre
      have hlt : w.heap.size + 1 < W.heap.size := (Array.getElem?_eq_some_iff.1 hl).1
      have hy := run_yield (P := P) (args := encs x) hl (by rw [hrc]; exact hps x)
      rw [hrc] at hy
      refine ⟨fn, _, assign, body, hy, roundIn_of_wpIn hfn (wpIn_mono (hround _ m pre x W (Nat.le_succ _) hlt hi hpre) ?_)⟩
      clear hy
      rintro e a1 w1 hq
      cases e with
      | normal =>
        obtain ⟨hbw, hbody⟩ := hq
        have hl' := (hbw.block _ hlt).trans hl
        have hd' := (hbw.block _ (by omega)).trans hd
        have hlt' : w.heap.size + 1 < w1.heap.size := (Array.getElem?_eq_some_iff.1 hl').1
        refine ⟨_, run_beginRound hl' (by rw [hrc]), wpIn_mono (hbody _ ((Kept.refl (fun k => k = w.heap.size + 1) w1).putObj rfl _) ⟨_, World.putObj_heap_same hlt'⟩ (hI pre _ _ ?_ hi)) ?_⟩
        · exact (hbw.mono (by omega)).trans (((Kept.refl (fun k => k = w.heap.size + 1) w1).putObj rfl _).below (by omega) (fun k e => by omega))
        · have hl2 : (w1.putObj (w.heap.size + 1) (.loop { rc .ready none with state := .busy })).heap[w.heap.size + 1]? = some (.loop { rc .ready none with state := .busy }) := World.putObj_heap_same hlt'
          have hd2 : (w1.putObj (w.heap.size + 1) (.loop { rc .ready none with state := .busy })).heap[w.heap.size]? = some (.deferred (some [])) := (World.putObj_heap_other (by omega)).trans hd'
          have hk2 : Kept (fun k => S k ∨ k = w.heap.size + 1) W (w1.putObj (w.heap.size + 1) (.loop { rc .ready none with state := .busy })) := (Kept.of_new _ hbw).putObj (.inr rfl) _
          rintro e a2 w3 hq
          cases e with
          | normal =>
            obtain ⟨hk3, hi3⟩ := hq
            have hl3 := (hk3.block _ (Array.getElem?_eq_some_iff.1 hl2).1 hSl).trans hl2
            have hd3 := (hk3.block _ (Array.getElem?_eq_some_iff.1 hd2).1 hSd).trans hd2
            have hr := run_endRound (P := P) none hl3
            refine ⟨_, _, hr, (hk2.trans (hk3.mono fun k _ h => .inl h)).putObj (.inr rfl) _, .inl ⟨rfl, ?_, ?_, ?_⟩⟩
            · exact hI _ _ _ (((Kept.refl (fun k => k = w.heap.size + 1) w3).putObj rfl _).below (by have := (Array.getElem?_eq_some_iff.1 hl3).1; omega) (fun k e => by omega)) hi3
            · rw [hrc]; rw [hrc] at hl3; exact World.putObj_heap_same (Array.getElem?_eq_some_iff.1 hl3).1
            · exact (World.putObj_heap_other (by omega)).trans hd3
          | ret =>
            obtain ⟨hk3, hi3⟩ := hq
            have hl3 := (hk3.block _ (Array.getElem?_eq_some_iff.1 hl2).1 hSl).trans hl2
            have hd3 := (hk3.block _ (Array.getElem?_eq_some_iff.1 hd2).1 hSd).trans hd2
            have hr := run_endRound (P := P) (some .ret) hl3
            refine ⟨_, _, hr, (hk2.trans (hk3.mono fun k _ h => .inl h)).putObj (.inr rfl) _, .inr ⟨rfl, ?_, ?_, ?_⟩⟩
            · exact hIx _ _ _ (((Kept.refl (fun k => k = w.heap.size + 1) w3).putObj rfl _).below (by have := (Array.getElem?_eq_some_iff.1 hl3).1; omega) (fun k e => by omega)) hi3
            · rw [hrc]; rw [hrc] at hl3; exact World.putObj_heap_same (Array.getElem?_eq_some_iff.1 hl3).1
            · exact (World.putObj_heap_other (by omega)).trans hd3
          | exit id => exact hq.elim
          | goto t => exact hq.elim
          | panic ch => exact hq.elim
          | outgrown => exact hq.elim
      | ret => exact hq.elim
      | exit id => exact hq.elim
      | goto t => exact hq.elim
      | panic ch => exact hq.elim
      | outgrown => exact hq.elim
    · rintro e W2 ⟨⟨v, rfl⟩, hk, h⟩
      have hk2 : ∀ o, Kept S w (W2.putObj (w.heap.size + 1) o) := fun o =>
        (((Kept.of_new (fun k => S k ∨ k = w.heap.size + 1) hb1).trans hk).putObj (.inr rfl) o).mono fun k hk h => h.elim id (fun e => by omega)
      have tail : ∀ {o : Obj}, W2.heap[w.heap.size + 1]? = some o → ∀ o', Below w.heap.size W2 (W2.putObj (w.heap.size + 1) o') := fun ho o' =>
        ((Kept.refl (fun k => k = w.heap.size + 1) W2).putObj rfl _).below (by have := (Array.getElem?_eq_some_iff.1 ho).1; omega) (fun k e => by omega)
      rcases h with ⟨hi, hl, hd⟩ | ⟨pre, hpre, hi, hl, hd⟩
      · have hr := run_endLoop (P := P) hl (by rw [hrc]; simp)
        refine ⟨none, _, by rw [hr, hrc], ?_⟩
        exact hdone _ _ rfl (hI _ _ _ (tail hl _) hi) (hk2 _) ((World.putObj_heap_other (by omega)).trans hd)
      · have hr := run_endLoop (P := P) hl (by rw [hrc]; simp)
        refine ⟨some .ret, _, by rw [hr, hrc], ?_⟩
        exact wpIn_ret (hstop _ pre _ rfl hpre (hIx _ _ _ (tail hl _) hi) (hk2 _) ((World.putObj_heap_other (by omega)).trans hd))

theorem range_lawN {α : Type} {P : Program} {n : Nat} {g : Operand} {ps : Array Tmp} {assign body : Code} {Q : Exit → Act → World → Prop} {a : Act} {w : World} {gf : Nat} {lb : Array Value} {l₀ : Nat} {r₀ : Loop}
    (hl₀ : w.heap[l₀]? = some (.loop r₀)) (hg : a.eval g = .func (.func gf) #[] lb) (eg : ∀ args w, (callFunc gf args).run P w = .ok (.enter gf args) w)
    (encs : α → Array Value) (hps : ∀ x, (encs x).size = ps.size) (xs : List α) (S : Nat → Prop) (I Ix : List α → World → Prop)
    (hS : ∀ k, S k → k < w.heap.size)
    (hI : ∀ pre A B, Below w.heap.size A B → I pre A → I pre B) (hIx : ∀ pre A B, Below w.heap.size A B → Ix pre A → Ix pre B) (h0 : I [] w)
    (hit : ∀ W, Below w.heap.size w W → w.heap.size + 1 ≤ W.heap.size → Iter P gf lb encs xs (fun k => S k ∨ k = w.heap.size) W)
    (hround : ∀ (l m : Nat) (pre : List α) (x : α) (W : World), w.heap.size ≤ l → l < W.heap.size → I pre W → pre ++ [x] <+: xs →
      assign.wpIn (Fence.wide.inRound l) m P (Exit.then (fun a₁ w₁ => Below W.heap.size W w₁ ∧
          ∀ w₂, Kept (fun k => k = l) w₁ w₂ → (∃ r, w₂.heap[l]? = some (.loop r)) → I pre w₂ → body.wpIn (Fence.wide.inRound l) m P (roundQ S I Ix (pre ++ [x]) w₂) a₁ w₂) (fun _ _ _ => False))
        { tmps := (ps.zip (encs x)).foldl (fun t (p, v) => t.setIfInBounds p v) a.tmps, defers := [] } W)
    (hdone : ∀ (W : World), I xs W → Kept S w W → Q .normal a W)
    (hstop : ∀ (pre : List α) (W : World), pre <+: xs → Ix pre W → Kept S w W → Q .ret a W) :
    (Code.rangeFunc g ps assign body).wpIn (Fence.wide.inRound l₀) n P Q a w := by
  refine wpIn_rangeFunc ?_
  intro fn hfn
  obtain ⟨rc, hrc⟩ : ∃ rc : LoopState → Option Code → Loop, rc = fun st pe => { state := st, pending := pe, fn, tmps := a.tmps, params := ps, assign, body, defers := r₀.defers } := ⟨_, rfl⟩
  obtain ⟨W1, hW1⟩ : ∃ W1, w.alloc (.loop (rc .ready none)) = W1 := ⟨_, rfl⟩
  have hs1 : W1.heap.size = w.heap.size + 1 := by rw [← hW1]; simp
  have hb1 : Below w.heap.size w W1 := by rw [← hW1]; exact (Below.refl _ w).alloc (Nat.le_refl _) _
  have hl1 : W1.heap[w.heap.size]? = some (.loop (rc .ready none)) := by
    rw [← hW1]; exact World.alloc_heap_new w (.loop (rc .ready none))
  have hSl : ¬ S w.heap.size := fun h => by have := hS _ h; omega
  refine ⟨w.heap.size, [], W1, { target := .fn (.func gf) lb, args := #[.func (.yield w.heap.size) #[] #[]] }, W1, gf,
    #[.func (.yield w.heap.size) #[] #[]] ++ lb, W1, ?_, ?_, fun _ _ => trivial, ?_, (fun h => by cases h), ?_⟩
  · rw [← hW1, hrc]; exact run_enterLoop_inner hl₀ _ _ _ _ _
  · simp only [resolve, hg]; simp [go_sem]
  · simp [invoke, go_sem, eg]
  · refine (CallsIn.inRound l₀ (hit W1 hb1 (by omega) (n - 1) w.heap.size
      (fun pre W => I pre W ∧ W.heap[w.heap.size]? = some (.loop (rc .ready none)))
      (fun pre W => Ix pre W ∧ W.heap[w.heap.size]? = some (.loop (rc .done (some .ret))))
      (fun pre A B h hs => ⟨hI pre A B (h.mono (by omega)) hs.1, (h.block _ (by omega)).trans hs.2⟩)
      (fun pre A B h hs => ⟨hIx pre A B (h.mono (by omega)) hs.1, (h.block _ (by omega)).trans hs.2⟩)
      ?_ ⟨hI _ _ _ hb1 h0, hl1⟩)).mono ?_
    · rintro m pre x W ⟨hi, hl⟩ hpre
      have hlt : w.heap.size < W.heap.size := (Array.getElem?_eq_some_iff.1 hl).1
      have hy := run_yield (P := P) (args := encs x) hl (by rw [hrc]; exact hps x)
      rw [hrc] at hy
      refine ⟨fn, _, assign, body, hy, roundIn_of_wpIn hfn (wpIn_mono (hround _ m pre x W (Nat.le_refl _) hlt hi hpre) ?_)⟩
      clear hy
      rintro e a1 w1 hq
      cases e with
      | normal =>
        obtain ⟨hbw, hbody⟩ := hq
        have hl' := (hbw.block _ hlt).trans hl
        have hlt' : w.heap.size < w1.heap.size := (Array.getElem?_eq_some_iff.1 hl').1
        refine ⟨_, run_beginRound hl' (by rw [hrc]), wpIn_mono (hbody _ ((Kept.refl (fun k => k = w.heap.size) w1).putObj rfl _) ⟨_, World.putObj_heap_same hlt'⟩ (hI pre _ _ ?_ hi)) ?_⟩
        · exact (hbw.mono (by omega)).trans (((Kept.refl (fun k => k = w.heap.size) w1).putObj rfl _).below (by omega) (fun k e => by omega))
        · have hl2 : (w1.putObj w.heap.size (.loop { rc .ready none with state := .busy })).heap[w.heap.size]? = some (.loop { rc .ready none with state := .busy }) := World.putObj_heap_same hlt'
          have hk2 : Kept (fun k => S k ∨ k = w.heap.size) W (w1.putObj w.heap.size (.loop { rc .ready none with state := .busy })) := (Kept.of_new _ hbw).putObj (.inr rfl) _
          rintro e a2 w3 hq
          cases e with
          | normal =>
            obtain ⟨hk3, hi3⟩ := hq
            have hl3 := (hk3.block _ (Array.getElem?_eq_some_iff.1 hl2).1 hSl).trans hl2
            have hr := run_endRound (P := P) none hl3
            refine ⟨_, _, hr, (hk2.trans (hk3.mono fun k _ h => .inl h)).putObj (.inr rfl) _, .inl ⟨rfl, ?_, ?_⟩⟩
            · exact hI _ _ _ (((Kept.refl (fun k => k = w.heap.size) w3).putObj rfl _).below (by have := (Array.getElem?_eq_some_iff.1 hl3).1; omega) (fun k e => by omega)) hi3
            · rw [hrc]; rw [hrc] at hl3; exact World.putObj_heap_same (Array.getElem?_eq_some_iff.1 hl3).1
          | ret =>
            obtain ⟨hk3, hi3⟩ := hq
            have hl3 := (hk3.block _ (Array.getElem?_eq_some_iff.1 hl2).1 hSl).trans hl2
            have hr := run_endRound (P := P) (some .ret) hl3
            refine ⟨_, _, hr, (hk2.trans (hk3.mono fun k _ h => .inl h)).putObj (.inr rfl) _, .inr ⟨rfl, ?_, ?_⟩⟩
            · exact hIx _ _ _ (((Kept.refl (fun k => k = w.heap.size) w3).putObj rfl _).below (by have := (Array.getElem?_eq_some_iff.1 hl3).1; omega) (fun k e => by omega)) hi3
            · rw [hrc]; rw [hrc] at hl3; exact World.putObj_heap_same (Array.getElem?_eq_some_iff.1 hl3).1
          | exit id => exact hq.elim
          | goto t => exact hq.elim
          | panic ch => exact hq.elim
          | outgrown => exact hq.elim
      | ret => exact hq.elim
      | exit id => exact hq.elim
      | goto t => exact hq.elim
      | panic ch => exact hq.elim
      | outgrown => exact hq.elim
    · rintro e W2 ⟨⟨v, rfl⟩, hk, h⟩
      have hk2 : ∀ o, Kept S w (W2.putObj w.heap.size o) := fun o =>
        (((Kept.of_new (fun k => S k ∨ k = w.heap.size) hb1).trans hk).putObj (.inr rfl) o).mono fun k hk h => h.elim id (fun e => by omega)
      have tail : ∀ {o : Obj}, W2.heap[w.heap.size]? = some o → ∀ o', Below w.heap.size W2 (W2.putObj w.heap.size o') := fun ho o' =>
        ((Kept.refl (fun k => k = w.heap.size) W2).putObj rfl _).below (by have := (Array.getElem?_eq_some_iff.1 ho).1; omega) (fun k e => by omega)
      rcases h with ⟨hi, hl⟩ | ⟨pre, hpre, hi, hl⟩
      · have hr := run_endLoop (P := P) hl (by rw [hrc]; simp)
        refine ⟨none, _, by rw [hr, hrc], ?_⟩
        exact hdone _ (hI _ _ _ (tail hl _) hi) (hk2 _)
      · have hr := run_endLoop (P := P) hl (by rw [hrc]; simp)
        refine ⟨some .ret, _, by rw [hr, hrc], ?_⟩
        exact wpIn_ret (hstop pre _ hpre (hIx _ _ _ (tail hl _) hi) (hk2 _))
end Go.Proofs.YtaajdoipjalgmaaGreatDoor
