/-
  A range over a function whose rounds end or return, at the wide fence, where rounds may write a set of blocks and besides what earlier rounds made and own; the iterator may itself range over a function; no condition on the program.
  The program's walk through a list of statements, as OkI has it, for rounds that write besides into what earlier rounds made.
-/
import Derived.Test.YtimfdfeleoaehaaTreeR
import Derived.Test.YtimfdfeleoaehaaOkI
namespace Go.Proofs.Ytimfdfeleoaehaa
open Go.RowKit Go.Shelf
set_option linter.unusedSimpArgs false
set_option linter.unusedVariables false

/-- What may be written: all but the blocks below n and those that are owned. -/
def off (n : Nat) (O : Nat → Prop) (k : Nat) : Prop := ¬ (k < n ∨ O k)
theorem off_mono {n n' : Nat} {O : Nat → Prop} {A B : World} (h : Kept (off n' O) A B) (hn : n ≤ n') : Kept (off n O) A B :=
  h.mono fun k _ hk hh => hk (hh.elim (fun a => .inl (by omega)) .inr)
theorem off_of {n : Nat} {O S : Nat → Prop} {A B : World} (h : Kept S A B) (hS : ∀ k, S k → n ≤ k ∧ ¬ O k) : Kept (off n O) A B :=
  h.mono fun k _ hk hh => hh.elim (fun a => by have := (hS k hk).1; omega) (hS k hk).2
theorem off_block {n : Nat} {O : Nat → Prop} {A B : World} (h : Kept (off n O) A B) {k : Nat} (hk : k < A.heap.size) (hn : k < n ∨ O k) : B.heap[k]? = A.heap[k]? := h.block k hk (fun h9 => h9 hn)

def Iter3 {α : Type} (P : Program) (gf : Nat) (lb : Array Value) (encs : α → Array Value) (xs : List α) (S O0 : Nat → Prop) (W : World) : Prop :=
  ∀ (n l : Nat) (J Jx : List α → (Nat → Prop) → World → Prop),
    (∀ pre O A B, Kept (off W.heap.size O) A B → J pre O A → J pre O B) → (∀ pre O A B, Kept (off W.heap.size O) A B → Jx pre O A → Jx pre O B) →
    (∀ pre O A, J pre O A → ∀ k, O k → k < A.heap.size) →
    (∀ m pre x O W1, J pre O W1 → pre ++ [x] <+: xs → YieldAt Fence.wide m P l (encs x) W1 fun e W' =>
      ∃ O' : Nat → Prop, (∀ k, O' k → O k ∨ W1.heap.size ≤ k) ∧ Kept (fun k => S k ∨ O k) W1 W' ∧ ((e = .returned (.bool true) ∧ J (pre ++ [x]) O' W') ∨ (e = .returned (.bool false) ∧ Jx (pre ++ [x]) O' W'))) →
    J [] O0 W →
    CallsIn Fence.wide n P gf (#[.func (.yield l) #[] #[]] ++ lb) W fun e W' => (∃ v, e = .returned v) ∧ ∃ O' : Nat → Prop, (∀ k, O' k → O0 k ∨ W.heap.size ≤ k) ∧ Kept (fun k => S k ∨ O0 k) W W' ∧ (J xs O' W' ∨ ∃ pre, pre <+: xs ∧ Jx pre O' W')

def roundQ3 {α : Type} (S O : Nat → Prop) (I Ix : List α → (Nat → Prop) → World → Prop) (xs : List α) (W : World) : Exit → Act → World → Prop
  | .normal, _, W' => ∃ O' : Nat → Prop, (∀ k, O' k → O k ∨ W.heap.size ≤ k) ∧ Kept (fun k => S k ∨ O k) W W' ∧ I xs O' W'
  | .ret, _, W' => ∃ O' : Nat → Prop, (∀ k, O' k → O k ∨ W.heap.size ≤ k) ∧ Kept (fun k => S k ∨ O k) W W' ∧ Ix xs O' W'
  | _, _, _ => False

theorem range_law3 {α : Type} {P : Program} {n : Nat} {g : Operand} {ps : Array Tmp} {assign body : Code} {Q : Exit → Act → World → Prop} {a : Act} {w : World} {gf : Nat} {lb : Array Value}
    (hg : a.eval g = .func (.func gf) #[] lb) (eg : ∀ args w, (callFunc gf args).run P w = .ok (.enter gf args) w)
    (encs : α → Array Value) (hps : ∀ x, (encs x).size = ps.size) (xs : List α) (S O0 : Nat → Prop) (I Ix : List α → (Nat → Prop) → World → Prop)
    (hS : ∀ k, S k → k < w.heap.size)
    (hI : ∀ pre O A B, Kept (off w.heap.size O) A B → I pre O A → I pre O B) (hIx : ∀ pre O A B, Kept (off w.heap.size O) A B → Ix pre O A → Ix pre O B)
    (hIO : ∀ pre O A, I pre O A → ∀ k, O k → k < A.heap.size) (h0 : I [] O0 w)
    (hit : ∀ W, Below w.heap.size w W → w.heap.size + 2 ≤ W.heap.size → Iter3 P gf lb encs xs (fun k => S k ∨ k = w.heap.size + 1) O0 W)
    (hround : ∀ (l m : Nat) (pre : List α) (x : α) (O : Nat → Prop) (W : World), w.heap.size ≤ l → l < W.heap.size → ¬ O l → I pre O W → pre ++ [x] <+: xs →
      assign.wpIn (Fence.wide.inRound l) m P (Exit.then (fun a₁ w₁ => Below W.heap.size W w₁ ∧
          ∀ w₂, Kept (fun k => k = l) w₁ w₂ → I pre O w₂ → body.wpIn (Fence.wide.inRound l) m P (roundQ3 S O I Ix (pre ++ [x]) w₂) a₁ w₂) (fun _ _ _ => False))
        { tmps := (ps.zip (encs x)).foldl (fun t (p, v) => t.setIfInBounds p v) a.tmps, defers := [] } W)
    (hdone : ∀ (D : Nat) (O : Nat → Prop) (W : World), D = w.heap.size → (∀ k, O k → O0 k ∨ w.heap.size + 2 ≤ k) → I xs O W → Kept (fun k => S k ∨ O0 k) w W → W.heap[D]? = some (.deferred (some [])) → Q .normal { a with defers := mark D :: a.defers } W)
    (hstop : ∀ (D : Nat) (pre : List α) (O : Nat → Prop) (W : World), D = w.heap.size → pre <+: xs → (∀ k, O k → O0 k ∨ w.heap.size + 2 ≤ k) → Ix pre O W → Kept (fun k => S k ∨ O0 k) w W → W.heap[D]? = some (.deferred (some [])) → Q .ret { a with defers := mark D :: a.defers } W) :
    (Code.rangeFunc g ps assign body).wpIn Fence.wide n P Q a w := by
  refine wpIn_rangeFunc ?_
  intro fn hfn
  obtain ⟨rc, hrc⟩ : ∃ rc : LoopState → Option Code → Loop, rc = fun st pe => { state := st, pending := pe, fn, tmps := a.tmps, params := ps, assign, body, defers := w.heap.size } := ⟨_, rfl⟩
  obtain ⟨W1, hW1⟩ : ∃ W1, (w.alloc (.deferred (some []))).alloc (.loop (rc .ready none)) = W1 := ⟨_, rfl⟩
  have hs1 : W1.heap.size = w.heap.size + 2 := by rw [← hW1]; simp
  have hb1 : Below w.heap.size w W1 := by rw [← hW1]; exact ((Below.refl _ w).alloc (Nat.le_refl _) _).alloc (by simp) _
  have hl1 : W1.heap[w.heap.size + 1]? = some (.loop (rc .ready none)) := by
    rw [← hW1]; have := World.alloc_heap_new (w.alloc (.deferred (some []))) (.loop (rc .ready none)); rwa [World.size_alloc] at this
  have hd1 : W1.heap[w.heap.size]? = some (.deferred (some [])) := by
    rw [← hW1]; exact (Below.heap_alloc _ _ _ (by simp)).trans (World.alloc_heap_new w _)
  have hSl : ¬ S (w.heap.size + 1) := fun h => by have := hS _ h; omega
  have hSd : ¬ S w.heap.size := fun h => by have := hS _ h; omega
  have hO0 := hIO _ _ _ h0
  have nl0 : ¬ O0 (w.heap.size + 1) := fun h => by have := hO0 _ h; omega
  have nd0 : ¬ O0 w.heap.size := fun h => by have := hO0 _ h; omega
  refine ⟨w.heap.size + 1, [mark w.heap.size], W1, { target := .fn (.func gf) lb, args := #[.func (.yield (w.heap.size + 1)) #[] #[]] }, W1, gf,
    #[.func (.yield (w.heap.size + 1)) #[] #[]] ++ lb, W1, ?_, ?_, fun _ _ => trivial, ?_, (fun h => by cases h), ?_⟩
  · rw [← hW1, hrc]; exact run_enterLoop_outer _ _ _ _ _
  · simp only [resolve, hg]; simp [go_sem]
  · simp [invoke, go_sem, eg]
  · refine (hit W1 hb1 (by omega) (n - 1) (w.heap.size + 1)
      (fun pre O W => I pre O W ∧ W.heap[w.heap.size + 1]? = some (.loop (rc .ready none)) ∧ W.heap[w.heap.size]? = some (.deferred (some [])) ∧ ¬ O (w.heap.size + 1) ∧ ¬ O w.heap.size)
      (fun pre O W => Ix pre O W ∧ W.heap[w.heap.size + 1]? = some (.loop (rc .done (some .ret))) ∧ W.heap[w.heap.size]? = some (.deferred (some [])) ∧ ¬ O (w.heap.size + 1) ∧ ¬ O w.heap.size)
      (fun pre O A B h hs => ⟨hI pre O A B (off_mono h (by omega)) hs.1, (off_block h (Array.getElem?_eq_some_iff.1 hs.2.1).1 (.inl (by omega))).trans hs.2.1, (off_block h (Array.getElem?_eq_some_iff.1 hs.2.2.1).1 (.inl (by omega))).trans hs.2.2.1, hs.2.2.2⟩)
      (fun pre O A B h hs => ⟨hIx pre O A B (off_mono h (by omega)) hs.1, (off_block h (Array.getElem?_eq_some_iff.1 hs.2.1).1 (.inl (by omega))).trans hs.2.1, (off_block h (Array.getElem?_eq_some_iff.1 hs.2.2.1).1 (.inl (by omega))).trans hs.2.2.1, hs.2.2.2⟩)
      (fun pre O A hs => hIO _ _ _ hs.1)
      ?_ ⟨hI _ _ _ _ (Kept.of_new _ hb1) h0, hl1, hd1, nl0, nd0⟩).mono ?_
    · rintro m pre x O W ⟨hi, hl, hd, nl, nd⟩ hpre
      have hlt : w.heap.size + 1 < W.heap.size := (Array.getElem?_eq_some_iff.1 hl).1
      have hy := run_yield (P := P) (args := encs x) hl (by rw [hrc]; exact hps x)
      rw [hrc] at hy
      refine ⟨fn, _, assign, body, hy, roundIn_of_wpIn hfn (wpIn_mono (hround _ m pre x O W (Nat.le_succ _) hlt nl hi hpre) ?_)⟩
      clear hy
      rintro e a1 w1 hq
      cases e with
      | normal =>
        obtain ⟨hbw, hbody⟩ := hq
        have hl' := (hbw.block _ hlt).trans hl
        have hd' := (hbw.block _ (by omega)).trans hd
        have hlt' : w.heap.size + 1 < w1.heap.size := (Array.getElem?_eq_some_iff.1 hl').1
        have hbs := hbw.size
        refine ⟨_, run_beginRound hl' (by rw [hrc]), wpIn_mono (hbody _ ((Kept.refl (fun k => k = w.heap.size + 1) w1).putObj rfl _) (hI pre O _ _ ?_ hi)) ?_⟩
        · exact (Kept.of_new _ hbw).trans (off_of ((Kept.refl (fun k => k = w.heap.size + 1) w1).putObj rfl _) (fun k e => ⟨by omega, e ▸ nl⟩))
        · have hl2 : (w1.putObj (w.heap.size + 1) (.loop { rc .ready none with state := .busy })).heap[w.heap.size + 1]? = some (.loop { rc .ready none with state := .busy }) := World.putObj_heap_same hlt'
          have hd2 : (w1.putObj (w.heap.size + 1) (.loop { rc .ready none with state := .busy })).heap[w.heap.size]? = some (.deferred (some [])) := (World.putObj_heap_other (by omega)).trans hd'
          have hk2 : Kept (fun k => (S k ∨ k = w.heap.size + 1) ∨ O k) W (w1.putObj (w.heap.size + 1) (.loop { rc .ready none with state := .busy })) := (Kept.of_new _ hbw).putObj (.inl (.inr rfl)) _
          have hz2 : (w1.putObj (w.heap.size + 1) (.loop { rc .ready none with state := .busy })).heap.size = w1.heap.size := by simp
          rintro e a2 w3 hq
          cases e with
          | normal =>
            obtain ⟨O', hO', hk3, hi3⟩ := hq
            rw [hz2] at hO'
            have nl' : ¬ O' (w.heap.size + 1) := fun h => (hO' _ h).elim nl (fun h => by omega)
            have nd' : ¬ O' w.heap.size := fun h => (hO' _ h).elim nd (fun h => by omega)
            have hl3 := (hk3.block _ (Array.getElem?_eq_some_iff.1 hl2).1 (fun h => h.elim hSl nl)).trans hl2
            have hd3 := (hk3.block _ (Array.getElem?_eq_some_iff.1 hd2).1 (fun h => h.elim hSd nd)).trans hd2
            have hr := run_endRound (P := P) none hl3
            refine ⟨_, _, hr, O', fun k hk => (hO' k hk).imp id (fun h => by omega), (hk2.trans (hk3.mono fun k _ h => h.imp .inl id)).putObj (.inl (.inr rfl)) _, .inl ⟨rfl, ?_, ?_, ?_, nl', nd'⟩⟩
            · exact hI _ _ _ _ (off_of ((Kept.refl (fun k => k = w.heap.size + 1) w3).putObj rfl _) (fun k e => ⟨by omega, e ▸ nl'⟩)) hi3
            · rw [hrc]; rw [hrc] at hl3; exact World.putObj_heap_same (Array.getElem?_eq_some_iff.1 hl3).1
            · exact (World.putObj_heap_other (by omega)).trans hd3
          | ret =>
            obtain ⟨O', hO', hk3, hi3⟩ := hq
            rw [hz2] at hO'
            have nl' : ¬ O' (w.heap.size + 1) := fun h => (hO' _ h).elim nl (fun h => by omega)
            have nd' : ¬ O' w.heap.size := fun h => (hO' _ h).elim nd (fun h => by omega)
            have hl3 := (hk3.block _ (Array.getElem?_eq_some_iff.1 hl2).1 (fun h => h.elim hSl nl)).trans hl2
            have hd3 := (hk3.block _ (Array.getElem?_eq_some_iff.1 hd2).1 (fun h => h.elim hSd nd)).trans hd2
            have hr := run_endRound (P := P) (some .ret) hl3
            refine ⟨_, _, hr, O', fun k hk => (hO' k hk).imp id (fun h => by omega), (hk2.trans (hk3.mono fun k _ h => h.imp .inl id)).putObj (.inl (.inr rfl)) _, .inr ⟨rfl, ?_, ?_, ?_, nl', nd'⟩⟩
            · exact hIx _ _ _ _ (off_of ((Kept.refl (fun k => k = w.heap.size + 1) w3).putObj rfl _) (fun k e => ⟨by omega, e ▸ nl'⟩)) hi3
            · rw [hrc]; rw [hrc] at hl3; exact World.putObj_heap_same (Array.getElem?_eq_some_iff.1 hl3).1
            · exact (World.putObj_heap_other (by omega)).trans hd3
          | exit id => exact hq.elim
          | goto t => exact hq.elim
          | panic ch => exact hq.elim
          | outgrown => exact hq.elim
      | ret => exact hq.elim
      | exit id => exact hq.elim
      | goto t => exact hq.elim
      | panic ch => exact hq.elim
      | outgrown => exact hq.elim
    · rintro e W2 ⟨⟨v, rfl⟩, O', hO', hk, h⟩
      rw [hs1] at hO'
      have hk2 : ∀ o, Kept (fun k => S k ∨ O0 k) w (W2.putObj (w.heap.size + 1) o) := fun o =>
        (((Kept.of_new (fun k => (S k ∨ k = w.heap.size + 1) ∨ O0 k) hb1).trans hk).putObj (.inl (.inr rfl)) o).mono fun k hk h => by
          rcases h with (h | h) | h
          · exact .inl h
          · omega
          · exact .inr h
      have tail : ¬ O' (w.heap.size + 1) → ∀ o', Kept (off w.heap.size O') W2 (W2.putObj (w.heap.size + 1) o') := fun nl o' =>
        off_of ((Kept.refl (fun k => k = w.heap.size + 1) W2).putObj rfl _) (fun k e => ⟨by omega, e ▸ nl⟩)
      rcases h with ⟨hi, hl, hd, nl, nd⟩ | ⟨pre, hpre, hi, hl, hd, nl, nd⟩
      · have hr := run_endLoop (P := P) hl (by rw [hrc]; simp)
        refine ⟨none, _, by rw [hr, hrc], ?_⟩
        exact hdone _ O' _ rfl hO' (hI _ _ _ _ (tail nl _) hi) (hk2 _) ((World.putObj_heap_other (by omega)).trans hd)
      · have hr := run_endLoop (P := P) hl (by rw [hrc]; simp)
        refine ⟨some .ret, _, by rw [hr, hrc], ?_⟩
        exact wpIn_ret (hstop _ pre O' _ rfl hpre hO' (hIx _ _ _ _ (tail nl _) hi) (hk2 _) ((World.putObj_heap_other (by omega)).trans hd))
end Go.Proofs.Ytimfdfeleoaehaa
namespace Go.Proofs.Ytimfdfeleoaehaa
open Go.RowKit Go.Shelf
set_option linter.unusedSimpArgs false
set_option linter.unusedVariables false
attribute [local go_sem] Oper.semAt_some

set_option maxRecDepth 100000 in
set_option maxHeartbeats 8000000 in
theorem stmts3 (sz : Nat) : ∀ (ks : List SX), sz ≤ 1099511627776 → SX.sizeAll ks ≤ sz → ∀ (a : Option Addr) (c : Nat) (d : Int) (bl bd : Nat) (S O0 ok : Nat → Prop) (W : World), (∀ k, S k → k < W.heap.size) → (∀ b, ok b → ¬ S b ∧ b < W.heap.size) → W.cell? ⟨bd, 0, none⟩ = some (.int .i64 d) → ¬ S bd →
    W.cell? ⟨bl, 0, none⟩ = some (.slice a ks.length c) → SRow ok W a ks → (∀ (i : Nat) (k : SX), ks[i]? = some k → LiesS ok W k) → (∀ b, ok b → ¬ O0 b) → ¬ O0 bd →
    Iter3 Try.prog 79 #[.pointer (some ⟨bl, 0, none⟩), .pointer (some ⟨bd, 0, none⟩)] stmtE (SX.withinAll ks d) S O0 W := by
  induction sz using Nat.strongRecOn with
  | _ sz ih =>
  intro ks hlim hsz a c d bl bd S O0 ok W hS hok hbd hsd hbl hR hL hoO hbO n l J Jx hJ hJx hJO hY h0
  have hO0 := hJO _ _ _ h0
  refine callsIn_of_wp_marks Try.func79 rfl trivial ?_ rfl
  simp only [Try.ntmps79, List.size_toArray, List.length_cons, List.length_nil, Nat.reduceAdd, Nat.reduceSub, Array.replicate_succ, Array.replicate_zero, List.push_toArray, List.append_toArray, List.nil_append, List.cons_append]
  obtain ⟨W0, hW0⟩ : ∃ W0, W.alloc (.cells #[.func (.yield l) #[] #[]] 131) = W0 := ⟨_, rfl⟩
  have hb1 : Below W.heap.size W W0 := by rw [← hW0]; exact (Below.refl _ W).alloc (Nat.le_refl _) _
  have hs0 : W0.heap.size = W.heap.size + 1 := by rw [← hW0]; simp
  have hy0 : W0.cell? ⟨W.heap.size, 0, none⟩ = some (.func (.yield l) #[] #[]) := by rw [← hW0]; exact World.cell?_alloc_new W _ _ 0
  have hbdl := World.block_lt_of_cell? W _ hbd
  have c1 := below_cell hb1 hbd hbdl
  have c2 := below_cell hb1 hbl (World.block_lt_of_cell? W _ hbl)
  have hlen : ks.length ≤ 1099511627776 := by have := SX.length_le ks; omega
  have hSt0 : St ok W.heap.size l bd d a ks [] W0 := ⟨hy0, c1, hR.under hb1 (fun b h => (hok b h).2), fun i k hk => (hL i k hk).under hb1 (fun b h => (hok b h).2), by simp⟩
  have hsb : ¬ S W.heap.size := fun h => by have := hS _ h; omega
  have hOn0 : ∀ k, (k = W.heap.size ∨ k = bd ∨ ok k ∨ k ∈ ([] : List Nat)) → ¬ O0 k := by
    rintro k (rfl | rfl | h | h) h9
    · have := hO0 _ h9; omega
    · exact hbO h9
    · exact hoO k h h9
    · simp at h
  gi_wp2
  refine wpIn_loop (fun A w' => ∃ (i : Nat) (ds : List Nat) (O : Nat → Prop) (u5 u7 u13 u14 u15 u16 u17 u18 u19 u20 u21 u22 u23 u24 u25 u26 u27 u28 u29 u30 u31 u39 u40 : Value), A = ⟨#[.func (.yield l) #[] #[], .pointer (some ⟨bl, 0, none⟩), .pointer (some ⟨bd, 0, none⟩), .pointer (some ⟨W.heap.size, 0, none⟩), undef, u5, undef, u7, undef, undef, .slice a ks.length c, .int .i64 ks.length, .int .i64 i, u13, u14, u15, u16, u17, u18, u19, u20, u21, u22, u23, u24, u25, u26, u27, u28, u29, u30, u31, undef, undef, undef, undef, undef, undef, undef, u39, u40], ds.map mark⟩ ∧
      i ≤ ks.length ∧ ds.Nodup ∧ J (SX.withinAll (ks.take i) d) O w' ∧ Kept (fun k => S k ∨ O0 k) W w' ∧ St ok W.heap.size l bd d a ks ds w' ∧ (∀ k, O k → O0 k ∨ W.heap.size ≤ k) ∧ (∀ k, (k = W.heap.size ∨ k = bd ∨ ok k ∨ k ∈ ds) → ¬ O k))
    (fun A _ => ks.length - (intOf (A.tmps.getD 12 undef)).toNat) ?_ ?_
  · exact ⟨0, [], O0, _, _, _, _, _, _, _, _, _, _, _, _, _, _, _, _, _, _, _, _, _, _, _, rfl, by omega, by simp, by simpa [SX.withinAll] using hJ _ _ _ _ (Kept.of_new _ hb1) h0, Kept.of_new _ hb1, hSt0, fun k h => .inl h, hOn0⟩
  · clear hW0 hb1 hs0 hy0 c1 c2 hSt0 h0 hR hL hbl hOn0
    rintro A w' ⟨i, ds, O, u5, u7, u13, u14, u15, u16, u17, u18, u19, u20, u21, u22, u23, u24, u25, u26, u27, u28, u29, u30, u31, u39, u40, rfl, hi, hnd, hj, hK, hSt, hOO, hOn⟩
    have hOl := hJO _ _ _ hj
    obtain ⟨z1, z2, z3⟩ := hSt.lt
    have hw' := hK.size
    by_cases hlt : i < ks.length
    · obtain ⟨s, hk⟩ : ∃ s, ks[i]? = some s := ⟨_, List.getElem?_eq_getElem hlt⟩
      obtain ⟨b, o, hbase, hob, hc⟩ := hSt.row i s hk
      obtain ⟨c0, c1, c2, c3, c4, c5, c6, c7, c8, c9, c10, c11⟩ := hc
      obtain ⟨W1, hW1⟩ : ∃ W1, w'.alloc (.cells #[.int .i64 s.kind, .string s.name, .int .i64 s.e.kind, .int .i64 s.e.num, .string s.e.name, .slice s.e.base s.e.kids.length s.e.cap, .int .i64 s.f.kind, .int .i64 s.f.num, .string s.f.name, .slice s.f.base s.f.kids.length s.f.cap, .slice s.abase s.la.length s.acap, .slice s.bbase s.lb.length s.bcap] 50) = W1 := ⟨_, rfl⟩
      have hB1 : Below w'.heap.size w' W1 := by rw [← hW1]; exact (Below.refl _ w').alloc (Nat.le_refl _) _
      have hs1 : W1.heap.size = w'.heap.size + 1 := by rw [← hW1]; simp
      have hC1 : Cells12 W1 w'.heap.size 0 s := by rw [← hW1]; exact Cells12.new w' s _
      have hS1 := hSt.new hB1
      have y1 := hS1.yc
      have e1 := hS1.dc
      have hpx : ∀ q, q <+: s.upTo (wrap64 (d + 1)) 2 → SX.withinAll (ks.take i) d ++ ((d, s) :: q) <+: SX.withinAll ks d := by
        intro q hq
        have h1 : SX.withinAll (ks.take i) d ++ ((d, s) :: q) <+: SX.withinAll (ks.take (i + 1)) d := by
          rw [SX.withinAll_take hk, SX.within_upTo]
          exact List.prefix_append_right_inj _ |>.2 (List.prefix_cons_inj _ |>.2 hq)
        exact h1.trans (SX.withinAll_prefix _ _)
      obtain ⟨fn, tmps, assign, body, hy, hR⟩ := hY (n - 1) (SX.withinAll (ks.take i) d) (d, s) O W1 (hJ _ _ _ _ (Kept.of_new _ hB1) hj) (hpx [] List.nil_prefix)
      dsimp only [stmtE, SX.val] at hy
      obtain ⟨d0, d1, d2, d3, d4, d5, d6, d7, d8, d9, d10, d11⟩ := hC1
      subst hbase
      gi_wp2
      refine ⟨(fun h => by cases h), hR.mono ?_⟩
      clear hy hR fn tmps assign body c0 c1 c2 c3 c4 c5 c6 c7 c8 c9 c10 c11 y1 e1
      have hC1 : Cells12 W1 w'.heap.size 0 s := ⟨d0, d1, d2, d3, d4, d5, d6, d7, d8, d9, d10, d11⟩
      clear d0 d1 d2 d3 d4 d5 d6 d7 d8 d9 d10 d11
      have hsw : ¬ (S w'.heap.size ∨ O w'.heap.size) := fun h => h.elim (fun h => by have := hS _ h; omega) (fun h => by have := hOl _ h; omega)
      have hSn : ∀ k, (k = W.heap.size ∨ k = bd ∨ ok k ∨ k ∈ ds) → ¬ (S k ∨ O k) := by
        rintro k hk (hs | hs)
        · rcases hk with rfl | rfl | h | h
          · exact hsb hs
          · exact hsd hs
          · exact (hok k h).1 hs
          · have h1 := (hSt.marks k h).1; have h2 := hS k hs; omega
        · exact hOn k hk hs
      have hbl1 : ∀ k, (k = W.heap.size ∨ k = bd ∨ ok k ∨ k ∈ ds) → k < W1.heap.size := by
        rintro k (rfl | rfl | h | h)
        · omega
        · omega
        · have := (hok k h).2; omega
        · have := z3 k h; omega
      rintro e W2 ⟨O', hO', hk2, hq2⟩
      have hOO' : ∀ k, O' k → O0 k ∨ W.heap.size ≤ k := fun k h => (hO' k h).elim (hOO k) (fun h => .inr (by omega))
      have hOn' : ∀ k, (k = W.heap.size ∨ k = bd ∨ ok k ∨ k ∈ ds) → ¬ O' k := fun k hk h => (hO' k h).elim (hOn k hk) (fun h => by have := hbl1 k hk; omega)
      have hK2 : Kept (fun k => S k ∨ O0 k) W W2 := (hK.trans (Kept.of_new _ hB1)).join hk2 (fun k hk h => h.imp id (fun h => (hOO k h).elim id (fun h => by omega)))
      clear hbl1 hOl hO'
      rcases hq2 with ⟨rfl, hj2⟩ | ⟨rfl, hx2⟩
      · have hS2 : St ok W.heap.size l bd d (some ⟨b, o, none⟩) ks ds W2 := hS1.on (fun k hk h => hk2.block k hk (hSn k h))
        obtain ⟨d0, d1, d2, d3, d4, d5, d6, d7, d8, d9, d10, d11⟩ := hC1.kept hk2 hsw
        have hz2 := hk2.size
        gi_wp2
        refine ⟨trivial, (fun h => by cases h), (callsIn_wide.2 (listsS0 _ _ _ _ _ _ _ _ _ _ _ _ _ _ _ _ _ _ _ _ _)).mono ?_⟩
        rintro e w3 ⟨rfl, hw3⟩
        subst w3
        clear d0 d1 d2 d3 d4 d5 d6 d7 d8 d9 d10 d11 hC1
        gi_wp2
        obtain ⟨bx, hbx⟩ : ∃ bx, W2.heap.size + 1 = bx := ⟨_, rfl⟩
        obtain ⟨W4, hW4⟩ : ∃ W4, (W2.alloc (.cells #[.int .i64 s.kind, .string s.name, .int .i64 s.e.kind, .int .i64 s.e.num, .string s.e.name, .slice s.e.base s.e.kids.length s.e.cap, .int .i64 s.f.kind, .int .i64 s.f.num, .string s.f.name, .slice s.f.base s.f.kids.length s.f.cap, .slice s.abase s.la.length s.acap, .slice s.bbase s.lb.length s.bcap] 50)).alloc (.cells #[.slice s.abase s.la.length s.acap, .slice s.bbase s.lb.length s.bcap] 26) = W4 := ⟨_, rfl⟩
        have hB4 : Below W2.heap.size W2 W4 := by rw [← hW4]; exact ((Below.refl _ W2).alloc (Nat.le_refl _) _).alloc (by simp) _
        have hx4 : ∀ j, j < 2 → W4.cell? ⟨bx, j, none⟩ = some (.slice (s.lbs j) (s.lst j).length (s.lcp j)) := by
          intro j hj
          have h1 := World.cell?_alloc_new (W2.alloc (.cells #[.int .i64 s.kind, .string s.name, .int .i64 s.e.kind, .int .i64 s.e.num, .string s.e.name, .slice s.e.base s.e.kids.length s.e.cap, .int .i64 s.f.kind, .int .i64 s.f.num, .string s.f.name, .slice s.f.base s.f.kids.length s.f.cap, .slice s.abase s.la.length s.acap, .slice s.bbase s.lb.length s.bcap] 50)) #[.slice s.abase s.la.length s.acap, .slice s.bbase s.lb.length s.bcap] 26 j
          rw [hW4, World.size_alloc, hbx] at h1
          rw [h1]
          rcases j with _ | _ | j
          · rfl
          · rfl
          · omega
        rw [hW4, hbx]
        have hS4 := hS2.new hB4
        have hK4 := hK2.trans (Kept.of_new _ hB4)
        have hOl2 := hJO _ _ _ hj2
        have hj4 := hJ _ _ _ _ (Kept.of_new _ hB4) hj2
        have hbxS : ¬ S bx := fun h => by have h1 := hS _ h; have h2 := hB1.size; omega
        have hbxO : ¬ O' bx := fun h => by have h1 := hOl2 _ h; omega
        have hbxl : bx < W4.heap.size := by have := World.block_lt_of_cell? W4 _ (hx4 0 (by omega)); exact this
        clear hW4 hj2 hS2 hK2 hB4 hk2 hS1 hB1 hs1 hW1 hOl2 hsw
        clear hbx hz2 W2
        obtain ⟨r, hr⟩ : ∃ r, wrap64 (d + 1) = r := ⟨_, rfl⟩
        rw [hr] at hpx
        refine wpIn_loop (fun A w' => ∃ (j : Nat) (ds : List Nat) (O : Nat → Prop) (u5 u7 u13 u14 u15 u16 u17 u18 u19 u20 u21 u25 u26 u27 u28 u29 u30 u31 u39 u40 : Value), A = ⟨#[.func (.yield l) #[] #[], .pointer (some ⟨bl, 0, none⟩), .pointer (some ⟨bd, 0, none⟩), .pointer (some ⟨W.heap.size, 0, none⟩), undef, u5, undef, u7, undef, undef, .slice (some ⟨b, o, none⟩) ks.length c, .int .i64 ks.length, .int .i64 i, u13, u14, u15, u16, u17, u18, u19, u20, u21, .slice (some ⟨bx, 0, none⟩) 2 2, .int .i64 2, .int .i64 j, u25, u26, u27, u28, u29, u30, u31, undef, undef, undef, undef, undef, undef, undef, u39, u40], ds.map mark⟩ ∧
            j ≤ 2 ∧ ds.Nodup ∧ J (SX.withinAll (ks.take i) d ++ ((d, s) :: s.upTo r j)) O w' ∧ Kept (fun k => S k ∨ O0 k) W w' ∧ St ok W.heap.size l bd d (some ⟨b, o, none⟩) ks ds w' ∧ (∀ j, j < 2 → w'.cell? ⟨bx, j, none⟩ = some (.slice (s.lbs j) (s.lst j).length (s.lcp j))) ∧ (∀ k, O k → O0 k ∨ W.heap.size ≤ k) ∧ (∀ k, (k = W.heap.size ∨ k = bd ∨ ok k ∨ k ∈ ds) → ¬ O k) ∧ ¬ O bx)
          (fun A _ => 2 - (intOf (A.tmps.getD 24 undef)).toNat) ?_ ?_
        · exact ⟨0, ds, O', _, _, _, _, _, _, _, _, _, _, _, _, _, _, _, _, _, _, _, _, rfl, by omega, hnd, by simpa [SX.upTo] using hj4, hK4, hS4, hx4, hOO', hOn', hbxO⟩
        · clear hj4 hK4 hS4 hx4 hbxl hSn hnd hSt z3 hK hj hw' z1 z2 hOO hOn hOO' hOn' hbxO O O'
          rintro A X ⟨j, ds, O, u5, u7, u13, u14, u15, u16, u17, u18, u19, u20, u21, u25, u26, u27, u28, u29, u30, u31, u39, u40, rfl, hj2, hnd, hj, hK, hSt, hx, hOO, hOn, hbxO⟩
          have hOl := hJO _ _ _ hj
          obtain ⟨z1, z2, z3⟩ := hSt.lt
          have hwX := hK.size
          have hSs : ∀ k, (k = W.heap.size ∨ k = bd ∨ ok k ∨ k ∈ ds) → ¬ S k := by
            rintro k (rfl | rfl | h | h) hs
            · exact hsb hs
            · exact hsd hs
            · exact (hok k h).1 hs
            · have h1 := (hSt.marks k h).1; have h2 := hS k hs; omega
          by_cases hjt : j < 2
          · have hxj := hx j hjt
            have hdc := hSt.dc
            have hbxX := World.block_lt_of_cell? X _ hxj
            dsimp only at hbxX
            gi_wp2
            refine ⟨trivial, (fun h => by cases h), (callsIn_wide.2 (stmtsOf (s.lbs j) (s.lst j).length (s.lcp j) r _)).mono ?_⟩
            rintro e w3 ⟨rfl, hw3⟩
            subst w3
            gi_wp2
            obtain ⟨W5, hW5⟩ : ∃ W5, (X.alloc (.cells #[.slice (s.lbs j) (s.lst j).length (s.lcp j)] 26)).alloc (.cells #[.int .i64 r] 3) = W5 := ⟨_, rfl⟩
            have hs5 : W5.heap.size = X.heap.size + 2 := by rw [← hW5]; simp
            have hB5 : Below X.heap.size X W5 := by rw [← hW5]; exact ((Below.refl _ X).alloc (Nat.le_refl _) _).alloc (by simp) _
            have hl5 : W5.cell? ⟨X.heap.size, 0, none⟩ = some (.slice (s.lbs j) (s.lst j).length (s.lcp j)) := by
              have h1 := World.cell?_alloc_new X #[.slice (s.lbs j) (s.lst j).length (s.lcp j)] 26 0
              rw [← hW5]
              exact below_cell (n := X.heap.size + 1) ((Below.refl _ _).alloc (by simp) _) h1 (by dsimp only; omega)
            have hd5 : W5.cell? ⟨X.heap.size + 1, 0, none⟩ = some (.int .i64 r) := by
              have h1 := World.cell?_alloc_new (X.alloc (.cells #[.slice (s.lbs j) (s.lst j).length (s.lcp j)] 26)) #[.int .i64 r] 3 0
              rw [hW5, World.size_alloc] at h1
              exact h1
            rw [hW5]
            clear hW5
            have hbdX : bd < X.heap.size := z2
            have hlsz : SX.sizeAll (s.lst j) < sz := by have h1 := s.lst_size j; have h2 := SX.size_get hk; omega
            have hqx : ∀ q, q <+: SX.withinAll (s.lst j) r → SX.withinAll (ks.take i) d ++ ((d, s) :: (s.upTo r j ++ q)) <+: SX.withinAll ks d := by
              intro q hq
              refine hpx _ (List.IsPrefix.trans ?_ (s.upTo_pre r (j + 1) (by omega)))
              rw [s.upTo_next r j hjt]
              exact List.prefix_append_right_inj _ |>.2 hq
            have hSt5 := hSt.new hB5
            have hx5 : ∀ j, j < 2 → W5.cell? ⟨bx, j, none⟩ = some (.slice (s.lbs j) (s.lst j).length (s.lcp j)) := fun j' hj' => below_cell hB5 (hx j' hj') hbxX
            have hokX : ∀ b, ok b → b < X.heap.size := fun b hb => Nat.lt_of_lt_of_le (hok b hb).2 hwX
            clear hx hxj hdc
            refine range_law3 (gf := 79) (lb := #[.pointer (some ⟨X.heap.size, 0, none⟩), .pointer (some ⟨X.heap.size + 1, 0, none⟩)]) rfl (enters_of Try.func79 (by kernel_rfl) rfl) stmtE (fun _ => rfl) (SX.withinAll (s.lst j) r) S O
              (fun pre O Y => J (SX.withinAll (ks.take i) d ++ ((d, s) :: (s.upTo r j ++ pre))) O Y ∧ St ok W.heap.size l bd d (some ⟨b, o, none⟩) ks ds Y ∧ (∀ j, j < 2 → Y.cell? ⟨bx, j, none⟩ = some (.slice (s.lbs j) (s.lst j).length (s.lcp j))) ∧ (∀ k, (k = W.heap.size ∨ k = bd ∨ ok k ∨ k ∈ ds) → ¬ O k) ∧ ¬ O bx)
              (fun pre O Y => Jx (SX.withinAll (ks.take i) d ++ ((d, s) :: (s.upTo r j ++ pre))) O Y ∧ (∀ D ∈ ds, Y.heap[D]? = some (.deferred (some []))) ∧ ∀ D ∈ ds, ¬ O D)
              (fun k h => by have := hS k h; omega)
              (fun pre O A B h ⟨h1, h2, h3, h4⟩ => ⟨hJ _ _ _ _ (off_mono h (by omega)) h1, h2.on (fun k hkA hk => off_block h hkA (.inl (by rcases hk with rfl | rfl | h9 | h9; omega; omega; (have := hokX k h9; omega); (have := z3 k h9; omega)))), fun j' hj' => (cell_of_block (a := ⟨bx, j', none⟩) (off_block h (World.block_lt_of_cell? A _ (h3 j' hj')) (.inl (by dsimp only; omega)))).trans (h3 j' hj'), h4⟩)
              (fun pre O A B h ⟨h1, h2, h3⟩ => ⟨hJx _ _ _ _ (off_mono h (by omega)) h1, fun D hD => (off_block h (Array.getElem?_eq_some_iff.1 (h2 D hD)).1 (.inl (by have := z3 D hD; omega))).trans (h2 D hD), h3⟩)
              (fun pre O A h => hJO _ _ _ h.1)
              ⟨by simpa using hJ _ _ _ _ (Kept.of_new _ hB5) hj, hSt5, hx5, hOn, hbxO⟩
              ?hit ?hround ?hdone ?hstop
            case hit =>
              intro W6 hB6 hs6
              have hls := (hSt5.new (hB6.mono (Nat.le_refl _))).lies i s hk
              obtain ⟨hl1, hl2⟩ := hls.lst j
              refine ih (SX.sizeAll (s.lst j)) hlsz (s.lst j) (by omega) (Nat.le_refl _) (s.lbs j) (s.lcp j) r _ _ _ _ ok W6 ?_ ?_ (below_cell hB6 hd5 (by dsimp only; omega)) ?_ (below_cell hB6 hl5 (by dsimp only; omega)) hl1 hl2 (fun b hb => hOn b (.inr (.inr (.inl hb)))) (fun h => by have := hOl _ h; omega)
              · rintro k (h | h)
                · have := hS k h; omega
                · omega
              · intro b' hb'
                have h1 := hok b' hb'
                have h2 := hokX b' hb'
                refine ⟨?_, by omega⟩
                rintro (h | h)
                · exact h1.1 h
                · omega
              · rintro (h | h)
                · have := hS _ h; omega
                · omega
            case hround =>
              rintro l' m pre x Q Y hl' hlY hnl ⟨h1, h2, h3, h4, h5⟩ hpre
              gi_wp2
              refine ⟨(Below.refl _ Y).alloc (Nat.le_refl _) _, ?_⟩
              rintro w₂ hk2 ⟨j1, j2, j3, j4, j5⟩
              have hX7 : Cells12 w₂ Y.heap.size 0 x.2 := (Cells12.new Y x.2 _).kept hk2 (by omega)
              obtain ⟨p0, p1, p2, p3, p4, p5, p6, p7, p8, p9, p10, p11⟩ := hX7
              have yc := j2.yc
              obtain ⟨fn, tmps, assign, body, hyy, hR⟩ := hY (m - 1) _ x Q w₂ j1 (by
                have h9 := hqx _ hpre
                rwa [← List.append_assoc, ← List.cons_append, ← List.append_assoc] at h9)
              dsimp only [stmtE, SX.val] at hyy
              gi_wp2
              refine ⟨(fun h => by cases h), RoundIn.mono (F := Fence.wide.inRound l') hR ?_⟩
              clear hyy hR
              have hjl := World.block_lt_of_cell? w₂ _ (j3 0 (by omega))
              dsimp only at hjl
              have hbl2 : ∀ k, (k = W.heap.size ∨ k = bd ∨ ok k ∨ k ∈ ds) → k < w₂.heap.size := by
                obtain ⟨y1, y2, y3⟩ := j2.lt
                rintro k (rfl | rfl | h | h)
                · exact y1
                · exact y2
                · have h8 := (hok k h).2; omega
                · exact y3 k h
              have hSQ : ∀ k, (k = W.heap.size ∨ k = bd ∨ ok k ∨ k ∈ ds) → ¬ (S k ∨ Q k) := fun k hk h => h.elim (hSs k hk) (j4 k hk)
              rintro e W7 ⟨Q', hQ', hk5, h⟩
              have hn4 : ∀ k, (k = W.heap.size ∨ k = bd ∨ ok k ∨ k ∈ ds) → ¬ Q' k := fun k hk h => (hQ' k h).elim (j4 k hk) (fun h => by have := hbl2 k hk; omega)
              have hn5 : ¬ Q' bx := fun h => (hQ' _ h).elim j5 (fun h => by omega)
              rcases h with ⟨rfl, h⟩ | ⟨rfl, h⟩
              · gi_wp2
                exact ⟨Q', hQ', hk5, by simpa using h, j2.on (fun k hk h => hk5.block k hk (hSQ k h)), fun j' hj' => hk5.cell (j3 j' hj') (fun h => h.elim hbxS j5), hn4, hn5⟩
              · gi_wp2
                exact ⟨Q', hQ', hk5, by simpa using h, fun D hD => (hk5.block D (j2.lt.2.2 D hD) (hSQ D (.inr (.inr (.inr hD))))).trans (j2.marks D hD).2, fun D hD => hn4 D (.inr (.inr (.inr hD)))⟩
            case hdone =>
              rintro D Q Y hD hQ ⟨h1, h2, h3, h4, h5⟩ hkY hdY
              gi_wp2
              refine ⟨⟨j + 1, D :: ds, Q, _, _, _, _, _, _, _, _, _, _, _, _, _, _, _, _, _, _, _, _, rfl, by omega, List.nodup_cons.2 ⟨fun h => by have := z3 D h; omega, hnd⟩, ?_, (hK.trans (Kept.of_new _ hB5)).join hkY (fun k hk h => h.imp id (fun h => (hOO k h).elim id (fun h => by omega))), h2.more (by omega) hdY, h3, fun k h => (hQ k h).elim (hOO k) (fun h => .inr (by omega)), ?_, h5⟩, by simp [intOf]; omega⟩
              · rw [s.upTo_next r j hjt]
                exact h1
              · rintro k (h | h | h | h)
                · exact h4 k (.inl h)
                · exact h4 k (.inr (.inl h))
                · exact h4 k (.inr (.inr (.inl h)))
                · rcases List.mem_cons.1 h with h | h
                  · intro h9
                    rcases hQ k h9 with h8 | h8
                    · have := hOl _ h8; omega
                    · omega
                  · exact h4 k (.inr (.inr (.inr h)))
            case hstop =>
              rintro D pre Q Y hD hpre hQ ⟨h1, h5, h6⟩ hkY hdY
              have hnd' : (D :: ds).Nodup := List.nodup_cons.2 ⟨fun h => by have := z3 D h; omega, hnd⟩
              have hds' : ∀ E ∈ D :: ds, W.heap.size ≤ E ∧ Y.heap[E]? = some (.deferred (some [])) := by
                intro E hE
                rcases List.mem_cons.1 hE with rfl | hE
                · exact ⟨by omega, hdY⟩
                · exact ⟨(hSt.marks E hE).1, h5 E hE⟩
              have hKY : Kept (fun k => S k ∨ O0 k) W Y := (hK.trans (Kept.of_new _ hB5)).join hkY (fun k hk h => h.imp id (fun h => (hOO k h).elim id (fun h => by omega)))
              have hQn : ∀ E ∈ D :: ds, ¬ Q E := by
                intro E hE h9
                rcases List.mem_cons.1 hE with rfl | hE
                · rcases hQ _ h9 with h8 | h8
                  · have := hOl _ h8; omega
                  · omega
                · exact h6 E hE h9
              refine leave_marks (D :: ds) Y hnd' (fun E hE => (hds' E hE).2) (fun W' hk' => ⟨_, results_none rfl _ _ _, ⟨_, rfl⟩, Q, fun k h => (hQ k h).elim (hOO k) (fun h => .inr (by omega)), hKY.join hk' (fun k h1 h2 => by have := (hds' k h2).1; omega), .inr ⟨_, hqx _ hpre, hJx _ _ _ _ (off_of hk' (fun k h2 => ⟨(hds' k h2).1, hQn k h2⟩)) h1⟩⟩)
          · have he : j = 2 := by omega
            subst he
            gi_wp2
            refine ⟨⟨i + 1, ds, O, _, _, _, _, _, _, _, _, _, _, _, _, _, _, _, _, _, _, _, _, _, _, _, rfl, by omega, hnd, ?_, hK, hSt, hOO, hOn⟩, by simp [intOf]; omega⟩
            rw [SX.withinAll_take hk, SX.within_upTo, hr]
            exact hj
      · gi_wp2
        refine leave_marks ds W2 hnd (fun D hD => (hk2.block D (Nat.lt_of_lt_of_le (z3 D hD) hB1.size) (hSn D (.inr (.inr (.inr hD))))).trans (hS1.marks D hD).2) (fun W' hk' => ⟨_, results_none rfl _ _ _, ⟨_, rfl⟩, O', hOO', hK2.join hk' (fun k h1 h2 => by have := (hSt.marks k h2).1; omega), .inr ⟨_, hpx [] List.nil_prefix, hJx _ _ _ _ (off_of hk' (fun k h2 => ⟨(hSt.marks k h2).1, hOn' k (.inr (.inr (.inr h2)))⟩)) hx2⟩⟩)
    · have he : i = ks.length := by omega
      gi_wp2
      refine leave_marks ds w' hnd (fun D hD => (hSt.marks D hD).2) (fun W' hk' => ⟨_, results_none rfl _ _ _, ⟨_, rfl⟩, O, hOO, hK.join hk' (fun k h1 h2 => by have := (hSt.marks k h2).1; omega), .inl ?_⟩)
      have hj' := hJ _ _ _ _ (off_of hk' (fun k h2 => ⟨(hSt.marks k h2).1, hOn k (.inr (.inr (.inr h2)))⟩)) hj
      rw [he, List.take_length] at hj'
      exact hj'
end Go.Proofs.Ytimfdfeleoaehaa
