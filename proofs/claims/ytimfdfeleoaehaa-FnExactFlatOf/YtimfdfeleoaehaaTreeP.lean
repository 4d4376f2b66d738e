/-
  The program's walk through an expression yields it and all within it, from the outside in and from left to right, each with how deep it lies, to whatever rounds take them; the expression lies in memory that the rounds leave alone.
-/
import Derived.Test.YtimfdfeleoaehaaTreeA
import Derived.Test.YtimfdfeleoaehaaTreeR
namespace Go.Proofs.Ytimfdfeleoaehaa
open Go.RowKit Go.Shelf
set_option linter.unusedSimpArgs false
set_option linter.unusedVariables false
attribute [local go_sem] Oper.semAt_some

inductive XT where
  | mk (kind num : Int) (name : ByteArray) (base : Option Addr) (cap : Nat) (kids : List XT)
def XT.kind : XT → Int | .mk k _ _ _ _ _ => k
def XT.num : XT → Int | .mk _ n _ _ _ _ => n
def XT.name : XT → ByteArray | .mk _ _ s _ _ _ => s
def XT.base : XT → Option Addr | .mk _ _ _ a _ _ => a
def XT.cap : XT → Nat | .mk _ _ _ _ c _ => c
def XT.kids : XT → List XT | .mk _ _ _ _ _ ks => ks
abbrev XT.val (t : XT) : Value := .agg #[.int .i64 t.kind, .int .i64 t.num, .string t.name, .slice t.base t.kids.length t.cap]
mutual
def XT.size : XT → Nat
  | .mk _ _ _ _ _ ks => 1 + XT.sizeAll ks
def XT.sizeAll : List XT → Nat
  | [] => 0
  | t :: ts => XT.size t + XT.sizeAll ts
end
mutual
def XT.parts : XT → Int → List (Int × XT)
  | .mk k n s a c ks, d => (d, .mk k n s a c ks) :: XT.partsAll ks (wrap64 (d + 1))
def XT.partsAll : List XT → Int → List (Int × XT)
  | [], _ => []
  | t :: ts, d => XT.parts t d ++ XT.partsAll ts d
end
theorem XT.parts_eq (t : XT) (d : Int) : t.parts d = (d, t) :: XT.partsAll t.kids (wrap64 (d + 1)) := by
  cases t; rfl
theorem XT.size_eq (t : XT) : t.size = 1 + XT.sizeAll t.kids := by cases t; simp [XT.size, XT.kids]
theorem XT.size_get {ks : List XT} {i : Nat} {t : XT} (h : ks[i]? = some t) : t.size ≤ XT.sizeAll ks := by
  induction ks generalizing i with
  | nil => simp at h
  | cons x xs ih =>
    cases i with
    | zero => simp at h; subst h; simp [XT.sizeAll]
    | succ i => simp at h; have := ih h; simp [XT.sizeAll]; omega
theorem XT.partsAll_append (us bs : List XT) (d : Int) : XT.partsAll (us ++ bs) d = XT.partsAll us d ++ XT.partsAll bs d := by
  induction us with
  | nil => simp [XT.partsAll]
  | cons x xs ih => simp [XT.partsAll, ih]
theorem XT.partsAll_take {ks : List XT} {i : Nat} {t : XT} (h : ks[i]? = some t) (d : Int) : XT.partsAll (ks.take (i + 1)) d = XT.partsAll (ks.take i) d ++ t.parts d := by
  rw [List.take_add_one, h, XT.partsAll_append]
  simp [XT.partsAll]
theorem XT.partsAll_prefix {ks : List XT} (i : Nat) (d : Int) : XT.partsAll (ks.take i) d <+: XT.partsAll ks d := by
  refine ⟨XT.partsAll (ks.drop i) d, ?_⟩
  rw [← XT.partsAll_append, List.take_append_drop]

/-- The four cells of an expression. -/
structure Cells4 (W : World) (b o : Nat) (t : XT) : Prop where
  c0 : W.cell? ⟨b, o, none⟩ = some (.int .i64 t.kind)
  c1 : W.cell? ⟨b, o + 1, none⟩ = some (.int .i64 t.num)
  c2 : W.cell? ⟨b, o + 2, none⟩ = some (.string t.name)
  c3 : W.cell? ⟨b, o + 3, none⟩ = some (.slice t.base t.kids.length t.cap)
theorem Cells4.lt {W : World} {b o : Nat} {t : XT} (h : Cells4 W b o t) : b < W.heap.size := World.block_lt_of_cell? W _ h.c0
theorem Cells4.kept {S : Nat → Prop} {A B : World} {b o : Nat} {t : XT} (h : Cells4 A b o t) (hk : Kept S A B) (hs : ¬ S b) : Cells4 B b o t :=
  ⟨hk.cell h.c0 hs, hk.cell h.c1 hs, hk.cell h.c2 hs, hk.cell h.c3 hs⟩
theorem Cells4.below {n : Nat} {A B : World} {b o : Nat} {t : XT} (h : Cells4 A b o t) (hk : Below n A B) (hs : b < n) : Cells4 B b o t :=
  ⟨below_cell hk h.c0 hs, below_cell hk h.c1 hs, below_cell hk h.c2 hs, below_cell hk h.c3 hs⟩
theorem Cells4.new (W : World) (t : XT) : Cells4 (W.alloc (.cells #[.int .i64 t.kind, .int .i64 t.num, .string t.name, .slice t.base t.kids.length t.cap] 48)) W.heap.size 0 t :=
  ⟨World.cell?_alloc_new W _ _ 0, World.cell?_alloc_new W _ _ 1, World.cell?_alloc_new W _ _ 2, World.cell?_alloc_new W _ _ 3⟩

/-- An expression whose lists lie in blocks of which ok holds. -/
inductive Lies (ok : Nat → Prop) (W : World) : XT → Prop
  | mk (t : XT) (hc : ∀ (i : Nat) (k : XT), t.kids[i]? = some k → ∃ b o, t.base = some ⟨b, o, none⟩ ∧ ok b ∧ Cells4 W b (o + i * 4) k) (hk : ∀ (i : Nat) (k : XT), t.kids[i]? = some k → Lies ok W k) : Lies ok W t
theorem Lies.cells {ok : Nat → Prop} {W : World} {t : XT} (h : Lies ok W t) : ∀ (i : Nat) (k : XT), t.kids[i]? = some k → ∃ b o, t.base = some ⟨b, o, none⟩ ∧ ok b ∧ Cells4 W b (o + i * 4) k := by
  cases h; assumption
theorem Lies.kid {ok : Nat → Prop} {W : World} {t : XT} (h : Lies ok W t) : ∀ (i : Nat) (k : XT), t.kids[i]? = some k → Lies ok W k := by
  cases h; assumption
theorem Lies.mono {ok ok' : Nat → Prop} {A B : World} {t : XT} (h : Lies ok A t) (hb : ∀ b, ok b → b < A.heap.size → ok' b ∧ B.heap[b]? = A.heap[b]?) : Lies ok' B t := by
  induction h with
  | mk t hc hk ih =>
    refine .mk t (fun i k e => ?_) ih
    obtain ⟨b, o, h1, h2, h3⟩ := hc i k e
    obtain ⟨h4, h5⟩ := hb b h2 h3.lt
    exact ⟨b, o, h1, h4, (cell_of_block (a := ⟨b, _, none⟩) h5).trans h3.c0, (cell_of_block (a := ⟨b, _, none⟩) h5).trans h3.c1, (cell_of_block (a := ⟨b, _, none⟩) h5).trans h3.c2, (cell_of_block (a := ⟨b, _, none⟩) h5).trans h3.c3⟩
theorem Lies.kept {S ok : Nat → Prop} {A B : World} {t : XT} (h : Lies ok A t) (hk : Kept S A B) (hs : ∀ b, ok b → ¬ S b) : Lies ok B t :=
  h.mono fun b ho hb => ⟨ho, hk.block b hb (hs b ho)⟩
theorem Lies.under {ok : Nat → Prop} {n : Nat} {A B : World} {t : XT} (h : Lies ok A t) (hk : Below n A B) (hs : ∀ b, ok b → b < n) : Lies ok B t :=
  h.mono fun b ho hb => ⟨ho, hk.block b (hs b ho)⟩

abbrev partE (x : Int × XT) : Array Value := #[.int .i64 x.1, x.2.val]

theorem partsOf (t : XT) (d : Int) (w : World) :
    Calls Try.prog 107 #[t.val, .int .i64 d] w fun e w' =>
      e = .returned (.func (.func 109) #[] #[.pointer (some ⟨w.heap.size + 1, 0, none⟩), .pointer (some ⟨w.heap.size, 0, none⟩)]) ∧
      w' = (w.alloc (.cells #[.int .i64 t.kind, .int .i64 t.num, .string t.name, .slice t.base t.kids.length t.cap] 48)).alloc (.cells #[.int .i64 d] 3) := by
  go_enter Try.func107, Try.ntmps107
  go_wp2
  go_returns
  exact ⟨rfl, rfl⟩

theorem XT.length_le (t : XT) : t.kids.length < t.size := by
  rw [XT.size_eq]
  have : ∀ ks : List XT, ks.length ≤ XT.sizeAll ks := by
    intro ks
    induction ks with
    | nil => simp
    | cons x xs ih => have := XT.size_eq x; simp [XT.sizeAll]; omega
  have := this t.kids
  omega

set_option maxRecDepth 100000 in
set_option maxHeartbeats 4000000 in
theorem parts1 (sz : Nat) : ∀ (t : XT), sz ≤ 1099511627776 → t.size ≤ sz → ∀ (d : Int) (bd be : Nat) (S ok : Nat → Prop) (W : World), (∀ k, S k → k < W.heap.size) → (∀ b, ok b → ¬ S b ∧ b < W.heap.size) → W.cell? ⟨bd, 0, none⟩ = some (.int .i64 d) → ¬ S bd →
    Cells4 W be 0 t → ¬ S be → Lies ok W t →
    Iter Try.prog 109 #[.pointer (some ⟨bd, 0, none⟩), .pointer (some ⟨be, 0, none⟩)] partE (t.parts d) S W := by
  induction sz with
  | zero => intro t _ h; rw [XT.size_eq] at h; omega
  | succ sz ih =>
  intro t hlim hsz d bd be S ok W hS hok hbd hsd hbe hse hL n l J Jx hJ hJx hY h0
  refine callsIn_of_wp_marks Try.func109 rfl trivial ?_ rfl
  simp only [Try.ntmps109, List.size_toArray, List.length_cons, List.length_nil, Nat.reduceAdd, Nat.reduceSub, Array.replicate_succ, Array.replicate_zero, List.push_toArray, List.append_toArray, List.nil_append, List.cons_append]
  have hb1 : Below W.heap.size W (W.alloc (.cells #[.func (.yield l) #[] #[]] 164)) := (Below.refl _ W).alloc (Nat.le_refl _) _
  have hbdl := World.block_lt_of_cell? W _ hbd
  have c1 := below_cell hb1 hbd hbdl
  have hbe1 := hbe.below hb1 hbe.lt
  have e0 := hbe1.c0
  have e1 := hbe1.c1
  have e2 := hbe1.c2
  have e3 := hbe1.c3
  obtain ⟨fn, tmps, assign, body, hy, hR⟩ := hY (n - 1) [] (d, t) _ (hJ _ _ _ hb1 h0) (by rw [XT.parts_eq]; simp)
  dsimp only [partE, XT.val] at hy
  gi_wp2
  refine ⟨(fun h => by cases h), hR.mono ?_⟩
  clear hy hR c1 e0 e1 e2 e3 fn tmps assign body
  rintro e W2 ⟨hk, (⟨rfl, hj⟩ | ⟨rfl, hx⟩)⟩
  · have hsb : ¬ S W.heap.size := fun h => by have := hS _ h; omega
    have hy2 : W2.cell? ⟨W.heap.size, 0, none⟩ = some (.func (.yield l) #[] #[]) := hk.cell (World.cell?_alloc_new W _ _ 0) hsb
    have hd2 : W2.cell? ⟨bd, 0, none⟩ = some (.int .i64 d) := hk.cell (below_cell hb1 hbd hbdl) hsd
    have hbe2 := hbe1.kept hk hse
    have hL2 : Lies ok W2 t := (hL.kept (Kept.of_new S hb1) (fun b h => (hok b h).1)).kept hk (fun b h => (hok b h).1)
    have hK2 : Kept S W W2 := (Kept.of_new S hb1).trans hk
    have e3 := hbe2.c3
    clear hk hbe1
    gi_wp2
    refine wpIn_loop (fun a w' => ∃ (i : Nat) (ds : List Nat) (u5 u17 u18 u19 u20 u21 u22 u23 u31 : Value), a = ⟨#[.func (.yield l) #[] #[], .pointer (some ⟨bd, 0, none⟩), .pointer (some ⟨be, 0, none⟩), .pointer (some ⟨W.heap.size, 0, none⟩), undef, u5, undef, undef, .func (.yield l) #[] #[], .int .i64 d,
          .agg #[.int .i64 t.kind, .int .i64 t.num, .string t.name, .slice t.base t.kids.length t.cap], .bool true, .bool false, .pointer (some ⟨be, 3, none⟩), .slice t.base t.kids.length t.cap, .int .i64 t.kids.length, .int .i64 i, u17, u18, u19, u20, u21, u22, u23, undef, undef, undef, undef, undef, undef, undef, u31], ds.map mark⟩ ∧
        i ≤ t.kids.length ∧ ds.Nodup ∧ (∀ D ∈ ds, W.heap.size ≤ D ∧ w'.heap[D]? = some (.deferred (some []))) ∧ J ((d, t) :: XT.partsAll (t.kids.take i) (wrap64 (d + 1))) w' ∧ Kept S W w' ∧
        w'.cell? ⟨W.heap.size, 0, none⟩ = some (.func (.yield l) #[] #[]) ∧ w'.cell? ⟨bd, 0, none⟩ = some (.int .i64 d) ∧ Lies ok w' t)
      (fun a _ => t.kids.length - (intOf (a.tmps.getD 16 undef)).toNat) ?_ ?_
    · exact ⟨0, [], _, _, _, _, _, _, _, _, _, rfl, by omega, by simp, by simp, by simpa [XT.partsAll] using hj, hK2, hy2, hd2, hL2⟩
    · clear hj hK2 hy2 hd2 hL2 hbe2 e3
      rintro a w' ⟨i, ds, u5, u17, u18, u19, u20, u21, u22, u23, u31, rfl, hi, hnd, hds, hj, hK, hy, hd, hL'⟩
      have hlen : t.kids.length ≤ 1099511627776 := by have := t.length_le; omega
      have hw' := hK.size
      have hyl := World.block_lt_of_cell? w' _ hy
      dsimp only at hyl
      by_cases hlt : i < t.kids.length
      · obtain ⟨k, hk⟩ : ∃ k, t.kids[i]? = some k := ⟨_, List.getElem?_eq_getElem hlt⟩
        obtain ⟨b, o, hbase, hsb', hc⟩ := hL'.cells i k hk
        have c0 := hc.c0
        have c1 := hc.c1
        have c2 := hc.c2
        have c3 := hc.c3
        have hLk := hL'.kid i k hk
        have hd3 : (w'.alloc (.cells #[.int .i64 k.kind, .int .i64 k.num, .string k.name, .slice k.base k.kids.length k.cap] 48)).cell? ⟨bd, 0, none⟩ = some (.int .i64 d) := below_cell ((Below.refl _ w').alloc (Nat.le_refl _) _) hd (by dsimp only; omega)
        rw [hbase]
        gi_wp2
        refine ⟨trivial, (fun h => by cases h), (callsIn_wide.2 (partsOf k (wrap64 (d + 1)) _)).mono ?_⟩
        rintro e w3 ⟨rfl, hw3⟩
        subst w3
        gi_wp2
        obtain ⟨W3, hW3⟩ : ∃ W3, ((w'.alloc (.cells #[.int .i64 k.kind, .int .i64 k.num, .string k.name, .slice k.base k.kids.length k.cap] 48)).alloc (.cells #[.int .i64 k.kind, .int .i64 k.num, .string k.name, .slice k.base k.kids.length k.cap] 48)).alloc (.cells #[.int .i64 (wrap64 (d + 1))] 3) = W3 := ⟨_, rfl⟩
        have hs3 : W3.heap.size = w'.heap.size + 3 := by rw [← hW3]; simp
        have hB3 : Below w'.heap.size w' W3 := by rw [← hW3]; exact (((Below.refl _ w').alloc (Nat.le_refl _) _).alloc (by simp) _).alloc (by simp; omega) _
        have hk3 : Cells4 W3 (w'.heap.size + 1) 0 k := by
          have h1 := Cells4.new (w'.alloc (.cells #[.int .i64 k.kind, .int .i64 k.num, .string k.name, .slice k.base k.kids.length k.cap] 48)) k
          rw [World.size_alloc] at h1
          rw [← hW3]
          exact h1.below (n := w'.heap.size + 2) ((Below.refl _ _).alloc (by simp) _) (by omega)
        have hd3' : W3.cell? ⟨w'.heap.size + 1 + 1, 0, none⟩ = some (.int .i64 (wrap64 (d + 1))) := by
          have h1 := World.cell?_alloc_new ((w'.alloc (.cells #[.int .i64 k.kind, .int .i64 k.num, .string k.name, .slice k.base k.kids.length k.cap] 48)).alloc (.cells #[.int .i64 k.kind, .int .i64 k.num, .string k.name, .slice k.base k.kids.length k.cap] 48)) #[.int .i64 (wrap64 (d + 1))] 3 0
          rw [World.size_alloc, World.size_alloc] at h1
          rw [← hW3]
          exact h1
        rw [hW3]
        have hbdw := World.block_lt_of_cell? w' _ hd
        dsimp only at hbdw
        have hlk : k.size ≤ sz := by have h1 := XT.size_get hk; have h2 := t.size_eq; omega
        have hpx : ∀ q, q <+: k.parts (wrap64 (d + 1)) → (d, t) :: XT.partsAll (t.kids.take i) (wrap64 (d + 1)) ++ q <+: t.parts d := by
          intro q hq
          have h1 : XT.partsAll (t.kids.take i) (wrap64 (d + 1)) ++ q <+: XT.partsAll (t.kids.take (i + 1)) (wrap64 (d + 1)) := by
            rw [XT.partsAll_take hk]
            exact List.prefix_append_right_inj _ |>.2 hq
          rw [XT.parts_eq]
          exact List.prefix_cons_inj _ |>.2 (h1.trans (XT.partsAll_prefix _ _))
        have hdsw : ∀ D ∈ ds, D < w'.heap.size := fun D h => (Array.getElem?_eq_some_iff.1 (hds D h).2).1
        have hdsS : ∀ D ∈ ds, ¬ S D := fun D h hs => by have h1 := (hds D h).1; have h2 := hS D hs; omega
        refine range_law (gf := 109) (lb := #[.pointer (some ⟨w'.heap.size + 1 + 1, 0, none⟩), .pointer (some ⟨w'.heap.size + 1, 0, none⟩)]) rfl (enters_of Try.func109 (by kernel_rfl) rfl) partE (fun _ => rfl) (k.parts (wrap64 (d + 1))) S
          (fun pre X => J ((d, t) :: XT.partsAll (t.kids.take i) (wrap64 (d + 1)) ++ pre) X ∧ X.cell? ⟨W.heap.size, 0, none⟩ = some (.func (.yield l) #[] #[]) ∧ X.cell? ⟨bd, 0, none⟩ = some (.int .i64 d) ∧ Lies ok X t ∧ (∀ D ∈ ds, X.heap[D]? = some (.deferred (some []))))
          (fun pre X => Jx ((d, t) :: XT.partsAll (t.kids.take i) (wrap64 (d + 1)) ++ pre) X ∧ (∀ D ∈ ds, X.heap[D]? = some (.deferred (some []))))
          (fun k h => by have := hS k h; omega)
          (fun pre A B h ⟨h1, h2, h3, h4, h5⟩ => ⟨hJ _ _ _ (h.mono (by omega)) h1, below_cell h h2 (by dsimp only; omega), below_cell h h3 (by dsimp only; omega), h4.under h (fun b hb => by have := (hok b hb).2; omega), fun D hD => (h.block D (by have := hdsw D hD; omega)).trans (h5 D hD)⟩)
          (fun pre A B h ⟨h1, h5⟩ => ⟨hJx _ _ _ (h.mono (by omega)) h1, fun D hD => (h.block D (by have := hdsw D hD; omega)).trans (h5 D hD)⟩)
          ⟨by simpa using hJ _ _ _ (hB3.mono hw') hj, below_cell hB3 hy hyl, below_cell hB3 hd hbdw, hL'.under hB3 (fun b hb => by have := (hok b hb).2; omega), fun D hD => (hB3.block D (hdsw D hD)).trans (hds D hD).2⟩
          ?hit ?hround ?hdone ?hstop
        case hit =>
          intro W4 hB4 hs4
          refine ih k (by omega) hlk (wrap64 (d + 1)) _ _ _ ok W4 ?_ ?_ (below_cell hB4 hd3' (by dsimp only; omega)) ?_ (hk3.below hB4 (by omega)) ?_ ((hLk.under hB3 (fun b hb => by have := (hok b hb).2; omega)).under hB4 (fun b hb => by have := (hok b hb).2; omega))
          · rintro j (h | h)
            · have := hS j h; omega
            · omega
          · intro b hb
            have := hok b hb
            refine ⟨?_, by omega⟩
            rintro (h | h)
            · exact this.1 h
            · omega
          · rintro (h | h)
            · have := hS _ h; omega
            · omega
          · rintro (h | h)
            · have := hS _ h; omega
            · omega
        case hround =>
          rintro l' m pre x X hl' hlX ⟨h1, h2, h3, h4, h5⟩ hpre
          gi_wp2
          refine ⟨(Below.refl _ X).alloc (Nat.le_refl _) _, ?_⟩
          rintro w₂ hk2 ⟨j1, j2, j3, j4, j5⟩
          have hX7 : Cells4 w₂ X.heap.size 0 x.2 := (Cells4.new X x.2).kept hk2 (by omega)
          have p0 := hX7.c0
          have p1 := hX7.c1
          have p2 := hX7.c2
          have p3 := hX7.c3
          have hw2 : ∀ D ∈ ds, D < w₂.heap.size := fun D hD => (Array.getElem?_eq_some_iff.1 (j5 D hD)).1
          obtain ⟨fn, tmps, assign, body, hyy, hR⟩ := hY (m - 1) _ x w₂ j1 (by rw [List.append_assoc]; exact hpx _ hpre)
          dsimp only [partE, XT.val] at hyy
          gi_wp2
          refine ⟨(fun h => by cases h), RoundIn.mono (F := Fence.wide.inRound l') hR ?_⟩
          clear hyy hR
          rintro e W5 ⟨hk5, (⟨rfl, h⟩ | ⟨rfl, h⟩)⟩
          · gi_wp2
            exact ⟨hk5, by rw [List.append_assoc] at h; exact h, hk5.cell j2 hsb, hk5.cell j3 hsd, j4.kept hk5 (fun b hb => (hok b hb).1), fun D hD => (hk5.block D (hw2 D hD) (hdsS D hD)).trans (j5 D hD)⟩
          · gi_wp2
            exact ⟨hk5, by rw [List.append_assoc] at h; exact h, fun D hD => (hk5.block D (hw2 D hD) (hdsS D hD)).trans (j5 D hD)⟩
        case hdone =>
          rintro D X hD ⟨h1, h2, h3, h4, h5⟩ hkX hdX
          gi_wp2
          refine ⟨⟨i + 1, D :: ds, _, _, _, _, _, _, _, _, _, rfl, by omega, ?_, ?_, ?_, (hK.trans (Kept.of_new S hB3)).trans hkX, h2, h3, h4⟩, ?_⟩
          · exact List.nodup_cons.2 ⟨fun h => by have := hdsw D h; omega, hnd⟩
          · intro E hE
            rcases List.mem_cons.1 hE with rfl | hE
            · exact ⟨by omega, hdX⟩
            · exact ⟨(hds E hE).1, h5 E hE⟩
          · rw [XT.partsAll_take hk]
            simpa using h1
          · simp [intOf]
            omega
        case hstop =>
          rintro D pre X hD hpre ⟨h1, h5⟩ hkX hdX
          have hnd' : (D :: ds).Nodup := List.nodup_cons.2 ⟨fun h => by have := hdsw D h; omega, hnd⟩
          have hds' : ∀ E ∈ D :: ds, W.heap.size ≤ E ∧ X.heap[E]? = some (.deferred (some [])) := by
            intro E hE
            rcases List.mem_cons.1 hE with rfl | hE
            · exact ⟨by omega, hdX⟩
            · exact ⟨(hds E hE).1, h5 E hE⟩
          have hKX : Kept S W X := (hK.trans (Kept.of_new S hB3)).trans hkX
          refine leave_marks (D :: ds) X hnd' (fun E hE => (hds' E hE).2) (fun W' hk' => ⟨_, results_none rfl _ _ _, ⟨_, rfl⟩, hKX.join hk' (fun k h1 h2 => by have := (hds' k h2).1; omega), .inr ⟨_, hpx _ hpre, hJx _ _ _ (hk'.below hKX.size (fun k h2 => (hds' k h2).1)) h1⟩⟩)
      · have he : i = t.kids.length := by omega
        gi_wp2
        refine leave_marks ds w' hnd (fun D hD => (hds D hD).2) (fun W' hk' => ⟨_, results_none rfl _ _ _, ⟨_, rfl⟩, hK.join hk' (fun k h1 h2 => by have := (hds k h2).1; omega), .inl ?_⟩)
        have hj' := hJ _ _ _ (hk'.below hK.size (fun k h2 => (hds k h2).1)) hj
        rw [he, List.take_length] at hj'
        rw [XT.parts_eq]
        exact hj'
  · gi_wp2
    exact leave_marks [] W2 List.nodup_nil (by simp) (fun W' hk' => ⟨_, results_none rfl _ _ _, ⟨_, rfl⟩, ((Kept.of_new S hb1).trans hk).trans (hk'.mono (by simp)), .inr ⟨[(d, t)], by rw [XT.parts_eq]; simp, hJx _ _ _ (hk'.below (Nat.le_trans hb1.size hk.size) (by simp)) hx⟩⟩)
end Go.Proofs.Ytimfdfeleoaehaa
