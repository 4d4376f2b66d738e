/-
  Statements as they lie in memory, how much of a bound they leave, and when two are the same.
-/
import Derived.Test.YtimfdfeleoaehaaTreeI
namespace Go.Proofs.Ytimfdfeleoaehaa
open Go.RowKit
set_option linter.unusedSimpArgs false
set_option linter.unusedVariables false

inductive SX where
  | mk (kind : Int) (name : ByteArray) (e f : XT) (abase : Option Addr) (acap : Nat) (la : List SX) (bbase : Option Addr) (bcap : Nat) (lb : List SX)
def SX.kind : SX → Int | .mk k _ _ _ _ _ _ _ _ _ => k
def SX.name : SX → ByteArray | .mk _ n _ _ _ _ _ _ _ _ => n
def SX.e : SX → XT | .mk _ _ e _ _ _ _ _ _ _ => e
def SX.f : SX → XT | .mk _ _ _ f _ _ _ _ _ _ => f
def SX.abase : SX → Option Addr | .mk _ _ _ _ a _ _ _ _ _ => a
def SX.acap : SX → Nat | .mk _ _ _ _ _ c _ _ _ _ => c
def SX.la : SX → List SX | .mk _ _ _ _ _ _ l _ _ _ => l
def SX.bbase : SX → Option Addr | .mk _ _ _ _ _ _ _ b _ _ => b
def SX.bcap : SX → Nat | .mk _ _ _ _ _ _ _ _ c _ => c
def SX.lb : SX → List SX | .mk _ _ _ _ _ _ _ _ _ l => l
abbrev SX.val (s : SX) : Value := .agg #[.int .i64 s.kind, .string s.name, .int .i64 s.e.kind, .int .i64 s.e.num, .string s.e.name, .slice s.e.base s.e.kids.length s.e.cap, .int .i64 s.f.kind, .int .i64 s.f.num, .string s.f.name, .slice s.f.base s.f.kids.length s.f.cap, .slice s.abase s.la.length s.acap, .slice s.bbase s.lb.length s.bcap]
mutual
def SX.size : SX → Nat
  | .mk _ _ _ _ _ _ la _ _ lb => 1 + (SX.sizeAll la + SX.sizeAll lb)
def SX.sizeAll : List SX → Nat
  | [] => 0
  | t :: ts => SX.size t + SX.sizeAll ts
end
theorem SX.size_eq (s : SX) : s.size = 1 + (SX.sizeAll s.la + SX.sizeAll s.lb) := by cases s; simp [SX.size, SX.la, SX.lb]
theorem SX.size_get {ks : List SX} {i : Nat} {t : SX} (h : ks[i]? = some t) : t.size ≤ SX.sizeAll ks := by
  induction ks generalizing i with
  | nil => simp at h
  | cons x xs ih =>
    cases i with
    | zero => simp at h; subst h; simp [SX.sizeAll]
    | succ i => simp at h; have := ih h; simp [SX.sizeAll]; omega

structure Cells12 (W : World) (b o : Nat) (s : SX) : Prop where
  c0 : W.cell? ⟨b, o, none⟩ = some (.int .i64 s.kind)
  c1 : W.cell? ⟨b, o + 1, none⟩ = some (.string s.name)
  c2 : W.cell? ⟨b, o + 2, none⟩ = some (.int .i64 s.e.kind)
  c3 : W.cell? ⟨b, o + 3, none⟩ = some (.int .i64 s.e.num)
  c4 : W.cell? ⟨b, o + 4, none⟩ = some (.string s.e.name)
  c5 : W.cell? ⟨b, o + 5, none⟩ = some (.slice s.e.base s.e.kids.length s.e.cap)
  c6 : W.cell? ⟨b, o + 6, none⟩ = some (.int .i64 s.f.kind)
  c7 : W.cell? ⟨b, o + 7, none⟩ = some (.int .i64 s.f.num)
  c8 : W.cell? ⟨b, o + 8, none⟩ = some (.string s.f.name)
  c9 : W.cell? ⟨b, o + 9, none⟩ = some (.slice s.f.base s.f.kids.length s.f.cap)
  c10 : W.cell? ⟨b, o + 10, none⟩ = some (.slice s.abase s.la.length s.acap)
  c11 : W.cell? ⟨b, o + 11, none⟩ = some (.slice s.bbase s.lb.length s.bcap)
theorem Cells12.lt {W : World} {b o : Nat} {s : SX} (h : Cells12 W b o s) : b < W.heap.size := World.block_lt_of_cell? W _ h.c0
theorem Cells12.kept {S : Nat → Prop} {A B : World} {b o : Nat} {s : SX} (h : Cells12 A b o s) (hk : Kept S A B) (hs : ¬ S b) : Cells12 B b o s :=
  ⟨hk.cell h.c0 hs, hk.cell h.c1 hs, hk.cell h.c2 hs, hk.cell h.c3 hs, hk.cell h.c4 hs, hk.cell h.c5 hs, hk.cell h.c6 hs, hk.cell h.c7 hs, hk.cell h.c8 hs, hk.cell h.c9 hs, hk.cell h.c10 hs, hk.cell h.c11 hs⟩
theorem Cells12.below {n : Nat} {A B : World} {b o : Nat} {s : SX} (h : Cells12 A b o s) (hk : Below n A B) (hs : b < n) : Cells12 B b o s :=
  ⟨below_cell hk h.c0 hs, below_cell hk h.c1 hs, below_cell hk h.c2 hs, below_cell hk h.c3 hs, below_cell hk h.c4 hs, below_cell hk h.c5 hs, below_cell hk h.c6 hs, below_cell hk h.c7 hs, below_cell hk h.c8 hs, below_cell hk h.c9 hs, below_cell hk h.c10 hs, below_cell hk h.c11 hs⟩
theorem Cells12.of_block {A B : World} {b o : Nat} {s : SX} (h : Cells12 A b o s) (hb : B.heap[b]? = A.heap[b]?) : Cells12 B b o s :=
  ⟨(cell_of_block (a := ⟨b, _, none⟩) hb).trans h.c0, (cell_of_block (a := ⟨b, _, none⟩) hb).trans h.c1, (cell_of_block (a := ⟨b, _, none⟩) hb).trans h.c2, (cell_of_block (a := ⟨b, _, none⟩) hb).trans h.c3, (cell_of_block (a := ⟨b, _, none⟩) hb).trans h.c4, (cell_of_block (a := ⟨b, _, none⟩) hb).trans h.c5, (cell_of_block (a := ⟨b, _, none⟩) hb).trans h.c6, (cell_of_block (a := ⟨b, _, none⟩) hb).trans h.c7, (cell_of_block (a := ⟨b, _, none⟩) hb).trans h.c8, (cell_of_block (a := ⟨b, _, none⟩) hb).trans h.c9, (cell_of_block (a := ⟨b, _, none⟩) hb).trans h.c10, (cell_of_block (a := ⟨b, _, none⟩) hb).trans h.c11⟩
theorem Cells12.new (W : World) (s : SX) (T : TypeId) : Cells12 (W.alloc (.cells #[.int .i64 s.kind, .string s.name, .int .i64 s.e.kind, .int .i64 s.e.num, .string s.e.name, .slice s.e.base s.e.kids.length s.e.cap, .int .i64 s.f.kind, .int .i64 s.f.num, .string s.f.name, .slice s.f.base s.f.kids.length s.f.cap, .slice s.abase s.la.length s.acap, .slice s.bbase s.lb.length s.bcap] T)) W.heap.size 0 s :=
  ⟨World.cell?_alloc_new W _ _ 0, World.cell?_alloc_new W _ _ 1, World.cell?_alloc_new W _ _ 2, World.cell?_alloc_new W _ _ 3, World.cell?_alloc_new W _ _ 4, World.cell?_alloc_new W _ _ 5, World.cell?_alloc_new W _ _ 6, World.cell?_alloc_new W _ _ 7, World.cell?_alloc_new W _ _ 8, World.cell?_alloc_new W _ _ 9, World.cell?_alloc_new W _ _ 10, World.cell?_alloc_new W _ _ 11⟩
def SRow (ok : Nat → Prop) (W : World) (base : Option Addr) (l : List SX) : Prop := ∀ (i : Nat) (k : SX), l[i]? = some k → ∃ b o, base = some ⟨b, o, none⟩ ∧ ok b ∧ Cells12 W b (o + i * 12) k
inductive LiesS (ok : Nat → Prop) (W : World) : SX → Prop
  | mk (s : SX) (he : Lies ok W s.e) (hf : Lies ok W s.f) (ha : SRow ok W s.abase s.la) (hb : SRow ok W s.bbase s.lb) (hka : ∀ (i : Nat) (k : SX), s.la[i]? = some k → LiesS ok W k) (hkb : ∀ (i : Nat) (k : SX), s.lb[i]? = some k → LiesS ok W k) : LiesS ok W s
theorem LiesS.parts {ok : Nat → Prop} {W : World} {s : SX} (h : LiesS ok W s) : Lies ok W s.e ∧ Lies ok W s.f ∧ SRow ok W s.abase s.la ∧ SRow ok W s.bbase s.lb ∧ (∀ (i : Nat) (k : SX), s.la[i]? = some k → LiesS ok W k) ∧ (∀ (i : Nat) (k : SX), s.lb[i]? = some k → LiesS ok W k) := by
  cases h; exact ⟨‹_›, ‹_›, ‹_›, ‹_›, ‹_›, ‹_›⟩
theorem SRow.mono {ok ok' : Nat → Prop} {A B : World} {base : Option Addr} {l : List SX} (h : SRow ok A base l) (hb : ∀ b, ok b → b < A.heap.size → ok' b ∧ B.heap[b]? = A.heap[b]?) : SRow ok' B base l := by
  intro i k hk
  obtain ⟨b, o, h1, h2, h3⟩ := h i k hk
  obtain ⟨h4, h5⟩ := hb b h2 h3.lt
  exact ⟨b, o, h1, h4, h3.of_block h5⟩
theorem LiesS.mono {ok ok' : Nat → Prop} {A B : World} {s : SX} (h : LiesS ok A s) (hb : ∀ b, ok b → b < A.heap.size → ok' b ∧ B.heap[b]? = A.heap[b]?) : LiesS ok' B s := by
  induction h with
  | mk s he hf ha hb' hka hkb iha ihb => exact .mk s (he.mono hb) (hf.mono hb) (ha.mono hb) (hb'.mono hb) iha ihb
theorem SRow.under {ok : Nat → Prop} {n : Nat} {A B : World} {base : Option Addr} {l : List SX} (h : SRow ok A base l) (hk : Below n A B) (hs : ∀ b, ok b → b < n) : SRow ok B base l := h.mono fun b ho hb => ⟨ho, hk.block b (hs b ho)⟩
theorem LiesS.under {ok : Nat → Prop} {n : Nat} {A B : World} {s : SX} (h : LiesS ok A s) (hk : Below n A B) (hs : ∀ b, ok b → b < n) : LiesS ok B s := h.mono fun b ho hb => ⟨ho, hk.block b (hs b ho)⟩
theorem LiesS.kept {S ok : Nat → Prop} {A B : World} {s : SX} (h : LiesS ok A s) (hk : Kept S A B) (hs : ∀ b, ok b → ¬ S b) : LiesS ok B s := h.mono fun b ho hb => ⟨ho, hk.block b hb (hs b ho)⟩
theorem LiesS.bound {ok : Nat → Prop} {W : World} {s : SX} (h : LiesS ok W s) : LiesS (fun b => b < W.heap.size) W s := h.mono (fun b _ hb => ⟨hb, rfl⟩)

mutual
def SX.tot : SX → Nat
  | .mk _ n e f _ _ la _ _ lb => n.size + (e.tot + (f.tot + ((la.length + SX.totAll la) + (lb.length + SX.totAll lb))))
def SX.totAll : List SX → Nat
  | [] => 0
  | t :: ts => SX.tot t + SX.totAll ts
end
theorem SX.tot_eq (s : SX) : s.tot = s.name.size + (s.e.tot + (s.f.tot + ((s.la.length + SX.totAll s.la) + (s.lb.length + SX.totAll s.lb)))) := by cases s; simp [SX.tot, SX.la, SX.lb, SX.name, SX.e, SX.f]
theorem SX.totAll_append (us bs : List SX) : SX.totAll (us ++ bs) = SX.totAll us + SX.totAll bs := by
  induction us with
  | nil => simp [SX.totAll]
  | cons x xs ih => simp [SX.totAll, ih]; omega
theorem SX.totAll_take {ks : List SX} {i : Nat} {t : SX} (h : ks[i]? = some t) : SX.totAll (ks.take (i + 1)) = SX.totAll (ks.take i) + t.tot := by
  rw [List.take_add_one, h, SX.totAll_append]
  simp [SX.totAll]
theorem SX.totAll_le (ks : List SX) (i : Nat) : SX.totAll (ks.take i) ≤ SX.totAll ks := by
  have h := SX.totAll_append (ks.take i) (ks.drop i)
  rw [List.take_append_drop] at h
  omega
inductive WideS : SX → Prop
  | mk (s : SX) (hn : s.name.size ≤ maxLen) (he : Wide s.e) (hf : Wide s.f) (hla : s.la.length ≤ maxLen) (hlb : s.lb.length ≤ maxLen) (hka : ∀ (i : Nat) (k : SX), s.la[i]? = some k → WideS k) (hkb : ∀ (i : Nat) (k : SX), s.lb[i]? = some k → WideS k) : WideS s
theorem WideS.parts {s : SX} (h : WideS s) : s.name.size ≤ maxLen ∧ Wide s.e ∧ Wide s.f ∧ s.la.length ≤ maxLen ∧ s.lb.length ≤ maxLen ∧ (∀ (i : Nat) (k : SX), s.la[i]? = some k → WideS k) ∧ (∀ (i : Nat) (k : SX), s.lb[i]? = some k → WideS k) := by
  cases h; exact ⟨‹_›, ‹_›, ‹_›, ‹_›, ‹_›, ‹_›, ‹_›⟩

set_option maxHeartbeats 2000000 in
theorem szSS (ks : List SX) (a : Option Addr) (c : Nat) (ok : Nat → Prop) (w : World) (hok : ∀ b, ok b → b < w.heap.size) (hcl : SRow ok w a ks) (hlen : ks.length ≤ maxLen)
    (H : ∀ (i : Nat) (k : SX), ks[i]? = some k → ∀ (left : Int) (w' : World), 0 ≤ left → left ≤ 1048576 → Below w.heap.size w w' →
      Calls Try.prog 21 #[k.val, .int .i64 left] w' fun e w'' => e = .returned (.int .i64 (subI left k.tot)) ∧ Below w'.heap.size w' w'')
    (left : Int) (h0 : 0 ≤ left) (h1 : left ≤ 1048576) :
    Calls Try.prog 6 #[.slice a ks.length c, .int .i64 left] w fun e w' => e = .returned (.int .i64 (subI left (ks.length + SX.totAll ks))) ∧ Below w.heap.size w w' := by
  unfold maxLen at hlen
  obtain ⟨len, hl⟩ : ∃ len, ks.length = len := ⟨_, rfl⟩
  rw [hl] at hlen ⊢
  go_enter Try.func6, Try.ntmps6
  by_cases hs : left < len
  · go_wp2
    all_goals
      first
        | (exfalso; omega)
        | (go_returns; exact ⟨ret_int (subI_no (by omega)).symm, Below.refl _ _⟩)
        | skip
  · go_wp2
    go_loopw [1, 5] (fun v1 v5 wr => ∃ (i : Nat) (l : Int), v5 = .int .i64 i ∧ v1 = .int .i64 l ∧ i ≤ len ∧ 0 ≤ l ∧ l + len + SX.totAll (ks.take i) = left ∧ Below w.heap.size w wr) (fun _ v5 _ => len - (intOf v5).toNat)
    case atStart => exact ⟨0, left - len, rfl, rfl, by omega, by omega, by simp [SX.totAll], Below.refl _ _⟩
    case round =>
      obtain ⟨i, l, rfl, rfl, hi, hl0, hle, hB⟩ := hrel
      by_cases hlt : i < len
      · obtain ⟨kid, hkid⟩ : ∃ kid, ks[i]? = some kid := ⟨_, List.getElem?_eq_getElem (by omega)⟩
        obtain ⟨bb, o, hbase, hokb, hc⟩ := hcl i kid hkid
        obtain ⟨c0, c1, c2, c3, c4, c5, c6, c7, c8, c9, c10, c11⟩ := hc.below hB (hok bb hokb)
        have hcall := H i kid hkid l wr hl0 (by omega) hB
        have htk := SX.totAll_take hkid
        have htl := SX.totAll_le ks (i + 1)
        subst hbase
        by_cases hk : (kid.tot : Int) ≤ l
        · rw [subI_yes hk] at hcall
          go_wp2_with (go_at_call 21; refine hcall.mono ?_; rintro e w4 ⟨rfl, hB4⟩)
          all_goals
            first
              | (exfalso; omega)
              | skip
          refine ⟨⟨i + 1, l - kid.tot, by go_num, rfl, by omega, by omega, by omega, hB.trans (hB4.mono hB.size)⟩, ?_⟩
          simp [intOf]
          omega
        · rw [subI_no (by omega)] at hcall
          go_wp2_with (go_at_call 21; refine hcall.mono ?_; rintro e w4 ⟨rfl, hB4⟩)
          go_returns
          exact ⟨ret_int (subI_no (by omega)).symm, hB.trans (hB4.mono hB.size)⟩
      · have he : i = len := by omega
        have hall : ks.take i = ks := List.take_of_length_le (by omega)
        rw [hall] at hle
        go_wp2
        go_returns
        exact ⟨ret_int (by rw [subI_yes (by omega)]; omega), hB⟩
set_option maxHeartbeats 4000000 in
theorem szS1 (sz : Nat) : ∀ (s : SX), s.size ≤ sz → WideS s → ∀ (ok : Nat → Prop) (w : World), (∀ b, ok b → b < w.heap.size) → LiesS ok w s → ∀ (left : Int), 0 ≤ left → left ≤ 1048576 →
    Calls Try.prog 21 #[s.val, .int .i64 left] w fun e w' => e = .returned (.int .i64 (subI left s.tot)) ∧ Below w.heap.size w w' := by
  induction sz with
  | zero => intro s h; rw [SX.size_eq] at h; omega
  | succ sz ih =>
  intro s hsz hW ok w hok hL left h0 h1
  obtain ⟨hnm, hWe, hWf, hla, hlb, hWa, hWb⟩ := hW.parts
  unfold maxLen at hnm
  have htot := s.tot_eq
  have hse := s.size_eq
  obtain ⟨W1, hW1⟩ : ∃ W1, w.alloc (.cells #[.int .i64 s.kind, .string s.name, .int .i64 s.e.kind, .int .i64 s.e.num, .string s.e.name, .slice s.e.base s.e.kids.length s.e.cap, .int .i64 s.f.kind, .int .i64 s.f.num, .string s.f.name, .slice s.f.base s.f.kids.length s.f.cap, .slice s.abase s.la.length s.acap, .slice s.bbase s.lb.length s.bcap] 44) = W1 := ⟨_, rfl⟩
  have hB1 : Below w.heap.size w W1 := by rw [← hW1]; exact (Below.refl _ w).alloc (Nat.le_refl _) _
  have hs1 : w.heap.size + 1 = W1.heap.size := by rw [← hW1]; simp
  have hC1 : Cells12 W1 w.heap.size 0 s := by rw [← hW1]; exact Cells12.new w s _
  have hok1 : ∀ b, ok b → b < W1.heap.size := fun b hb => Nat.lt_of_lt_of_le (hok b hb) hB1.size
  obtain ⟨hLe, hLf, hRa, hRb, hKa, hKb⟩ := (hL.under hB1 hok).parts
  have hup : ∀ b, ok b → b < w.heap.size := hok
  have step : ∀ (W : World), Below W1.heap.size W1 W → (∀ b, ok b → b < W.heap.size) ∧ Lies ok W s.e ∧ Lies ok W s.f ∧ SRow ok W s.abase s.la ∧ SRow ok W s.bbase s.lb ∧ (∀ (i : Nat) (k : SX), s.la[i]? = some k → LiesS ok W k) ∧ (∀ (i : Nat) (k : SX), s.lb[i]? = some k → LiesS ok W k) := fun W hB =>
    ⟨fun b hb => Nat.lt_of_lt_of_le (hok1 b hb) hB.size, hLe.under hB hok1, hLf.under hB hok1, hRa.under hB hok1, hRb.under hB hok1, fun i k hk => (hKa i k hk).under hB hok1, fun i k hk => (hKb i k hk).under hB hok1⟩
  have hBr := Below.refl W1.heap.size W1
  have hzl := hs1
  go_enter Try.func21, Try.ntmps21
  by_cases hn : (s.name.size : Int) ≤ left
  · have st := step W1 hBr
    have hcall := (sz1 _ s.e (Nat.le_refl _) hWe ok W1 st.1 st.2.1 (left - s.name.size) (by omega) (by omega))
    clear st
    obtain ⟨c0, c1, c2, c3, c4, c5, c6, c7, c8, c9, c10, c11⟩ := hC1.below hBr (by omega)
    by_cases hk0 : ((s.e.tot : Nat) : Int) ≤ left - s.name.size
    · rw [subI_yes hk0] at hcall
      go_wp2_with fail
      all_goals first | (exfalso; omega) | skip
      go_at_call 44
      refine hcall.mono ?_
      clear hcall c0 c1 c2 c3 c4 c5 c6 c7 c8 c9 c10 c11
      rintro e x0 ⟨rfl, hb0⟩
      have hX0 := hBr.trans (hb0.mono hBr.size)
      have st := step x0 hX0
      have hcall := (sz1 _ s.f (Nat.le_refl _) hWf ok x0 st.1 st.2.2.1 (left - s.name.size - s.e.tot) (by omega) (by omega))
      clear st
      obtain ⟨c0, c1, c2, c3, c4, c5, c6, c7, c8, c9, c10, c11⟩ := hC1.below hX0 (by omega)
      by_cases hk1 : ((s.f.tot : Nat) : Int) ≤ left - s.name.size - s.e.tot
      · rw [subI_yes hk1] at hcall
        go_wp2_with fail
        all_goals first | (exfalso; omega) | skip
        go_at_call 44
        refine hcall.mono ?_
        clear hcall c0 c1 c2 c3 c4 c5 c6 c7 c8 c9 c10 c11
        rintro e x1 ⟨rfl, hb1⟩
        have hX1 := hX0.trans (hb1.mono hX0.size)
        have st := step x1 hX1
        have hcall := (szSS s.la s.abase s.acap ok x1 st.1 st.2.2.2.1 hla (fun i k hk l' w' g0 g1 hBw => ih k (by have h2 := SX.size_get hk; omega) (hWa i k hk) ok w' (fun b hb => Nat.lt_of_lt_of_le (st.1 b hb) hBw.size) ((st.2.2.2.2.2.1 i k hk).under hBw st.1) l' g0 g1) (left - s.name.size - s.e.tot - s.f.tot) (by omega) (by omega))
        clear st
        obtain ⟨c0, c1, c2, c3, c4, c5, c6, c7, c8, c9, c10, c11⟩ := hC1.below hX1 (by omega)
        by_cases hk2 : (((s.la.length + SX.totAll s.la) : Nat) : Int) ≤ left - s.name.size - s.e.tot - s.f.tot
        · rw [subI_yes hk2] at hcall
          go_wp2_with fail
          all_goals first | (exfalso; omega) | skip
          go_at_call 6
          refine hcall.mono ?_
          clear hcall c0 c1 c2 c3 c4 c5 c6 c7 c8 c9 c10 c11
          rintro e x2 ⟨rfl, hb2⟩
          have hX2 := hX1.trans (hb2.mono hX1.size)
          have st := step x2 hX2
          have hcall := (szSS s.lb s.bbase s.bcap ok x2 st.1 st.2.2.2.2.1 hlb (fun i k hk l' w' g0 g1 hBw => ih k (by have h2 := SX.size_get hk; omega) (hWb i k hk) ok w' (fun b hb => Nat.lt_of_lt_of_le (st.1 b hb) hBw.size) ((st.2.2.2.2.2.2 i k hk).under hBw st.1) l' g0 g1) (left - s.name.size - s.e.tot - s.f.tot - (s.la.length + SX.totAll s.la)) (by omega) (by omega))
          clear st
          obtain ⟨c0, c1, c2, c3, c4, c5, c6, c7, c8, c9, c10, c11⟩ := hC1.below hX2 (by omega)
          by_cases hk3 : (((s.lb.length + SX.totAll s.lb) : Nat) : Int) ≤ left - s.name.size - s.e.tot - s.f.tot - (s.la.length + SX.totAll s.la)
          · rw [subI_yes hk3] at hcall
            go_wp2_with fail
            all_goals first | (exfalso; omega) | skip
            go_at_call 6
            refine hcall.mono ?_
            clear hcall c0 c1 c2 c3 c4 c5 c6 c7 c8 c9 c10 c11
            rintro e x3 ⟨rfl, hb3⟩
            have hX3 := hX2.trans (hb3.mono hX2.size)
            go_wp2_with fail
            all_goals first | (exfalso; omega) | skip
            go_returns
            exact ⟨ret_int (by rw [subI_yes (by omega)]; omega), hB1.trans (hX3.mono (by omega))⟩
          · rw [subI_no (by omega)] at hcall
            go_wp2_with fail
            all_goals first | (exfalso; omega) | skip
            go_at_call 6
            refine hcall.mono ?_
            rintro e x3 ⟨rfl, hb3⟩
            have hX3 := hX2.trans (hb3.mono hX2.size)
            go_wp2
            go_returns
            exact ⟨ret_int (by rw [subI_no (by omega)]), hB1.trans (hX3.mono (by omega))⟩
        · rw [subI_no (by omega)] at hcall
          go_wp2_with fail
          all_goals first | (exfalso; omega) | skip
          go_at_call 6
          refine hcall.mono ?_
          rintro e x2 ⟨rfl, hb2⟩
          have hX2 := hX1.trans (hb2.mono hX1.size)
          go_wp2
          go_returns
          exact ⟨ret_int (by rw [subI_no (by omega)]), hB1.trans (hX2.mono (by omega))⟩
      · rw [subI_no (by omega)] at hcall
        go_wp2_with fail
        all_goals first | (exfalso; omega) | skip
        go_at_call 44
        refine hcall.mono ?_
        rintro e x1 ⟨rfl, hb1⟩
        have hX1 := hX0.trans (hb1.mono hX0.size)
        go_wp2
        go_returns
        exact ⟨ret_int (by rw [subI_no (by omega)]), hB1.trans (hX1.mono (by omega))⟩
    · rw [subI_no (by omega)] at hcall
      go_wp2_with fail
      all_goals first | (exfalso; omega) | skip
      go_at_call 44
      refine hcall.mono ?_
      rintro e x0 ⟨rfl, hb0⟩
      have hX0 := hBr.trans (hb0.mono hBr.size)
      go_wp2
      go_returns
      exact ⟨ret_int (by rw [subI_no (by omega)]), hB1.trans (hX0.mono (by omega))⟩
  · obtain ⟨c0, c1, c2, c3, c4, c5, c6, c7, c8, c9, c10, c11⟩ := hC1
    go_wp2_with fail
    all_goals first | (exfalso; omega) | skip
    go_returns
    exact ⟨ret_int (by rw [subI_no (by omega)]), hB1⟩
end Go.Proofs.Ytimfdfeleoaehaa
