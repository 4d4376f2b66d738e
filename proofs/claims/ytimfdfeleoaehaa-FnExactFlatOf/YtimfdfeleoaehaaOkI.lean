/-
  The program's walk through a list of statements yields each, behind it those of its A, and then those of its B, each with how many are around it, to whatever rounds take them; the list lies in memory that the rounds leave alone.
-/
import Derived.Test.YtimfdfeleoaehaaStmtA
namespace Go.Proofs.Ytimfdfeleoaehaa
open Go.RowKit Go.Shelf
set_option linter.unusedSimpArgs false
set_option linter.unusedVariables false
attribute [local go_sem] Oper.semAt_some

mutual
def SX.within : SX → Int → List (Int × SX)
  | .mk k n e f a c la b d lb, r => (r, .mk k n e f a c la b d lb) :: (SX.withinAll la (wrap64 (r + 1)) ++ SX.withinAll lb (wrap64 (r + 1)))
def SX.withinAll : List SX → Int → List (Int × SX)
  | [], _ => []
  | t :: ts, r => SX.within t r ++ SX.withinAll ts r
end
theorem SX.within_eq (s : SX) (r : Int) : s.within r = (r, s) :: (SX.withinAll s.la (wrap64 (r + 1)) ++ SX.withinAll s.lb (wrap64 (r + 1))) := by
  cases s; rfl
theorem SX.withinAll_append (us bs : List SX) (r : Int) : SX.withinAll (us ++ bs) r = SX.withinAll us r ++ SX.withinAll bs r := by
  induction us with
  | nil => simp [SX.withinAll]
  | cons x xs ih => simp [SX.withinAll, ih]
theorem SX.withinAll_take {ks : List SX} {i : Nat} {t : SX} (h : ks[i]? = some t) (r : Int) : SX.withinAll (ks.take (i + 1)) r = SX.withinAll (ks.take i) r ++ t.within r := by
  rw [List.take_add_one, h, SX.withinAll_append]
  simp [SX.withinAll]
theorem SX.withinAll_prefix {ks : List SX} (i : Nat) (r : Int) : SX.withinAll (ks.take i) r <+: SX.withinAll ks r := by
  refine ⟨SX.withinAll (ks.drop i) r, ?_⟩
  rw [← SX.withinAll_append, List.take_append_drop]
theorem SX.length_le (ks : List SX) : ks.length ≤ SX.sizeAll ks := by
  induction ks with
  | nil => simp
  | cons x xs ih => have := SX.size_eq x; simp [SX.sizeAll]; omega

abbrev stmtE (x : Int × SX) : Array Value := #[.int .i64 x.1, x.2.val]

theorem stmtsOf (a : Option Addr) (len c : Nat) (d : Int) (w : World) :
    Calls Try.prog 67 #[.slice a len c, .int .i64 d] w fun e w' =>
      e = .returned (.func (.func 79) #[] #[.pointer (some ⟨w.heap.size, 0, none⟩), .pointer (some ⟨w.heap.size + 1, 0, none⟩)]) ∧
      w' = (w.alloc (.cells #[.slice a len c] 26)).alloc (.cells #[.int .i64 d] 3) := by
  go_enter Try.func67, Try.ntmps67
  go_wp2
  go_returns
  exact ⟨rfl, rfl⟩

theorem listsS0 (k : Int) (n : ByteArray) (ek en : Int) (es : ByteArray) (eb : Option Addr) (el ec : Nat) (fk fn : Int) (fs : ByteArray) (fb : Option Addr) (fl fc : Nat) (ab : Option Addr) (al ac : Nat) (bb : Option Addr) (bl bc : Nat) (w : World) :
    Calls Try.prog 66 #[.agg #[.int .i64 k, .string n, .int .i64 ek, .int .i64 en, .string es, .slice eb el ec, .int .i64 fk, .int .i64 fn, .string fs, .slice fb fl fc, .slice ab al ac, .slice bb bl bc]] w fun e w' => e = .returned (.slice (some ⟨w.heap.size + 1, 0, none⟩) 2 2) ∧
      w' = (w.alloc (.cells #[.int .i64 k, .string n, .int .i64 ek, .int .i64 en, .string es, .slice eb el ec, .int .i64 fk, .int .i64 fn, .string fs, .slice fb fl fc, .slice ab al ac, .slice bb bl bc] 50)).alloc (.cells #[.slice ab al ac, .slice bb bl bc] 26) := by
  go_enter Try.func66, Try.ntmps66
  go_wp2
  go_returns
  exact ⟨rfl, rfl⟩
/-- What the rounds leave of what the walk needs. -/
structure St (ok : Nat → Prop) (N l bd : Nat) (d : Int) (a : Option Addr) (ks : List SX) (ds : List Nat) (X : World) : Prop where
  yc : X.cell? ⟨N, 0, none⟩ = some (.func (.yield l) #[] #[])
  dc : X.cell? ⟨bd, 0, none⟩ = some (.int .i64 d)
  row : SRow ok X a ks
  lies : ∀ (i : Nat) (k : SX), ks[i]? = some k → LiesS ok X k
  marks : ∀ D ∈ ds, N ≤ D ∧ X.heap[D]? = some (.deferred (some []))
theorem St.lt {ok : Nat → Prop} {N l bd : Nat} {d : Int} {a : Option Addr} {ks : List SX} {ds : List Nat} {A : World} (h : St ok N l bd d a ks ds A) : N < A.heap.size ∧ bd < A.heap.size ∧ ∀ D ∈ ds, D < A.heap.size :=
  ⟨World.block_lt_of_cell? A _ h.yc, World.block_lt_of_cell? A _ h.dc, fun D hD => (Array.getElem?_eq_some_iff.1 (h.marks D hD).2).1⟩
theorem St.on {ok : Nat → Prop} {N l bd : Nat} {d : Int} {a : Option Addr} {ks : List SX} {ds : List Nat} {A B : World} (h : St ok N l bd d a ks ds A) (hb : ∀ k, k < A.heap.size → (k = N ∨ k = bd ∨ ok k ∨ k ∈ ds) → B.heap[k]? = A.heap[k]?) : St ok N l bd d a ks ds B := by
  obtain ⟨z1, z2, z3⟩ := h.lt
  exact ⟨(cell_of_block (a := ⟨N, 0, none⟩) (hb _ z1 (.inl rfl))).trans h.yc, (cell_of_block (a := ⟨bd, 0, none⟩) (hb _ z2 (.inr (.inl rfl)))).trans h.dc, h.row.mono (fun b ho hl => ⟨ho, hb b hl (.inr (.inr (.inl ho)))⟩),
    fun i k hk => (h.lies i k hk).mono (fun b ho hl => ⟨ho, hb b hl (.inr (.inr (.inl ho)))⟩), fun D hD => ⟨(h.marks D hD).1, (hb D (z3 D hD) (.inr (.inr (.inr hD)))).trans (h.marks D hD).2⟩⟩
theorem St.new {ok : Nat → Prop} {N l bd : Nat} {d : Int} {a : Option Addr} {ks : List SX} {ds : List Nat} {A B : World} (h : St ok N l bd d a ks ds A) (hb : Below A.heap.size A B) : St ok N l bd d a ks ds B := h.on (fun k hk _ => hb.block k hk)
theorem St.more {ok : Nat → Prop} {N l bd D : Nat} {d : Int} {a : Option Addr} {ks : List SX} {ds : List Nat} {A : World} (h : St ok N l bd d a ks ds A) (hN : N ≤ D) (hD : A.heap[D]? = some (.deferred (some []))) : St ok N l bd d a ks (D :: ds) A :=
  ⟨h.yc, h.dc, h.row, h.lies, fun E hE => by rcases List.mem_cons.1 hE with rfl | hE; exact ⟨hN, hD⟩; exact h.marks E hE⟩
def SX.upTo (s : SX) (r : Int) : Nat → List (Int × SX)
  | 0 => []
  | 1 => SX.withinAll s.la r
  | _ => SX.withinAll s.la r ++ SX.withinAll s.lb r
def SX.lst (s : SX) : Nat → List SX | 0 => s.la | _ => s.lb
def SX.lbs (s : SX) : Nat → Option Addr | 0 => s.abase | _ => s.bbase
def SX.lcp (s : SX) : Nat → Nat | 0 => s.acap | _ => s.bcap
theorem SX.upTo_next (s : SX) (r : Int) (j : Nat) (hj : j < 2) : s.upTo r (j + 1) = s.upTo r j ++ SX.withinAll (s.lst j) r := by
  rcases j with _ | _ | j
  · simp [SX.upTo, SX.lst]
  · simp [SX.upTo, SX.lst]
  · omega
theorem SX.upTo_pre (s : SX) (r : Int) (j : Nat) (hj : j ≤ 2) : s.upTo r j <+: s.upTo r 2 := by
  rcases j with _ | _ | _ | j
  · exact List.nil_prefix
  · exact List.prefix_append _ _
  · exact List.prefix_refl _
  · omega
theorem SX.within_upTo (s : SX) (r : Int) : s.within r = (r, s) :: s.upTo (wrap64 (r + 1)) 2 := by rw [SX.within_eq]; rfl
theorem SX.lst_size (s : SX) (j : Nat) : SX.sizeAll (s.lst j) < s.size := by
  have := s.size_eq
  rcases j with _ | j <;> simp only [SX.lst] <;> omega
theorem LiesS.lst {ok : Nat → Prop} {W : World} {s : SX} (h : LiesS ok W s) (j : Nat) : SRow ok W (s.lbs j) (s.lst j) ∧ ∀ (i : Nat) (k : SX), (s.lst j)[i]? = some k → LiesS ok W k := by
  obtain ⟨-, -, h3, h4, h5, h6⟩ := h.parts
  rcases j with _ | j
  · exact ⟨h3, h5⟩
  · exact ⟨h4, h6⟩

set_option maxRecDepth 100000 in
set_option maxHeartbeats 8000000 in
theorem stmts1 (sz : Nat) : ∀ (ks : List SX), sz ≤ 1099511627776 → SX.sizeAll ks ≤ sz → ∀ (a : Option Addr) (c : Nat) (d : Int) (bl bd : Nat) (S ok : Nat → Prop) (W : World), (∀ k, S k → k < W.heap.size) → (∀ b, ok b → ¬ S b ∧ b < W.heap.size) → W.cell? ⟨bd, 0, none⟩ = some (.int .i64 d) → ¬ S bd →
    W.cell? ⟨bl, 0, none⟩ = some (.slice a ks.length c) → SRow ok W a ks → (∀ (i : Nat) (k : SX), ks[i]? = some k → LiesS ok W k) →
    Iter Try.prog 79 #[.pointer (some ⟨bl, 0, none⟩), .pointer (some ⟨bd, 0, none⟩)] stmtE (SX.withinAll ks d) S W := by
  induction sz using Nat.strongRecOn with
  | _ sz ih =>
  intro ks hlim hsz a c d bl bd S ok W hS hok hbd hsd hbl hR hL n l J Jx hJ hJx hY h0
  refine callsIn_of_wp_marks Try.func79 rfl trivial ?_ rfl
  simp only [Try.ntmps79, List.size_toArray, List.length_cons, List.length_nil, Nat.reduceAdd, Nat.reduceSub, Array.replicate_succ, Array.replicate_zero, List.push_toArray, List.append_toArray, List.nil_append, List.cons_append]
  obtain ⟨W0, hW0⟩ : ∃ W0, W.alloc (.cells #[.func (.yield l) #[] #[]] 131) = W0 := ⟨_, rfl⟩
  have hb1 : Below W.heap.size W W0 := by rw [← hW0]; exact (Below.refl _ W).alloc (Nat.le_refl _) _
  have hs0 : W0.heap.size = W.heap.size + 1 := by rw [← hW0]; simp
  have hy0 : W0.cell? ⟨W.heap.size, 0, none⟩ = some (.func (.yield l) #[] #[]) := by rw [← hW0]; exact World.cell?_alloc_new W _ _ 0
  have hbdl := World.block_lt_of_cell? W _ hbd
  have c1 := below_cell hb1 hbd hbdl
  have c2 := below_cell hb1 hbl (World.block_lt_of_cell? W _ hbl)
  have hlen : ks.length ≤ 1099511627776 := by have := SX.length_le ks; omega
  have hSt0 : St ok W.heap.size l bd d a ks [] W0 := ⟨hy0, c1, hR.under hb1 (fun b h => (hok b h).2), fun i k hk => (hL i k hk).under hb1 (fun b h => (hok b h).2), by simp⟩
  have hsb : ¬ S W.heap.size := fun h => by have := hS _ h; omega
  gi_wp2
  refine wpIn_loop (fun A w' => ∃ (i : Nat) (ds : List Nat) (u5 u7 u13 u14 u15 u16 u17 u18 u19 u20 u21 u22 u23 u24 u25 u26 u27 u28 u29 u30 u31 u39 u40 : Value), A = ⟨#[.func (.yield l) #[] #[], .pointer (some ⟨bl, 0, none⟩), .pointer (some ⟨bd, 0, none⟩), .pointer (some ⟨W.heap.size, 0, none⟩), undef, u5, undef, u7, undef, undef, .slice a ks.length c, .int .i64 ks.length, .int .i64 i, u13, u14, u15, u16, u17, u18, u19, u20, u21, u22, u23, u24, u25, u26, u27, u28, u29, u30, u31, undef, undef, undef, undef, undef, undef, undef, u39, u40], ds.map mark⟩ ∧
      i ≤ ks.length ∧ ds.Nodup ∧ J (SX.withinAll (ks.take i) d) w' ∧ Kept S W w' ∧ St ok W.heap.size l bd d a ks ds w')
    (fun A _ => ks.length - (intOf (A.tmps.getD 12 undef)).toNat) ?_ ?_
  · exact ⟨0, [], _, _, _, _, _, _, _, _, _, _, _, _, _, _, _, _, _, _, _, _, _, _, _, rfl, by omega, by simp, by simpa [SX.withinAll] using hJ _ _ _ hb1 h0, Kept.of_new _ hb1, hSt0⟩
  · clear hW0 hb1 hs0 hy0 c1 c2 hSt0 h0 hR hL hbl
    rintro A w' ⟨i, ds, u5, u7, u13, u14, u15, u16, u17, u18, u19, u20, u21, u22, u23, u24, u25, u26, u27, u28, u29, u30, u31, u39, u40, rfl, hi, hnd, hj, hK, hSt⟩
    obtain ⟨z1, z2, z3⟩ := hSt.lt
    have hw' := hK.size
    by_cases hlt : i < ks.length
    · obtain ⟨s, hk⟩ : ∃ s, ks[i]? = some s := ⟨_, List.getElem?_eq_getElem hlt⟩
      obtain ⟨b, o, hbase, hob, hc⟩ := hSt.row i s hk
      obtain ⟨c0, c1, c2, c3, c4, c5, c6, c7, c8, c9, c10, c11⟩ := hc
      obtain ⟨W1, hW1⟩ : ∃ W1, w'.alloc (.cells #[.int .i64 s.kind, .string s.name, .int .i64 s.e.kind, .int .i64 s.e.num, .string s.e.name, .slice s.e.base s.e.kids.length s.e.cap, .int .i64 s.f.kind, .int .i64 s.f.num, .string s.f.name, .slice s.f.base s.f.kids.length s.f.cap, .slice s.abase s.la.length s.acap, .slice s.bbase s.lb.length s.bcap] 50) = W1 := ⟨_, rfl⟩
      have hB1 : Below w'.heap.size w' W1 := by rw [← hW1]; exact (Below.refl _ w').alloc (Nat.le_refl _) _
      have hs1 : W1.heap.size = w'.heap.size + 1 := by rw [← hW1]; simp
      have hC1 : Cells12 W1 w'.heap.size 0 s := by rw [← hW1]; exact Cells12.new w' s _
      have hS1 := hSt.new hB1
      have y1 := hS1.yc
      have e1 := hS1.dc
      have hpx : ∀ q, q <+: s.upTo (wrap64 (d + 1)) 2 → SX.withinAll (ks.take i) d ++ ((d, s) :: q) <+: SX.withinAll ks d := by
        intro q hq
        have h1 : SX.withinAll (ks.take i) d ++ ((d, s) :: q) <+: SX.withinAll (ks.take (i + 1)) d := by
          rw [SX.withinAll_take hk, SX.within_upTo]
          exact List.prefix_append_right_inj _ |>.2 (List.prefix_cons_inj _ |>.2 hq)
        exact h1.trans (SX.withinAll_prefix _ _)
      obtain ⟨fn, tmps, assign, body, hy, hR⟩ := hY (n - 1) (SX.withinAll (ks.take i) d) (d, s) W1 (hJ _ _ _ (hB1.mono hw') hj) (hpx [] List.nil_prefix)
      dsimp only [stmtE, SX.val] at hy
      obtain ⟨d0, d1, d2, d3, d4, d5, d6, d7, d8, d9, d10, d11⟩ := hC1
      subst hbase
      gi_wp2
      refine ⟨(fun h => by cases h), hR.mono ?_⟩
      clear hy hR fn tmps assign body c0 c1 c2 c3 c4 c5 c6 c7 c8 c9 c10 c11 y1 e1
      have hC1 : Cells12 W1 w'.heap.size 0 s := ⟨d0, d1, d2, d3, d4, d5, d6, d7, d8, d9, d10, d11⟩
      clear d0 d1 d2 d3 d4 d5 d6 d7 d8 d9 d10 d11
      have hsw : ¬ S w'.heap.size := fun h => by have := hS _ h; omega
      have hSn : ∀ k, (k = W.heap.size ∨ k = bd ∨ ok k ∨ k ∈ ds) → ¬ S k := by
        rintro k (rfl | rfl | h | h) hs
        · exact hsb hs
        · exact hsd hs
        · exact (hok k h).1 hs
        · have h1 := (hSt.marks k h).1; have h2 := hS k hs; omega
      rintro e W2 ⟨hk2, (⟨rfl, hj2⟩ | ⟨rfl, hx2⟩)⟩
      · have hS2 : St ok W.heap.size l bd d (some ⟨b, o, none⟩) ks ds W2 := hS1.on (fun k hk h => hk2.block k hk (hSn k h))
        have hK2 : Kept S W W2 := (hK.trans (Kept.of_new S hB1)).trans hk2
        obtain ⟨d0, d1, d2, d3, d4, d5, d6, d7, d8, d9, d10, d11⟩ := hC1.kept hk2 hsw
        have hz2 := hk2.size
        gi_wp2
        refine ⟨trivial, (fun h => by cases h), (callsIn_wide.2 (listsS0 _ _ _ _ _ _ _ _ _ _ _ _ _ _ _ _ _ _ _ _ _)).mono ?_⟩
        rintro e w3 ⟨rfl, hw3⟩
        subst w3
        clear d0 d1 d2 d3 d4 d5 d6 d7 d8 d9 d10 d11 hC1
        gi_wp2
        obtain ⟨bx, hbx⟩ : ∃ bx, W2.heap.size + 1 = bx := ⟨_, rfl⟩
        obtain ⟨W4, hW4⟩ : ∃ W4, (W2.alloc (.cells #[.int .i64 s.kind, .string s.name, .int .i64 s.e.kind, .int .i64 s.e.num, .string s.e.name, .slice s.e.base s.e.kids.length s.e.cap, .int .i64 s.f.kind, .int .i64 s.f.num, .string s.f.name, .slice s.f.base s.f.kids.length s.f.cap, .slice s.abase s.la.length s.acap, .slice s.bbase s.lb.length s.bcap] 50)).alloc (.cells #[.slice s.abase s.la.length s.acap, .slice s.bbase s.lb.length s.bcap] 26) = W4 := ⟨_, rfl⟩
        have hB4 : Below W2.heap.size W2 W4 := by rw [← hW4]; exact ((Below.refl _ W2).alloc (Nat.le_refl _) _).alloc (by simp) _
        have hx4 : ∀ j, j < 2 → W4.cell? ⟨bx, j, none⟩ = some (.slice (s.lbs j) (s.lst j).length (s.lcp j)) := by
          intro j hj
          have h1 := World.cell?_alloc_new (W2.alloc (.cells #[.int .i64 s.kind, .string s.name, .int .i64 s.e.kind, .int .i64 s.e.num, .string s.e.name, .slice s.e.base s.e.kids.length s.e.cap, .int .i64 s.f.kind, .int .i64 s.f.num, .string s.f.name, .slice s.f.base s.f.kids.length s.f.cap, .slice s.abase s.la.length s.acap, .slice s.bbase s.lb.length s.bcap] 50)) #[.slice s.abase s.la.length s.acap, .slice s.bbase s.lb.length s.bcap] 26 j
          rw [hW4, World.size_alloc, hbx] at h1
          rw [h1]
          rcases j with _ | _ | j
          · rfl
          · rfl
          · omega
        rw [hW4, hbx]
        have hS4 := hS2.new hB4
        have hK4 := hK2.trans (Kept.of_new S hB4)
        have hj4 := hJ _ _ _ (hB4.mono (Nat.le_trans hw' (Nat.le_trans hB1.size hz2))) hj2
        have hbxS : ¬ S bx := fun h => by have h1 := hS _ h; have h2 := hB1.size; omega
        have hbxl : bx < W4.heap.size := by have := World.block_lt_of_cell? W4 _ (hx4 0 (by omega)); exact this
        clear hW4 hj2 hS2 hK2 hB4 hk2 hS1 hB1 hs1 hW1
        clear hbx hz2 W2
        obtain ⟨r, hr⟩ : ∃ r, wrap64 (d + 1) = r := ⟨_, rfl⟩
        rw [hr] at hpx
        refine wpIn_loop (fun A w' => ∃ (j : Nat) (ds : List Nat) (u5 u7 u13 u14 u15 u16 u17 u18 u19 u20 u21 u25 u26 u27 u28 u29 u30 u31 u39 u40 : Value), A = ⟨#[.func (.yield l) #[] #[], .pointer (some ⟨bl, 0, none⟩), .pointer (some ⟨bd, 0, none⟩), .pointer (some ⟨W.heap.size, 0, none⟩), undef, u5, undef, u7, undef, undef, .slice (some ⟨b, o, none⟩) ks.length c, .int .i64 ks.length, .int .i64 i, u13, u14, u15, u16, u17, u18, u19, u20, u21, .slice (some ⟨bx, 0, none⟩) 2 2, .int .i64 2, .int .i64 j, u25, u26, u27, u28, u29, u30, u31, undef, undef, undef, undef, undef, undef, undef, u39, u40], ds.map mark⟩ ∧
            j ≤ 2 ∧ ds.Nodup ∧ J (SX.withinAll (ks.take i) d ++ ((d, s) :: s.upTo r j)) w' ∧ Kept S W w' ∧ St ok W.heap.size l bd d (some ⟨b, o, none⟩) ks ds w' ∧ (∀ j, j < 2 → w'.cell? ⟨bx, j, none⟩ = some (.slice (s.lbs j) (s.lst j).length (s.lcp j))))
          (fun A _ => 2 - (intOf (A.tmps.getD 24 undef)).toNat) ?_ ?_
        · exact ⟨0, ds, _, _, _, _, _, _, _, _, _, _, _, _, _, _, _, _, _, _, _, _, rfl, by omega, hnd, by simpa [SX.upTo] using hj4, hK4, hS4, hx4⟩
        · clear hj4 hK4 hS4 hx4 hbxl hSn hnd hSt z3 hK hj hw' z1 z2
          rintro A X ⟨j, ds, u5, u7, u13, u14, u15, u16, u17, u18, u19, u20, u21, u25, u26, u27, u28, u29, u30, u31, u39, u40, rfl, hj2, hnd, hj, hK, hSt, hx⟩
          obtain ⟨z1, z2, z3⟩ := hSt.lt
          have hwX := hK.size
          have hSn : ∀ k, (k = W.heap.size ∨ k = bd ∨ ok k ∨ k ∈ ds) → ¬ S k := by
            rintro k (rfl | rfl | h | h) hs
            · exact hsb hs
            · exact hsd hs
            · exact (hok k h).1 hs
            · have h1 := (hSt.marks k h).1; have h2 := hS k hs; omega
          by_cases hjt : j < 2
          · have hxj := hx j hjt
            have hdc := hSt.dc
            have hbxX := World.block_lt_of_cell? X _ hxj
            dsimp only at hbxX
            gi_wp2
            refine ⟨trivial, (fun h => by cases h), (callsIn_wide.2 (stmtsOf (s.lbs j) (s.lst j).length (s.lcp j) r _)).mono ?_⟩
            rintro e w3 ⟨rfl, hw3⟩
            subst w3
            gi_wp2
            obtain ⟨W5, hW5⟩ : ∃ W5, (X.alloc (.cells #[.slice (s.lbs j) (s.lst j).length (s.lcp j)] 26)).alloc (.cells #[.int .i64 r] 3) = W5 := ⟨_, rfl⟩
            have hs5 : W5.heap.size = X.heap.size + 2 := by rw [← hW5]; simp
            have hB5 : Below X.heap.size X W5 := by rw [← hW5]; exact ((Below.refl _ X).alloc (Nat.le_refl _) _).alloc (by simp) _
            have hl5 : W5.cell? ⟨X.heap.size, 0, none⟩ = some (.slice (s.lbs j) (s.lst j).length (s.lcp j)) := by
              have h1 := World.cell?_alloc_new X #[.slice (s.lbs j) (s.lst j).length (s.lcp j)] 26 0
              rw [← hW5]
              exact below_cell (n := X.heap.size + 1) ((Below.refl _ _).alloc (by simp) _) h1 (by dsimp only; omega)
            have hd5 : W5.cell? ⟨X.heap.size + 1, 0, none⟩ = some (.int .i64 r) := by
              have h1 := World.cell?_alloc_new (X.alloc (.cells #[.slice (s.lbs j) (s.lst j).length (s.lcp j)] 26)) #[.int .i64 r] 3 0
              rw [hW5, World.size_alloc] at h1
              exact h1
            rw [hW5]
            clear hW5
            have hbdX : bd < X.heap.size := z2
            have hlsz : SX.sizeAll (s.lst j) < sz := by have h1 := s.lst_size j; have h2 := SX.size_get hk; omega
            have hqx : ∀ q, q <+: SX.withinAll (s.lst j) r → SX.withinAll (ks.take i) d ++ ((d, s) :: (s.upTo r j ++ q)) <+: SX.withinAll ks d := by
              intro q hq
              refine hpx _ (List.IsPrefix.trans ?_ (s.upTo_pre r (j + 1) (by omega)))
              rw [s.upTo_next r j hjt]
              exact List.prefix_append_right_inj _ |>.2 hq
            have hSt5 := hSt.new hB5
            have hx5 : ∀ j, j < 2 → W5.cell? ⟨bx, j, none⟩ = some (.slice (s.lbs j) (s.lst j).length (s.lcp j)) := fun j' hj' => below_cell hB5 (hx j' hj') hbxX
            have hokX : ∀ b, ok b → b < X.heap.size := fun b hb => Nat.lt_of_lt_of_le (hok b hb).2 hwX
            clear hx hxj hdc
            refine range_law (gf := 79) (lb := #[.pointer (some ⟨X.heap.size, 0, none⟩), .pointer (some ⟨X.heap.size + 1, 0, none⟩)]) rfl (enters_of Try.func79 (by kernel_rfl) rfl) stmtE (fun _ => rfl) (SX.withinAll (s.lst j) r) S
              (fun pre Y => J (SX.withinAll (ks.take i) d ++ ((d, s) :: (s.upTo r j ++ pre))) Y ∧ St ok W.heap.size l bd d (some ⟨b, o, none⟩) ks ds Y ∧ (∀ j, j < 2 → Y.cell? ⟨bx, j, none⟩ = some (.slice (s.lbs j) (s.lst j).length (s.lcp j))))
              (fun pre Y => Jx (SX.withinAll (ks.take i) d ++ ((d, s) :: (s.upTo r j ++ pre))) Y ∧ (∀ D ∈ ds, Y.heap[D]? = some (.deferred (some []))))
              (fun k h => by have := hS k h; omega)
              (fun pre A B h ⟨h1, h2, h3⟩ => ⟨hJ _ _ _ (h.mono (by omega)) h1, h2.on (fun k _ hk => h.block k (by rcases hk with rfl | rfl | h9 | h9; omega; omega; (have := hokX k h9; omega); (have := z3 k h9; omega))), fun j' hj' => below_cell h (h3 j' hj') (by dsimp only; omega)⟩)
              (fun pre A B h ⟨h1, h2⟩ => ⟨hJx _ _ _ (h.mono (by omega)) h1, fun D hD => (h.block D (by have := z3 D hD; omega)).trans (h2 D hD)⟩)
              ⟨by simpa using hJ _ _ _ (hB5.mono hwX) hj, hSt5, hx5⟩
              ?hit ?hround ?hdone ?hstop
            case hit =>
              intro W6 hB6 hs6
              have hls := (hSt5.new (hB6.mono (Nat.le_refl _))).lies i s hk
              obtain ⟨hl1, hl2⟩ := hls.lst j
              refine ih (SX.sizeAll (s.lst j)) hlsz (s.lst j) (by omega) (Nat.le_refl _) (s.lbs j) (s.lcp j) r _ _ _ ok W6 ?_ ?_ (below_cell hB6 hd5 (by dsimp only; omega)) ?_ (below_cell hB6 hl5 (by dsimp only; omega)) hl1 hl2
              · rintro k (h | h)
                · have := hS k h; omega
                · omega
              · intro b' hb'
                have h1 := hok b' hb'
                have h2 := hokX b' hb'
                refine ⟨?_, by omega⟩
                rintro (h | h)
                · exact h1.1 h
                · omega
              · rintro (h | h)
                · have := hS _ h; omega
                · omega
            case hround =>
              rintro l' m pre x Y hl' hlY ⟨h1, h2, h3⟩ hpre
              gi_wp2
              refine ⟨(Below.refl _ Y).alloc (Nat.le_refl _) _, ?_⟩
              rintro w₂ hk2 ⟨j1, j2, j3⟩
              have hX7 : Cells12 w₂ Y.heap.size 0 x.2 := (Cells12.new Y x.2 _).kept hk2 (by omega)
              obtain ⟨p0, p1, p2, p3, p4, p5, p6, p7, p8, p9, p10, p11⟩ := hX7
              have yc := j2.yc
              obtain ⟨fn, tmps, assign, body, hyy, hR⟩ := hY (m - 1) _ x w₂ j1 (by
                have h9 := hqx _ hpre
                rwa [← List.append_assoc, ← List.cons_append, ← List.append_assoc] at h9)
              dsimp only [stmtE, SX.val] at hyy
              gi_wp2
              refine ⟨(fun h => by cases h), RoundIn.mono (F := Fence.wide.inRound l') hR ?_⟩
              clear hyy hR
              have hjl := World.block_lt_of_cell? w₂ _ (j3 0 (by omega))
              dsimp only at hjl
              rintro e W7 ⟨hk5, (⟨rfl, h⟩ | ⟨rfl, h⟩)⟩
              · gi_wp2
                exact ⟨hk5, by simpa using h, j2.on (fun k hk h => hk5.block k hk (hSn k h)), fun j' hj' => hk5.cell (j3 j' hj') hbxS⟩
              · gi_wp2
                exact ⟨hk5, by simpa using h, fun D hD => (hk5.block D (j2.lt.2.2 D hD) (hSn D (.inr (.inr (.inr hD))))).trans (j2.marks D hD).2⟩
            case hdone =>
              rintro D Y hD ⟨h1, h2, h3⟩ hkY hdY
              gi_wp2
              refine ⟨⟨j + 1, D :: ds, _, _, _, _, _, _, _, _, _, _, _, _, _, _, _, _, _, _, _, _, rfl, by omega, List.nodup_cons.2 ⟨fun h => by have := z3 D h; omega, hnd⟩, ?_, (hK.trans (Kept.of_new S hB5)).trans hkY, h2.more (by omega) hdY, h3⟩, by simp [intOf]; omega⟩
              rw [s.upTo_next r j hjt]
              exact h1
            case hstop =>
              rintro D pre Y hD hpre ⟨h1, h5⟩ hkY hdY
              have hnd' : (D :: ds).Nodup := List.nodup_cons.2 ⟨fun h => by have := z3 D h; omega, hnd⟩
              have hds' : ∀ E ∈ D :: ds, W.heap.size ≤ E ∧ Y.heap[E]? = some (.deferred (some [])) := by
                intro E hE
                rcases List.mem_cons.1 hE with rfl | hE
                · exact ⟨by omega, hdY⟩
                · exact ⟨(hSt.marks E hE).1, h5 E hE⟩
              have hKY : Kept S W Y := (hK.trans (Kept.of_new S hB5)).trans hkY
              refine leave_marks (D :: ds) Y hnd' (fun E hE => (hds' E hE).2) (fun W' hk' => ⟨_, results_none rfl _ _ _, ⟨_, rfl⟩, hKY.join hk' (fun k h1 h2 => by have := (hds' k h2).1; omega), .inr ⟨_, hqx _ hpre, hJx _ _ _ (hk'.below hKY.size (fun k h2 => (hds' k h2).1)) h1⟩⟩)
          · have he : j = 2 := by omega
            subst he
            gi_wp2
            refine ⟨⟨i + 1, ds, _, _, _, _, _, _, _, _, _, _, _, _, _, _, _, _, _, _, _, _, _, _, _, rfl, by omega, hnd, ?_, hK, hSt⟩, by simp [intOf]; omega⟩
            rw [SX.withinAll_take hk, SX.within_upTo, hr]
            exact hj
      · gi_wp2
        have hK2 : Kept S W W2 := (hK.trans (Kept.of_new S hB1)).trans hk2
        refine leave_marks ds W2 hnd (fun D hD => (hk2.block D (Nat.lt_of_lt_of_le (z3 D hD) hB1.size) (hSn D (.inr (.inr (.inr hD))))).trans (hS1.marks D hD).2) (fun W' hk' => ⟨_, results_none rfl _ _ _, ⟨_, rfl⟩, hK2.join hk' (fun k h1 h2 => by have := (hSt.marks k h2).1; omega), .inr ⟨_, hpx [] List.nil_prefix, hJx _ _ _ (hk'.below hK2.size (fun k h2 => (hSt.marks k h2).1)) hx2⟩⟩)
    · have he : i = ks.length := by omega
      gi_wp2
      refine leave_marks ds w' hnd (fun D hD => (hSt.marks D hD).2) (fun W' hk' => ⟨_, results_none rfl _ _ _, ⟨_, rfl⟩, hK.join hk' (fun k h1 h2 => by have := (hSt.marks k h2).1; omega), .inl ?_⟩)
      have hj' := hJ _ _ _ (hk'.below hK.size (fun k h2 => (hSt.marks k h2).1)) hj
      rw [he, List.take_length] at hj'
      exact hj'
end Go.Proofs.Ytimfdfeleoaehaa
