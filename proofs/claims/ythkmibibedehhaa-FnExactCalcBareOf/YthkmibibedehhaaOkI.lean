/-
  The program's walk through a list of statements yields each, behind it those of its A, and then those of its B, each with how many are around it, to whatever rounds take them; the list lies in memory that the rounds leave alone.
-/
import Derived.Test.YthkmibibedehhaaStmtA
namespace Go.Proofs.Ythkmibibedehhaa
open Go.RowKit Go.Shelf
set_option linter.unusedSimpArgs false
set_option linter.unusedVariables false
attribute [local go_sem] Oper.semAt_some

mutual
def SX.within : SX → Int → List (Int × SX)
  | .mk k n e f a c la b d lb, r => (r, .mk k n e f a c la b d lb) :: (SX.withinAll la (wrap64 (r + 1)) ++ SX.withinAll lb (wrap64 (r + 1)))
def SX.withinAll : List SX → Int → List (Int × SX)
  | [], _ => []
  | t :: ts, r => SX.within t r ++ SX.withinAll ts r
end
theorem SX.within_eq (s : SX) (r : Int) : s.within r = (r, s) :: (SX.withinAll s.la (wrap64 (r + 1)) ++ SX.withinAll s.lb (wrap64 (r + 1))) := by
  cases s; rfl
theorem SX.withinAll_append (us bs : List SX) (r : Int) : SX.withinAll (us ++ bs) r = SX.withinAll us r ++ SX.withinAll bs r := by
  induction us with
  | nil => simp [SX.withinAll]
  | cons x xs ih => simp [SX.withinAll, ih]
theorem SX.withinAll_take {ks : List SX} {i : Nat} {t : SX} (h : ks[i]? = some t) (r : Int) : SX.withinAll (ks.take (i + 1)) r = SX.withinAll (ks.take i) r ++ t.within r := by
  rw [List.take_add_one, h, SX.withinAll_append]
  simp [SX.withinAll]
theorem SX.withinAll_prefix {ks : List SX} (i : Nat) (r : Int) : SX.withinAll (ks.take i) r <+: SX.withinAll ks r := by
  refine ⟨SX.withinAll (ks.drop i) r, ?_⟩
  rw [← SX.withinAll_append, List.take_append_drop]
theorem SX.length_le (ks : List SX) : ks.length ≤ SX.sizeAll ks := by
  induction ks with
  | nil => simp
  | cons x xs ih => have := SX.size_eq x; simp [SX.sizeAll]; omega

abbrev stmtE (x : Int × SX) : Array Value := #[.int .i64 x.1, x.2.val]

/-- What the rounds leave of what the walk needs. -/
structure St (ok : Nat → Prop) (N l bd : Nat) (d : Int) (a : Option Addr) (ks : List SX) (ds : List Nat) (X : World) : Prop where
  yc : X.cell? ⟨N, 0, none⟩ = some (.func (.yield l) #[] #[])
  dc : X.cell? ⟨bd, 0, none⟩ = some (.int .i64 d)
  row : SRow ok X a ks
  lies : ∀ (i : Nat) (k : SX), ks[i]? = some k → LiesS ok X k
  marks : ∀ D ∈ ds, N ≤ D ∧ X.heap[D]? = some (.deferred (some []))
theorem St.lt {ok : Nat → Prop} {N l bd : Nat} {d : Int} {a : Option Addr} {ks : List SX} {ds : List Nat} {A : World} (h : St ok N l bd d a ks ds A) : N < A.heap.size ∧ bd < A.heap.size ∧ ∀ D ∈ ds, D < A.heap.size :=
  ⟨World.block_lt_of_cell? A _ h.yc, World.block_lt_of_cell? A _ h.dc, fun D hD => (Array.getElem?_eq_some_iff.1 (h.marks D hD).2).1⟩
theorem St.on {ok : Nat → Prop} {N l bd : Nat} {d : Int} {a : Option Addr} {ks : List SX} {ds : List Nat} {A B : World} (h : St ok N l bd d a ks ds A) (hb : ∀ k, k < A.heap.size → (k = N ∨ k = bd ∨ ok k ∨ k ∈ ds) → B.heap[k]? = A.heap[k]?) : St ok N l bd d a ks ds B := by
  obtain ⟨z1, z2, z3⟩ := h.lt
  exact ⟨(cell_of_block (a := ⟨N, 0, none⟩) (hb _ z1 (.inl rfl))).trans h.yc, (cell_of_block (a := ⟨bd, 0, none⟩) (hb _ z2 (.inr (.inl rfl)))).trans h.dc, h.row.mono (fun b ho hl => ⟨ho, hb b hl (.inr (.inr (.inl ho)))⟩),
    fun i k hk => (h.lies i k hk).mono (fun b ho hl => ⟨ho, hb b hl (.inr (.inr (.inl ho)))⟩), fun D hD => ⟨(h.marks D hD).1, (hb D (z3 D hD) (.inr (.inr (.inr hD)))).trans (h.marks D hD).2⟩⟩
theorem St.new {ok : Nat → Prop} {N l bd : Nat} {d : Int} {a : Option Addr} {ks : List SX} {ds : List Nat} {A B : World} (h : St ok N l bd d a ks ds A) (hb : Below A.heap.size A B) : St ok N l bd d a ks ds B := h.on (fun k hk _ => hb.block k hk)
theorem St.more {ok : Nat → Prop} {N l bd D : Nat} {d : Int} {a : Option Addr} {ks : List SX} {ds : List Nat} {A : World} (h : St ok N l bd d a ks ds A) (hN : N ≤ D) (hD : A.heap[D]? = some (.deferred (some []))) : St ok N l bd d a ks (D :: ds) A :=
  ⟨h.yc, h.dc, h.row, h.lies, fun E hE => by rcases List.mem_cons.1 hE with rfl | hE; exact ⟨hN, hD⟩; exact h.marks E hE⟩
def SX.upTo (s : SX) (r : Int) : Nat → List (Int × SX)
  | 0 => []
  | 1 => SX.withinAll s.la r
  | _ => SX.withinAll s.la r ++ SX.withinAll s.lb r
def SX.lst (s : SX) : Nat → List SX | 0 => s.la | _ => s.lb
def SX.lbs (s : SX) : Nat → Option Addr | 0 => s.abase | _ => s.bbase
def SX.lcp (s : SX) : Nat → Nat | 0 => s.acap | _ => s.bcap
theorem SX.upTo_next (s : SX) (r : Int) (j : Nat) (hj : j < 2) : s.upTo r (j + 1) = s.upTo r j ++ SX.withinAll (s.lst j) r := by
  rcases j with _ | _ | j
  · simp [SX.upTo, SX.lst]
  · simp [SX.upTo, SX.lst]
  · omega
theorem SX.upTo_pre (s : SX) (r : Int) (j : Nat) (hj : j ≤ 2) : s.upTo r j <+: s.upTo r 2 := by
  rcases j with _ | _ | _ | j
  · exact List.nil_prefix
  · exact List.prefix_append _ _
  · exact List.prefix_refl _
  · omega
theorem SX.within_upTo (s : SX) (r : Int) : s.within r = (r, s) :: s.upTo (wrap64 (r + 1)) 2 := by rw [SX.within_eq]; rfl
theorem SX.lst_size (s : SX) (j : Nat) : SX.sizeAll (s.lst j) < s.size := by
  have := s.size_eq
  rcases j with _ | j <;> simp only [SX.lst] <;> omega
theorem LiesS.lst {ok : Nat → Prop} {W : World} {s : SX} (h : LiesS ok W s) (j : Nat) : SRow ok W (s.lbs j) (s.lst j) ∧ ∀ (i : Nat) (k : SX), (s.lst j)[i]? = some k → LiesS ok W k := by
  obtain ⟨-, -, h3, h4, h5, h6⟩ := h.parts
  rcases j with _ | j
  · exact ⟨h3, h5⟩
  · exact ⟨h4, h6⟩

end Go.Proofs.Ythkmibibedehhaa
