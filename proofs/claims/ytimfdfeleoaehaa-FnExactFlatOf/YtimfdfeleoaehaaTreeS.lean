/-
  What the specification's functions on expressions answer: the contracts, over expressions that lie in memory.
-/
import Derived.Test.YtimfdfeleoaehaaTreeP
import Derived.Deep.QuietTactic
import Derived.BigQuiet
import Derived.Deep.DeepCutAuto
import Derived.LoopTactic
namespace Go.Proofs.Ytimfdfeleoaehaa
open Go.RowKit
set_option linter.unusedSimpArgs false
set_option linter.unusedVariables false

def kidsN (k : Int) : Int := if k = 1 ∨ k = 2 then 0 else if k = 3 ∨ k = 12 then 1 else if 4 ≤ k ∧ k ≤ 11 then 2 else -1
theorem l2Kids (k : Int) (w : World) :
    Calls Try.prog 85 #[.int .i64 k] w fun e w' => e = .returned (.int .i64 (kidsN k)) ∧ w' = w := by
  go_enter Try.func85, Try.ntmps85
  go_wp2
  all_goals
    go_returns
    refine ⟨ret_int ?_, rfl⟩
    unfold kidsN
    simp_all
    try omega
theorem region_class {P : Program} {id : Nat} {Q : Exit → Act → World → Prop} {a : Act} {w : World} {l : List Oper} (C : World → Prop) (hm : P.follows .mixedOrders = true) (hB : Region.lexB .any l.toArray = true) (hC : C { w with drawn := w.drawn + 1 })
    (h : wpQuiet P l.toArray C (fun a' => ∀ w', C w' → Q .normal a' w') l a) : (Code.region id l.toArray true).wp P Q a w :=
  wp_region_quiet hm hB hC (by simpa using h)

/-- The worlds that are as w was in all that lay there. -/
def Later (w : World) : Type := { w' : World // Below w.heap.size w w' }
def Later.at {w : World} (x : Later w) : World := x.1
theorem Later.below {w : World} (x : Later w) : Below w.heap.size w x.at := x.2
theorem Later.cell {w : World} {a : Addr} {v : Value} (h : w.cell? a = some v) : ∀ x : Later w, x.at.cell? a = some v := fun x => below_cell x.2 h (World.block_lt_of_cell? w a h)

def fitS (k n : Int) (s : ByteArray) (len : Nat) : Bool := ((len : Int) == kidsN k) && (((k == 2 || k == 3) == !s.toList.isEmpty) && ((!(k == 2 || k == 3) || nameB s) && ((k == 1 || n == 0) && (decide (-1000000 ≤ n) && decide (n ≤ 1000000)))))

mutual
def XT.specR : XT → Nat × Nat × Bool
  | .mk k n s a c ks => ((XT.specL ks (1, 0, fitS k n s ks.length)).1, (XT.specL ks (1, 0, fitS k n s ks.length)).2.1 + 1, (XT.specL ks (1, 0, fitS k n s ks.length)).2.2)
def XT.specL : List XT → Nat × Nat × Bool → Nat × Nat × Bool
  | [], r => r
  | t :: ts, r => if r.2.2 then XT.specL ts (r.1 + (XT.specR t).1, max r.2.1 (XT.specR t).2.1, (XT.specR t).2.2 && decide (r.1 + (XT.specR t).1 ≤ 160)) else r
end
theorem XT.specL_false (ts : List XT) (n d : Nat) : XT.specL ts (n, d, false) = (n, d, false) := by
  cases ts <;> simp [XT.specL]
theorem XT.spec_le (sz : Nat) : ∀ t : XT, t.size ≤ sz → t.specR.1 ≤ t.size ∧ t.specR.2.1 ≤ t.size := by
  induction sz with
  | zero => intro t h; rw [XT.size_eq] at h; omega
  | succ sz ih =>
    have hl : ∀ ts : List XT, XT.sizeAll ts ≤ sz → ∀ r, (XT.specL ts r).1 ≤ r.1 + XT.sizeAll ts ∧ (XT.specL ts r).2.1 ≤ r.2.1 + XT.sizeAll ts := by
      intro ts
      induction ts with
      | nil => intro _ r; simp [XT.specL]
      | cons x xs ihx =>
        intro hs r
        simp only [XT.sizeAll] at hs ⊢
        have hx := ih x (by omega)
        rw [XT.specL]
        split
        · have h := ihx (by omega) (r.1 + x.specR.1, max r.2.1 x.specR.2.1, x.specR.2.2 && decide (r.1 + x.specR.1 ≤ 160))
          simp only at h
          omega
        · omega
    intro t ht
    cases t with
    | mk k n s a c ks =>
      simp only [XT.size] at ht
      have h := hl ks (by omega) (1, 0, fitS k n s ks.length)
      simp only [XT.specR, XT.size]
      simp only at h
      omega
inductive Good : XT → Prop
  | mk (t : XT) (hn : t.name.size ≤ 1048576) (hk : ∀ (i : Nat) (k : XT), t.kids[i]? = some k → Good k) : Good t
theorem Good.name {t : XT} (h : Good t) : t.name.size ≤ 1048576 := by cases h; assumption
theorem Good.kid {t : XT} (h : Good t) : ∀ (i : Nat) (k : XT), t.kids[i]? = some k → Good k := by cases h; assumption
theorem drop_get {α : Type} {l : List α} {i : Nat} {x : α} (h : l[i]? = some x) : l.drop i = x :: l.drop (i + 1) := by
  obtain ⟨hi, hx⟩ := List.getElem?_eq_some_iff.1 h
  rw [List.drop_eq_getElem_cons hi, hx]
theorem XT.sizeAll_drop {ks : List XT} {i : Nat} {t : XT} (h : ks[i]? = some t) : XT.sizeAll (ks.drop i) = t.size + XT.sizeAll (ks.drop (i + 1)) := by
  rw [drop_get h, XT.sizeAll]
theorem mxI_nat (a b : Nat) : mxI (a : Int) (b : Int) = ((max a b : Nat) : Int) := by
  unfold mxI
  split <;> omega

set_option maxRecDepth 100000 in
set_option maxHeartbeats 8000000 in
theorem specE (sz : Nat) : ∀ (t : XT), sz ≤ 1099511627776 → t.size ≤ sz → Good t → ∀ (ok : Nat → Prop) (w : World), (∀ b, ok b → b < w.heap.size) → Lies ok w t →
    Calls Try.prog 82 #[t.val] w fun e w' => e = .returned (.tuple #[.int .i64 (t.specR.1 : Nat), .int .i64 (t.specR.2.1 : Nat), .bool t.specR.2.2]) ∧ Below w.heap.size w w' := by
  induction sz with
  | zero => intro t _ h; rw [XT.size_eq] at h; omega
  | succ sz ih =>
  intro t hlim hsz hG ok w hok hL
  have hlen' := t.length_le
  obtain ⟨k, n, s, a, c, ks⟩ := t
  have hs : s.size ≤ 1048576 := hG.name
  have hkd := hL.kid
  have hcl := hL.cells
  have hgd := hG.kid
  dsimp only [XT.kids, XT.base, XT.val, XT.kind, XT.num, XT.name, XT.cap] at hkd hcl hgd hlen' ⊢
  obtain ⟨len, hlen⟩ : ∃ len, ks.length = len := ⟨_, rfl⟩
  have hsz' : 1 + XT.sizeAll ks ≤ sz + 1 := by simpa [XT.size] using hsz
  simp only [XT.specR]
  rw [hlen]
  have hlen2 : len ≤ 1099511627776 := by omega
  go_enter Try.func82, Try.ntmps82
  go_upto_region 1 with fail
  obtain ⟨w0, hw0⟩ : ∃ w0, w.alloc (.cells #[.int .i64 k, .int .i64 n, .string s, .slice a len c] 48) = w0 := ⟨_, rfl⟩
  have hbe : Cells4 w0 w.heap.size 0 (.mk k n s a c (List.replicate len (.mk 0 0 s a c []))) := by
    have h1 := Cells4.new w (.mk k n s a c (List.replicate len (.mk 0 0 s a c [])))
    dsimp only [XT.kind, XT.num, XT.name, XT.base, XT.kids, XT.cap] at h1
    rw [List.length_replicate, hw0] at h1
    exact h1
  rw [hw0]
  haveI : Nonempty (Later w0) := ⟨⟨w0, Below.refl _ _⟩⟩
  have e0 := Later.cell hbe.c0
  have e1 := Later.cell hbe.c1
  have e2 := Later.cell hbe.c2
  have e3 := Later.cell hbe.c3
  have f0 := hbe.c0
  have f3 := hbe.c3
  dsimp only [XT.kind, XT.num, XT.name, XT.base, XT.kids, XT.cap] at e0 e1 e2 e3 f0 f3
  rw [List.length_replicate] at e3 f3
  obtain ⟨nm, hnm⟩ : ∃ nm, (k == 2 || k == 3) = nm := ⟨_, rfl⟩
  go_cut [5] (fun v wx => v = .bool nm ∧ wx = w0)
  case first =>
    cases h2 : (k == 2) <;> cases h3 : (k == 3)
    all_goals
      go_wp2
      go_meet
      case rel => exact ⟨by rw [← hnm, h2, h3]; rfl, rfl⟩
  case rest =>
    obtain ⟨rfl, hwc⟩ := hcut
    subst wc
    go_upto_region 2 with fail
    go_cut [6] (fun v wx => v = .bool (fitS k n s len) ∧ Below w0.heap.size w0 wx)
    case first =>
      refine region_class (fun w' => ∃ x : Later w0, w' = x.at) (by kernel_rfl) (by kernel_rfl) ⟨⟨_, (Below.refl _ _).drew⟩, rfl⟩ ?_
      repeat (go_big_quiet_step (first | (go_at_call 85; refine (l2Kids _ _).mono ?_; rintro e w2 ⟨rfl, hw2⟩; subst w2; exact ⟨rfl, _, rfl⟩) | (go_at_call 75; refine (specName s _ hs).mono ?_; rintro e w2 ⟨rfl, hb⟩; exact ⟨rfl, ⟨_, bstep (Subtype.property _) hb⟩, rfl⟩)))
      cases h1 : ((len : Int) == kidsN k)
      · repeat (go_big_quiet_step (first | (go_at_call 85; refine (l2Kids _ _).mono ?_; rintro e w2 ⟨rfl, hw2⟩; subst w2; exact ⟨rfl, _, rfl⟩) | (go_at_call 75; refine (specName s _ hs).mono ?_; rintro e w2 ⟨rfl, hb⟩; exact ⟨rfl, ⟨_, bstep (Subtype.property _) hb⟩, rfl⟩)))
        refine wpQuiet_nil ?_
        rintro w' ⟨x, rfl⟩
        go_wp2_with fail
        go_meet
        case rel => exact ⟨congrArg Value.bool (by simp [fitS, h1]), x.2⟩
      · repeat (go_big_quiet_step (first | (go_at_call 85; refine (l2Kids _ _).mono ?_; rintro e w2 ⟨rfl, hw2⟩; subst w2; exact ⟨rfl, _, rfl⟩) | (go_at_call 75; refine (specName s _ hs).mono ?_; rintro e w2 ⟨rfl, hb⟩; exact ⟨rfl, ⟨_, bstep (Subtype.property _) hb⟩, rfl⟩)))
        cases h2 : (nm == !s.toList.isEmpty)
        · repeat (go_big_quiet_step (first | (go_at_call 85; refine (l2Kids _ _).mono ?_; rintro e w2 ⟨rfl, hw2⟩; subst w2; exact ⟨rfl, _, rfl⟩) | (go_at_call 75; refine (specName s _ hs).mono ?_; rintro e w2 ⟨rfl, hb⟩; exact ⟨rfl, ⟨_, bstep (Subtype.property _) hb⟩, rfl⟩)))
          refine wpQuiet_nil ?_
          rintro w' ⟨x, rfl⟩
          go_wp2_with fail
          go_meet
          case rel => exact ⟨congrArg Value.bool (by simp [fitS, h1, hnm, h2]), x.2⟩
        · repeat (go_big_quiet_step (first | (go_at_call 85; refine (l2Kids _ _).mono ?_; rintro e w2 ⟨rfl, hw2⟩; subst w2; exact ⟨rfl, _, rfl⟩) | (go_at_call 75; refine (specName s _ hs).mono ?_; rintro e w2 ⟨rfl, hb⟩; exact ⟨rfl, ⟨_, bstep (Subtype.property _) hb⟩, rfl⟩)))
          cases nm <;> simp only [Bool.not_false, Bool.not_true]
          · repeat (go_big_quiet_step (first | (go_at_call 85; refine (l2Kids _ _).mono ?_; rintro e w2 ⟨rfl, hw2⟩; subst w2; exact ⟨rfl, _, rfl⟩) | (go_at_call 75; refine (specName s _ hs).mono ?_; rintro e w2 ⟨rfl, hb⟩; exact ⟨rfl, ⟨_, bstep (Subtype.property _) hb⟩, rfl⟩)))
            cases h4 : (k == 1)
            · repeat (go_big_quiet_step (first | (go_at_call 85; refine (l2Kids _ _).mono ?_; rintro e w2 ⟨rfl, hw2⟩; subst w2; exact ⟨rfl, _, rfl⟩) | (go_at_call 75; refine (specName s _ hs).mono ?_; rintro e w2 ⟨rfl, hb⟩; exact ⟨rfl, ⟨_, bstep (Subtype.property _) hb⟩, rfl⟩)))
              cases h5 : (n == 0)
              · repeat (go_big_quiet_step (first | (go_at_call 85; refine (l2Kids _ _).mono ?_; rintro e w2 ⟨rfl, hw2⟩; subst w2; exact ⟨rfl, _, rfl⟩) | (go_at_call 75; refine (specName s _ hs).mono ?_; rintro e w2 ⟨rfl, hb⟩; exact ⟨rfl, ⟨_, bstep (Subtype.property _) hb⟩, rfl⟩)))
                refine wpQuiet_nil ?_
                rintro w' ⟨x, rfl⟩
                go_wp2_with fail
                go_meet
                case rel => exact ⟨congrArg Value.bool (by simp [fitS, h1, hnm, h2, hnm, h4, h5]), x.2⟩
              · repeat (go_big_quiet_step (first | (go_at_call 85; refine (l2Kids _ _).mono ?_; rintro e w2 ⟨rfl, hw2⟩; subst w2; exact ⟨rfl, _, rfl⟩) | (go_at_call 75; refine (specName s _ hs).mono ?_; rintro e w2 ⟨rfl, hb⟩; exact ⟨rfl, ⟨_, bstep (Subtype.property _) hb⟩, rfl⟩)))
                cases h6 : (decide (-1000000 ≤ n))
                · repeat (go_big_quiet_step (first | (go_at_call 85; refine (l2Kids _ _).mono ?_; rintro e w2 ⟨rfl, hw2⟩; subst w2; exact ⟨rfl, _, rfl⟩) | (go_at_call 75; refine (specName s _ hs).mono ?_; rintro e w2 ⟨rfl, hb⟩; exact ⟨rfl, ⟨_, bstep (Subtype.property _) hb⟩, rfl⟩)))
                  refine wpQuiet_nil ?_
                  rintro w' ⟨x, rfl⟩
                  go_wp2_with fail
                  go_meet
                  case rel => exact ⟨congrArg Value.bool (by simp [fitS, h1, hnm, h2, hnm, h4, h5, h6]), x.2⟩
                · repeat (go_big_quiet_step (first | (go_at_call 85; refine (l2Kids _ _).mono ?_; rintro e w2 ⟨rfl, hw2⟩; subst w2; exact ⟨rfl, _, rfl⟩) | (go_at_call 75; refine (specName s _ hs).mono ?_; rintro e w2 ⟨rfl, hb⟩; exact ⟨rfl, ⟨_, bstep (Subtype.property _) hb⟩, rfl⟩)))
                  cases h7 : (decide (n ≤ 1000000))
                  · repeat (go_big_quiet_step (first | (go_at_call 85; refine (l2Kids _ _).mono ?_; rintro e w2 ⟨rfl, hw2⟩; subst w2; exact ⟨rfl, _, rfl⟩) | (go_at_call 75; refine (specName s _ hs).mono ?_; rintro e w2 ⟨rfl, hb⟩; exact ⟨rfl, ⟨_, bstep (Subtype.property _) hb⟩, rfl⟩)))
                    refine wpQuiet_nil ?_
                    rintro w' ⟨x, rfl⟩
                    go_wp2_with fail
                    go_meet
                    case rel => exact ⟨congrArg Value.bool (by simp [fitS, h1, hnm, h2, hnm, h4, h5, h6, h7]), x.2⟩
                  · repeat (go_big_quiet_step (first | (go_at_call 85; refine (l2Kids _ _).mono ?_; rintro e w2 ⟨rfl, hw2⟩; subst w2; exact ⟨rfl, _, rfl⟩) | (go_at_call 75; refine (specName s _ hs).mono ?_; rintro e w2 ⟨rfl, hb⟩; exact ⟨rfl, ⟨_, bstep (Subtype.property _) hb⟩, rfl⟩)))
                    refine wpQuiet_nil ?_
                    rintro w' ⟨x, rfl⟩
                    go_wp2_with fail
                    go_meet
                    case rel => exact ⟨congrArg Value.bool (by simp [fitS, h1, hnm, h2, hnm, h4, h5, h6, h7]), x.2⟩
            · repeat (go_big_quiet_step (first | (go_at_call 85; refine (l2Kids _ _).mono ?_; rintro e w2 ⟨rfl, hw2⟩; subst w2; exact ⟨rfl, _, rfl⟩) | (go_at_call 75; refine (specName s _ hs).mono ?_; rintro e w2 ⟨rfl, hb⟩; exact ⟨rfl, ⟨_, bstep (Subtype.property _) hb⟩, rfl⟩)))
              cases h6 : (decide (-1000000 ≤ n))
              · repeat (go_big_quiet_step (first | (go_at_call 85; refine (l2Kids _ _).mono ?_; rintro e w2 ⟨rfl, hw2⟩; subst w2; exact ⟨rfl, _, rfl⟩) | (go_at_call 75; refine (specName s _ hs).mono ?_; rintro e w2 ⟨rfl, hb⟩; exact ⟨rfl, ⟨_, bstep (Subtype.property _) hb⟩, rfl⟩)))
                refine wpQuiet_nil ?_
                rintro w' ⟨x, rfl⟩
                go_wp2_with fail
                go_meet
                case rel => exact ⟨congrArg Value.bool (by simp [fitS, h1, hnm, h2, hnm, h4, h6]), x.2⟩
              · repeat (go_big_quiet_step (first | (go_at_call 85; refine (l2Kids _ _).mono ?_; rintro e w2 ⟨rfl, hw2⟩; subst w2; exact ⟨rfl, _, rfl⟩) | (go_at_call 75; refine (specName s _ hs).mono ?_; rintro e w2 ⟨rfl, hb⟩; exact ⟨rfl, ⟨_, bstep (Subtype.property _) hb⟩, rfl⟩)))
                cases h7 : (decide (n ≤ 1000000))
                · repeat (go_big_quiet_step (first | (go_at_call 85; refine (l2Kids _ _).mono ?_; rintro e w2 ⟨rfl, hw2⟩; subst w2; exact ⟨rfl, _, rfl⟩) | (go_at_call 75; refine (specName s _ hs).mono ?_; rintro e w2 ⟨rfl, hb⟩; exact ⟨rfl, ⟨_, bstep (Subtype.property _) hb⟩, rfl⟩)))
                  refine wpQuiet_nil ?_
                  rintro w' ⟨x, rfl⟩
                  go_wp2_with fail
                  go_meet
                  case rel => exact ⟨congrArg Value.bool (by simp [fitS, h1, hnm, h2, hnm, h4, h6, h7]), x.2⟩
                · repeat (go_big_quiet_step (first | (go_at_call 85; refine (l2Kids _ _).mono ?_; rintro e w2 ⟨rfl, hw2⟩; subst w2; exact ⟨rfl, _, rfl⟩) | (go_at_call 75; refine (specName s _ hs).mono ?_; rintro e w2 ⟨rfl, hb⟩; exact ⟨rfl, ⟨_, bstep (Subtype.property _) hb⟩, rfl⟩)))
                  refine wpQuiet_nil ?_
                  rintro w' ⟨x, rfl⟩
                  go_wp2_with fail
                  go_meet
                  case rel => exact ⟨congrArg Value.bool (by simp [fitS, h1, hnm, h2, hnm, h4, h6, h7]), x.2⟩
          · repeat (go_big_quiet_step (first | (go_at_call 85; refine (l2Kids _ _).mono ?_; rintro e w2 ⟨rfl, hw2⟩; subst w2; exact ⟨rfl, _, rfl⟩) | (go_at_call 75; refine (specName s _ hs).mono ?_; rintro e w2 ⟨rfl, hb⟩; exact ⟨rfl, ⟨_, bstep (Subtype.property _) hb⟩, rfl⟩)))
            cases h3 : (nameB s)
            · repeat (go_big_quiet_step (first | (go_at_call 85; refine (l2Kids _ _).mono ?_; rintro e w2 ⟨rfl, hw2⟩; subst w2; exact ⟨rfl, _, rfl⟩) | (go_at_call 75; refine (specName s _ hs).mono ?_; rintro e w2 ⟨rfl, hb⟩; exact ⟨rfl, ⟨_, bstep (Subtype.property _) hb⟩, rfl⟩)))
              refine wpQuiet_nil ?_
              rintro w' ⟨x, rfl⟩
              go_wp2_with fail
              go_meet
              case rel => exact ⟨congrArg Value.bool (by simp [fitS, h1, hnm, h2, hnm, h3]), x.2⟩
            · repeat (go_big_quiet_step (first | (go_at_call 85; refine (l2Kids _ _).mono ?_; rintro e w2 ⟨rfl, hw2⟩; subst w2; exact ⟨rfl, _, rfl⟩) | (go_at_call 75; refine (specName s _ hs).mono ?_; rintro e w2 ⟨rfl, hb⟩; exact ⟨rfl, ⟨_, bstep (Subtype.property _) hb⟩, rfl⟩)))
              cases h4 : (k == 1)
              · repeat (go_big_quiet_step (first | (go_at_call 85; refine (l2Kids _ _).mono ?_; rintro e w2 ⟨rfl, hw2⟩; subst w2; exact ⟨rfl, _, rfl⟩) | (go_at_call 75; refine (specName s _ hs).mono ?_; rintro e w2 ⟨rfl, hb⟩; exact ⟨rfl, ⟨_, bstep (Subtype.property _) hb⟩, rfl⟩)))
                cases h5 : (n == 0)
                · repeat (go_big_quiet_step (first | (go_at_call 85; refine (l2Kids _ _).mono ?_; rintro e w2 ⟨rfl, hw2⟩; subst w2; exact ⟨rfl, _, rfl⟩) | (go_at_call 75; refine (specName s _ hs).mono ?_; rintro e w2 ⟨rfl, hb⟩; exact ⟨rfl, ⟨_, bstep (Subtype.property _) hb⟩, rfl⟩)))
                  refine wpQuiet_nil ?_
                  rintro w' ⟨x, rfl⟩
                  go_wp2_with fail
                  go_meet
                  case rel => exact ⟨congrArg Value.bool (by simp [fitS, h1, hnm, h2, hnm, h3, h4, h5]), x.2⟩
                · repeat (go_big_quiet_step (first | (go_at_call 85; refine (l2Kids _ _).mono ?_; rintro e w2 ⟨rfl, hw2⟩; subst w2; exact ⟨rfl, _, rfl⟩) | (go_at_call 75; refine (specName s _ hs).mono ?_; rintro e w2 ⟨rfl, hb⟩; exact ⟨rfl, ⟨_, bstep (Subtype.property _) hb⟩, rfl⟩)))
                  cases h6 : (decide (-1000000 ≤ n))
                  · repeat (go_big_quiet_step (first | (go_at_call 85; refine (l2Kids _ _).mono ?_; rintro e w2 ⟨rfl, hw2⟩; subst w2; exact ⟨rfl, _, rfl⟩) | (go_at_call 75; refine (specName s _ hs).mono ?_; rintro e w2 ⟨rfl, hb⟩; exact ⟨rfl, ⟨_, bstep (Subtype.property _) hb⟩, rfl⟩)))
                    refine wpQuiet_nil ?_
                    rintro w' ⟨x, rfl⟩
                    go_wp2_with fail
                    go_meet
                    case rel => exact ⟨congrArg Value.bool (by simp [fitS, h1, hnm, h2, hnm, h3, h4, h5, h6]), x.2⟩
                  · repeat (go_big_quiet_step (first | (go_at_call 85; refine (l2Kids _ _).mono ?_; rintro e w2 ⟨rfl, hw2⟩; subst w2; exact ⟨rfl, _, rfl⟩) | (go_at_call 75; refine (specName s _ hs).mono ?_; rintro e w2 ⟨rfl, hb⟩; exact ⟨rfl, ⟨_, bstep (Subtype.property _) hb⟩, rfl⟩)))
                    cases h7 : (decide (n ≤ 1000000))
                    · repeat (go_big_quiet_step (first | (go_at_call 85; refine (l2Kids _ _).mono ?_; rintro e w2 ⟨rfl, hw2⟩; subst w2; exact ⟨rfl, _, rfl⟩) | (go_at_call 75; refine (specName s _ hs).mono ?_; rintro e w2 ⟨rfl, hb⟩; exact ⟨rfl, ⟨_, bstep (Subtype.property _) hb⟩, rfl⟩)))
                      refine wpQuiet_nil ?_
                      rintro w' ⟨x, rfl⟩
                      go_wp2_with fail
                      go_meet
                      case rel => exact ⟨congrArg Value.bool (by simp [fitS, h1, hnm, h2, hnm, h3, h4, h5, h6, h7]), x.2⟩
                    · repeat (go_big_quiet_step (first | (go_at_call 85; refine (l2Kids _ _).mono ?_; rintro e w2 ⟨rfl, hw2⟩; subst w2; exact ⟨rfl, _, rfl⟩) | (go_at_call 75; refine (specName s _ hs).mono ?_; rintro e w2 ⟨rfl, hb⟩; exact ⟨rfl, ⟨_, bstep (Subtype.property _) hb⟩, rfl⟩)))
                      refine wpQuiet_nil ?_
                      rintro w' ⟨x, rfl⟩
                      go_wp2_with fail
                      go_meet
                      case rel => exact ⟨congrArg Value.bool (by simp [fitS, h1, hnm, h2, hnm, h3, h4, h5, h6, h7]), x.2⟩
              · repeat (go_big_quiet_step (first | (go_at_call 85; refine (l2Kids _ _).mono ?_; rintro e w2 ⟨rfl, hw2⟩; subst w2; exact ⟨rfl, _, rfl⟩) | (go_at_call 75; refine (specName s _ hs).mono ?_; rintro e w2 ⟨rfl, hb⟩; exact ⟨rfl, ⟨_, bstep (Subtype.property _) hb⟩, rfl⟩)))
                cases h6 : (decide (-1000000 ≤ n))
                · repeat (go_big_quiet_step (first | (go_at_call 85; refine (l2Kids _ _).mono ?_; rintro e w2 ⟨rfl, hw2⟩; subst w2; exact ⟨rfl, _, rfl⟩) | (go_at_call 75; refine (specName s _ hs).mono ?_; rintro e w2 ⟨rfl, hb⟩; exact ⟨rfl, ⟨_, bstep (Subtype.property _) hb⟩, rfl⟩)))
                  refine wpQuiet_nil ?_
                  rintro w' ⟨x, rfl⟩
                  go_wp2_with fail
                  go_meet
                  case rel => exact ⟨congrArg Value.bool (by simp [fitS, h1, hnm, h2, hnm, h3, h4, h6]), x.2⟩
                · repeat (go_big_quiet_step (first | (go_at_call 85; refine (l2Kids _ _).mono ?_; rintro e w2 ⟨rfl, hw2⟩; subst w2; exact ⟨rfl, _, rfl⟩) | (go_at_call 75; refine (specName s _ hs).mono ?_; rintro e w2 ⟨rfl, hb⟩; exact ⟨rfl, ⟨_, bstep (Subtype.property _) hb⟩, rfl⟩)))
                  cases h7 : (decide (n ≤ 1000000))
                  · repeat (go_big_quiet_step (first | (go_at_call 85; refine (l2Kids _ _).mono ?_; rintro e w2 ⟨rfl, hw2⟩; subst w2; exact ⟨rfl, _, rfl⟩) | (go_at_call 75; refine (specName s _ hs).mono ?_; rintro e w2 ⟨rfl, hb⟩; exact ⟨rfl, ⟨_, bstep (Subtype.property _) hb⟩, rfl⟩)))
                    refine wpQuiet_nil ?_
                    rintro w' ⟨x, rfl⟩
                    go_wp2_with fail
                    go_meet
                    case rel => exact ⟨congrArg Value.bool (by simp [fitS, h1, hnm, h2, hnm, h3, h4, h6, h7]), x.2⟩
                  · repeat (go_big_quiet_step (first | (go_at_call 85; refine (l2Kids _ _).mono ?_; rintro e w2 ⟨rfl, hw2⟩; subst w2; exact ⟨rfl, _, rfl⟩) | (go_at_call 75; refine (specName s _ hs).mono ?_; rintro e w2 ⟨rfl, hb⟩; exact ⟨rfl, ⟨_, bstep (Subtype.property _) hb⟩, rfl⟩)))
                    refine wpQuiet_nil ?_
                    rintro w' ⟨x, rfl⟩
                    go_wp2_with fail
                    go_meet
                    case rel => exact ⟨congrArg Value.bool (by simp [fitS, h1, hnm, h2, hnm, h3, h4, h6, h7]), x.2⟩
    case rest =>
      obtain ⟨rfl, hB⟩ := hcut
      have hs0 : w0.heap.size = w.heap.size + 1 := by rw [← hw0]; simp
      have hB0 : Below w.heap.size w w0 := by rw [← hw0]; exact (Below.refl _ w).alloc (Nat.le_refl _) _
      go_wp2
      go_loopw [6, 7, 8, 9] (fun v6 v7 v8 v9 wr => ∃ (i m d : Nat) (b : Bool), v6 = .bool b ∧ v7 = .int .i64 m ∧ v8 = .int .i64 d ∧ v9 = .int .i64 i ∧ i ≤ len ∧ XT.specL (ks.drop i) (m, d, b) = XT.specL ks (1, 0, fitS k n s len) ∧ m + XT.sizeAll (ks.drop i) ≤ 1 + XT.sizeAll ks ∧ d + XT.sizeAll (ks.drop i) ≤ XT.sizeAll ks ∧ Below w0.heap.size w0 wr) (fun _ _ _ v9 _ => len - (intOf v9).toNat)
      case atStart => exact ⟨0, 1, 0, _, rfl, rfl, rfl, rfl, by omega, rfl, by simp, by simp, hB⟩
      case round =>
        obtain ⟨i, m, d, b, rfl, rfl, rfl, rfl, hi, hr, hm, hd, hBr⟩ := hrel
        have g3 := below_cell hBr f3 (by dsimp only; omega)
        by_cases hlt : i < len
        · obtain ⟨kid, hkid⟩ : ∃ kid, ks[i]? = some kid := ⟨_, List.getElem?_eq_getElem (by omega)⟩
          obtain ⟨bb, o, hbase, hokb, hc⟩ := hcl i kid hkid
          have hbb := hok bb hokb
          have hc' := (hc.below hB0 hbb).below hBr (by omega)
          have c0 := hc'.c0
          have c1 := hc'.c1
          have c2 := hc'.c2
          have c3 := hc'.c3
          have hdr := XT.sizeAll_drop hkid
          have hle := XT.spec_le _ kid (Nat.le_refl _)
          have hLk : Lies ok wr kid := ((hkd i kid hkid).under hB0 hok).under hBr (fun b hb => by have := hok b hb; omega)
          have hszk := XT.size_get hkid
          obtain ⟨r1, hr1⟩ : ∃ r1, kid.specR.1 = r1 := ⟨_, rfl⟩
          obtain ⟨r2, hr2⟩ : ∃ r2, kid.specR.2.1 = r2 := ⟨_, rfl⟩
          obtain ⟨r3, hr3⟩ : ∃ r3, kid.specR.2.2 = r3 := ⟨_, rfl⟩
          have hcall := ih kid (by omega) (by omega) (hgd i kid hkid) ok wr (fun b hb => by have := hok b hb; have := hBr.size; omega) hLk
          rw [hr1, hr2, hr3] at hcall
          rw [hr1, hr2] at hle
          subst hbase
          have fin : Below w.heap.size w wr := hB0.trans (hBr.mono (by omega))
          cases b
          · go_wp2
            go_returns
            rw [XT.specL_false] at hr
            rw [← hr]
            exact ⟨rfl, fin⟩
          · have hnext : XT.specL (ks.drop (i + 1)) (m + r1, max d r2, r3 && decide (m + r1 ≤ 160)) = XT.specL ks (1, 0, fitS k n s len) := by
              rw [← hr, drop_get hkid, XT.specL, hr1, hr2, hr3]
              simp
            cases r3
            · go_wp2_with (first | (go_at_call 82; refine hcall.mono ?_; rintro e w4 ⟨rfl, hB4⟩) | (go_at_call 86; refine (l1Max _ _ _).mono ?_; rintro e w5 ⟨rfl, hw5⟩; subst w5))
              refine ⟨⟨i + 1, m + r1, max d r2, false, rfl, by go_num, by rw [mxI_nat], by go_num, by omega, by simpa using hnext, by omega, by omega, hBr.trans (hB4.mono hBr.size)⟩, ?_⟩
              simp [intOf]
              omega
            · go_wp2_with (first | (go_at_call 82; refine hcall.mono ?_; rintro e w4 ⟨rfl, hB4⟩) | (go_at_call 86; refine (l1Max _ _ _).mono ?_; rintro e w5 ⟨rfl, hw5⟩; subst w5))
              refine ⟨⟨i + 1, m + r1, max d r2, decide (m + r1 ≤ 160), ?_, by go_num, by rw [mxI_nat], by go_num, by omega, by simpa using hnext, by omega, by omega, hBr.trans (hB4.mono hBr.size)⟩, ?_⟩
              · exact congrArg Value.bool (by rw [Bool.eq_iff_iff]; simp; omega)
              · simp [intOf]
                omega
        · have he : i = len := by omega
          have fin : Below w.heap.size w wr := hB0.trans (hBr.mono (by omega))
          subst he
          have hd0 : ks.drop i = [] := List.drop_eq_nil_of_le (by omega)
          rw [hd0, XT.specL] at hr
          go_wp2
          go_returns
          rw [← hr]
          exact ⟨rfl, fin⟩
theorem specOk1 (t : XT) (hsz : t.size ≤ 1099511627776) (hG : Good t) (ok : Nat → Prop) (w : World) (hok : ∀ b, ok b → b < w.heap.size) (hL : Lies ok w t) :
    Calls Try.prog 74 #[t.val] w fun e w' => e = .returned (.bool (t.specR.2.2 && decide (t.specR.1 ≤ 160 ∧ t.specR.2.1 ≤ 6))) ∧ Below w.heap.size w w' := by
  have hle := XT.spec_le _ t (Nat.le_refl _)
  have hB1 : Below w.heap.size w (w.alloc (.cells #[.int .i64 t.kind, .int .i64 t.num, .string t.name, .slice t.base t.kids.length t.cap] 48)) := (Below.refl _ w).alloc (Nat.le_refl _) _
  have hcall := specE _ t hsz (Nat.le_refl _) hG ok _ (fun b hb => by have := hok b hb; rw [World.size_alloc]; omega) (hL.under hB1 hok)
  obtain ⟨r1, hr1⟩ : ∃ r1, t.specR.1 = r1 := ⟨_, rfl⟩
  obtain ⟨r2, hr2⟩ : ∃ r2, t.specR.2.1 = r2 := ⟨_, rfl⟩
  obtain ⟨r3, hr3⟩ : ∃ r3, t.specR.2.2 = r3 := ⟨_, rfl⟩
  rw [hr1, hr2, hr3] at hcall
  rw [hr1, hr2] at hle
  rw [hr1, hr2, hr3]
  clear hr1 hr2 hr3
  go_enter Try.func74, Try.ntmps74
  cases r3
  · go_wp2_with (go_at_call 82; refine hcall.mono ?_; rintro e w4 ⟨rfl, hB4⟩)
    go_returns
    exact ⟨rfl, hB1.trans (hB4.mono hB1.size)⟩
  · go_wp2_with (go_at_call 82; refine hcall.mono ?_; rintro e w4 ⟨rfl, hB4⟩)
    all_goals
      go_returns
      refine ⟨ret_bool (by rw [Bool.eq_iff_iff]; simp; omega), hB1.trans (hB4.mono hB1.size)⟩
end Go.Proofs.Ytimfdfeleoaehaa
