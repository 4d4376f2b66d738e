/-
  What the program and the specification answer of places of variables, channels and locks, and whether a task may name a variable, at every program of at most 1048576 names and the like: one contract a function.
-/
import Derived.Test.YtaajdoipjalgmaaGreatDoorProgC
import Derived.Test.YtaajdoipjalgmaaGreatDoorHoldA
import Derived.Maps.OwnSet
namespace Go.Proofs.YtaajdoipjalgmaaGreatDoor
open Go.RowKit Go.Shelf Go.Maps
set_option linter.unusedSimpArgs false
set_option linter.unusedVariables false
attribute [local go_sem] Oper.semAt_some

def isIt (s u : ByteArray) : Bool := u.toList == s.toList
def findOf (l : List ByteArray) (s : ByteArray) : Option Nat := l.findIdx? (isIt s)
def firstOf (l : List ByteArray) (s : ByteArray) : Int := match findOf l s with
  | some i => i
  | none => -1
def keyL (s : ByteArray) : Lit := .string s.data.toList
theorem key_ne {s u : ByteArray} (h : isIt s u = false) : keyL s ≠ keyL u := by
  intro e
  simp only [keyL, Lit.string.injEq] at e
  simp [isIt, ByteArray.toList_eq, e] at h
theorem key_eq {s u : ByteArray} (h : isIt s u = true) : keyL s = keyL u := by
  simp only [isIt, ByteArray.toList_eq, beq_iff_eq] at h
  simp [keyL, h]
/-- A map that has of each word of a list the first place. -/
structure Firsts (D : DataW Unit) (l : List ByteArray) : Prop where
  isMap : IsMap D
  has : ∀ s : ByteArray, Maps.has D (keyL s) = (findOf l s).isSome
  at_ : ∀ (s : ByteArray) (i : Nat), findOf l s = some i → D.atKey (keyL s) (.lit (.int .i64 0)) = .lit (.int .i64 i)
theorem Firsts.nil : Firsts (.map []) [] := ⟨isMap_empty, fun s => by simp [findOf, Maps.has], fun s i h => by simp [findOf] at h⟩
theorem findOf_snoc (l : List ByteArray) (u s : ByteArray) : findOf (l ++ [u]) s = (findOf l s).or (if isIt s u then some l.length else none) := by
  simp only [findOf, List.findIdx?_append]
  congr 1
  cases h : isIt s u <;> simp [List.findIdx?_cons, h]
theorem Firsts.same {D : DataW Unit} {l : List ByteArray} {u : ByteArray} (h : Firsts D l) (hu : Maps.has D (keyL u) = true) : Firsts D (l ++ [u]) := by
  have e : ∀ s, findOf (l ++ [u]) s = findOf l s := by
    intro s
    rw [findOf_snoc]
    cases hf : findOf l s with
    | some i => rfl
    | none =>
      cases hs : isIt s u with
      | false => simp
      | true =>
        have h1 := h.has s
        rw [hf, key_eq hs, hu] at h1
        cases h1
  exact ⟨h.isMap, fun s => by rw [e]; exact h.has s, fun s i hi => h.at_ s i (by rw [← e]; exact hi)⟩
theorem Firsts.put {D : DataW Unit} {l : List ByteArray} {u : ByteArray} (h : Firsts D l) (hu : Maps.has D (keyL u) = false) : Firsts (D.put (keyL u) (.lit (.int .i64 l.length))) (l ++ [u]) := by
  have hk : WideAt.IsKeyLit (keyL u) := trivial
  refine ⟨h.isMap.put _ _, fun s => ?_, fun s i hi => ?_⟩
  · rw [findOf_snoc]
    cases hs : isIt s u with
    | false => rw [has_put_other (key_ne hs), h.has s]; simp
    | true => rw [key_eq hs, has_put_same h.isMap hk]; cases findOf l s <;> rfl
  · rw [findOf_snoc] at hi
    cases hs : isIt s u with
    | false => rw [atKey_put_other (key_ne hs)]; rw [hs] at hi; exact h.at_ s i (by simpa using hi)
    | true =>
      have h1 := h.has s
      rw [key_eq hs, hu] at h1
      have h2 : findOf l s = none := by cases hf : findOf l s with
        | none => rfl
        | some j => rw [hf] at h1; cases h1
      rw [h2, hs] at hi
      simp at hi
      subst hi
      rw [key_eq hs, atKey_put_same h.isMap hk]
theorem lawK : Keyed Tryz.prog 9 := string_keyed Tryz.underlying9
theorem zeroI (w : World) : (zeroValue 3).run Tryz.prog w = .ok (.int .i64 0) w := by kernel_rfl
theorem infoW : (Tryz.prog.info? 9).map (fun i => (i.zero, i.size, i.bytes)) = some (some (.string ByteArray.empty), 1, 16) := by kernel_rfl

def PX.mayB (p : PX) (t v : Int) : Bool := decide (0 ≤ v ∧ v < p.vars.length) && (match p.vars[v.toNat]? with
  | some x => !x.lock.toList.isEmpty || (x.task == t)
  | none => false)
theorem PX.mayB_out {p : PX} {t v : Int} (h : ¬ (0 ≤ v ∧ v < p.vars.length)) : p.mayB t v = false := by
  unfold PX.mayB
  rw [decide_eq_false h, Bool.false_and]
theorem PX.mayB_in {p : PX} {t : Int} {n : Nat} {x : VX} (h : p.vars[n]? = some x) : p.mayB t n = (!x.lock.toList.isEmpty || (x.task == t)) := by
  have h1 := (List.getElem?_eq_some_iff.1 h).1
  unfold PX.mayB
  rw [decide_eq_true (by omega)]
  simp [h]
set_option maxHeartbeats 2000000 in
theorem PX.implMay (p : PX) (t v : Int) (ok : Nat → Prop) (w : World) (hok : ∀ b, ok b → b < w.heap.size) (hm : p.vars.length ≤ 1048577) (hR : VX.Row ok w p.vbase p.vars) :
    Calls Tryz.prog 146 #[p.val, .int .i64 t, .int .i64 v] w fun e w' => e = .returned (.bool (p.mayB t v)) ∧ Below w.heap.size w w' := by
  have hB1 : Below w.heap.size w (w.alloc (.cells #[.slice p.vbase p.vars.length p.vcap, .slice p.cbase p.chans.length p.ccap, .slice p.nbase p.locks.length p.ncap, .slice p.tbase p.tasks.length p.tcap] 35)) := (Below.refl _ w).alloc (Nat.le_refl _) _
  by_cases hv : 0 ≤ v ∧ v < p.vars.length
  · obtain ⟨n, rfl⟩ : ∃ n : Nat, v = n := ⟨v.toNat, by omega⟩
    obtain ⟨x, hx⟩ : ∃ x, p.vars[n]? = some x := ⟨_, List.getElem?_eq_getElem (by omega)⟩
    rw [PX.mayB_in hx]
    obtain ⟨b, o, hb, hkb, hc⟩ := hR n x hx
    obtain ⟨c0, c1, c2, c3, c4', c5, c6⟩ := hc.below hB1 (hok b hkb)
    obtain ⟨vb, vc, vars, cb, cc, chans, nb, nc, locks, tb, tc, tasks⟩ := p
    dsimp only at hb hm hx hv hB1 c0 c1 c2 c3 c4' c5 c6 ⊢
    subst hb
    go_enter Tryz.func146, Tryz.ntmps146
    cases hl : x.lock.toList.isEmpty
    all_goals
      go_wp2
      all_goals
        first
          | (exfalso; omega)
          | (go_returns; refine ⟨ret_bool (by simp_all), hB1⟩)
  · rw [PX.mayB_out hv]
    go_enter Tryz.func146, Tryz.ntmps146
    go_wp2
    all_goals
      first
        | (exfalso; omega)
        | (go_returns; exact ⟨rfl, hB1⟩)
set_option maxHeartbeats 2000000 in
theorem PX.specMay (p : PX) (t v : Int) (ok : Nat → Prop) (w : World) (hok : ∀ b, ok b → b < w.heap.size) (hm : p.vars.length ≤ 1048577) (hR : VX.Row ok w p.vbase p.vars) :
    Calls Tryz.prog 160 #[p.val, .int .i64 t, .int .i64 v] w fun e w' => e = .returned (.bool (p.mayB t v)) ∧ Below w.heap.size w w' := by
  have hB1 : Below w.heap.size w (w.alloc (.cells #[.slice p.vbase p.vars.length p.vcap, .slice p.cbase p.chans.length p.ccap, .slice p.nbase p.locks.length p.ncap, .slice p.tbase p.tasks.length p.tcap] 35)) := (Below.refl _ w).alloc (Nat.le_refl _) _
  by_cases hv : 0 ≤ v ∧ v < p.vars.length
  · obtain ⟨n, rfl⟩ : ∃ n : Nat, v = n := ⟨v.toNat, by omega⟩
    obtain ⟨x, hx⟩ : ∃ x, p.vars[n]? = some x := ⟨_, List.getElem?_eq_getElem (by omega)⟩
    rw [PX.mayB_in hx]
    obtain ⟨b, o, hb, hkb, hc⟩ := hR n x hx
    obtain ⟨c0, c1, c2, c3, c4', c5, c6⟩ := hc.below hB1 (hok b hkb)
    obtain ⟨vb, vc, vars, cb, cc, chans, nb, nc, locks, tb, tc, tasks⟩ := p
    dsimp only at hb hm hx hv hB1 c0 c1 c2 c3 c4' c5 c6 ⊢
    subst hb
    go_enter Tryz.func160, Tryz.ntmps160
    cases hl : x.lock.toList.isEmpty
    all_goals
      go_wp2
      all_goals
        first
          | (exfalso; omega)
          | (go_returns; refine ⟨ret_bool (by simp_all), hB1⟩)
  · rw [PX.mayB_out hv]
    go_enter Tryz.func160, Tryz.ntmps160
    go_wp2
    all_goals
      first
        | (exfalso; omega)
        | (go_returns; exact ⟨rfl, hB1⟩)
end Go.Proofs.YtaajdoipjalgmaaGreatDoor
