/-
  A pointer that is none of a list is not found in it.
-/
import Derived.Test.YtijblhnjhpmedaaDoorHoldA
import Derived.Test.YtijblhnjhpmedaaDoorStmtC
import Derived.LaidEql
namespace Go.Proofs.YtijblhnjhpmedaaDoor
open Go.RowKit Go.Shelf
set_option linter.unusedSimpArgs false
set_option linter.unusedVariables false
attribute [local go_sem] Oper.semAt_some

theorem ptrEqIn {P : Program} {T e : TypeId} {i : TypeInfo} (w : World) (d : Nat) (hu : P.underlying T = some (.pointer e)) (hi : P.info? e = some i) (hs : i.size ≠ 0) {a b : Addr} (hne : a ≠ b) (ha : Pl w a.block) (hb : Pl w b.block) :
    (Op.equalIn (d + 1) T (.pointer (some a)) (.pointer (some b))).run P w = .ok false w := by
  obtain ⟨ca, ta, ha⟩ := ha
  obtain ⟨cb, tb, hb⟩ := hb
  simp [Op.equalIn, run_underlying hu, sizeOf, typeInfo, hi, hs, run_sameAddr_other w hne ha hb]
theorem ptrEq {P : Program} {T e : TypeId} {i : TypeInfo} (w : World) (hu : P.underlying T = some (.pointer e)) (hi : P.info? e = some i) (hs : i.size ≠ 0) {a b : Addr} (hne : a ≠ b) (ha : Pl w a.block) (hb : Pl w b.block) :
    (binOp .eql T (.pointer (some a)) (.pointer (some b))).run P w = .ok (.bool false) w := by
  simp only [binOp]
  simp [Op.equal, Op.maxDepth, ptrEqIn w 9999 hu hi hs hne ha hb]
abbrev ptrV (p : Nat × Nat) : Value := .pointer (some ⟨p.1, p.2, none⟩)
theorem infoEsz : ∃ i, Tryd.prog.info? 29 = some i ∧ i.size ≠ 0 := by
  obtain ⟨i0, hi, hz0, hz1, hz2⟩ := info_parts infoE
  exact ⟨i0, hi, by rw [hz1]; decide⟩
theorem own_ptrs {w : World} {N : Nat} {T : TypeId} {v : Value} {ps : List (Nat × Nat)} (h : w.ownsRow N T 1 v ps.length (ps.map ptrV)) :
    ∃ a c, v = .slice a ps.length c ∧ ∀ (i : Nat) (p : Nat × Nat), ps[i]? = some p → ∃ g, a = some ⟨g, 0, none⟩ ∧ w.cell? ⟨g, i, none⟩ = some (ptrV p) := by
  rcases h.2 with ⟨rfl, h0⟩ | ⟨g, cap, cur, rfl, hb, hg, _⟩
  · have : ps = [] := List.length_eq_zero_iff.1 h0
    subst this
    exact ⟨none, 0, rfl, fun i p hp => by simp at hp⟩
  · refine ⟨_, _, rfl, fun i p hp => ⟨g, rfl, ?_⟩⟩
    have h1 := h.cells (g := g) rfl i (ptrV p) (by rw [List.getElem?_map, hp]; rfl)
    have hadd : (⟨g, 0, none⟩ : Addr).add i = ⟨g, i, none⟩ := by unfold Addr.add; split <;> simp_all
    rw [hadd] at h1
    exact h1
set_option maxRecDepth 10000 in
set_option maxHeartbeats 2000000 in
theorem indexE (b o : Nat) (v : Value) (ps : List (Nat × Nat)) (N : Nat) (T : TypeId) (w : World) (hown : w.ownsRow N T 1 v ps.length (ps.map ptrV)) (hne : ∀ p ∈ ps, p ≠ (b, o)) (hpl : ∀ p ∈ ps, Pl w p.1) (hpb : Pl w b) (hlen : ps.length ≤ 4194304) :
    Calls Tryd.prog 24 #[v, .pointer (some ⟨b, o, none⟩)] w fun e w' => e = .returned (.int .i64 (-1)) ∧ w' = w := by
  obtain ⟨a, c, rfl, hcell⟩ := own_ptrs hown
  clear hown
  obtain ⟨i0, hi0, hz1⟩ : ∃ i, Tryd.prog.info? 29 = some i ∧ i.size ≠ 0 := infoEsz
  obtain ⟨n, hn⟩ : ∃ n, ps.length = n := ⟨_, rfl⟩
  rw [hn] at hlen ⊢
  go_enter Tryd.func24, Tryd.ntmps24
  go_wp2
  go_loop [8] (fun v8 => ∃ i : Nat, v8 = .int .i64 i ∧ i ≤ n) (fun v8 => n - (intOf v8).toNat)
  case atStart => exact ⟨0, rfl, by omega⟩
  case round =>
    obtain ⟨i, rfl, hi⟩ := hrel
    by_cases hlt : i < n
    · obtain ⟨p, hp⟩ : ∃ p, ps[i]? = some p := ⟨_, List.getElem?_eq_getElem (by omega)⟩
      obtain ⟨g, rfl, hc⟩ := hcell i p hp
      have hpn := hne p (List.mem_of_getElem? hp)
      obtain ⟨p1, p2⟩ := p
      have hq := ptrEq (P := Tryd.prog) w Tryd.underlying51 hi0 hz1 (a := ⟨b, o, none⟩) (b := ⟨p1, p2, none⟩) (fun h => hpn (by cases h; rfl)) hpb (hpl _ (List.mem_of_getElem? hp))
      go_wp2
      go_round
      case rel => exact ⟨i + 1, by go_num, by omega⟩
      case measure => simp [intOf]; omega
    · go_wp2
      go_returns
      exact ⟨rfl, rfl⟩
set_option maxHeartbeats 2000000 in
theorem containsE (b o : Nat) (v : Value) (ps : List (Nat × Nat)) (N : Nat) (T : TypeId) (w : World) (hown : w.ownsRow N T 1 v ps.length (ps.map ptrV)) (hne : ∀ p ∈ ps, p ≠ (b, o)) (hpl : ∀ p ∈ ps, Pl w p.1) (hpb : Pl w b) (hlen : ps.length ≤ 4194304) :
    Calls Tryd.prog 18 #[v, .pointer (some ⟨b, o, none⟩)] w fun e w' => e = .returned (.bool false) ∧ w' = w := by
  have H : Hid (Calls Tryd.prog 24 #[v, .pointer (some ⟨b, o, none⟩)] w fun e w' => e = .returned (.int .i64 (-1)) ∧ w' = w) := indexE b o v ps N T w hown hne hpl hpb hlen
  clear hown hne hpl hpb
  go_enter Tryd.func18, Tryd.ntmps18
  go_wp2_with (go_at_call 24; refine H.out.mono ?_; rintro e w5 ⟨rfl, hw⟩; subst w5)
  go_returns
  exact ⟨rfl, rfl⟩
end Go.Proofs.YtijblhnjhpmedaaDoor
