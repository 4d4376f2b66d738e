/-
  A slice of bytes that came in is a row of cells that are bytes; no condition.
-/
import Derived.Test.YtkgmkoejplgjoaaDoorKitB
import Derived.OpenShut
import Derived.ChangeOld
import Derived.ShutString
namespace Go.Proofs.YtkgmkoejplgjoaaDoor
open Go.ChangeShapes Go.WideShapes Go.ChangeAt Go.RowKit
set_option linter.unusedSimpArgs false
set_option linter.unusedVariables false

theorem rowOf {P : Program} {H : Type} {enc : TypeId × Value → H} {W : World} {T elemT : TypeId} {a : Option Addr} {len cap : Nat} {d : DataW H} {p : List MemPlace}
    (hT : P.underlying T = some (.slice elemT)) (hE : P.underlying elemT = some (.int .u8)) (hcells : P.cellsOf elemT = 1)
    (h : DataW.Trod enc P W 0 (fun _ => true) true T (.slice a len cap) d p) : Row W.heap.size W a len ∧ len ≤ cap ∧ cap ≤ maxLen := by
  obtain ⟨fuel, hf⟩ := h
  rcases open_ints hT hE hcells hf with ⟨hcs, _⟩ | ⟨x, l, c, zs, hcs, _, hl, hm, hz, _, hcell, hwz⟩
  · simp [Value.cells] at hcs
    obtain ⟨rfl, rfl, rfl⟩ := hcs
    exact ⟨.inl rfl, Nat.le_refl _, Nat.zero_le _⟩
  · simp [Value.cells] at hcs
    obtain ⟨rfl, rfl, rfl⟩ := hcs
    refine ⟨?_, hl, hm⟩
    by_cases h0 : len = 0
    · exact .inl h0
    · have hzl : zs.length = cap := by simpa using hz
      have hc0 := hcell 0 (by omega)
      obtain ⟨sb, so, spot⟩ := x
      have hspot : spot = none := by simpa [Addr.add] using World.cell?_spot hc0
      subst hspot
      refine .inr ⟨sb, so, rfl, World.block_lt_of_cell? W _ hc0, fun i hi => ?_⟩
      have hi' := hcell i (by omega)
      have hb := bounds_u8 (hwz (zs.getD i 0) (by simp [List.getD]; rw [List.getElem?_eq_getElem (by omega)]; simp))
      have he : (⟨sb, so, none⟩ : Addr).add i = ⟨sb, so + i, none⟩ := by
        simp only [Addr.add]; split
        · simp_all
        · rfl
      exact ⟨zs.getD i 0, by rw [← he]; exact hi', hb.1, hb.2⟩
end Go.Proofs.YtkgmkoejplgjoaaDoor
