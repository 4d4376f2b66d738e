/-
  Expressions as texts: the numeral of the specification is the numeral; what the specification writes of an expression.
-/
import Derived.Test.YtijblhnjhpmedaaDoorTextD
import Derived.Lib.ItoaMem
import Derived.Lib.ItoaLen
namespace Go.Proofs.YtijblhnjhpmedaaDoor
open Go.RowKit Go.Shelf
set_option linter.unusedSimpArgs false
set_option linter.unusedVariables false
attribute [local go_sem] Oper.semAt_some

abbrev ba (l : List UInt8) : ByteArray := ⟨l.toArray⟩
theorem ba_append (a b : List UInt8) : ba a ++ ba b = ba (a ++ b) := by
  apply ByteArray.ext
  simp [ByteArray.data_append]
theorem ba_size (l : List UInt8) : (ba l).size = l.length := by simp [ByteArray.size]
theorem ba_of (s : ByteArray) : ba s.data.toList = s := by
  apply ByteArray.ext
  simp
theorem digit_ba (n : Nat) : digit n = ba [UInt8.ofNat (48 + n % 10)] := rfl
theorem dec_big {u : Nat} (h : ¬ u < 10) : Lib.decDigits u = Lib.decDigits (u / 10) ++ [UInt8.ofNat (48 + u % 10)] := by rw [Lib.decDigits, dif_neg h]
theorem dec_one {u : Nat} (h : u < 10) : Lib.decDigits u = [UInt8.ofNat (48 + u % 10)] := by rw [Lib.decDigits, dif_pos h, Nat.mod_eq_of_lt h]

set_option maxRecDepth 10000 in
set_option maxHeartbeats 1000000 in
theorem decNat (k : Nat) (w : World) (hk : k ≤ 9223372036854775807) :
    Calls Tryd.prog 10 #[.int .i64 k] w fun e w' => e = .returned (.string (ba (Lib.decDigits k))) ∧ Below w.heap.size w w' := by
  go_enter Tryd.func10, Tryd.ntmps10
  go_wp2_with fail
  all_goals try (exfalso; omega)
  go_loopw [0, 3] (fun v0 v3 wr => ∃ (n : Nat) (x : ByteArray), v0 = .int .i64 n ∧ v3 = .string x ∧ x.size + Lib.nDigits n ≤ 20 ∧ n ≤ 9223372036854775807 ∧ Hid (ba (Lib.decDigits n) ++ x = ba (Lib.decDigits k)) ∧ Below w.heap.size w wr) (fun v0 _ _ => (intOf v0).toNat)
  case atStart => exact ⟨k, ⟨#[]⟩, rfl, rfl, by have := Lib.nDigits_le20 k (by omega); simpa [ByteArray.size] using this, hk, (show ba (Lib.decDigits k) ++ ⟨#[]⟩ = ba (Lib.decDigits k) by apply ByteArray.ext; simp), Below.refl _ _⟩
  case round =>
    obtain ⟨n, x, rfl, rfl, hx, hn0, hH, hB⟩ := hrel
    have hcv := conv_digit n wr
    have hz := hB.size
    have hd : (digit n).size = 1 := rfl
    have hnp := Lib.nDigits_pos n
    by_cases hn9 : n ≤ 9
    · have hm : (48 : Int) + (n : Int) % 10 = 48 + (n : Int) := by omega
      rw [hm] at hcv
      have hfin := hH.out
      rw [dec_one (by omega), ← digit_ba] at hfin
      go_wp2_with fail
      all_goals try (exfalso; omega)
      go_returns
      exact ⟨by rw [← hfin]; rfl, balloc hB _⟩
    · have hnb := Lib.nDigits_big (u := n) (by omega)
      go_wp2_with fail
      all_goals try (exfalso; omega)
      refine ⟨⟨n / 10, digit n ++ x, by go_num, rfl, ?_, by omega, ?_, balloc hB _⟩, ?_⟩
      · rw [ByteArray.size_append, hd]
        omega
      · show _ = _
        have h1 := hH.out
        rw [dec_big (by omega), ← ba_append, ByteArray.append_assoc, ← digit_ba] at h1
        exact h1
      · simp [intOf]
        omega
theorem decInt (n : Int) (w : World) (h0 : -9223372036854775808 ≤ n) (h1 : n ≤ 9223372036854775807) :
    Calls Tryd.prog 10 #[.int .i64 n] w fun e w' => e = .returned (.string (ba (Lib.itoa n))) ∧ Below w.heap.size w w' := by
  by_cases hn : 0 ≤ n
  · obtain ⟨k, rfl⟩ : ∃ k : Nat, n = (k : Int) := ⟨n.toNat, by omega⟩
    rw [Lib.itoa_nonneg]
    exact decNat k w (by omega)
  · by_cases hm : n = -9223372036854775808
    · subst hm
      go_enter Tryd.func10, Tryd.ntmps10
      go_wp2_with fail
      go_returns
      exact ⟨congrArg (fun x => Ending.returned (Value.string x)) (by kernel_rfl), Below.refl _ _⟩
    · obtain ⟨k, hk, rfl⟩ : ∃ k : Nat, 1 ≤ k ∧ n = -(k : Int) := ⟨n.natAbs, by omega, by omega⟩
      rw [Lib.itoa_neg k hk]
      have hcall := decNat k w (by omega)
      go_enter Tryd.func10, Tryd.ntmps10
      go_wp2_with fail
      all_goals try (exfalso; omega)
      go_at_call 10
      refine hcall.mono ?_
      clear hcall
      rintro e w1 ⟨rfl, hB1⟩
      have hsz : (Lib.decDigits k).length ≤ 20 := by
        rw [Lib.decDigits_length]
        exact Lib.nDigits_le20 k (by omega)
      go_wp2_with fail
      go_returns
      refine ⟨?_, hB1⟩
      show Ending.returned (Value.string (ba [45] ++ ba (Lib.decDigits k))) = _
      rw [ba_append]
      rfl
end Go.Proofs.YtijblhnjhpmedaaDoor
