/-
  What the specification answers of a list of statements.
-/
import Derived.Test.YtiabnpbhhiacmaaOkL
import Derived.Test.YtiabnpbhhiacmaaOkI
namespace Go.Proofs.Ytiabnpbhhiacmaa
open Go.RowKit Go.Shelf
set_option linter.unusedSimpArgs false
set_option linter.unusedVariables false
attribute [local go_sem] Oper.semAt_some

mutual
def SX.oneR : SX → Nat → Nat × Nat × Bool
  | .mk k n e f ab ac la bb bc lb, d => (1 + (SX.listR la (d + 1)).1 + (SX.listR lb (d + 1)).1, (SX.listR la (d + 1)).2.1 + (SX.listR lb (d + 1)).2.1 + e.specR.1 + f.specR.1, (SX.listR la (d + 1)).2.2 && ((SX.listR lb (d + 1)).2.2 && (SX.mk k n e f ab ac la bb bc lb).fitB))
def SX.listR : List SX → Nat → Nat × Nat × Bool
  | ks, d => if 6 < d then (0, 0, false) else SX.goR ks d 0 0
def SX.goR : List SX → Nat → Nat → Nat → Nat × Nat × Bool
  | [], _, n, m => (n, m, true)
  | s :: ss, d, n, m => if (SX.oneR s d).2.2 = true ∧ n + (SX.oneR s d).1 ≤ 40 ∧ m + (SX.oneR s d).2.1 ≤ 640 then SX.goR ss d (n + (SX.oneR s d).1) (m + (SX.oneR s d).2.1) else (n + (SX.oneR s d).1, m + (SX.oneR s d).2.1, false)
end
theorem SX.oneR_eq (s : SX) (d : Nat) : s.oneR d = (1 + (SX.listR s.la (d + 1)).1 + (SX.listR s.lb (d + 1)).1, (SX.listR s.la (d + 1)).2.1 + (SX.listR s.lb (d + 1)).2.1 + s.e.specR.1 + s.f.specR.1, (SX.listR s.la (d + 1)).2.2 && ((SX.listR s.lb (d + 1)).2.2 && s.fitB)) := by
  cases s; rw [SX.oneR]; rfl
theorem SX.listR_eq (ks : List SX) (d : Nat) : SX.listR ks d = if 6 < d then (0, 0, false) else SX.goR ks d 0 0 := by rw [SX.listR]
theorem SX.goR_nil (d n m : Nat) : SX.goR [] d n m = (n, m, true) := by rw [SX.goR]
theorem SX.goR_cons (s : SX) (ss : List SX) (d n m : Nat) : SX.goR (s :: ss) d n m = if (s.oneR d).2.2 = true ∧ n + (s.oneR d).1 ≤ 40 ∧ m + (s.oneR d).2.1 ≤ 640 then SX.goR ss d (n + (s.oneR d).1) (m + (s.oneR d).2.1) else (n + (s.oneR d).1, m + (s.oneR d).2.1, false) := by rw [SX.goR]
theorem ret3 {a b a' b' : Int} {c c' : Bool} (h1 : a = a') (h2 : b = b') (h3 : c = c') : Ending.returned (.tuple #[.int .i64 a, .int .i64 b, .bool c]) = .returned (.tuple #[.int .i64 a', .int .i64 b', .bool c']) := by rw [h1, h2, h3]
/-- How much the specification can count at most. -/
theorem SX.goR_le (sz : Nat) : ∀ ks : List SX, SX.sizeAll ks ≤ sz → (∀ (i : Nat) (k : SX), ks[i]? = some k → SmallS k) → ∀ d n m, (SX.goR ks d n m).1 ≤ n + SX.sizeAll ks ∧ (SX.goR ks d n m).2.1 ≤ m + 2097154 * SX.sizeAll ks := by
  induction sz using Nat.strongRecOn with
  | _ sz ih =>
  have hl : ∀ l : List SX, SX.sizeAll l < sz → (∀ (i : Nat) (k : SX), l[i]? = some k → SmallS k) → ∀ d, (SX.listR l d).1 ≤ SX.sizeAll l ∧ (SX.listR l d).2.1 ≤ 2097154 * SX.sizeAll l := by
    intro l h hs d
    rw [SX.listR_eq]
    split
    · exact ⟨Nat.zero_le _, Nat.zero_le _⟩
    · have := ih _ h l (Nat.le_refl _) hs d 0 0
      simpa using this
  intro ks
  induction ks with
  | nil => intro _ _ d n m; simp [SX.goR_nil, SX.sizeAll]
  | cons s ss ihs =>
    intro hsz hs d n m
    have hs0 := hs 0 s rfl
    obtain ⟨-, m2, m3, -, ka, kb⟩ := hs0.parts
    have h1 := s.size_eq
    simp only [SX.sizeAll] at hsz ⊢
    have hA := hl s.la (by omega) ka (d + 1)
    have hB := hl s.lb (by omega) kb (d + 1)
    have hE := XT.spec_le _ s.e (Nat.le_refl _)
    have hF := XT.spec_le _ s.f (Nat.le_refl _)
    have hO : (s.oneR d).1 ≤ s.size ∧ (s.oneR d).2.1 ≤ 2097154 * s.size := by
      rw [SX.oneR_eq]
      dsimp only
      have h2 := m2.1
      have h3 := m3.1
      omega
    rw [SX.goR_cons]
    split
    · have h4 := ihs (by omega) (fun i k hk => hs (i + 1) k (by simpa using hk)) d (n + (s.oneR d).1) (m + (s.oneR d).2.1)
      omega
    · dsimp only
      omega
theorem SX.listR_le (ks : List SX) (hs : ∀ (i : Nat) (k : SX), ks[i]? = some k → SmallS k) (d : Nat) : (SX.listR ks d).1 ≤ SX.sizeAll ks ∧ (SX.listR ks d).2.1 ≤ 2097154 * SX.sizeAll ks := by
  rw [SX.listR_eq]
  split
  · exact ⟨Nat.zero_le _, Nat.zero_le _⟩
  · have := SX.goR_le _ ks (Nat.le_refl _) hs d 0 0
    simpa using this
set_option maxRecDepth 10000 in
set_option maxHeartbeats 2000000 in
theorem specList (sz : Nat) : ∀ ks : List SX, SX.sizeAll ks ≤ sz → SX.sizeAll ks ≤ 1048577 → (∀ (i : Nat) (k : SX), ks[i]? = some k → SmallS k) → ∀ (a : Option Addr) (c : Nat) (ok : Nat → Prop) (w : World), (∀ b, ok b → b < w.heap.size) → SRow ok w a ks → (∀ (i : Nat) (k : SX), ks[i]? = some k → LiesS ok w k) → ∀ d : Nat, d ≤ 7 →
    Calls Try.prog 54 #[.slice a ks.length c, .int .i64 d] w fun e w' => e = .returned (.tuple #[.int .i64 ((SX.listR ks d).1 : Nat), .int .i64 ((SX.listR ks d).2.1 : Nat), .bool (SX.listR ks d).2.2]) ∧ Below w.heap.size w w' := by
  induction sz using Nat.strongRecOn with
  | _ sz ih =>
  intro ks hsz hlim hsm a c ok w hok hR hL d hd
  have hlen := SX.length_le ks
  by_cases h6 : 6 < d
  · go_enter Try.func54, Try.ntmps54
    go_wp2_with fail
    all_goals first | (exfalso; omega) | skip
    go_returns
    refine ⟨?_, Below.refl _ _⟩
    rw [SX.listR_eq, if_pos h6]
    rfl
  · go_enter Try.func54, Try.ntmps54
    go_wp2_with fail
    all_goals first | (exfalso; omega) | skip
    go_loopw [7, 8, 9] (fun v7 v8 v9 wr => ∃ (i n m : Nat), v9 = .int .i64 i ∧ v7 = .int .i64 n ∧ v8 = .int .i64 m ∧ i ≤ ks.length ∧ n ≤ 40 ∧ m ≤ 640 ∧ Hid (SX.goR ks d 0 0 = SX.goR (ks.drop i) d n m) ∧ Below w.heap.size w wr) (fun _ _ v9 _ => ks.length - (intOf v9).toNat)
    case atStart => exact ⟨0, 0, 0, rfl, rfl, rfl, by omega, by omega, by omega, rfl, Below.refl _ _⟩
    case round =>
      obtain ⟨i, n, m, rfl, rfl, rfl, hi, hn, hm, hH, hB⟩ := hrel
      by_cases hlt : i < ks.length
      · obtain ⟨s, hk⟩ : ∃ s, ks[i]? = some s := ⟨_, List.getElem?_eq_getElem hlt⟩
        have hdrop : ks.drop i = s :: ks.drop (i + 1) := by
          rw [List.drop_eq_getElem_cons hlt]
          congr 1
          rw [List.getElem?_eq_getElem hlt] at hk
          exact Option.some.inj hk
        have hG := hH.out
        rw [hdrop, SX.goR_cons] at hG
        have hG' : Hid (SX.goR ks d 0 0 = if (s.oneR d).2.2 = true ∧ n + (s.oneR d).1 ≤ 40 ∧ m + (s.oneR d).2.1 ≤ 640 then SX.goR (ks.drop (i + 1)) d (n + (s.oneR d).1) (m + (s.oneR d).2.1) else (n + (s.oneR d).1, m + (s.oneR d).2.1, false)) := hG
        clear hG hH hdrop
        have hs0 := hsm i s hk
        obtain ⟨-, m2, m3, m4, ka, kb⟩ := hs0.parts
        have hss := SX.size_get hk
        have hsq := s.size_eq
        obtain ⟨b, o, hbase, hob, hc⟩ := hR i s hk
        obtain ⟨c0, c1, c2, c3, c4, c5, c6, c7, c8, c9, c10, c11⟩ := hc.below hB (hok b hob)
        have hLs := (hL i s hk).under hB hok
        have hokr : ∀ b, ok b → b < wr.heap.size := fun b hb => Nat.lt_of_lt_of_le (hok b hb) hB.size
        obtain ⟨W1, hW1⟩ : ∃ W1, wr.alloc (.cells #[.int .i64 s.kind, .string s.name, .int .i64 s.e.kind, .int .i64 s.e.num, .string s.e.name, .slice s.e.base s.e.kids.length s.e.cap, .int .i64 s.f.kind, .int .i64 s.f.num, .string s.f.name, .slice s.f.base s.f.kids.length s.f.cap, .slice s.abase s.la.length s.acap, .slice s.bbase s.lb.length s.bcap] 111) = W1 := ⟨_, rfl⟩
        have hB1 : Below wr.heap.size wr W1 := by rw [← hW1]; exact (Below.refl _ wr).alloc (Nat.le_refl _) _
        have hs1 : wr.heap.size + 1 = W1.heap.size := by rw [← hW1]; simp
        have hC1 : Cells12 W1 wr.heap.size 0 s := by rw [← hW1]; exact Cells12.new wr s _
        have hL1 := hLs.under hB1 hokr
        have hok1 : ∀ b, ok b → b < W1.heap.size := fun b hb => by have := hokr b hb; omega
        obtain ⟨A1, qA1⟩ : ∃ x, (SX.listR s.la (d + 1)).1 = x := ⟨_, rfl⟩
        obtain ⟨A2, qA2⟩ : ∃ x, (SX.listR s.la (d + 1)).2.1 = x := ⟨_, rfl⟩
        obtain ⟨A3, qA3⟩ : ∃ x, (SX.listR s.la (d + 1)).2.2 = x := ⟨_, rfl⟩
        obtain ⟨B1, qB1⟩ : ∃ x, (SX.listR s.lb (d + 1)).1 = x := ⟨_, rfl⟩
        obtain ⟨B2, qB2⟩ : ∃ x, (SX.listR s.lb (d + 1)).2.1 = x := ⟨_, rfl⟩
        obtain ⟨B3, qB3⟩ : ∃ x, (SX.listR s.lb (d + 1)).2.2 = x := ⟨_, rfl⟩
        obtain ⟨x1, qx⟩ : ∃ x, s.e.specR.1 = x := ⟨_, rfl⟩
        obtain ⟨y1, qy⟩ : ∃ x, s.f.specR.1 = x := ⟨_, rfl⟩
        obtain ⟨F3, qF⟩ : ∃ x, s.fitB = x := ⟨_, rfl⟩
        have hone : s.oneR d = (1 + A1 + B1, A2 + B2 + x1 + y1, A3 && (B3 && F3)) := by rw [SX.oneR_eq, qA1, qA2, qA3, qB1, qB2, qB3, qx, qy, qF]
        have hbA := SX.listR_le s.la ka (d + 1)
        have hbB := SX.listR_le s.lb kb (d + 1)
        have hbx := (XT.spec_le _ s.e (Nat.le_refl _)).1
        have hby := (XT.spec_le _ s.f (Nat.le_refl _)).1
        rw [qA1, qA2] at hbA
        rw [qB1, qB2] at hbB
        rw [qx] at hbx
        rw [qy] at hby
        have hm2 := m2.1
        have hm3 := m3.1
        have hA1 : A1 ≤ 1048577 := by omega
        have hA2 : A2 ≤ 2199025352704 := by omega
        have hB1' : B1 ≤ 1048577 := by omega
        have hB2' : B2 ≤ 2199025352704 := by omega
        have hx1 : x1 ≤ 1048577 := by omega
        have hy1 : y1 ≤ 1048577 := by omega
        have callA : Hid (∀ x, Below W1.heap.size W1 x → Calls Try.prog 54 #[.slice s.abase s.la.length s.acap, .int .i64 ((d : Int) + 1)] x fun e w' => e = .returned (.tuple #[.int .i64 (A1 : Nat), .int .i64 (A2 : Nat), .bool A3]) ∧ Below x.heap.size x w') := fun x hx => by
          have h := ih (SX.sizeAll s.la) (by omega) s.la (Nat.le_refl _) (by omega) ka s.abase s.acap ok x (fun b hb => Nat.lt_of_lt_of_le (hok1 b hb) hx.size) (hL1.parts.2.2.1.under hx hok1) (fun i k hk => (hL1.parts.2.2.2.2.1 i k hk).under hx hok1) (d + 1) (by omega)
          rw [qA1, qA2, qA3] at h
          simpa using h
        have callB : Hid (∀ x, Below W1.heap.size W1 x → Calls Try.prog 54 #[.slice s.bbase s.lb.length s.bcap, .int .i64 ((d : Int) + 1)] x fun e w' => e = .returned (.tuple #[.int .i64 (B1 : Nat), .int .i64 (B2 : Nat), .bool B3]) ∧ Below x.heap.size x w') := fun x hx => by
          have h := ih (SX.sizeAll s.lb) (by omega) s.lb (Nat.le_refl _) (by omega) kb s.bbase s.bcap ok x (fun b hb => Nat.lt_of_lt_of_le (hok1 b hb) hx.size) (hL1.parts.2.2.2.1.under hx hok1) (fun i k hk => (hL1.parts.2.2.2.2.2 i k hk).under hx hok1) (d + 1) (by omega)
          rw [qB1, qB2, qB3] at h
          simpa using h
        have callE : Hid (∀ x, Below W1.heap.size W1 x → ∃ (x2 : Nat) (x3 : Bool), Calls Try.prog 43 #[s.e.val] x fun e w' => e = .returned (.tuple #[.int .i64 (x1 : Nat), .int .i64 (x2 : Nat), .bool x3]) ∧ Below x.heap.size x w') := fun x hx => by
          have h := specE _ s.e (by omega) (Nat.le_refl _) m2.2 ok x (fun b hb => Nat.lt_of_lt_of_le (hok1 b hb) hx.size) (hL1.parts.1.under hx hok1)
          rw [qx] at h
          exact ⟨_, _, h⟩
        have callF : Hid (∀ x, Below W1.heap.size W1 x → ∃ (x2 : Nat) (x3 : Bool), Calls Try.prog 43 #[s.f.val] x fun e w' => e = .returned (.tuple #[.int .i64 (y1 : Nat), .int .i64 (x2 : Nat), .bool x3]) ∧ Below x.heap.size x w') := fun x hx => by
          have h := specE _ s.f (by omega) (Nat.le_refl _) m3.2 ok x (fun b hb => Nat.lt_of_lt_of_le (hok1 b hb) hx.size) (hL1.parts.2.1.under hx hok1)
          rw [qy] at h
          exact ⟨_, _, h⟩
        have callS : Hid (∀ x, Below W1.heap.size W1 x → Calls Try.prog 96 #[s.val] x fun e w' => e = .returned (.bool F3) ∧ Below x.heap.size x w') := fun x hx => by
          have h := s.specStmt hs0 ok x (fun b hb => Nat.lt_of_lt_of_le (hok1 b hb) hx.size) (hL1.under hx hok1)
          rw [qF] at h
          exact h
        clear qA1 qA2 qA3 qB1 qB2 qB3 qx qy qF
        have hBw : Below w.heap.size w W1 := bstep hB hB1
        have hzr : w.heap.size ≤ W1.heap.size := hBw.size
        subst hbase
        obtain ⟨d0, d1, d2, d3, d4, d5, d6, d7, d8, d9, d10, d11⟩ := hC1.below (Below.refl W1.heap.size W1) (by omega)
        go_wp2_with fail
        go_at_call 54
        refine (callA.out _ (Below.refl _ _)).mono ?_
        rintro e w2 ⟨rfl, hX2⟩
        clear d0 d1 d2 d3 d4 d5 d6 d7 d8 d9 d10 d11
        obtain ⟨d0, d1, d2, d3, d4, d5, d6, d7, d8, d9, d10, d11⟩ := hC1.below hX2 (by omega)
        go_wp2_with fail
        go_at_call 54
        refine (callB.out _ hX2).mono ?_
        rintro e w3 ⟨rfl, hb3⟩
        have hX3 := bstep hX2 hb3
        clear d0 d1 d2 d3 d4 d5 d6 d7 d8 d9 d10 d11 hb3
        obtain ⟨d0, d1, d2, d3, d4, d5, d6, d7, d8, d9, d10, d11⟩ := hC1.below hX3 (by omega)
        go_wp2_with fail
        go_at_call 43
        obtain ⟨x2, x3, hE⟩ := callE.out _ hX3
        refine hE.mono ?_
        clear hE
        rintro e w4 ⟨rfl, hb4⟩
        have hX4 := bstep hX3 hb4
        clear d0 d1 d2 d3 d4 d5 d6 d7 d8 d9 d10 d11 hb4
        obtain ⟨d0, d1, d2, d3, d4, d5, d6, d7, d8, d9, d10, d11⟩ := hC1.below hX4 (by omega)
        go_wp2_with fail
        go_at_call 43
        obtain ⟨y2, y3, hE⟩ := callF.out _ hX4
        refine hE.mono ?_
        clear hE
        rintro e w5 ⟨rfl, hb5⟩
        have hX5 := bstep hX4 hb5
        clear d0 d1 d2 d3 d4 d5 d6 d7 d8 d9 d10 d11 hb5
        obtain ⟨d0, d1, d2, d3, d4, d5, d6, d7, d8, d9, d10, d11⟩ := hC1.below hX5 (by omega)
        have hbad : ¬ ((A3 && (B3 && F3)) = true ∧ n + (1 + A1 + B1) ≤ 40 ∧ m + (A2 + B2 + x1 + y1) ≤ 640) → SX.listR ks d = (n + (1 + A1 + B1), m + (A2 + B2 + x1 + y1), false) := by
          intro h
          rw [SX.listR_eq, if_neg h6, hG'.out, hone]
          dsimp only
          rw [if_neg h]
        cases A3
        · go_wp2
          all_goals first | (exfalso; omega) | skip
          go_returns
          refine ⟨?_, hBw.trans (hX5.mono (by omega))⟩
          rw [hbad (by simp)]
          exact ret3 (a' := ((n + (1 + A1 + B1) : Nat) : Int)) (b' := ((m + (A2 + B2 + x1 + y1) : Nat) : Int)) (by omega) (by omega) rfl
        · cases B3
          · go_wp2
            all_goals first | (exfalso; omega) | skip
            go_returns
            refine ⟨?_, hBw.trans (hX5.mono (by omega))⟩
            rw [hbad (by simp)]
            exact ret3 (a' := ((n + (1 + A1 + B1) : Nat) : Int)) (b' := ((m + (A2 + B2 + x1 + y1) : Nat) : Int)) (by omega) (by omega) rfl
          · go_wp2_with fail
            go_at_call 96
            refine (callS.out _ hX5).mono ?_
            rintro e w6 ⟨rfl, hb6⟩
            have hX6 := bstep hX5 hb6
            clear d0 d1 d2 d3 d4 d5 d6 d7 d8 d9 d10 d11 hb6
            cases F3
            · go_wp2
              all_goals first | (exfalso; omega) | skip
              go_returns
              refine ⟨?_, hBw.trans (hX6.mono (by omega))⟩
              rw [hbad (by simp)]
              exact ret3 (a' := ((n + (1 + A1 + B1) : Nat) : Int)) (b' := ((m + (A2 + B2 + x1 + y1) : Nat) : Int)) (by omega) (by omega) rfl
            · by_cases hlim : n + (1 + A1 + B1) ≤ 40 ∧ m + (A2 + B2 + x1 + y1) ≤ 640
              · go_wp2
                all_goals first | (exfalso; omega) | skip
                refine ⟨⟨i + 1, n + (1 + A1 + B1), m + (A2 + B2 + x1 + y1), by go_num, congrArg (Value.int IntKind.i64) (by omega), congrArg (Value.int IntKind.i64) (by omega), by omega, hlim.1, hlim.2, ?_, hBw.trans (hX6.mono (by omega))⟩, by simp [intOf]; omega⟩
                show _ = _
                rw [hG'.out, hone]
                dsimp only
                rw [if_pos ⟨rfl, hlim⟩]
              · go_wp2
                all_goals first | (exfalso; omega) | skip
                all_goals
                  go_returns
                  refine ⟨?_, hBw.trans (hX6.mono (by omega))⟩
                  try rw [hbad (by simpa using hlim)]
                  exact ret3 (a' := ((n + (1 + A1 + B1) : Nat) : Int)) (b' := ((m + (A2 + B2 + x1 + y1) : Nat) : Int)) (by omega) (by omega) rfl
      · have he : i = ks.length := by omega
        have hG := hH.out
        rw [he, List.drop_length, SX.goR_nil] at hG
        go_wp2_with fail
        all_goals first | (exfalso; omega) | skip
        go_returns
        refine ⟨?_, hB⟩
        rw [SX.listR_eq, if_neg h6, hG]
        rfl
end Go.Proofs.Ytiabnpbhhiacmaa
