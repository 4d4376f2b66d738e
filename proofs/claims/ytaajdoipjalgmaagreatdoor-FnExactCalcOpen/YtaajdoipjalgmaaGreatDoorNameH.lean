/-
  What the specification answers of a use of a variable, of the names in an expression, and of a statement's name: as the program's uses are judged.
  What the specification answers of the names in an expression, and of a statement's own name: as the program's uses are judged.
  What the specification answers of a statement's own name.
  All names of a program, as the specification lists them, and whether two are one.
  Whether two of all names of a program are one, as the specification says it.
  What the specification answers of a task's statements.
  What the specification's ScopeCheck answers.
  What is wrong with names is the same at a copy of a program.
-/
import Derived.Test.YtaajdoipjalgmaaGreatDoorUsesJ
import Derived.Deep.RegionHeld3
import Derived.Test.YtaajdoipjalgmaaGreatDoorStmtsD
import Derived.Test.YtaajdoipjalgmaaGreatDoorOkP
import Derived.Test.YtaajdoipjalgmaaGreatDoorOkQ
namespace Go.Proofs.YtaajdoipjalgmaaGreatDoor
open Go.RowKit Go.Shelf Go.Maps
set_option linter.unusedSimpArgs false
set_option linter.unusedVariables false
attribute [local go_sem] Oper.semAt_some

theorem badU_append {p : PX} {task : Int} (a b : List UX) : badU p task (a ++ b) = if badU p task a = 0 then badU p task b else badU p task a := by
  induction a with
  | nil => simp [badU]
  | cons y q ih =>
    simp only [List.cons_append, badU]
    split
    · exact ih
    · rfl
abbrev arrK (b : Bool) : Int := if b then 2 else 1
theorem wrong_none {p : PX} {task : Int} {nm : ByteArray} {arr : Bool} (h : firstOf (p.vars.map VX.name) nm = -1) : p.wrongI task ⟨nm, arrK arr⟩ = 3 := by
  cases arr <;> simp [PX.wrongI, PX.placeI, arrK, h]
theorem wrong_kind {p : PX} {task : Int} {nm : ByteArray} {arr : Bool} {i : Nat} (h : firstOf (p.vars.map VX.name) nm = i) (hk : ¬ p.arrB i = arr) : p.wrongI task ⟨nm, arrK arr⟩ = 3 := by
  cases arr <;> cases ha : p.arrB i <;> simp_all [PX.wrongI, PX.placeI, arrK]
theorem wrong_may {p : PX} {task : Int} {nm : ByteArray} {arr : Bool} {i : Nat} (h : firstOf (p.vars.map VX.name) nm = i) (hk : p.arrB i = arr) : p.wrongI task ⟨nm, arrK arr⟩ = if p.mayB task i then 0 else 4 := by
  have hn : ¬ ((i : Int) < 0) := by omega
  cases arr <;> cases hm : p.mayB task i <;> simp_all [PX.wrongI, PX.placeI, arrK]
set_option maxRecDepth 10000 in
set_option maxHeartbeats 1000000 in
theorem l4UseT (p : PX) (task : Int) (nm : ByteArray) (arr : Bool) (ok : Nat → Prop) (w : World) (hok : ∀ b, ok b → b < w.heap.size) (hR : VX.Row ok w p.vbase p.vars) (hm : p.vars.length ≤ 1048577) :
    Calls Tryz.prog 120 #[p.val, .int .i64 task, .string nm, .bool arr] w fun e w' => e = .returned (.int .i64 (p.wrongI task ⟨nm, arrK arr⟩)) ∧ Below w.heap.size w w' := by
  obtain ⟨vb, vc, vars, cb, cc, chans, nb, nc, locks, tb, tc, tasks⟩ := p
  unfold PX.val
  dsimp only at hR hm ⊢
  obtain ⟨pq, hpq⟩ : ∃ pq : PX, pq = ⟨vb, vc, vars, cb, cc, chans, nb, nc, locks, tb, tc, tasks⟩ := ⟨_, rfl⟩
  obtain ⟨W1, hW1⟩ : ∃ W1, w.alloc (.cells #[.slice vb vars.length vc, .slice cb chans.length cc, .slice nb locks.length nc, .slice tb tasks.length tc] 35) = W1 := ⟨_, rfl⟩
  have hs1 : w.heap.size + 1 = W1.heap.size := by rw [← hW1]; simp
  have hB1 : Below w.heap.size w W1 := by rw [← hW1]; exact (Below.refl _ w).alloc (Nat.le_refl _) _
  have pa : W1.heap[w.heap.size]? = some (.cells #[.slice vb vars.length vc, .slice cb chans.length cc, .slice nb locks.length nc, .slice tb tasks.length tc] 35) := by rw [← hW1]; exact Array.getElem?_push_size
  have hcells : ∀ A : World, A.heap[w.heap.size]? = W1.heap[w.heap.size]? → A.cell? ⟨w.heap.size, 0, none⟩ = some (.slice vb vars.length vc) ∧ A.cell? ⟨w.heap.size, 1, none⟩ = some (.slice cb chans.length cc) ∧ A.cell? ⟨w.heap.size, 2, none⟩ = some (.slice nb locks.length nc) ∧ A.cell? ⟨w.heap.size, 3, none⟩ = some (.slice tb tasks.length tc) := by
    intro A h1
    rw [pa] at h1
    refine ⟨?_, ?_, ?_, ?_⟩ <;> simp [World.cell?, h1]
  have hR1 := hR.under hB1 hok
  have hV := PX.specVar pq nm ok W1 (fun b hb => by have := hok b hb; omega) (by rw [hpq]; exact hR1) (by rw [hpq]; exact hm)
  have hM : ∀ (A : World) (i : Nat), Below W1.heap.size W1 A → Calls Tryz.prog 160 #[pq.val, .int .i64 task, .int .i64 i] A fun e w' => e = .returned (.bool (pq.mayB task i)) ∧ Below A.heap.size A w' := by
    intro A i hA
    have hzA := hA.size
    exact PX.specMay pq task i ok A (fun b hb => by have := hok b hb; omega) (by rw [hpq]; exact hm) (by rw [hpq]; exact hR1.under hA (fun b hb => by have := hok b hb; omega))
  rw [← hpq]
  have hvl : pq.vars = vars := by rw [hpq]
  have hpv : pq.val = .agg #[.slice vb vars.length vc, .slice cb chans.length cc, .slice nb locks.length nc, .slice tb tasks.length tc] := by rw [hpq]
  obtain ⟨c0, c1, c2, c3⟩ := hcells W1 rfl
  rw [hpv] at hV
  rcases firstOf_cases (pq.vars.map VX.name) nm with hf | ⟨i, hf, hi⟩
  · rw [wrong_none hf]
    rw [hf] at hV
    clear hpq hvl hpv hM
    go_enter Tryz.func120, Tryz.ntmps120
    go_wp2_with fail
    go_at_call 159
    refine hV.mono ?_
    rintro e w2 ⟨rfl, hB2⟩
    clear c0 c1 c2 c3
    obtain ⟨c0, c1, c2, c3⟩ := hcells w2 (hB2.block _ (by omega))
    go_wp2_with fail
    go_returns
    exact ⟨rfl, hB1.trans (hB2.mono hB1.size)⟩
  · rw [hf] at hV
    have hi' := hi
    rw [List.length_map, hvl] at hi'
    obtain ⟨x, hx⟩ : ∃ x, vars[i]? = some x := ⟨_, List.getElem?_eq_getElem hi'⟩
    obtain ⟨b, o, hbase, hob, hc⟩ := hR1 i x hx
    have hxa : pq.arrB (i : Int) = decide (0 < x.size) := by unfold PX.arrB; rw [hvl]; simp [hx]
    have hM' := fun A hA => hM A i hA
    rw [hpv] at hM'
    by_cases hk : pq.arrB i = arr
    · rw [wrong_may hf hk]
      obtain ⟨mb, hmb⟩ : ∃ mb, pq.mayB task i = mb := ⟨_, rfl⟩
      rw [hmb] at hM' ⊢
      rw [hxa] at hk
      clear hM hpv hpq hvl hxa hmb hi hf hx
      subst hbase
      have hob' := hok b hob
      cases mb <;> cases arr
      all_goals
        have hk' := hk
        simp only [decide_eq_true_eq, decide_eq_false_iff_not] at hk'
        go_enter Tryz.func120, Tryz.ntmps120
        go_wp2_with fail
        go_at_call 159
        refine hV.mono ?_
        rintro e w2 ⟨rfl, hB2⟩
        have hz2 := hB2.size
        clear c0 c1 c2 c3
        obtain ⟨c0, c1, c2, c3⟩ := hcells w2 (hB2.block _ (by omega))
        obtain ⟨q0, q1, q2, q3, q4, q5, q6⟩ := hc.below hB2 (by omega)
        go_wp2_with fail
        all_goals first | (exfalso; omega) | skip
        go_at_call 160
        refine (hM' w2 hB2).mono ?_
        rintro e w3 ⟨rfl, hB3⟩
        go_wp2
        go_returns
        exact ⟨rfl, (hB1.trans (hB2.mono hB1.size)).trans (hB3.mono (by omega))⟩
    · rw [wrong_kind hf hk]
      rw [hxa] at hk
      clear hM hM' hpv hpq hvl hxa hi hf hx
      subst hbase
      have hob' := hok b hob
      cases arr
      all_goals
        have hk' := hk
        simp only [decide_eq_true_eq, decide_eq_false_iff_not, Decidable.not_not] at hk'
        go_enter Tryz.func120, Tryz.ntmps120
        go_wp2_with fail
        go_at_call 159
        refine hV.mono ?_
        rintro e w2 ⟨rfl, hB2⟩
        have hz2 := hB2.size
        clear c0 c1 c2 c3
        obtain ⟨c0, c1, c2, c3⟩ := hcells w2 (hB2.block _ (by omega))
        obtain ⟨q0, q1, q2, q3, q4, q5, q6⟩ := hc.below hB2 (by omega)
        go_wp2_with fail
        all_goals first | (exfalso; omega) | skip
        go_returns
        exact ⟨rfl, hB1.trans (hB2.mono hB1.size)⟩
end Go.Proofs.YtaajdoipjalgmaaGreatDoor
namespace Go.Proofs.YtaajdoipjalgmaaGreatDoor
open Go.RowKit Go.Shelf Go.Maps
set_option linter.unusedSimpArgs false
set_option linter.unusedVariables false
attribute [local go_sem] Oper.semAt_some

theorem parts_snd (sz : Nat) : ∀ (t : XT), t.size ≤ sz → ∀ d d' : Int, (t.parts d).map Prod.snd = (t.parts d').map Prod.snd := by
  induction sz with
  | zero => intro t h; rw [XT.size_eq] at h; omega
  | succ sz ih =>
    intro t hsz d d'
    have hk : ∀ (ks : List XT) (d d' : Int), (∀ k ∈ ks, k.size ≤ sz) → (XT.partsAll ks d).map Prod.snd = (XT.partsAll ks d').map Prod.snd := by
      intro ks
      induction ks with
      | nil => intro d d' _; simp [XT.partsAll]
      | cons k r ihk =>
        intro d d' h
        rw [XT.partsAll, XT.partsAll, List.map_append, List.map_append, ih k (h k (by simp)) d d', ihk d d' (fun y hy => h y (by simp [hy]))]
    rw [XT.parts_eq, XT.parts_eq, List.map_cons, List.map_cons, hk t.kids _ (wrap64 (d' + 1)) (fun k hkm => by
      obtain ⟨i, hi⟩ := List.getElem?_of_mem hkm
      have h1 := XT.size_get hi
      have h2 := t.size_eq
      omega)]
theorem usesE_at (t : XT) (d : Int) : usesE t = (t.parts d).map (fun x => useE x.2) := by
  have h := congrArg (List.map useE) (parts_snd _ t (Nat.le_refl _) 1 d)
  rw [List.map_map, List.map_map] at h
  exact h
theorem partsAll_uses (ks : List XT) (d : Int) : (XT.partsAll ks d).map (fun x => useE x.2) = ks.flatMap usesE := by
  induction ks with
  | nil => simp [XT.partsAll]
  | cons k r ih => rw [XT.partsAll, List.map_append, ih, ← usesE_at, List.flatMap_cons]
theorem usesE_eq (t : XT) : usesE t = useE t :: t.kids.flatMap usesE := by
  unfold usesE
  rw [XT.parts_eq, List.map_cons, partsAll_uses]
  rfl
theorem usesKids_take {ks : List XT} {i : Nat} {k : XT} (h : ks[i]? = some k) : (ks.take (i + 1)).flatMap usesE = (ks.take i).flatMap usesE ++ usesE k := by
  rw [List.take_add_one, h]
  simp
theorem badU_pre {p : PX} {task : Int} {a b : List UX} (h : ¬ badU p task a = 0) : badU p task (a ++ b) = badU p task a := by rw [badU_append, if_neg h]
set_option maxRecDepth 10000 in
set_option maxHeartbeats 1000000 in
theorem l4ExprT (p : PX) (task : Int) (hm : p.vars.length ≤ 1048577) (sz : Nat) : ∀ (t : XT), t.size ≤ sz → sz ≤ 1048577 → Good t → ∀ (ok : Nat → Prop) (w : World), (∀ b, ok b → b < w.heap.size) → VX.Row ok w p.vbase p.vars → Lies ok w t →
    Calls Tryz.prog 94 #[p.val, .int .i64 task, t.val] w fun e w' => e = .returned (.int .i64 (badU p task (usesE t))) ∧ Below w.heap.size w w' := by
  induction sz with
  | zero => intro t h; rw [XT.size_eq] at h; omega
  | succ sz ih =>
  intro t hsz hlim hG ok w hok hR hLt
  obtain ⟨tk, tn, ts, ta, tcap, tks⟩ := t
  have hsize := (XT.mk tk tn ts ta tcap tks).size_eq
  dsimp only [XT.kids] at hsize
  unfold XT.val
  dsimp only [XT.kind, XT.num, XT.name, XT.base, XT.cap, XT.kids]
  obtain ⟨W1, hW1⟩ : ∃ W1, w.alloc (.cells #[.slice p.vbase p.vars.length p.vcap, .slice p.cbase p.chans.length p.ccap, .slice p.nbase p.locks.length p.ncap, .slice p.tbase p.tasks.length p.tcap] 35) = W1 := ⟨_, rfl⟩
  obtain ⟨W2, hW2⟩ : ∃ W2, W1.alloc (.cells #[.int .i64 tk, .int .i64 tn, .string ts, .slice ta tks.length tcap] 123) = W2 := ⟨_, rfl⟩
  have hs1 : w.heap.size + 1 = W1.heap.size := by rw [← hW1]; simp
  have hs2 : W1.heap.size + 1 = W2.heap.size := by rw [← hW2]; simp
  have hB2 : Below w.heap.size w W2 := by rw [← hW2, ← hW1]; exact ((Below.refl _ w).alloc (Nat.le_refl _) _).alloc (by simp) _
  have pa : W2.heap[w.heap.size]? = some (.cells #[.slice p.vbase p.vars.length p.vcap, .slice p.cbase p.chans.length p.ccap, .slice p.nbase p.locks.length p.ncap, .slice p.tbase p.tasks.length p.tcap] 35) := by
    rw [← hW2]
    refine (Below.heap_alloc _ _ _ (by omega)).trans ?_
    rw [← hW1]
    exact Array.getElem?_push_size
  have pb : W2.heap[W1.heap.size]? = some (.cells #[.int .i64 tk, .int .i64 tn, .string ts, .slice ta tks.length tcap] 123) := by rw [← hW2]; exact Array.getElem?_push_size
  have hcells : ∀ A : World, A.heap[w.heap.size]? = W2.heap[w.heap.size]? → A.heap[W1.heap.size]? = W2.heap[W1.heap.size]? → A.cell? ⟨w.heap.size, 0, none⟩ = some (.slice p.vbase p.vars.length p.vcap) ∧ A.cell? ⟨w.heap.size, 1, none⟩ = some (.slice p.cbase p.chans.length p.ccap) ∧ A.cell? ⟨w.heap.size, 2, none⟩ = some (.slice p.nbase p.locks.length p.ncap) ∧ A.cell? ⟨w.heap.size, 3, none⟩ = some (.slice p.tbase p.tasks.length p.tcap) ∧
      A.cell? ⟨W1.heap.size, 0, none⟩ = some (.int .i64 tk) ∧ A.cell? ⟨W1.heap.size, 1, none⟩ = some (.int .i64 tn) ∧ A.cell? ⟨W1.heap.size, 2, none⟩ = some (.string ts) ∧ A.cell? ⟨W1.heap.size, 3, none⟩ = some (.slice ta tks.length tcap) := by
    intro A h1 h2
    rw [pa] at h1
    rw [pb] at h2
    refine ⟨?_, ?_, ?_, ?_, ?_, ?_, ?_, ?_⟩ <;> first | (simp [World.cell?, h1]; done) | (simp [World.cell?, h2]; done)
  have hR2 := hR.under hB2 hok
  have hL2 := hLt.under hB2 hok
  have hok2 : ∀ b, ok b → b < W2.heap.size := fun b hb => by have := hok b hb; omega
  have hlen : tks.length ≤ 1048577 := by have := (XT.mk tk tn ts ta tcap tks).length_le; dsimp only [XT.kids] at this; omega
  have hkid : ∀ (A : World) (i : Nat) (k : XT), Below W2.heap.size W2 A → tks[i]? = some k → Calls Tryz.prog 94 #[p.val, .int .i64 task, k.val] A fun e w' => e = .returned (.int .i64 (badU p task (usesE k))) ∧ Below A.heap.size A w' := by
    intro A i k hA hk
    have hzA := hA.size
    have h1 := XT.size_get hk
    exact ih k (by omega) (by omega) (hG.kid i k hk) ok A (fun b hb => by have := hok2 b hb; omega) (hR2.under hA hok2) ((hL2.kid i k hk).under hA hok2)
  have hu : ∀ nmk : Bool, Calls Tryz.prog 120 #[p.val, .int .i64 task, .string ts, .bool nmk] W2 fun e w' => e = .returned (.int .i64 (p.wrongI task ⟨ts, arrK nmk⟩)) ∧ Below W2.heap.size W2 w' := fun nmk => l4UseT p task ts nmk ok W2 hok2 hR2 hm
  clear ih hLt hR hG hsz hsize pa pb
  obtain ⟨c0, c1, c2, c3, d0, d1, d2, d3⟩ := hcells W2 rfl rfl
  by_cases hk23 : tk = 2 ∨ tk = 3
  · rcases hk23 with rfl | rfl
    · have hue : useE (.mk 2 tn ts ta tcap tks) = ⟨ts, arrK false⟩ := by simp [useE, useKE, XT.kind, XT.name, arrK]
      have hu' := hu false
      obtain ⟨cu, hcu⟩ : ∃ cu, p.wrongI task ⟨ts, arrK false⟩ = cu := ⟨_, rfl⟩
      rw [hcu] at hu'
      by_cases hc0 : cu = 0
      · subst hc0
        have hz : badU p task [useE (.mk 2 tn ts ta tcap tks)] = 0 := by rw [hue]; simp [badU, hcu]
        clear hu hcu hue
        go_enter Tryz.func94, Tryz.ntmps94
        go_wp2_with fail
        go_at_call 120
        refine hu'.mono ?_
        rintro e wX ⟨rfl, hBX⟩
        have hzX := hBX.size
        clear c0 c1 c2 c3 d0 d1 d2 d3
        obtain ⟨c0, c1, c2, c3, d0, d1, d2, d3⟩ := hcells wX (hBX.block _ (by omega)) (hBX.block _ (by omega))
        go_wp2_with fail
        all_goals first | (exfalso; simp_all; done) | skip
        go_loopw [8] (fun v8 wr => ∃ (i : Nat), v8 = .int .i64 i ∧ i ≤ tks.length ∧ Below W2.heap.size W2 wr ∧ badU p task (useE (.mk 2 tn ts ta tcap tks) :: (tks.take i).flatMap usesE) = 0) (fun v8 _ => tks.length - (intOf v8).toNat)
        case atStart => exact ⟨0, rfl, by omega, hBX, by simpa [badU] using hz⟩
        case round =>
          obtain ⟨i, rfl, hi, hB, hz'⟩ := hrel
          have hzr := hB.size
          obtain ⟨x0, x1, x2, x3, y0, y1, y2, y3⟩ := hcells wr (hB.block _ (by omega)) (hB.block _ (by omega))
          by_cases hlt : i < tks.length
          · obtain ⟨k, hk⟩ : ∃ k, tks[i]? = some k := ⟨_, List.getElem?_eq_getElem hlt⟩
            obtain ⟨b, o, hbase, hob, hcc⟩ := hL2.cells i k hk
            obtain ⟨q0, q1, q2, q3⟩ := hcc.below hB (hok2 b hob)
            have hba : ta = some ⟨b, o, none⟩ := hbase
            have hcallz : ∀ z : Later wr, Calls Tryz.prog 94 #[p.val, .int .i64 task, k.val] z.at fun e w' => e = .returned (.int .i64 (badU p task (usesE k))) ∧ Below z.at.heap.size z.at w' := fun z => hkid z.at i k (hB.trans ((Later.below z).mono hB.size)) hk
            have hnext : badU p task (usesE k) = 0 → badU p task (useE (.mk 2 tn ts ta tcap tks) :: (tks.take (i + 1)).flatMap usesE) = 0 := by
              intro h
              rw [usesKids_take hk, ← List.cons_append, badU_append, if_pos hz']
              exact h
            have hlast : ¬ badU p task (usesE k) = 0 → badU p task (usesE (.mk 2 tn ts ta tcap tks)) = badU p task (usesE k) := by
              intro h
              have h1 : tks.flatMap usesE = ((tks.take i).flatMap usesE ++ usesE k) ++ (tks.drop (i + 1)).flatMap usesE := by
                rw [← usesKids_take hk, ← List.flatMap_append, List.take_append_drop]
              rw [usesE_eq]
              dsimp only [XT.kids]
              rw [h1, ← List.cons_append, ← List.cons_append, badU_append, badU_append, if_pos hz', if_neg h]
            obtain ⟨c, hc⟩ : ∃ c, badU p task (usesE k) = c := ⟨_, rfl⟩
            rw [hc] at hcallz hnext hlast
            have e0 := Later.cell x0
            have e1 := Later.cell x1
            have e2 := Later.cell x2
            have e3 := Later.cell x3
            have e4 := Later.cell y3
            have e5 := Later.cell q0
            have e6 := Later.cell q1
            have e7 := Later.cell q2
            have e8 := Later.cell q3
            rw [hba] at e4 y3 hnext hlast hz' ⊢
            clear hba hbase hk hc hkid
            haveI : Nonempty (Later wr) := ⟨⟨wr, Below.refl _ _⟩⟩
            go_wp2_with fail
            refine region_class (fun w' => ∃ z : Later wr, w' = z.at) (by kernel_rfl) (by kernel_rfl) ⟨⟨_, (Below.refl _ _).drew⟩, rfl⟩ ?_
            repeat (go_big_quiet_step (first | (go_at_call 94; refine (hcallz _).mono ?_; rintro e w2 ⟨rfl, hb⟩; exact ⟨rfl, ⟨_, bstep (Subtype.property _) hb⟩, rfl⟩)))
            refine wpQuiet_nil ?_
            rintro w' ⟨z, rfl⟩
            have hBz := hB.trans ((Later.below z).mono hB.size)
            by_cases hc0 : c = 0
            · subst hc0
              have hn' := hnext rfl
              go_wp2_with fail
              all_goals first | (exfalso; omega) | skip
              refine ⟨⟨i + 1, by go_num, by omega, hBz, hn'⟩, by simp [intOf]; omega⟩
            · have hl' := hlast hc0
              go_wp2_with fail
              all_goals first | (exfalso; omega) | skip
              go_returns
              exact ⟨ret_int hl'.symm, hB2.trans (hBz.mono hB2.size)⟩
          · have hend : badU p task (usesE (.mk 2 tn ts ta tcap tks)) = 0 := by
              rw [usesE_eq]
              dsimp only [XT.kids]
              rw [List.take_of_length_le (by omega)] at hz'
              exact hz'
            go_wp2_with fail
            all_goals first | (exfalso; omega) | skip
            go_returns
            exact ⟨ret_int hend.symm, hB2.trans (hB.mono hB2.size)⟩
        
      · have hbad : badU p task (usesE (.mk 2 tn ts ta tcap tks)) = cu := by
          rw [usesE_eq, hue]
          simp only [badU, hcu]
          rw [if_neg hc0]
        clear hu hcu hue
        go_enter Tryz.func94, Tryz.ntmps94
        go_wp2_with fail
        go_at_call 120
        refine hu'.mono ?_
        rintro e wX ⟨rfl, hBX⟩
        have hzX := hBX.size
        clear c0 c1 c2 c3 d0 d1 d2 d3
        obtain ⟨c0, c1, c2, c3, d0, d1, d2, d3⟩ := hcells wX (hBX.block _ (by omega)) (hBX.block _ (by omega))
        go_wp2_with fail
        all_goals first | (exfalso; omega) | skip
        go_returns
        exact ⟨ret_int hbad.symm, hB2.trans (hBX.mono hB2.size)⟩
    · have hue : useE (.mk 3 tn ts ta tcap tks) = ⟨ts, arrK true⟩ := by simp [useE, useKE, XT.kind, XT.name, arrK]
      have hu' := hu true
      obtain ⟨cu, hcu⟩ : ∃ cu, p.wrongI task ⟨ts, arrK true⟩ = cu := ⟨_, rfl⟩
      rw [hcu] at hu'
      by_cases hc0 : cu = 0
      · subst hc0
        have hz : badU p task [useE (.mk 3 tn ts ta tcap tks)] = 0 := by rw [hue]; simp [badU, hcu]
        clear hu hcu hue
        go_enter Tryz.func94, Tryz.ntmps94
        go_wp2_with fail
        go_at_call 120
        refine hu'.mono ?_
        rintro e wX ⟨rfl, hBX⟩
        have hzX := hBX.size
        clear c0 c1 c2 c3 d0 d1 d2 d3
        obtain ⟨c0, c1, c2, c3, d0, d1, d2, d3⟩ := hcells wX (hBX.block _ (by omega)) (hBX.block _ (by omega))
        go_wp2_with fail
        all_goals first | (exfalso; simp_all; done) | skip
        go_loopw [8] (fun v8 wr => ∃ (i : Nat), v8 = .int .i64 i ∧ i ≤ tks.length ∧ Below W2.heap.size W2 wr ∧ badU p task (useE (.mk 3 tn ts ta tcap tks) :: (tks.take i).flatMap usesE) = 0) (fun v8 _ => tks.length - (intOf v8).toNat)
        case atStart => exact ⟨0, rfl, by omega, hBX, by simpa [badU] using hz⟩
        case round =>
          obtain ⟨i, rfl, hi, hB, hz'⟩ := hrel
          have hzr := hB.size
          obtain ⟨x0, x1, x2, x3, y0, y1, y2, y3⟩ := hcells wr (hB.block _ (by omega)) (hB.block _ (by omega))
          by_cases hlt : i < tks.length
          · obtain ⟨k, hk⟩ : ∃ k, tks[i]? = some k := ⟨_, List.getElem?_eq_getElem hlt⟩
            obtain ⟨b, o, hbase, hob, hcc⟩ := hL2.cells i k hk
            obtain ⟨q0, q1, q2, q3⟩ := hcc.below hB (hok2 b hob)
            have hba : ta = some ⟨b, o, none⟩ := hbase
            have hcallz : ∀ z : Later wr, Calls Tryz.prog 94 #[p.val, .int .i64 task, k.val] z.at fun e w' => e = .returned (.int .i64 (badU p task (usesE k))) ∧ Below z.at.heap.size z.at w' := fun z => hkid z.at i k (hB.trans ((Later.below z).mono hB.size)) hk
            have hnext : badU p task (usesE k) = 0 → badU p task (useE (.mk 3 tn ts ta tcap tks) :: (tks.take (i + 1)).flatMap usesE) = 0 := by
              intro h
              rw [usesKids_take hk, ← List.cons_append, badU_append, if_pos hz']
              exact h
            have hlast : ¬ badU p task (usesE k) = 0 → badU p task (usesE (.mk 3 tn ts ta tcap tks)) = badU p task (usesE k) := by
              intro h
              have h1 : tks.flatMap usesE = ((tks.take i).flatMap usesE ++ usesE k) ++ (tks.drop (i + 1)).flatMap usesE := by
                rw [← usesKids_take hk, ← List.flatMap_append, List.take_append_drop]
              rw [usesE_eq]
              dsimp only [XT.kids]
              rw [h1, ← List.cons_append, ← List.cons_append, badU_append, badU_append, if_pos hz', if_neg h]
            obtain ⟨c, hc⟩ : ∃ c, badU p task (usesE k) = c := ⟨_, rfl⟩
            rw [hc] at hcallz hnext hlast
            have e0 := Later.cell x0
            have e1 := Later.cell x1
            have e2 := Later.cell x2
            have e3 := Later.cell x3
            have e4 := Later.cell y3
            have e5 := Later.cell q0
            have e6 := Later.cell q1
            have e7 := Later.cell q2
            have e8 := Later.cell q3
            rw [hba] at e4 y3 hnext hlast hz' ⊢
            clear hba hbase hk hc hkid
            haveI : Nonempty (Later wr) := ⟨⟨wr, Below.refl _ _⟩⟩
            go_wp2_with fail
            refine region_class (fun w' => ∃ z : Later wr, w' = z.at) (by kernel_rfl) (by kernel_rfl) ⟨⟨_, (Below.refl _ _).drew⟩, rfl⟩ ?_
            repeat (go_big_quiet_step (first | (go_at_call 94; refine (hcallz _).mono ?_; rintro e w2 ⟨rfl, hb⟩; exact ⟨rfl, ⟨_, bstep (Subtype.property _) hb⟩, rfl⟩)))
            refine wpQuiet_nil ?_
            rintro w' ⟨z, rfl⟩
            have hBz := hB.trans ((Later.below z).mono hB.size)
            by_cases hc0 : c = 0
            · subst hc0
              have hn' := hnext rfl
              go_wp2_with fail
              all_goals first | (exfalso; omega) | skip
              refine ⟨⟨i + 1, by go_num, by omega, hBz, hn'⟩, by simp [intOf]; omega⟩
            · have hl' := hlast hc0
              go_wp2_with fail
              all_goals first | (exfalso; omega) | skip
              go_returns
              exact ⟨ret_int hl'.symm, hB2.trans (hBz.mono hB2.size)⟩
          · have hend : badU p task (usesE (.mk 3 tn ts ta tcap tks)) = 0 := by
              rw [usesE_eq]
              dsimp only [XT.kids]
              rw [List.take_of_length_le (by omega)] at hz'
              exact hz'
            go_wp2_with fail
            all_goals first | (exfalso; omega) | skip
            go_returns
            exact ⟨ret_int hend.symm, hB2.trans (hB.mono hB2.size)⟩
        
      · have hbad : badU p task (usesE (.mk 3 tn ts ta tcap tks)) = cu := by
          rw [usesE_eq, hue]
          simp only [badU, hcu]
          rw [if_neg hc0]
        clear hu hcu hue
        go_enter Tryz.func94, Tryz.ntmps94
        go_wp2_with fail
        go_at_call 120
        refine hu'.mono ?_
        rintro e wX ⟨rfl, hBX⟩
        have hzX := hBX.size
        clear c0 c1 c2 c3 d0 d1 d2 d3
        obtain ⟨c0, c1, c2, c3, d0, d1, d2, d3⟩ := hcells wX (hBX.block _ (by omega)) (hBX.block _ (by omega))
        go_wp2_with fail
        all_goals first | (exfalso; omega) | skip
        go_returns
        exact ⟨ret_int hbad.symm, hB2.trans (hBX.mono hB2.size)⟩
  · have h2 : ¬ tk = 2 := fun h => hk23 (.inl h)
    have h3 : ¬ tk = 3 := fun h => hk23 (.inr h)
    have hz : badU p task [useE (.mk tk tn ts ta tcap tks)] = 0 := by
      have hu0 : useKE tk = 0 := by unfold useKE; rw [if_neg h2, if_neg h3]
      simp [badU, PX.wrongI, useE, XT.kind, hu0]
    go_enter Tryz.func94, Tryz.ntmps94
    go_wp2_with fail
    all_goals first | (exfalso; simp_all; done) | skip
    go_loopw [8] (fun v8 wr => ∃ (i : Nat), v8 = .int .i64 i ∧ i ≤ tks.length ∧ Below W2.heap.size W2 wr ∧ badU p task (useE (.mk tk tn ts ta tcap tks) :: (tks.take i).flatMap usesE) = 0) (fun v8 _ => tks.length - (intOf v8).toNat)
    case atStart => exact ⟨0, rfl, by omega, Below.refl _ _, by simpa [badU] using hz⟩
    case round =>
      obtain ⟨i, rfl, hi, hB, hz'⟩ := hrel
      have hzr := hB.size
      obtain ⟨x0, x1, x2, x3, y0, y1, y2, y3⟩ := hcells wr (hB.block _ (by omega)) (hB.block _ (by omega))
      by_cases hlt : i < tks.length
      · obtain ⟨k, hk⟩ : ∃ k, tks[i]? = some k := ⟨_, List.getElem?_eq_getElem hlt⟩
        obtain ⟨b, o, hbase, hob, hcc⟩ := hL2.cells i k hk
        obtain ⟨q0, q1, q2, q3⟩ := hcc.below hB (hok2 b hob)
        have hba : ta = some ⟨b, o, none⟩ := hbase
        have hcallz : ∀ z : Later wr, Calls Tryz.prog 94 #[p.val, .int .i64 task, k.val] z.at fun e w' => e = .returned (.int .i64 (badU p task (usesE k))) ∧ Below z.at.heap.size z.at w' := fun z => hkid z.at i k (hB.trans ((Later.below z).mono hB.size)) hk
        have hnext : badU p task (usesE k) = 0 → badU p task (useE (.mk tk tn ts ta tcap tks) :: (tks.take (i + 1)).flatMap usesE) = 0 := by
          intro h
          rw [usesKids_take hk, ← List.cons_append, badU_append, if_pos hz']
          exact h
        have hlast : ¬ badU p task (usesE k) = 0 → badU p task (usesE (.mk tk tn ts ta tcap tks)) = badU p task (usesE k) := by
          intro h
          have h1 : tks.flatMap usesE = ((tks.take i).flatMap usesE ++ usesE k) ++ (tks.drop (i + 1)).flatMap usesE := by
            rw [← usesKids_take hk, ← List.flatMap_append, List.take_append_drop]
          rw [usesE_eq]
          dsimp only [XT.kids]
          rw [h1, ← List.cons_append, ← List.cons_append, badU_append, badU_append, if_pos hz', if_neg h]
        obtain ⟨c, hc⟩ : ∃ c, badU p task (usesE k) = c := ⟨_, rfl⟩
        rw [hc] at hcallz hnext hlast
        have e0 := Later.cell x0
        have e1 := Later.cell x1
        have e2 := Later.cell x2
        have e3 := Later.cell x3
        have e4 := Later.cell y3
        have e5 := Later.cell q0
        have e6 := Later.cell q1
        have e7 := Later.cell q2
        have e8 := Later.cell q3
        rw [hba] at e4 y3 hnext hlast hz' ⊢
        clear hba hbase hk hc hkid
        haveI : Nonempty (Later wr) := ⟨⟨wr, Below.refl _ _⟩⟩
        go_wp2_with fail
        refine region_class (fun w' => ∃ z : Later wr, w' = z.at) (by kernel_rfl) (by kernel_rfl) ⟨⟨_, (Below.refl _ _).drew⟩, rfl⟩ ?_
        repeat (go_big_quiet_step (first | (go_at_call 94; refine (hcallz _).mono ?_; rintro e w2 ⟨rfl, hb⟩; exact ⟨rfl, ⟨_, bstep (Subtype.property _) hb⟩, rfl⟩)))
        refine wpQuiet_nil ?_
        rintro w' ⟨z, rfl⟩
        have hBz := hB.trans ((Later.below z).mono hB.size)
        by_cases hc0 : c = 0
        · subst hc0
          have hn' := hnext rfl
          go_wp2_with fail
          all_goals first | (exfalso; omega) | skip
          refine ⟨⟨i + 1, by go_num, by omega, hBz, hn'⟩, by simp [intOf]; omega⟩
        · have hl' := hlast hc0
          go_wp2_with fail
          all_goals first | (exfalso; omega) | skip
          go_returns
          exact ⟨ret_int hl'.symm, hB2.trans (hBz.mono hB2.size)⟩
      · have hend : badU p task (usesE (.mk tk tn ts ta tcap tks)) = 0 := by
          rw [usesE_eq]
          dsimp only [XT.kids]
          rw [List.take_of_length_le (by omega)] at hz'
          exact hz'
        go_wp2_with fail
        all_goals first | (exfalso; omega) | skip
        go_returns
        exact ⟨ret_int hend.symm, hB2.trans (hB.mono hB2.size)⟩
    
end Go.Proofs.YtaajdoipjalgmaaGreatDoor
namespace Go.Proofs.YtaajdoipjalgmaaGreatDoor
open Go.RowKit Go.Shelf Go.Maps
set_option linter.unusedSimpArgs false
set_option linter.unusedVariables false
attribute [local go_sem] Oper.semAt_some

theorem wrong_lock {p : PX} {task : Int} {nm : ByteArray} : p.wrongI task ⟨nm, 4⟩ = if firstOf p.locks nm < 0 then 3 else 0 := by simp [PX.wrongI, PX.placeI]
theorem wrong_chan {p : PX} {task : Int} {nm : ByteArray} : p.wrongI task ⟨nm, 3⟩ = if firstOf (p.chans.map CX.name) nm < 0 then 3 else 0 := by simp [PX.wrongI, PX.placeI]
theorem wrong_not {p : PX} {task : Int} {nm : ByteArray} : p.wrongI task ⟨nm, 0⟩ = 0 := by simp [PX.wrongI]
def useSK (k : Int) (n : ByteArray) : UX := ⟨if useK k = 0 then ⟨#[]⟩ else n, useK k⟩
set_option maxRecDepth 10000 in
set_option maxHeartbeats 1000000 in
theorem l4Head0 (p : PX) (task : Int) (k : Int) (n : ByteArray) (ek en : Int) (es : ByteArray) (eb : Option Addr) (el ec : Nat) (fk fn : Int) (fs : ByteArray) (fb : Option Addr) (fl fc : Nat) (ab : Option Addr) (al ac : Nat) (bb : Option Addr) (bl bc : Nat) (w : World)
    (hU : ∀ (A : World) (nmk : Bool), Below w.heap.size w A → Calls Tryz.prog 120 #[p.val, .int .i64 task, .string n, .bool nmk] A fun e w' => e = .returned (.int .i64 (p.wrongI task ⟨n, arrK nmk⟩)) ∧ Below A.heap.size A w')
    (hLk : ∀ (A : World), Below w.heap.size w A → Calls Tryz.prog 65 #[p.val, .string n] A fun e w' => e = .returned (.int .i64 (firstOf p.locks n)) ∧ Below A.heap.size A w')
    (hCh : ∀ (A : World), Below w.heap.size w A → Calls Tryz.prog 121 #[p.val, .string n] A fun e w' => e = .returned (.int .i64 (firstOf (p.chans.map CX.name) n)) ∧ Below A.heap.size A w') :
    Calls Tryz.prog 93 #[p.val, .int .i64 task, .agg #[.int .i64 k, .string n, .int .i64 ek, .int .i64 en, .string es, .slice eb el ec, .int .i64 fk, .int .i64 fn, .string fs, .slice fb fl fc, .slice ab al ac, .slice bb bl bc]] w fun e w' => e = .returned (.int .i64 (p.wrongI task (useSK k n))) ∧ Below w.heap.size w w' := by
  obtain ⟨W1, hW1⟩ : ∃ W1, w.alloc (.cells #[.slice p.vbase p.vars.length p.vcap, .slice p.cbase p.chans.length p.ccap, .slice p.nbase p.locks.length p.ncap, .slice p.tbase p.tasks.length p.tcap] 35) = W1 := ⟨_, rfl⟩
  have hs1 : w.heap.size + 1 = W1.heap.size := by rw [← hW1]; simp
  have hA1 : PX.At W1 w.heap.size p := by rw [← hW1]; exact PX.At.new w p _
  have hB1 : Below w.heap.size w W1 := by rw [← hW1]; exact (Below.refl _ w).alloc (Nat.le_refl _) _
  obtain ⟨W2, hW2⟩ : ∃ W2, W1.alloc (.cells #[.int .i64 k, .string n, .int .i64 ek, .int .i64 en, .string es, .slice eb el ec, .int .i64 fk, .int .i64 fn, .string fs, .slice fb fl fc, .slice ab al ac, .slice bb bl bc] 125) = W2 := ⟨_, rfl⟩
  have hB12 : Below W1.heap.size W1 W2 := by rw [← hW2]; exact (Below.refl _ _).alloc (Nat.le_refl _) _
  have hB2 : Below w.heap.size w W2 := hB1.trans (hB12.mono hB1.size)
  have hz2 := hB12.size
  obtain ⟨c0, c1, c2, c3⟩ := hA1.below hB12 (by omega)
  have d0 : W2.cell? ⟨W1.heap.size, 0, none⟩ = some (.int .i64 k) := by rw [← hW2]; exact World.cell?_alloc_new W1 _ _ 0
  have d1 : W2.cell? ⟨W1.heap.size, 1, none⟩ = some (.string n) := by rw [← hW2]; exact World.cell?_alloc_new W1 _ _ 1
  have hU2 := hU W2 true hB2
  have hU1 := hU W2 false hB2
  have hL2 := hLk W2 hB2
  have hC2 := hCh W2 hB2
  by_cases h1 : k = 1
  · subst h1
    rw [show useSK 1 n = ⟨n, arrK false⟩ from rfl]
    go_enter Tryz.func93, Tryz.ntmps93
    go_wp2_with fail
    go_at_call 120
    refine hU1.mono ?_
    rintro e w3 ⟨rfl, hB3⟩
    go_wp2
    go_returns
    exact ⟨rfl, hB2.trans (hB3.mono hB2.size)⟩
  by_cases h2 : k = 2
  · subst h2
    rw [show useSK 2 n = ⟨n, arrK true⟩ from rfl]
    go_enter Tryz.func93, Tryz.ntmps93
    go_wp2_with fail
    go_at_call 120
    refine hU2.mono ?_
    rintro e w3 ⟨rfl, hB3⟩
    go_wp2
    go_returns
    exact ⟨rfl, hB2.trans (hB3.mono hB2.size)⟩
  by_cases h56 : k = 5 ∨ k = 6
  · have hk4 : useSK k n = ⟨n, 4⟩ := by rcases h56 with rfl | rfl <;> rfl
    rw [hk4, wrong_lock]
    obtain ⟨fl', hfl⟩ : ∃ fl', firstOf p.locks n = fl' := ⟨_, rfl⟩
    rw [hfl] at hL2 ⊢
    clear hk4
    by_cases hn : fl' < 0
    · rw [if_pos hn]
      rcases h56 with rfl | rfl
      all_goals
        go_enter Tryz.func93, Tryz.ntmps93
        go_wp2_with fail
        go_at_call 65
        refine hL2.mono ?_
        rintro e w3 ⟨rfl, hB3⟩
        go_wp2
        all_goals first | (exfalso; omega) | skip
        go_returns
        exact ⟨rfl, hB2.trans (hB3.mono hB2.size)⟩
    · rw [if_neg hn]
      rcases h56 with rfl | rfl
      all_goals
        go_enter Tryz.func93, Tryz.ntmps93
        go_wp2_with fail
        go_at_call 65
        refine hL2.mono ?_
        rintro e w3 ⟨rfl, hB3⟩
        go_wp2
        all_goals first | (exfalso; omega) | skip
        go_returns
        exact ⟨rfl, hB2.trans (hB3.mono hB2.size)⟩
  by_cases h78 : k = 7 ∨ k = 8
  · have hk4 : useSK k n = ⟨n, 3⟩ := by rcases h78 with rfl | rfl <;> rfl
    rw [hk4, wrong_chan]
    obtain ⟨fl', hfl⟩ : ∃ fl', firstOf (p.chans.map CX.name) n = fl' := ⟨_, rfl⟩
    rw [hfl] at hC2 ⊢
    clear hk4
    by_cases hn : fl' < 0
    · rw [if_pos hn]
      rcases h78 with rfl | rfl
      all_goals
        go_enter Tryz.func93, Tryz.ntmps93
        go_wp2_with fail
        go_at_call 121
        refine hC2.mono ?_
        rintro e w3 ⟨rfl, hB3⟩
        go_wp2
        all_goals first | (exfalso; omega) | skip
        go_returns
        exact ⟨rfl, hB2.trans (hB3.mono hB2.size)⟩
    · rw [if_neg hn]
      rcases h78 with rfl | rfl
      all_goals
        go_enter Tryz.func93, Tryz.ntmps93
        go_wp2_with fail
        go_at_call 121
        refine hC2.mono ?_
        rintro e w3 ⟨rfl, hB3⟩
        go_wp2
        all_goals first | (exfalso; omega) | skip
        go_returns
        exact ⟨rfl, hB2.trans (hB3.mono hB2.size)⟩
  have h5 : ¬ k = 5 := fun h => h56 (.inl h)
  have h6 : ¬ k = 6 := fun h => h56 (.inr h)
  have h7 : ¬ k = 7 := fun h => h78 (.inl h)
  have h8 : ¬ k = 8 := fun h => h78 (.inr h)
  rw [show useSK k n = ⟨⟨#[]⟩, 0⟩ from by unfold useSK useK; simp [h1, h2, h5, h6, h7, h8], wrong_not]
  go_enter Tryz.func93, Tryz.ntmps93
  go_wp2
  go_returns
  exact ⟨rfl, hB2⟩
end Go.Proofs.YtaajdoipjalgmaaGreatDoor
namespace Go.Proofs.YtaajdoipjalgmaaGreatDoor
open Go.RowKit Go.Shelf Go.Maps
set_option linter.unusedSimpArgs false
set_option linter.unusedVariables false
attribute [local go_sem] Oper.semAt_some

set_option maxRecDepth 10000 in
set_option maxHeartbeats 2000000 in
theorem l4NamesT (p : PX) (hmv : p.vars.length ≤ 1048577) (hmc : p.chans.length ≤ 1048577) (hml : p.locks.length ≤ 1048577) (ok : Nat → Prop) (w : World) (hok : ∀ b, ok b → b < w.heap.size) (hL : PX.Lies ok w p) :
    Calls Tryz.prog 91 #[p.val] w fun e w' => ∃ a c, e = .returned (.slice a p.allN.length c) ∧ NRow (fun b => w.heap.size ≤ b ∧ b < w'.heap.size) w' a p.allN ∧ Below w.heap.size w w' := by
  obtain ⟨vb, vc, vars, cb, cc, chans, nb, nc, locks, tb, tc, tasks⟩ := p
  unfold PX.val PX.allN
  dsimp only at hmv hmc hml ⊢
  have hRv0 := hL.v
  have hRc0 := hL.c
  have hRn0 := hL.n
  dsimp only at hRv0 hRc0 hRn0
  clear hL
  obtain ⟨W1, hW1⟩ : ∃ W1, w.alloc (.cells #[.slice vb vars.length vc, .slice cb chans.length cc, .slice nb locks.length nc, .slice tb tasks.length tc] 35) = W1 := ⟨_, rfl⟩
  have hs1 : w.heap.size + 1 = W1.heap.size := by rw [← hW1]; simp
  have hB1 : Below w.heap.size w W1 := by rw [← hW1]; exact (Below.refl _ w).alloc (Nat.le_refl _) _
  have pa : W1.heap[w.heap.size]? = some (.cells #[.slice vb vars.length vc, .slice cb chans.length cc, .slice nb locks.length nc, .slice tb tasks.length tc] 35) := by rw [← hW1]; exact Array.getElem?_push_size
  have hcells : ∀ A : World, A.heap[w.heap.size]? = W1.heap[w.heap.size]? → A.cell? ⟨w.heap.size, 0, none⟩ = some (.slice vb vars.length vc) ∧ A.cell? ⟨w.heap.size, 1, none⟩ = some (.slice cb chans.length cc) ∧ A.cell? ⟨w.heap.size, 2, none⟩ = some (.slice nb locks.length nc) ∧ A.cell? ⟨w.heap.size, 3, none⟩ = some (.slice tb tasks.length tc) := by
    intro A h1
    rw [pa] at h1
    refine ⟨?_, ?_, ?_, ?_⟩ <;> simp [World.cell?, h1]
  have hRv := hRv0.under hB1 hok
  have hRc := hRc0.under hB1 hok
  have hRn := hRn0.under hB1 hok
  obtain ⟨i0, hi0, hz0, hz1, hz2⟩ := info_parts infoW
  obtain ⟨W2, hW2⟩ : ∃ W2, W1.alloc (.cells #[] 9) = W2 := ⟨_, rfl⟩
  have hB2 : Below W1.heap.size W1 W2 := by rw [← hW2]; exact (Below.refl _ _).alloc (Nat.le_refl _) _
  have hown2 : W2.ownsRow W1.heap.size 9 1 (.slice (some ⟨W1.heap.size, 0, none⟩) 0 0) 0 [] := by rw [← hW2]; exact World.ownsRow_lit W1 #[] 0 (Nat.le_refl _) (by unfold maxLen; omega) rfl
  go_enter Tryz.func91, Tryz.ntmps91
  go_wp2_with fail
  go_loopw [3, 4] (fun v3 v4 wr => ∃ (i : Nat), v4 = .int .i64 i ∧ i ≤ vars.length ∧ Hid (wr.ownsRow W1.heap.size 9 1 v3 (([] : List ByteArray).length + i) ((([] : List ByteArray) ++ (vars.take i).map VX.name).map Value.string)) ∧ Below W1.heap.size W1 wr) (fun _ v4 _ => vars.length - (intOf v4).toNat)
  case atStart => exact ⟨0, rfl, by omega, (by simpa using hown2 : W2.ownsRow W1.heap.size 9 1 (.slice (some ⟨W1.heap.size, 0, none⟩) 0 0) (([] : List ByteArray).length + 0) ((([] : List ByteArray) ++ (vars.take 0).map VX.name).map Value.string)), hB2⟩
  case round =>
    obtain ⟨i, rfl, hi, hA, hB⟩ := hrel
    obtain ⟨v, rfl⟩ : ∃ v, v = u3 := ⟨_, rfl⟩
    have hzB := hB.size
    obtain ⟨a0, a1, a2, a3⟩ := hcells wr (hB.block _ (by omega))
    by_cases hlt : i < vars.length
    · obtain ⟨x, hx⟩ : ∃ x, vars[i]? = some x := ⟨_, List.getElem?_eq_getElem (by omega)⟩
      obtain ⟨b1, o1, hbase1, hok1, hc1⟩ := hRv i x hx
      have hcx := hc1.below hB (by have := hok b1 hok1; omega)
      have q0 := hcx.c0
      clear hc1 hcx
      obtain ⟨W3, hW3⟩ : ∃ W3, wr.alloc (.cells #[.string x.name] 9) = W3 := ⟨_, rfl⟩
      have hB3 : Below wr.heap.size wr W3 := by rw [← hW3]; exact (Below.refl _ _).alloc (Nat.le_refl _) _
      have hs3 : wr.heap.size + 1 = W3.heap.size := by rw [← hW3]; simp
      have hnewH : Hid (∀ j u, [Value.string x.name][j]? = some u → W3.cell? ((⟨wr.heap.size, 0, none⟩ : Addr).add j) = some u) := by rw [← hW3]; exact news1 wr x.name _
      have htk : (([] : List ByteArray) ++ (vars.take (i + 1)).map VX.name).map Value.string = (([] : List ByteArray) ++ (vars.take i).map VX.name).map Value.string ++ [Value.string x.name] := by rw [List.take_add_one, hx]; simp
      obtain ⟨L0, hL0⟩ : ∃ L0, (([] : List ByteArray) ++ (vars.take i).map VX.name).map Value.string = L0 := ⟨_, rfl⟩
      rw [hL0] at hA htk
      have hown3 : Hid (W3.ownsRow W1.heap.size 9 1 v (([] : List ByteArray).length + i) L0) := own_on hA.out (fun g hg => hB3.block g (hA.out.lt g hg).2)
      obtain ⟨N0, hN0⟩ : ∃ N0, ([] : List ByteArray).length + i = N0 := ⟨_, rfl⟩
      rw [hN0] at hown3
      have hN0' : N0 ≤ 4194304 := by first | omega | (simp at hN0; omega)
      subst hbase1
      clear hx hL0
      go_wp2_with (at_builtin; refine wpList_append_back _ rfl _ _ 24 rfl W1.heap.size 9 i0 _ 1 16 Tryz.underlying24 hi0 hz0 hz1 hz2 rfl (by decide) v N0 L0 rfl hown3.out ⟨wr.heap.size, 0, none⟩ 1 1 [Value.string x.name] rfl rfl hnewH.out (by simp [Value.oneCell']) (by unfold maxLen; omega) (by omega) (by omega) (by omega) ?_; intro v' w4 hown' hback)
      all_goals first | (exfalso; omega) | skip
      have hB4 : Below W1.heap.size W1 w4 := by
        refine (hB.trans (hB3.mono hB.size)).trans (hback.kept.below (by omega) (fun k hk => ?_))
        rcases hk with hk | hk
        · exact (hown3.out.lt k hk).1
        · exact (hown'.lt k hk).1
      refine ⟨⟨i + 1, by go_num, by omega, ?_, hB4⟩, by simp [intOf]; omega⟩
      rw [htk, show ([] : List ByteArray).length + (i + 1) = N0 + 1 from by omega]
      exact hown'
    · have he : i = vars.length := by omega
      subst he
      have hA' := hA.out
      rw [List.take_length] at hA'
      rw [List.nil_append, List.length_nil, Nat.zero_add] at hA'
      rename World => wo
      obtain ⟨pre, hpre⟩ : ∃ pre, vars.map VX.name = pre := ⟨_, rfl⟩
      have hpl : pre.length = vars.length := by rw [← hpre, List.length_map]
      rw [hpre] at hA'
      rw [← hpl] at hA'
      go_wp2_with fail
      go_loopw [3, 5] (fun v3 v4 wr => ∃ (i : Nat), v4 = .int .i64 i ∧ i ≤ chans.length ∧ Hid (wr.ownsRow W1.heap.size 9 1 v3 (pre.length + i) ((pre ++ (chans.take i).map CX.name).map Value.string)) ∧ Below W1.heap.size W1 wr) (fun _ v4 _ => chans.length - (intOf v4).toNat)
      case atStart => exact ⟨0, rfl, by omega, (by simpa using hA' : wo.ownsRow W1.heap.size 9 1 v (pre.length + 0) ((pre ++ (chans.take 0).map CX.name).map Value.string)), hB⟩
      case round =>
        obtain ⟨i, rfl, hi, hA, hB⟩ := hrel
        obtain ⟨v, rfl⟩ : ∃ v, v = u3 := ⟨_, rfl⟩
        have hzB := hB.size
        obtain ⟨a0, a1, a2, a3⟩ := hcells wr (hB.block _ (by omega))
        by_cases hlt : i < chans.length
        · obtain ⟨x, hx⟩ : ∃ x, chans[i]? = some x := ⟨_, List.getElem?_eq_getElem (by omega)⟩
          obtain ⟨b1, o1, hbase1, hok1, hc1⟩ := hRc i x hx
          have hcx := hc1.below hB (by have := hok b1 hok1; omega)
          have q0 := hcx.c0
          clear hc1 hcx
          obtain ⟨W3, hW3⟩ : ∃ W3, wr.alloc (.cells #[.string x.name] 9) = W3 := ⟨_, rfl⟩
          have hB3 : Below wr.heap.size wr W3 := by rw [← hW3]; exact (Below.refl _ _).alloc (Nat.le_refl _) _
          have hs3 : wr.heap.size + 1 = W3.heap.size := by rw [← hW3]; simp
          have hnewH : Hid (∀ j u, [Value.string x.name][j]? = some u → W3.cell? ((⟨wr.heap.size, 0, none⟩ : Addr).add j) = some u) := by rw [← hW3]; exact news1 wr x.name _
          have htk : (pre ++ (chans.take (i + 1)).map CX.name).map Value.string = (pre ++ (chans.take i).map CX.name).map Value.string ++ [Value.string x.name] := by rw [List.take_add_one, hx]; simp
          obtain ⟨L0, hL0⟩ : ∃ L0, (pre ++ (chans.take i).map CX.name).map Value.string = L0 := ⟨_, rfl⟩
          rw [hL0] at hA htk
          have hown3 : Hid (W3.ownsRow W1.heap.size 9 1 v (pre.length + i) L0) := own_on hA.out (fun g hg => hB3.block g (hA.out.lt g hg).2)
          obtain ⟨N0, hN0⟩ : ∃ N0, pre.length + i = N0 := ⟨_, rfl⟩
          rw [hN0] at hown3
          have hN0' : N0 ≤ 4194304 := by first | omega | (simp at hN0; omega)
          subst hbase1
          clear hx hL0
          go_wp2_with (at_builtin; refine wpList_append_back _ rfl _ _ 24 rfl W1.heap.size 9 i0 _ 1 16 Tryz.underlying24 hi0 hz0 hz1 hz2 rfl (by decide) v N0 L0 rfl hown3.out ⟨wr.heap.size, 0, none⟩ 1 1 [Value.string x.name] rfl rfl hnewH.out (by simp [Value.oneCell']) (by unfold maxLen; omega) (by omega) (by omega) (by omega) ?_; intro v' w4 hown' hback)
          all_goals first | (exfalso; omega) | skip
          have hB4 : Below W1.heap.size W1 w4 := by
            refine (hB.trans (hB3.mono hB.size)).trans (hback.kept.below (by omega) (fun k hk => ?_))
            rcases hk with hk | hk
            · exact (hown3.out.lt k hk).1
            · exact (hown'.lt k hk).1
          refine ⟨⟨i + 1, by go_num, by omega, ?_, hB4⟩, by simp [intOf]; omega⟩
          rw [htk, show pre.length + (i + 1) = N0 + 1 from by omega]
          exact hown'
        · have he : i = chans.length := by omega
          subst he
          have hA' := hA.out
          rw [List.take_length] at hA'
          obtain ⟨N1, hN1⟩ : ∃ N1, pre.length + chans.length = N1 := ⟨_, rfl⟩
          obtain ⟨l1, hl1⟩ : ∃ l1, pre ++ chans.map CX.name = l1 := ⟨_, rfl⟩
          rw [hN1, hl1] at hA'
          have hll : l1.length = N1 := by rw [← hl1, List.length_append, List.length_map, hN1]
          have hN1' : N1 ≤ 2097154 := by omega
          have hallN : vars.map VX.name ++ (chans.map CX.name ++ locks) = l1 ++ locks := by rw [hpre, ← hl1, List.append_assoc]
          have hBw := hB1.trans (hB.mono hB1.size)
          have hrn := hRn.under hB (fun b hb => by have := hok b hb; omega)
          clear hA hRv hRc hRn hRv0 hRc0 hRn0 hpre hl1 hmv hmc
          have hlast : ∀ (v' : Value) (w4 : World), w4.ownsRow W1.heap.size 9 1 v' (l1 ++ locks).length ((l1 ++ locks).map Value.string) → Below w.heap.size w w4 → ∃ a c, Ending.returned v' = .returned (.slice a (vars.map VX.name ++ (chans.map CX.name ++ locks)).length c) ∧ NRow (fun b => w.heap.size ≤ b ∧ b < w4.heap.size) w4 a (vars.map VX.name ++ (chans.map CX.name ++ locks)) ∧ Below w.heap.size w w4 := by
            intro v' w4 h1 h2
            rw [hallN]
            obtain ⟨a, c, rfl, hrow⟩ := names_row h1
            exact ⟨a, c, rfl, hrow.mono (fun b hb h => ⟨⟨by omega, h⟩, rfl⟩), h2⟩
          have hll2 : (l1 ++ locks).length = N1 + locks.length := by rw [List.length_append, hll]
          cases locks with
          | nil =>
            have hA2 : Hid (wr.ownsRow W1.heap.size 9 1 v (l1 ++ []).length ((l1 ++ []).map Value.string)) := by
              have h : wr.ownsRow W1.heap.size 9 1 v (l1 ++ []).length ((l1 ++ []).map Value.string) := by rw [List.append_nil, hll]; exact hA'
              exact h
            have hfin := hlast v wr hA2.out hBw
            have hlen0 : ([] : List ByteArray).length = 0 := rfl
            rw [hlen0] at a2
            clear hlast hll2 hA2
            go_wp2_with (at_builtin; refine Lib.wpList_append_run_sl _ rfl _ _ 24 rfl v _ rfl rfl (run_append_empty W1.heap.size 24 _ 9 i0 1 Tryz.underlying24 hi0 v N1 _ hA' nb nc) ?_)
            all_goals first | (exfalso; omega) | skip
            go_returns
            exact hfin
          | cons y r =>
            obtain ⟨b, o, hba, hokb, -⟩ := hrn 0 y rfl
            subst hba
            have hnewH : Hid (∀ j u, ((y :: r).map Value.string)[j]? = some u → wr.cell? ((⟨b, o, none⟩ : Addr).add j) = some u) := by
              intro j u hj
              have hadd : (⟨b, o, none⟩ : Addr).add j = ⟨b, o + j, none⟩ := by unfold Addr.add; split <;> simp_all
              rw [hadd]
              rw [List.getElem?_map] at hj
              cases hq : (y :: r)[j]? with
              | none => rw [hq] at hj; cases hj
              | some z =>
                rw [hq] at hj
                obtain ⟨b', o', hb', -, hc'⟩ := hrn j z hq
                simp only [Option.some.injEq, Addr.mk.injEq, and_true] at hb'
                obtain ⟨rfl, rfl⟩ := hb'
                simpa using hj ▸ hc'
            have hone : Hid (∀ u ∈ (y :: r).map Value.string, u.oneCell' = true) := by
              intro u hu
              obtain ⟨z, -, rfl⟩ := List.mem_map.1 hu
              rfl
            obtain ⟨m, hm⟩ : ∃ m, (y :: r).length = m := ⟨_, rfl⟩
            obtain ⟨news, hnews⟩ : ∃ news, (y :: r).map Value.string = news := ⟨_, rfl⟩
            have hnl : news.length = m * 1 := by rw [← hnews, List.length_map, hm, Nat.mul_one]
            have hm0 : 0 < m := by rw [← hm]; simp
            have hm1 : m ≤ 1048577 := by rw [← hm]; exact hml
            have hfin : ((l1 ++ y :: r).map Value.string) = l1.map Value.string ++ news := by rw [List.map_append, hnews]
            rw [hm] at hll2 a2
            rw [hnews] at hnewH hone
            rw [hfin, hll2] at hlast
            have hAh : Hid (wr.ownsRow W1.heap.size 9 1 v N1 (l1.map Value.string)) := hA'
            clear hrn hnews hm hfin hA' hml hll2 hallN
            go_wp2_with (at_builtin; refine wpList_append_back _ rfl _ _ 24 rfl W1.heap.size 9 i0 _ 1 16 Tryz.underlying24 hi0 hz0 hz1 hz2 rfl (by decide) v N1 (l1.map Value.string) rfl hAh.out ⟨b, o, none⟩ m nc news rfl hnl hnewH.out hone.out (by unfold maxLen; omega) (by omega) (by omega) hm0 ?_; intro v' w4 hown' hback)
            all_goals first | (exfalso; omega) | skip
            have hB4 : Below w.heap.size w w4 := by
              refine hBw.trans (hback.kept.below (by omega) (fun j hj => ?_))
              rcases hj with hj | hj
              · have := (hAh.out.lt j hj).1; omega
              · have := (hown'.lt j hj).1; omega
            go_returns
            exact hlast v' w4 hown' hB4
end Go.Proofs.YtaajdoipjalgmaaGreatDoor
namespace Go.Proofs.YtaajdoipjalgmaaGreatDoor
open Go.RowKit Go.Shelf Go.Maps
set_option linter.unusedSimpArgs false
set_option linter.unusedVariables false
attribute [local go_sem] Oper.semAt_some

theorem findOf_take {l : List ByteArray} {i : Nat} {x : ByteArray} (hx : l[i]? = some x) (h : findOf (l.take i) x = none) : (i : Int) ≤ firstOf l x := by
  rw [first_hit hx h (by simp [isIt])]
  omega
set_option maxRecDepth 10000 in
set_option maxHeartbeats 2000000 in
theorem l4TwiceT (p : PX) (hmv : p.vars.length ≤ 1048577) (hmc : p.chans.length ≤ 1048577) (hml : p.locks.length ≤ 1048577) (ok : Nat → Prop) (w : World) (hok : ∀ b, ok b → b < w.heap.size) (hL : PX.Lies ok w p) :
    Calls Tryz.prog 64 #[p.val] w fun e w' => e = .returned (.bool (!onceB p.allN)) ∧ Below w.heap.size w w' := by
  obtain ⟨W1, hW1⟩ : ∃ W1, w.alloc (.cells #[.slice p.vbase p.vars.length p.vcap, .slice p.cbase p.chans.length p.ccap, .slice p.nbase p.locks.length p.ncap, .slice p.tbase p.tasks.length p.tcap] 35) = W1 := ⟨_, rfl⟩
  have hs1 : w.heap.size + 1 = W1.heap.size := by rw [← hW1]; simp
  have hA1 : PX.At W1 w.heap.size p := by rw [← hW1]; exact PX.At.new w p _
  have hB1 : Below w.heap.size w W1 := by rw [← hW1]; exact (Below.refl _ w).alloc (Nat.le_refl _) _
  obtain ⟨c0, c1, c2, c3⟩ := hA1
  have hnm := l4NamesT p hmv hmc hml ok W1 (fun b hb => by have := hok b hb; omega) (hL.under hB1 hok)
  have hlen : p.allN.length = p.vars.length + (p.chans.length + p.locks.length) := by simp [PX.allN]
  obtain ⟨l, hl⟩ : ∃ l, p.allN = l := ⟨_, rfl⟩
  obtain ⟨N, hN⟩ : ∃ N, l.length = N := ⟨_, rfl⟩
  rw [hl] at hnm hlen ⊢
  rw [hN] at hnm hlen
  have hN4 : N ≤ 3145731 := by omega
  clear hL hlen hl hmv hmc hml
  go_enter Tryz.func64, Tryz.ntmps64
  go_wp2_with fail
  go_at_call 91
  refine hnm.mono ?_
  clear hnm
  rintro e w1 ⟨a, c, rfl, hrow, hB12⟩
  have hB2 := hB1.trans (hB12.mono hB1.size)
  clear c0 c1 c2 c3
  go_wp2_with fail
  go_loopw [4] (fun v3 wr => ∃ (i : Nat), v3 = .int .i64 i ∧ i ≤ N ∧ Below w1.heap.size w1 wr ∧ Hid (∀ (j : Nat) (x : ByteArray), j < i → l[j]? = some x → (j : Int) ≤ firstOf l x)) (fun v3 _ => N - (intOf v3).toNat)
  case atStart => exact ⟨0, rfl, by omega, Below.refl _ _, fun j x hj => by omega⟩
  case round =>
    obtain ⟨i, rfl, hi, hBr, hgood⟩ := hrel
    by_cases hlt : i < N
    · obtain ⟨x, hx⟩ : ∃ x, l[i]? = some x := ⟨_, List.getElem?_eq_getElem (by omega)⟩
      go_wp2_with fail
      all_goals first | (exfalso; omega) | skip
      go_loopw [5] (fun v4 wq => ∃ (j : Nat), v4 = .int .i64 j ∧ j ≤ i ∧ Hid (findOf (l.take j) x = none) ∧ Below w1.heap.size w1 wq) (fun v4 _ => i - (intOf v4).toNat)
      case atStart => exact ⟨0, rfl, by omega, by rw [List.take_zero]; rfl, hBr⟩
      case round =>
        obtain ⟨j, rfl, hj, hn, hBq⟩ := hrel
        have hzq := hBq.size
        by_cases hlj : j < i
        · obtain ⟨y, hy⟩ : ∃ y, l[j]? = some y := ⟨_, List.getElem?_eq_getElem (by omega)⟩
          have hrw := hrow.under hBq (fun b hb => hb.2)
          obtain ⟨b1, o1, hbase1, hok1, hc1⟩ := hrw i x hx
          obtain ⟨b2, o2, hbase2, hok2, hc2⟩ := hrw j y hy
          subst hbase1
          simp only [Option.some.injEq, Addr.mk.injEq, and_true] at hbase2
          obtain ⟨rfl, rfl⟩ := hbase2
          have q0 := Later.cell hc1
          have q1 := Later.cell hc2
          haveI : Nonempty (Later wr) := ⟨⟨wr, Below.refl _ _⟩⟩
          cases he : isIt x y
          · have he' : (y.toList == x.toList) = false := he
            have he2 : (x.toList == y.toList) = false := by rw [← he']; exact Bool.beq_comm
            have hst := find_step hy hn.out he
            clear hrw hx hy hn hrow hgood he
            go_wp2_with fail
            all_goals first | (exfalso; omega) | skip
            refine region_class (fun w' => ∃ z : Later wr, w' = z.at) (by kernel_rfl) (by kernel_rfl) ⟨⟨_, (Below.refl _ _).drew⟩, rfl⟩ ?_
            repeat (go_big_quiet_step (fail))
            refine wpQuiet_nil ?_
            rintro w' ⟨z, rfl⟩
            have hBz := hBq.trans ((Later.below z).mono hBq.size)
            go_wp2_with fail
            all_goals first | (exfalso; omega) | skip
            refine ⟨⟨j + 1, by go_num, by omega, hst, hBz⟩, by simp [intOf]; omega⟩
          · have he' : (y.toList == x.toList) = true := he
            have he2 : (x.toList == y.toList) = true := by rw [← he']; exact Bool.beq_comm
            have hb : onceB l = false := onceB_bad hx (by rw [first_hit hy hn.out he]; omega)
            clear hrw hx hy hn hrow hgood he
            go_wp2_with fail
            all_goals first | (exfalso; omega) | skip
            refine region_class (fun w' => ∃ z : Later wr, w' = z.at) (by kernel_rfl) (by kernel_rfl) ⟨⟨_, (Below.refl _ _).drew⟩, rfl⟩ ?_
            repeat (go_big_quiet_step (fail))
            refine wpQuiet_nil ?_
            rintro w' ⟨z, rfl⟩
            have hBz := hBq.trans ((Later.below z).mono hBq.size)
            go_wp2_with fail
            all_goals first | (exfalso; omega) | skip
            go_returns
            exact ⟨by rw [hb]; rfl, hB2.trans (hBz.mono hB2.size)⟩
        · have he : j = i := by omega
          subst he
          have hg : ∀ (k : Nat) (y : ByteArray), k < j + 1 → l[k]? = some y → (k : Int) ≤ firstOf l y := by
            intro k y hk hy
            by_cases e : k = j
            · subst e
              rw [hx] at hy
              cases hy
              exact findOf_take hx hn.out
            · exact hgood.out k y (by omega) hy
          clear hgood hx hn hrow
          go_wp2_with fail
          all_goals first | (exfalso; omega) | skip
          refine ⟨⟨j + 1, by go_num, by omega, hBq, hg⟩, by simp [intOf]; omega⟩
    · have hg : onceB l = true := onceB_good (fun j x hx => hgood.out j x (by have := (List.getElem?_eq_some_iff.1 hx).1; omega) hx)
      clear hgood hrow
      go_wp2_with fail
      all_goals first | (exfalso; omega) | skip
      go_returns
      exact ⟨by rw [hg]; rfl, hB2.trans (hBr.mono hB2.size)⟩
end Go.Proofs.YtaajdoipjalgmaaGreatDoor
namespace Go.Proofs.YtaajdoipjalgmaaGreatDoor
open Go.RowKit Go.Shelf Go.Maps
set_option linter.unusedSimpArgs false
set_option linter.unusedVariables false
attribute [local go_sem] Oper.semAt_some

theorem usesE_same (sz : Nat) : ∀ t : XT, t.size ≤ sz → ∀ u : XT, Same t u → usesE u = usesE t := by
  induction sz with
  | zero => intro t h; rw [XT.size_eq] at h; omega
  | succ sz ih =>
    intro t hz u h
    obtain ⟨h1, h2, h3, h4⟩ := h.heads
    rw [usesE_eq, usesE_eq]
    have hE : useE u = useE t := by unfold useE; rw [h1, h3]
    have hK : u.kids.map usesE = t.kids.map usesE := by
      apply List.ext_getElem?
      intro i
      rw [List.getElem?_map, List.getElem?_map]
      cases ha : t.kids[i]? with
      | none =>
        have : u.kids[i]? = none := by rw [List.getElem?_eq_none_iff] at ha ⊢; omega
        rw [this]
      | some a =>
        have hi := (List.getElem?_eq_some_iff.1 ha).1
        obtain ⟨b, hb⟩ : ∃ b, u.kids[i]? = some b := ⟨_, List.getElem?_eq_getElem (by omega)⟩
        rw [hb]
        have := XT.size_get ha
        rw [XT.size_eq] at hz
        simp [ih a (by omega) b (h.kid i a b ha hb)]
    rw [hE, List.flatMap_def, List.flatMap_def, hK]
theorem usesOf1_same {s u : SX} (h : SameS s u) : usesOf1 u = usesOf1 s := by
  obtain ⟨h1, h2, h3, h4, -⟩ := h.parts
  unfold usesOf1
  rw [usesE_same _ s.e (Nat.le_refl _) u.e h3, usesE_same _ s.f (Nat.le_refl _) u.f h4]
  congr 1
  unfold useS
  rw [h1, h2]
theorem usesL_same {ks us : List SX} (h : SameL (SX.flatAll ks) us) : usesL (SX.withinAll ks 0) = us.flatMap usesOf1 := by
  have h1 : usesL (SX.withinAll ks 0) = (SX.flatAll ks).flatMap usesOf1 := by
    rw [← SX.withinAll_flat ks 0]
    unfold usesL
    rw [List.flatMap_map]
  rw [h1, List.flatMap_def, List.flatMap_def]
  congr 1
  apply List.ext_getElem?
  intro i
  rw [List.getElem?_map, List.getElem?_map]
  cases ha : (SX.flatAll ks)[i]? with
  | none =>
    have : us[i]? = none := by have := h.1; rw [List.getElem?_eq_none_iff] at ha ⊢; omega
    rw [this]
  | some a =>
    have hi := (List.getElem?_eq_some_iff.1 ha).1
    obtain ⟨b, hb⟩ : ∃ b, us[i]? = some b := ⟨_, List.getElem?_eq_getElem (by have := h.1; omega)⟩
    rw [hb]
    simp [usesOf1_same (h.2 i a b ha hb)]
theorem flatMap_take {us : List SX} {i : Nat} {k : SX} (h : us[i]? = some k) : (us.take (i + 1)).flatMap usesOf1 = (us.take i).flatMap usesOf1 ++ usesOf1 k := by
  rw [List.take_add_one, h]
  simp
theorem badUs_next {p : PX} {task : Int} {us : List SX} {i : Nat} {k : SX} (h : us[i]? = some k) (hz : badU p task ((us.take i).flatMap usesOf1) = 0) (hk : badU p task (usesOf1 k) = 0) : badU p task ((us.take (i + 1)).flatMap usesOf1) = 0 := by
  rw [flatMap_take h, badU_append, if_pos hz]
  exact hk
theorem badUs_last {p : PX} {task : Int} {us : List SX} {i : Nat} {k : SX} (h : us[i]? = some k) (hz : badU p task ((us.take i).flatMap usesOf1) = 0) (hk : ¬ badU p task (usesOf1 k) = 0) : badU p task (us.flatMap usesOf1) = badU p task (usesOf1 k) := by
  have h1 : us.flatMap usesOf1 = ((us.take i).flatMap usesOf1 ++ usesOf1 k) ++ (us.drop (i + 1)).flatMap usesOf1 := by
    rw [← flatMap_take h, ← List.flatMap_append, List.take_append_drop]
  rw [h1, badU_append, badU_append, if_pos hz, if_neg hk]
theorem badU1 {p : PX} {task : Int} {k : SX} : badU p task (usesOf1 k) = if p.wrongI task (useS k) = 0 then (if badU p task (usesE k.e) = 0 then badU p task (usesE k.f) else badU p task (usesE k.e)) else p.wrongI task (useS k) := by
  unfold usesOf1
  simp only [badU]
  rw [badU_append]
set_option maxRecDepth 10000 in
set_option maxHeartbeats 2000000 in
theorem l4TaskT (p : PX) (n : Nat) (t : LX) (ht : p.tasks[n]? = some t) (hmv : p.vars.length ≤ 1048577) (hmc : p.chans.length ≤ 1048577) (hml : p.locks.length ≤ 1048577) (hmt : p.tasks.length ≤ 1048577) (hz : SX.sizeAll t.l ≤ 2097152) (hsm : ∀ (j : Nat) (k : SX), t.l[j]? = some k → SmallS k)
    (hG : ∀ us, SameL (SX.flatAll t.l) us → us.length ≤ 1048576 ∧ ∀ (i : Nat) (k : SX), us[i]? = some k → SmallS k ∧ k.tot ≤ 1048576) (ok : Nat → Prop) (w : World) (hok : ∀ b, ok b → b < w.heap.size) (hL : PX.Lies ok w p) :
    Calls Tryz.prog 66 #[p.val, .int .i64 n] w fun e w' => e = .returned (.int .i64 (badU p n (usesL (SX.withinAll t.l 0)))) ∧ Below w.heap.size w w' := by
  obtain ⟨W1, hW1⟩ : ∃ W1, w.alloc (.cells #[.slice p.vbase p.vars.length p.vcap, .slice p.cbase p.chans.length p.ccap, .slice p.nbase p.locks.length p.ncap, .slice p.tbase p.tasks.length p.tcap] 35) = W1 := ⟨_, rfl⟩
  have hs1 : w.heap.size + 1 = W1.heap.size := by rw [← hW1]; simp
  have hA1 : PX.At W1 w.heap.size p := by rw [← hW1]; exact PX.At.new w p _
  have hB1 : Below w.heap.size w W1 := by rw [← hW1]; exact (Below.refl _ w).alloc (Nat.le_refl _) _
  have hcells : ∀ A : World, Below W1.heap.size W1 A → PX.At A w.heap.size p := fun A hA => hA1.below hA (by omega)
  obtain ⟨c0, c1, c2, c3⟩ := hA1
  have hL1 := hL.under hB1 hok
  have hnt := (List.getElem?_eq_some_iff.1 ht).1
  obtain ⟨tb, t0, htb, hokt, hct⟩ := hL1.t n t ht
  have q0 := hct
  have hst := specStmts _ t.l (Nat.le_refl _) hz hsm t.base t.cap ok W1 (fun b hb => by have := hok b hb; omega) (hL1.k n t ht).row (hL1.k n t ht).kid
  have hpv : p.val = .agg #[.slice p.vbase p.vars.length p.vcap, .slice p.cbase p.chans.length p.ccap, .slice p.nbase p.locks.length p.ncap, .slice (some ⟨tb, t0, none⟩) p.tasks.length p.tcap] := by rw [scopeV, htb]
  have hHd : ∀ (k : SX), SmallS k → ∀ A, Below W1.heap.size W1 A → Calls Tryz.prog 93 #[p.val, .int .i64 n, k.val] A fun e w' => e = .returned (.int .i64 (p.wrongI n (useS k))) ∧ Below A.heap.size A w' := by
    intro k hk A hA
    have hzA := hA.size
    exact l4Head0 p n k.kind k.name k.e.kind k.e.num k.e.name k.e.base k.e.kids.length k.e.cap k.f.kind k.f.num k.f.name k.f.base k.f.kids.length k.f.cap k.abase k.la.length k.acap k.bbase k.lb.length k.bcap A
      (fun B nmk hB => l4UseT p n k.name nmk ok B (fun b hb => by have := hok b hb; have := hB.size; omega) ((hL1.v.under hA (fun b hb => by have := hok b hb; omega)).under hB (fun b hb => by have := hok b hb; omega)) hmv)
      (fun B hB => PX.specLock p k.name ok B (fun b hb => by have := hok b hb; have := hB.size; omega) ((hL1.n.under hA (fun b hb => by have := hok b hb; omega)).under hB (fun b hb => by have := hok b hb; omega)) hml)
      (fun B hB => PX.specChan p k.name ok B (fun b hb => by have := hok b hb; have := hB.size; omega) ((hL1.c.under hA (fun b hb => by have := hok b hb; omega)).under hB (fun b hb => by have := hok b hb; omega)) hmc)
  have hEx : ∀ (x : XT), x.size ≤ 1048577 → Good x → ∀ (okx : Nat → Prop) A, Below W1.heap.size W1 A → (∀ b, okx b → b < A.heap.size) → Lies okx A x → Calls Tryz.prog 94 #[p.val, .int .i64 n, x.val] A fun e w' => e = .returned (.int .i64 (badU p n (usesE x))) ∧ Below A.heap.size A w' := by
    intro x hx hg okx A hA hokx hLx
    have hzA := hA.size
    exact l4ExprT p n hmv _ x hx (Nat.le_refl _) hg (fun b => b < A.heap.size) A (fun b hb => hb) ((hL1.v.under hA (fun b hb => by have := hok b hb; omega)).mono (fun b hb h => ⟨by have := hok b hb; omega, rfl⟩)) (hLx.mono (fun b hb h => ⟨hokx b hb, rfl⟩))
  rw [hpv] at hHd hEx
  rw [htb] at c3
  have hcellsT : ∀ A : World, Below W1.heap.size W1 A → A.cell? ⟨w.heap.size, 0, none⟩ = some (.slice p.vbase p.vars.length p.vcap) ∧ A.cell? ⟨w.heap.size, 1, none⟩ = some (.slice p.cbase p.chans.length p.ccap) ∧ A.cell? ⟨w.heap.size, 2, none⟩ = some (.slice p.nbase p.locks.length p.ncap) ∧ A.cell? ⟨w.heap.size, 3, none⟩ = some (.slice (some ⟨tb, t0, none⟩) p.tasks.length p.tcap) := by
    intro A hA
    obtain ⟨x0, x1, x2, x3⟩ := hcells A hA
    rw [htb] at x3
    exact ⟨x0, x1, x2, x3⟩
  clear hct hL hL1 hsm hz ht hpv htb hcells
  obtain ⟨tl, htl⟩ : ∃ tl, SX.withinAll t.l 0 = tl := ⟨_, rfl⟩
  have hsame : ∀ us, SameL (SX.flatAll t.l) us → usesL tl = us.flatMap usesOf1 := fun us h => by rw [← htl]; exact usesL_same h
  rw [htl]
  clear htl
  obtain ⟨cl, hcl0⟩ : ∃ cl, badU p n (usesL tl) = cl := ⟨_, rfl⟩
  rw [hcl0]
  go_enter Tryz.func66, Tryz.ntmps66
  go_wp2_with fail
  go_at_call 92
  refine hst.mono ?_
  clear hst
  rintro e w1 ⟨v, us, l, h, rfl, -, hS, hAcc, hB2⟩
  obtain ⟨a, cap, hv, hO⟩ := hAcc.done
  subst hv
  have hcl : badU p n (us.flatMap usesOf1) = cl := by rw [← hsame us hS]; exact hcl0
  obtain ⟨hul, hus⟩ := hG us hS
  obtain ⟨hrow0, hkid0⟩ := hO.lies
  have hzw := hB2.size
  clear hsame hG hAcc hO hS hcl0
  obtain ⟨N, hN⟩ : ∃ N, us.length = N := ⟨_, rfl⟩
  rw [hN] at hul
  go_wp2_with fail
  go_loopw [6] (fun v6 wr => ∃ (i : Nat), v6 = .int .i64 i ∧ i ≤ N ∧ Below w1.heap.size w1 wr ∧ Hid (badU p n ((us.take i).flatMap usesOf1) = 0)) (fun v6 _ => N - (intOf v6).toNat)
  case atStart => exact ⟨0, rfl, by omega, Below.refl _ _, by rw [List.take_zero]; rfl⟩
  case round =>
    obtain ⟨i, rfl, hi, hBr, hz0⟩ := hrel
    have hzr := hBr.size
    have hBW := hB2.trans (hBr.mono hB2.size)
    by_cases hlt : i < N
    · obtain ⟨k, hk⟩ : ∃ k, us[i]? = some k := ⟨_, List.getElem?_eq_getElem (by omega)⟩
      obtain ⟨hsk, -⟩ := hus i k hk
      obtain ⟨-, ⟨hes, heg⟩, ⟨hfs, hfg⟩, -⟩ := hsk.parts
      have hLk := (hkid0 i k hk).under hBr (fun b hb => hb.2)
      obtain ⟨hLe, hLf, -⟩ := hLk.parts
      obtain ⟨b, o, hbase, hob, hcc⟩ := hrow0 i k hk
      have hcr := hcc.below hBr hob.2
      obtain ⟨x0, x1, x2, x3⟩ := hcellsT wr hBW
      have hhz : ∀ z : Later wr, Below W1.heap.size W1 z.at := fun z => hBW.trans ((Later.below z).mono (by omega))
      have hlz : ∀ z : Later wr, wr.heap.size ≤ z.at.heap.size := fun z => (Later.below z).size
      have h1 : ∀ z : Later wr, Calls Tryz.prog 93 #[.agg #[.slice p.vbase p.vars.length p.vcap, .slice p.cbase p.chans.length p.ccap, .slice p.nbase p.locks.length p.ncap, .slice (some ⟨tb, t0, none⟩) p.tasks.length p.tcap], .int .i64 n, k.val] z.at fun e w' => e = .returned (.int .i64 (p.wrongI n (useS k))) ∧ Below z.at.heap.size z.at w' := fun z => hHd k hsk z.at (hhz z)
      have h2 : ∀ z : Later wr, Calls Tryz.prog 94 #[.agg #[.slice p.vbase p.vars.length p.vcap, .slice p.cbase p.chans.length p.ccap, .slice p.nbase p.locks.length p.ncap, .slice (some ⟨tb, t0, none⟩) p.tasks.length p.tcap], .int .i64 n, k.e.val] z.at fun e w' => e = .returned (.int .i64 (badU p n (usesE k.e))) ∧ Below z.at.heap.size z.at w' := fun z => hEx k.e hes heg _ z.at (hhz z) (fun b hb => by have := hb.2; have := hlz z; omega) (hLe.under (Later.below z) (fun b hb => by have := hb.2; omega))
      have h3 : ∀ z : Later wr, Calls Tryz.prog 94 #[.agg #[.slice p.vbase p.vars.length p.vcap, .slice p.cbase p.chans.length p.ccap, .slice p.nbase p.locks.length p.ncap, .slice (some ⟨tb, t0, none⟩) p.tasks.length p.tcap], .int .i64 n, k.f.val] z.at fun e w' => e = .returned (.int .i64 (badU p n (usesE k.f))) ∧ Below z.at.heap.size z.at w' := fun z => hEx k.f hfs hfg _ z.at (hhz z) (fun b hb => by have := hb.2; have := hlz z; omega) (hLf.under (Later.below z) (fun b hb => by have := hb.2; omega))
      have hb1 : badU p n (usesOf1 k) = if p.wrongI n (useS k) = 0 then (if badU p n (usesE k.e) = 0 then badU p n (usesE k.f) else badU p n (usesE k.e)) else p.wrongI n (useS k) := badU1
      obtain ⟨a1, ha1⟩ : ∃ a1, p.wrongI n (useS k) = a1 := ⟨_, rfl⟩
      obtain ⟨a2, ha2⟩ : ∃ a2, badU p n (usesE k.e) = a2 := ⟨_, rfl⟩
      obtain ⟨a3, ha3⟩ : ∃ a3, badU p n (usesE k.f) = a3 := ⟨_, rfl⟩
      rw [ha1] at h1 hb1
      rw [ha2] at h2 hb1
      rw [ha3] at h3 hb1
      have hnext : badU p n (usesOf1 k) = 0 → badU p n ((us.take (i + 1)).flatMap usesOf1) = 0 := badUs_next hk hz0.out
      have hlast : ¬ badU p n (usesOf1 k) = 0 → badU p n (us.flatMap usesOf1) = badU p n (usesOf1 k) := badUs_last hk hz0.out
      obtain ⟨cs, hcs⟩ : ∃ cs, badU p n (usesOf1 k) = cs := ⟨_, rfl⟩
      rw [hcs] at hb1 hnext hlast
      have hq1 : ¬ a1 = 0 → cs = a1 := fun h => by rw [hb1, if_neg h]
      have hq2 : a1 = 0 → ¬ a2 = 0 → cs = a2 := fun h h' => by rw [hb1, if_pos h, if_neg h']
      have hq3 : a1 = 0 → a2 = 0 → cs = a3 := fun h h' => by rw [hb1, if_pos h, if_pos h']
      clear hb1
      rw [hcl] at hlast
      have e0 := Later.cell x0
      have e1 := Later.cell x1
      have e2 := Later.cell x2
      have e3 := Later.cell x3
      have g0 := Later.cell hcr.c0
      have g1 := Later.cell hcr.c1
      have g2 := Later.cell hcr.c2
      have g3 := Later.cell hcr.c3
      have g4 := Later.cell hcr.c4
      have g5 := Later.cell hcr.c5
      have g6 := Later.cell hcr.c6
      have g7 := Later.cell hcr.c7
      have g8 := Later.cell hcr.c8
      have g9 := Later.cell hcr.c9
      have g10 := Later.cell hcr.c10
      have g11 := Later.cell hcr.c11
      subst hbase
      clear hhz hlz hHd hEx hk hsk hes heg hfs hfg hLk hLe hLf hob hcc hcr hz0 ha1 ha2 ha3 hcs hcl hrow0 hkid0 hus x0 x1 x2 x3
      haveI : Nonempty (Later wr) := ⟨⟨wr, Below.refl _ _⟩⟩
      go_wp2_with fail
      refine region_class (fun w' => ∃ z : Later wr, w' = z.at) (by kernel_rfl) (by kernel_rfl) ⟨⟨_, (Below.refl _ _).drew⟩, rfl⟩ ?_
      repeat (go_big_quiet_step (first | (go_at_call 93; refine (h1 _).mono ?_; rintro e w2 ⟨rfl, hb⟩; exact ⟨rfl, ⟨_, bstep (Subtype.property _) hb⟩, rfl⟩)))
      refine wpQuiet_nil ?_
      rintro w' ⟨z, rfl⟩
      by_cases hc1 : a1 = 0
      · have hq2' := hq2 hc1
        have hq3' := hq3 hc1
        clear hq1 hq2 hq3
        subst hc1
        go_wp2_with fail
        all_goals first | (exfalso; omega) | skip
        refine region_class (fun w' => ∃ z : Later wr, w' = z.at) (by kernel_rfl) (by kernel_rfl) ⟨⟨_, (Later.below z).drew⟩, rfl⟩ ?_
        repeat (go_big_quiet_step (first | (go_at_call 94; refine (h2 _).mono ?_; rintro e w2 ⟨rfl, hb⟩; exact ⟨rfl, ⟨_, bstep (Subtype.property _) hb⟩, rfl⟩)))
        refine wpQuiet_nil ?_
        rintro w' ⟨z2, rfl⟩
        by_cases hc2 : a2 = 0
        · have hcs := hq3' hc2
          clear hq2' hq3'
          subst hcs
          subst hc2
          go_wp2_with fail
          all_goals first | (exfalso; omega) | skip
          refine region_class (fun w' => ∃ z : Later wr, w' = z.at) (by kernel_rfl) (by kernel_rfl) ⟨⟨_, (Later.below z2).drew⟩, rfl⟩ ?_
          repeat (go_big_quiet_step (first | (go_at_call 94; refine (h3 _).mono ?_; rintro e w2 ⟨rfl, hb⟩; exact ⟨rfl, ⟨_, bstep (Subtype.property _) hb⟩, rfl⟩)))
          refine wpQuiet_nil ?_
          rintro w' ⟨z3, rfl⟩
          have hBz := hBr.trans ((Later.below z3).mono hBr.size)
          by_cases hc3 : cs = 0
          · have hn' := hnext hc3
            subst hc3
            go_wp2_with fail
            all_goals first | (exfalso; omega) | skip
            refine ⟨⟨i + 1, by go_num, by omega, hBz, hn'⟩, by simp [intOf]; omega⟩
          · have hl' := hlast hc3
            go_wp2_with fail
            all_goals first | (exfalso; omega) | skip
            go_returns
            exact ⟨by rw [hl']; rfl, hB1.trans ((hB2.trans (hBz.mono hB2.size)).mono (by omega))⟩
        · have hcs := hq2' hc2
          clear hq2' hq3'
          subst hcs
          have hl' := hlast hc2
          have hBz := hBr.trans ((Later.below z2).mono hBr.size)
          go_wp2_with fail
          all_goals first | (exfalso; omega) | skip
          go_returns
          exact ⟨by rw [hl']; rfl, hB1.trans ((hB2.trans (hBz.mono hB2.size)).mono (by omega))⟩
      · have hcs := hq1 hc1
        clear hq1 hq2 hq3
        subst hcs
        have hl' := hlast hc1
        have hBz := hBr.trans ((Later.below z).mono hBr.size)
        go_wp2_with fail
        all_goals first | (exfalso; omega) | skip
        go_returns
        exact ⟨by rw [hl']; rfl, hB1.trans ((hB2.trans (hBz.mono hB2.size)).mono (by omega))⟩
    · have he : i = N := by omega
      subst he
      have hz1 : cl = 0 := by
        have := hz0.out
        rw [← hN, List.take_length, hcl] at this
        exact this
      clear hz0 hHd hEx hrow0 hkid0 hus
      go_wp2_with fail
      all_goals first | (exfalso; omega) | skip
      go_returns
      exact ⟨by rw [hz1]; rfl, hB1.trans (hBW.mono (by omega))⟩
end Go.Proofs.YtaajdoipjalgmaaGreatDoor
namespace Go.Proofs.YtaajdoipjalgmaaGreatDoor
open Go.RowKit Go.Shelf Go.Maps
set_option linter.unusedSimpArgs false
set_option linter.unusedVariables false
attribute [local go_sem] Oper.semAt_some

set_option maxRecDepth 10000 in
set_option maxHeartbeats 2000000 in
theorem specScope (p : PX) (hm : p.Small) (hN : p.Names) (hT : ∀ (i : Nat) (t : LX), p.tasks[i]? = some t → SX.sizeAll t.l ≤ 1048577)
    (hG : ∀ (i : Nat) (t : LX), p.tasks[i]? = some t → ∀ us, SameL (SX.flatAll t.l) us → us.length ≤ 1048576 ∧ ∀ (i : Nat) (k : SX), us[i]? = some k → SmallS k ∧ k.tot ≤ 1048576) (ok : Nat → Prop) (w : World) (hok : ∀ b, ok b → b < w.heap.size) (hL : PX.Lies ok w p) :
    Calls Tryz.prog 28 #[p.val] w fun e w' => e = .returned (.int .i64 p.namesI) ∧ Below w.heap.size w w' := by
  obtain ⟨W1, hW1⟩ : ∃ W1, w.alloc (.cells #[.slice p.vbase p.vars.length p.vcap, .slice p.cbase p.chans.length p.ccap, .slice p.nbase p.locks.length p.ncap, .slice p.tbase p.tasks.length p.tcap] 35) = W1 := ⟨_, rfl⟩
  have hs1 : w.heap.size + 1 = W1.heap.size := by rw [← hW1]; simp
  have hA1 : PX.At W1 w.heap.size p := by rw [← hW1]; exact PX.At.new w p _
  have hB1 : Below w.heap.size w W1 := by rw [← hW1]; exact (Below.refl _ w).alloc (Nat.le_refl _) _
  have hcellsT : ∀ A : World, Below W1.heap.size W1 A → A.cell? ⟨w.heap.size, 0, none⟩ = some (.slice p.vbase p.vars.length p.vcap) ∧ A.cell? ⟨w.heap.size, 1, none⟩ = some (.slice p.cbase p.chans.length p.ccap) ∧ A.cell? ⟨w.heap.size, 2, none⟩ = some (.slice p.nbase p.locks.length p.ncap) ∧ A.cell? ⟨w.heap.size, 3, none⟩ = some (.slice p.tbase p.tasks.length p.tcap) := by
    intro A hA
    obtain ⟨x0, x1, x2, x3⟩ := hA1.below hA (by omega)
    exact ⟨x0, x1, x2, x3⟩
  have hL1 := hL.under hB1 hok
  have hvl := hm.vl
  have hcl := hm.cl
  have hnl := hm.nl
  have htl := hm.tl
  have hlie : ∀ A, Below W1.heap.size W1 A → PX.Lies ok A p := fun A hA => hL1.under hA (fun b hb => by have := hok b hb; omega)
  have hokA : ∀ A, Below W1.heap.size W1 A → ∀ b, ok b → b < A.heap.size := fun A hA b hb => by have := hok b hb; have := hA.size; omega
  have hTO := PX.specOk p hm hN hT ok W1 (hokA W1 (Below.refl _ _)) hL1
  have hTW : ∀ A, Below W1.heap.size W1 A → Calls Tryz.prog 64 #[p.val] A fun e w' => e = .returned (.bool (!onceB p.allN)) ∧ Below A.heap.size A w' := fun A hA => l4TwiceT p (by omega) (by omega) (by omega) ok A (hokA A hA) (hlie A hA)
  have hLK : ∀ A, Below W1.heap.size W1 A → ∀ s, Calls Tryz.prog 65 #[p.val, .string s] A fun e w' => e = .returned (.int .i64 (firstOf p.locks s)) ∧ Below A.heap.size A w' := fun A hA s => PX.specLock p s ok A (hokA A hA) (hlie A hA).n (by omega)
  have hTK : ∀ A, Below W1.heap.size W1 A → ∀ (n : Nat) (t : LX), p.tasks[n]? = some t → Calls Tryz.prog 66 #[p.val, .int .i64 n] A fun e w' => e = .returned (.int .i64 (badU p n (usesL (SX.withinAll t.l 0)))) ∧ Below A.heap.size A w' := fun A hA n t ht =>
    l4TaskT p n t ht (by omega) (by omega) (by omega) (by omega) (by have := hT n t ht; omega) (hm.t n t ht).kid (hG n t ht) ok A (hokA A hA) (hlie A hA)
  obtain ⟨cd, hcd⟩ : ∃ cd, p.namesI = cd := ⟨_, rfl⟩
  rw [hcd]
  unfold PX.namesI at hcd
  obtain ⟨x0, x1, x2, x3⟩ := hcellsT W1 (Below.refl _ _)
  obtain ⟨bo, hbo⟩ : ∃ bo, p.okI = bo := ⟨_, rfl⟩
  rw [hbo] at hcd hTO
  rw [scopeV] at hTO hTW hLK hTK
  cases bo with
  | false =>
    rw [if_pos rfl] at hcd
    subst hcd
    go_enter Tryz.func28, Tryz.ntmps28
    go_wp2_with fail
    go_at_call 63
    refine hTO.mono ?_
    rintro e w2 ⟨rfl, hB2⟩
    go_wp2_with fail
    go_returns
    exact ⟨rfl, hB1.trans (hB2.mono (by omega))⟩
  | true =>
  rw [if_neg (by decide)] at hcd
  obtain ⟨bt, hbt⟩ : ∃ bt, onceB p.allN = bt := ⟨_, rfl⟩
  rw [hbt] at hcd
  simp only [hbt] at hTW
  cases bt with
  | false =>
    rw [if_pos rfl] at hcd
    subst hcd
    go_enter Tryz.func28, Tryz.ntmps28
    go_wp2_with fail
    go_at_call 63
    refine hTO.mono ?_
    rintro e w2 ⟨rfl, hB2⟩
    obtain ⟨y0, y1, y2, y3⟩ := hcellsT w2 hB2
    clear x0 x1 x2 x3
    go_wp2_with fail
    go_at_call 64
    refine (hTW w2 hB2).mono ?_
    rintro e w3 ⟨rfl, hB3⟩
    go_wp2_with fail
    go_returns
    exact ⟨rfl, hB1.trans ((hB2.trans (hB3.mono hB2.size)).mono (by omega))⟩
  | true =>
  rw [if_neg (by decide)] at hcd
  go_enter Tryz.func28, Tryz.ntmps28
  go_wp2_with fail
  go_at_call 63
  refine hTO.mono ?_
  rintro e w2 ⟨rfl, hB2⟩
  obtain ⟨y0, y1, y2, y3⟩ := hcellsT w2 hB2
  clear x0 x1 x2 x3
  go_wp2_with fail
  go_at_call 64
  refine (hTW w2 hB2).mono ?_
  rintro e w3 ⟨rfl, hB3⟩
  have hB13 := hB2.trans (hB3.mono hB2.size)
  clear y0 y1 y2 y3
  go_wp2_with fail
  go_loopw [3] (fun v3 wr => ∃ (i : Nat), v3 = .int .i64 i ∧ i ≤ p.vars.length ∧ Below W1.heap.size W1 wr ∧ Hid (∀ (j : Nat) (y : VX), j < i → p.vars[j]? = some y → lockOk p.locks y = true)) (fun v3 _ => p.vars.length - (intOf v3).toNat)
  case atStart => exact ⟨0, rfl, by omega, hB13, fun j y hj => by omega⟩
  case round =>
    obtain ⟨i, rfl, hi, hBr, hgood⟩ := hrel
    have hzr := hBr.size
    obtain ⟨x0, x1, x2, x3⟩ := hcellsT wr hBr
    by_cases hlt : i < p.vars.length
    · obtain ⟨x, hx⟩ : ∃ x, p.vars[i]? = some x := ⟨_, List.getElem?_eq_getElem (by omega)⟩
      obtain ⟨b1, o1, hbase1, hok1, hc1⟩ := (hlie wr hBr).v i x hx
      have h1 : ∀ z : Later wr, Calls Tryz.prog 65 #[.agg #[.slice p.vbase p.vars.length p.vcap, .slice p.cbase p.chans.length p.ccap, .slice p.nbase p.locks.length p.ncap, .slice p.tbase p.tasks.length p.tcap], .string x.lock] z.at fun e w' => e = .returned (.int .i64 (firstOf p.locks x.lock)) ∧ Below z.at.heap.size z.at w' := fun z => hLK z.at (hBr.trans ((Later.below z).mono hBr.size)) x.lock
      obtain ⟨fl, hfl⟩ : ∃ fl, firstOf p.locks x.lock = fl := ⟨_, rfl⟩
      have hgn : lockOk p.locks x = true → ∀ (j : Nat) (y : VX), j < i + 1 → p.vars[j]? = some y → lockOk p.locks y = true := take_all hgood.out hx
      have hbn : lockOk p.locks x = false → locksB p.vars p.locks = false := locksB_bad hx
      have hlo : lockOk p.locks x = (x.lock.toList.isEmpty || decide (0 ≤ fl)) := by unfold lockOk; rw [hfl]
      rw [hfl] at h1
      rw [hbase1] at h1 x0
      have e0 := Later.cell x0
      have e1 := Later.cell x1
      have e2 := Later.cell x2
      have e3 := Later.cell x3
      have g5 := Later.cell hc1.c5
      clear hx hbase1 hc1 hgood hfl hLK hTK x0 x1 x2 x3
      haveI : Nonempty (Later wr) := ⟨⟨wr, Below.refl _ _⟩⟩
      cases hle : x.lock.toList.isEmpty
      · have hne : ¬ x.lock.toList = [] := fun h => by rw [h] at hle; cases hle
        by_cases hf : fl < 0
        · have hbad := hbn (by rw [hlo, hle]; simp; omega)
          have hcd3 : cd = 3 := by rw [← hcd, if_pos hbad]
          clear hgn hbn hlo hcd hbad
          subst hcd3
          go_wp2_with fail
          all_goals first | (exfalso; omega) | skip
          refine region_class (fun w' => ∃ z : Later wr, w' = z.at) (by kernel_rfl) (by kernel_rfl) ⟨⟨_, (Below.refl _ _).drew⟩, rfl⟩ ?_
          repeat (go_big_quiet_step (first | (go_at_call 65; refine (h1 _).mono ?_; rintro e w2 ⟨rfl, hb⟩; exact ⟨rfl, ⟨_, bstep (Subtype.property _) hb⟩, rfl⟩)))
          refine wpQuiet_nil ?_
          rintro w' ⟨z, rfl⟩
          have hBz := hBr.trans ((Later.below z).mono hBr.size)
          go_wp2_with fail
          all_goals first | (exfalso; omega) | skip
          go_returns
          exact ⟨rfl, hB1.trans (hBz.mono (by omega))⟩
        · have hg := hgn (by rw [hlo, hle]; simp; omega)
          clear hgn hbn hlo
          go_wp2_with fail
          all_goals first | (exfalso; omega) | skip
          refine region_class (fun w' => ∃ z : Later wr, w' = z.at) (by kernel_rfl) (by kernel_rfl) ⟨⟨_, (Below.refl _ _).drew⟩, rfl⟩ ?_
          repeat (go_big_quiet_step (first | (go_at_call 65; refine (h1 _).mono ?_; rintro e w2 ⟨rfl, hb⟩; exact ⟨rfl, ⟨_, bstep (Subtype.property _) hb⟩, rfl⟩)))
          refine wpQuiet_nil ?_
          rintro w' ⟨z, rfl⟩
          have hBz := hBr.trans ((Later.below z).mono hBr.size)
          go_wp2_with fail
          all_goals first | (exfalso; omega) | skip
          refine ⟨⟨i + 1, by go_num, by omega, hBz, hg⟩, by simp [intOf]; omega⟩
      · have hne : x.lock.toList = [] := by simpa using hle
        have hg := hgn (by rw [hlo, hle]; rfl)
        clear hgn hbn hlo
        go_wp2_with fail
        all_goals first | (exfalso; omega) | skip
        refine region_class (fun w' => ∃ z : Later wr, w' = z.at) (by kernel_rfl) (by kernel_rfl) ⟨⟨_, (Below.refl _ _).drew⟩, rfl⟩ ?_
        repeat (go_big_quiet_step (first | (go_at_call 65; refine (h1 _).mono ?_; rintro e w2 ⟨rfl, hb⟩; exact ⟨rfl, ⟨_, bstep (Subtype.property _) hb⟩, rfl⟩)))
        refine wpQuiet_nil ?_
        rintro w' ⟨z, rfl⟩
        have hBz := hBr.trans ((Later.below z).mono hBr.size)
        go_wp2_with fail
        all_goals first | (exfalso; omega) | skip
        refine ⟨⟨i + 1, by go_num, by omega, hBz, hg⟩, by simp [intOf]; omega⟩
    · have hall : locksB p.vars p.locks = true := locksB_good (fun j y hy => hgood.out j y (by have := (List.getElem?_eq_some_iff.1 hy).1; omega) hy)
      rw [if_neg (by rw [hall]; decide)] at hcd
      clear hgood hall hLK
      go_wp2_with fail
      all_goals first | (exfalso; omega) | skip
      clear x0 x1 x2 x3
      go_loopw [4] (fun v4 wq => ∃ (n : Nat), v4 = .int .i64 n ∧ n ≤ p.tasks.length ∧ Below W1.heap.size W1 wq ∧ Hid (∀ (j : Nat) (y : LX), j < n → p.tasks[j]? = some y → badU p ((0 + j : Nat) : Int) (usesL (SX.withinAll y.l 0)) = 0)) (fun v4 _ => p.tasks.length - (intOf v4).toNat)
      case atStart => exact ⟨0, rfl, by omega, hBr, fun j y hj => by omega⟩
      case round =>
        obtain ⟨n, rfl, hn, hBq, hgood⟩ := hrel
        have hzq := hBq.size
        obtain ⟨x0, x1, x2, x3⟩ := hcellsT wr hBq
        by_cases hlt2 : n < p.tasks.length
        · obtain ⟨t, ht⟩ : ∃ t, p.tasks[n]? = some t := ⟨_, List.getElem?_eq_getElem (by omega)⟩
          have h1 := hTK wr hBq n t ht
          obtain ⟨c, hc⟩ : ∃ c, badU p n (usesL (SX.withinAll t.l 0)) = c := ⟨_, rfl⟩
          rw [hc] at h1
          have hgn : c = 0 → ∀ (j : Nat) (y : LX), j < n + 1 → p.tasks[j]? = some y → badU p ((0 + j : Nat) : Int) (usesL (SX.withinAll y.l 0)) = 0 := by
            intro h0 j y hj hy
            by_cases e : j = n
            · subst e
              rw [ht] at hy
              cases hy
              rw [Nat.zero_add, hc]
              exact h0
            · exact hgood.out j y (by omega) hy
          have hbn : ¬ c = 0 → cd = c := by
            intro h0
            rw [← hcd, badT_hit p.tasks 0 n t ht hgood.out (by rw [Nat.zero_add, hc]; exact h0), Nat.zero_add, hc]
          clear ht hc hgood hTK hcd
          by_cases hc0 : c = 0
          · have hg := hgn hc0
            clear hgn hbn
            subst hc0
            go_wp2_with fail
            all_goals first | (exfalso; omega) | skip
            go_at_call 66
            refine h1.mono ?_
            rintro e w5 ⟨rfl, hB5⟩
            have hB5' := hBq.trans (hB5.mono hBq.size)
            go_wp2_with fail
            all_goals first | (exfalso; omega) | skip
            refine ⟨⟨n + 1, by go_num, by omega, hB5', hg⟩, by simp [intOf]; omega⟩
          · have hcd2 := hbn hc0
            clear hgn hbn
            subst hcd2
            go_wp2_with fail
            all_goals first | (exfalso; omega) | skip
            go_at_call 66
            refine h1.mono ?_
            rintro e w5 ⟨rfl, hB5⟩
            have hB5' := hBq.trans (hB5.mono hBq.size)
            go_wp2_with fail
            all_goals first | (exfalso; omega) | skip
            go_returns
            exact ⟨rfl, hB1.trans (hB5'.mono (by omega))⟩
        · have hz0 : cd = 0 := by
            rw [← hcd]
            exact badT_none p.tasks 0 (fun j y hy => hgood.out j y (by have := (List.getElem?_eq_some_iff.1 hy).1; omega) hy)
          clear hcd hgood hTK
          subst hz0
          go_wp2_with fail
          all_goals first | (exfalso; omega) | skip
          go_returns
          exact ⟨rfl, hB1.trans (hBq.mono (by omega))⟩
end Go.Proofs.YtaajdoipjalgmaaGreatDoor
namespace Go.Proofs.YtaajdoipjalgmaaGreatDoor
open Go.RowKit Go.Shelf Go.Maps
set_option linter.unusedSimpArgs false
set_option linter.unusedVariables false

theorem flatSame (sz : Nat) : ∀ ks us : List SX, SX.sizeAll ks ≤ sz → SameL ks us → SameL (SX.flatAll ks) (SX.flatAll us) := by
  induction sz using Nat.strongRecOn with
  | _ sz ih =>
  intro ks us hsz h
  match ks, us, h with
  | [], [], h => exact SameL.nil
  | [], y :: ys, h => exact absurd h.1 (by simp)
  | x :: xs, [], h => exact absurd h.1 (by simp)
  | x :: xs, y :: ys, h =>
    have hxy := h.2 0 x y rfl rfl
    have hxs : SameL xs ys := ⟨by have := h.1; simpa using this, fun i a b ha hb => h.2 (i + 1) a b (by simpa using ha) (by simpa using hb)⟩
    obtain ⟨-, -, -, -, l1, l2, p1, p2⟩ := hxy.parts
    have he := x.size_eq
    simp only [SX.sizeAll] at hsz
    have t1 := ih (SX.sizeAll x.la) (by omega) x.la y.la (Nat.le_refl _) ⟨l1, p1⟩
    have t2 := ih (SX.sizeAll x.lb) (by omega) x.lb y.lb (Nat.le_refl _) ⟨l2, p2⟩
    have t3 := ih (SX.sizeAll xs) (by omega) xs ys (Nat.le_refl _) hxs
    show SameL (x.flat ++ SX.flatAll xs) (y.flat ++ SX.flatAll ys)
    rw [x.flat_eq, y.flat_eq]
    exact ((SameL.one hxy).append (t1.append t2)).append t3
theorem flatGood {t : LX} (ht : t.tot ≤ 1048576) (us : List SX) (h : SameL (SX.flatAll t.l) us) : us.length ≤ 1048576 ∧ ∀ (i : Nat) (k : SX), us[i]? = some k → SmallS k ∧ k.tot ≤ 1048576 := by
  have h3 : t.tot = t.l.length + SX.totAll t.l := rfl
  have hz := SX.sizeAll_tot t.l
  have hf := SX.flatAll_le t.l
  have hl := h.1
  refine ⟨by omega, fun i k hk => ?_⟩
  have hi := (List.getElem?_eq_some_iff.1 hk).1
  obtain ⟨x, hx⟩ : ∃ x, (SX.flatAll t.l)[i]? = some x := ⟨_, List.getElem?_eq_getElem (by omega)⟩
  have hall : ∀ (i : Nat) (x : Int × SX), (SX.withinAll t.l 0)[i]? = some x → x.2.tot ≤ 1048576 := by
    intro j y hy
    exact SX.within_all (fun s => s.tot ≤ 1048576) (fun s hs => by
      rw [SX.tot_eq] at hs
      exact ⟨fun i k hk => by have := SX.tot_get hk; omega, fun i k hk => by have := SX.tot_get hk; omega⟩) _ t.l (Nat.le_refl _) (fun i k hk => by have := SX.tot_get hk; omega) 0 y (List.mem_of_getElem? hy)
  have hx2 : x.tot ≤ 1048576 := by
    have hm := List.mem_of_getElem? hx
    rw [← SX.withinAll_flat t.l 0, List.mem_map] at hm
    obtain ⟨y, hy, rfl⟩ := hm
    obtain ⟨j, hj⟩ := List.getElem?_of_mem hy
    exact hall j y hj
  have hsm := SX.small _ x (Nat.le_refl _) hx2
  have hto := (SameS.spec _ x (Nat.le_refl _) hsm k (h.2 i x k hx hk)).1
  exact ⟨SX.small _ k (Nat.le_refl _) (by omega), by omega⟩
theorem flatGoodP {p : PX} (h : p.tot ≤ 1048576) : ∀ (i : Nat) (t : LX), p.tasks[i]? = some t → ∀ us, SameL (SX.flatAll t.l) us → us.length ≤ 1048576 ∧ ∀ (i : Nat) (k : SX), us[i]? = some k → SmallS k ∧ k.tot ≤ 1048576 := by
  intro i t ht us hus
  have h1 := sumOf_get LX.tot ht
  unfold PX.tot at h
  exact flatGood (by omega) us hus
theorem usesL_copy {t u : LX} (h : LX.Same t u) : usesL (SX.withinAll u.l 0) = usesL (SX.withinAll t.l 0) := by
  have h1 : SameL t.l u.l := ⟨h.len, h.kid⟩
  have h2 := flatSame _ t.l u.l (Nat.le_refl _) h1
  rw [usesL_same h2, ← SX.withinAll_flat u.l 0]
  unfold usesL
  rw [List.flatMap_map]
theorem wrongI_same {p q : PX} (hv : q.vars = p.vars) (hc : q.chans = p.chans) (hn : q.locks = p.locks) (task : Int) (u : UX) : q.wrongI task u = p.wrongI task u := by
  have h1 : q.placeI u = p.placeI u := by
    unfold PX.placeI PX.arrB
    rw [hv, hc, hn]
  unfold PX.wrongI
  rw [h1]
  unfold PX.mayB
  rw [hv]
theorem badU_same {p q : PX} (hv : q.vars = p.vars) (hc : q.chans = p.chans) (hn : q.locks = p.locks) (task : Int) (us : List UX) : badU q task us = badU p task us := by
  induction us with
  | nil => rfl
  | cons x xs ih => simp only [badU]; rw [wrongI_same hv hc hn, ih]
theorem badT_same {p q : PX} (hv : q.vars = p.vars) (hc : q.chans = p.chans) (hn : q.locks = p.locks) : ∀ (ts us : List LX) (k : Nat), us.length = ts.length → (∀ (i : Nat) (x y : LX), ts[i]? = some x → us[i]? = some y → LX.Same x y) → badT q k us = badT p k ts
  | [], [], _, _, _ => rfl
  | [], _ :: _, _, h, _ => by simp at h
  | _ :: _, [], _, h, _ => by simp at h
  | x :: xs, y :: ys, k, h, hS => by
    simp only [badT]
    rw [usesL_copy (hS 0 x y rfl rfl), badU_same hv hc hn, badT_same hv hc hn xs ys (k + 1) (by simpa using h) (fun i a b ha hb => hS (i + 1) a b (by simpa using ha) (by simpa using hb))]
theorem names_same {p q : PX} (hm : p.Small) (h : PX.Same p q) : q.namesI = p.namesI := by
  have h1 := (PX.same_ok hm h).1
  have h2 : q.allN = p.allN := by unfold PX.allN; rw [h.v, h.c, h.n]
  unfold PX.namesI
  rw [h1, h2, h.v, h.n, badT_same h.v h.c h.n p.tasks q.tasks 0 h.tl h.t]
end Go.Proofs.YtaajdoipjalgmaaGreatDoor
