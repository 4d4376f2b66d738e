/-
  A pointer that is none of a list is not found in it.
  An expression that lies in memory as a tree does not hold itself: the program's look for it says no.
  A statement that lies in memory as a tree does not hold itself: the program's look for it says no.
  A walk through a list of statements that lies in memory as a tree, and through its expressions, comes to an end: the program says so.
-/
import Derived.Test.YtimfdfeleoaehaaHoldA
import Derived.Test.YtimfdfeleoaehaaStmtC
import Derived.LaidEql
import Derived.Test.YtimfdfeleoaehaaOkI
import Derived.Test.YtimfdfeleoaehaaOkQ
namespace Go.Proofs.Ytimfdfeleoaehaa
open Go.RowKit Go.Shelf
set_option linter.unusedSimpArgs false
set_option linter.unusedVariables false
attribute [local go_sem] Oper.semAt_some

theorem ptrEqIn {P : Program} {T e : TypeId} {i : TypeInfo} (w : World) (d : Nat) (hu : P.underlying T = some (.pointer e)) (hi : P.info? e = some i) (hs : i.size ≠ 0) {a b : Addr} (hne : a ≠ b) (ha : Pl w a.block) (hb : Pl w b.block) :
    (Op.equalIn (d + 1) T (.pointer (some a)) (.pointer (some b))).run P w = .ok false w := by
  obtain ⟨ca, ta, ha⟩ := ha
  obtain ⟨cb, tb, hb⟩ := hb
  simp [Op.equalIn, run_underlying hu, sizeOf, typeInfo, hi, hs, run_sameAddr_other w hne ha hb]
theorem ptrEq {P : Program} {T e : TypeId} {i : TypeInfo} (w : World) (hu : P.underlying T = some (.pointer e)) (hi : P.info? e = some i) (hs : i.size ≠ 0) {a b : Addr} (hne : a ≠ b) (ha : Pl w a.block) (hb : Pl w b.block) :
    (binOp .eql T (.pointer (some a)) (.pointer (some b))).run P w = .ok (.bool false) w := by
  simp only [binOp]
  simp [Op.equal, Op.maxDepth, ptrEqIn w 9999 hu hi hs hne ha hb]
abbrev ptrV (p : Nat × Nat) : Value := .pointer (some ⟨p.1, p.2, none⟩)
theorem infoEsz : ∃ i, Try.prog.info? 48 = some i ∧ i.size ≠ 0 := by
  obtain ⟨i0, hi, hz0, hz1, hz2⟩ := info_parts infoE
  exact ⟨i0, hi, by rw [hz1]; decide⟩
theorem infoSsz : ∃ i, Try.prog.info? 50 = some i ∧ i.size ≠ 0 := by
  obtain ⟨i0, hi, hz0, hz1, hz2⟩ := info_parts infoS
  exact ⟨i0, hi, by rw [hz1]; decide⟩
theorem own_ptrs {w : World} {N : Nat} {T : TypeId} {v : Value} {ps : List (Nat × Nat)} (h : w.ownsRow N T 1 v ps.length (ps.map ptrV)) :
    ∃ a c, v = .slice a ps.length c ∧ ∀ (i : Nat) (p : Nat × Nat), ps[i]? = some p → ∃ g, a = some ⟨g, 0, none⟩ ∧ w.cell? ⟨g, i, none⟩ = some (ptrV p) := by
  rcases h.2 with ⟨rfl, h0⟩ | ⟨g, cap, cur, rfl, hb, hg, _⟩
  · have : ps = [] := List.length_eq_zero_iff.1 h0
    subst this
    exact ⟨none, 0, rfl, fun i p hp => by simp at hp⟩
  · refine ⟨_, _, rfl, fun i p hp => ⟨g, rfl, ?_⟩⟩
    have h1 := h.cells (g := g) rfl i (ptrV p) (by rw [List.getElem?_map, hp]; rfl)
    have hadd : (⟨g, 0, none⟩ : Addr).add i = ⟨g, i, none⟩ := by unfold Addr.add; split <;> simp_all
    rw [hadd] at h1
    exact h1
set_option maxRecDepth 10000 in
set_option maxHeartbeats 2000000 in
theorem indexE (b o : Nat) (v : Value) (ps : List (Nat × Nat)) (N : Nat) (T : TypeId) (w : World) (hown : w.ownsRow N T 1 v ps.length (ps.map ptrV)) (hne : ∀ p ∈ ps, p ≠ (b, o)) (hpl : ∀ p ∈ ps, Pl w p.1) (hpb : Pl w b) (hlen : ps.length ≤ 4194304) :
    Calls Try.prog 84 #[v, .pointer (some ⟨b, o, none⟩)] w fun e w' => e = .returned (.int .i64 (-1)) ∧ w' = w := by
  obtain ⟨a, c, rfl, hcell⟩ := own_ptrs hown
  clear hown
  obtain ⟨i0, hi0, hz1⟩ : ∃ i, Try.prog.info? 48 = some i ∧ i.size ≠ 0 := infoEsz
  obtain ⟨n, hn⟩ : ∃ n, ps.length = n := ⟨_, rfl⟩
  rw [hn] at hlen ⊢
  go_enter Try.func84, Try.ntmps84
  go_wp2
  go_loop [8] (fun v8 => ∃ i : Nat, v8 = .int .i64 i ∧ i ≤ n) (fun v8 => n - (intOf v8).toNat)
  case atStart => exact ⟨0, rfl, by omega⟩
  case round =>
    obtain ⟨i, rfl, hi⟩ := hrel
    by_cases hlt : i < n
    · obtain ⟨p, hp⟩ : ∃ p, ps[i]? = some p := ⟨_, List.getElem?_eq_getElem (by omega)⟩
      obtain ⟨g, rfl, hc⟩ := hcell i p hp
      have hpn := hne p (List.mem_of_getElem? hp)
      obtain ⟨p1, p2⟩ := p
      have hq := ptrEq (P := Try.prog) w Try.underlying133 hi0 hz1 (a := ⟨b, o, none⟩) (b := ⟨p1, p2, none⟩) (fun h => hpn (by cases h; rfl)) hpb (hpl _ (List.mem_of_getElem? hp))
      go_wp2
      go_round
      case rel => exact ⟨i + 1, by go_num, by omega⟩
      case measure => simp [intOf]; omega
    · go_wp2
      go_returns
      exact ⟨rfl, rfl⟩
set_option maxHeartbeats 2000000 in
theorem containsE (b o : Nat) (v : Value) (ps : List (Nat × Nat)) (N : Nat) (T : TypeId) (w : World) (hown : w.ownsRow N T 1 v ps.length (ps.map ptrV)) (hne : ∀ p ∈ ps, p ≠ (b, o)) (hpl : ∀ p ∈ ps, Pl w p.1) (hpb : Pl w b) (hlen : ps.length ≤ 4194304) :
    Calls Try.prog 80 #[v, .pointer (some ⟨b, o, none⟩)] w fun e w' => e = .returned (.bool false) ∧ w' = w := by
  have H : Hid (Calls Try.prog 84 #[v, .pointer (some ⟨b, o, none⟩)] w fun e w' => e = .returned (.int .i64 (-1)) ∧ w' = w) := indexE b o v ps N T w hown hne hpl hpb hlen
  clear hown hne hpl hpb
  go_enter Try.func80, Try.ntmps80
  go_wp2_with (go_at_call 84; refine H.out.mono ?_; rintro e w5 ⟨rfl, hw⟩; subst w5)
  go_returns
  exact ⟨rfl, rfl⟩
set_option maxRecDepth 10000 in
set_option maxHeartbeats 2000000 in
theorem indexS (b o : Nat) (v : Value) (ps : List (Nat × Nat)) (N : Nat) (T : TypeId) (w : World) (hown : w.ownsRow N T 1 v ps.length (ps.map ptrV)) (hne : ∀ p ∈ ps, p ≠ (b, o)) (hpl : ∀ p ∈ ps, Pl w p.1) (hpb : Pl w b) (hlen : ps.length ≤ 4194304) :
    Calls Try.prog 63 #[v, .pointer (some ⟨b, o, none⟩)] w fun e w' => e = .returned (.int .i64 (-1)) ∧ w' = w := by
  obtain ⟨a, c, rfl, hcell⟩ := own_ptrs hown
  clear hown
  obtain ⟨i0, hi0, hz1⟩ : ∃ i, Try.prog.info? 50 = some i ∧ i.size ≠ 0 := infoSsz
  obtain ⟨n, hn⟩ : ∃ n, ps.length = n := ⟨_, rfl⟩
  rw [hn] at hlen ⊢
  go_enter Try.func63, Try.ntmps63
  go_wp2
  go_loop [8] (fun v8 => ∃ i : Nat, v8 = .int .i64 i ∧ i ≤ n) (fun v8 => n - (intOf v8).toNat)
  case atStart => exact ⟨0, rfl, by omega⟩
  case round =>
    obtain ⟨i, rfl, hi⟩ := hrel
    by_cases hlt : i < n
    · obtain ⟨p, hp⟩ : ∃ p, ps[i]? = some p := ⟨_, List.getElem?_eq_getElem (by omega)⟩
      obtain ⟨g, rfl, hc⟩ := hcell i p hp
      have hpn := hne p (List.mem_of_getElem? hp)
      obtain ⟨p1, p2⟩ := p
      have hq := ptrEq (P := Try.prog) w Try.underlying85 hi0 hz1 (a := ⟨b, o, none⟩) (b := ⟨p1, p2, none⟩) (fun h => hpn (by cases h; rfl)) hpb (hpl _ (List.mem_of_getElem? hp))
      go_wp2
      go_round
      case rel => exact ⟨i + 1, by go_num, by omega⟩
      case measure => simp [intOf]; omega
    · go_wp2
      go_returns
      exact ⟨rfl, rfl⟩
set_option maxHeartbeats 2000000 in
theorem containsS (b o : Nat) (v : Value) (ps : List (Nat × Nat)) (N : Nat) (T : TypeId) (w : World) (hown : w.ownsRow N T 1 v ps.length (ps.map ptrV)) (hne : ∀ p ∈ ps, p ≠ (b, o)) (hpl : ∀ p ∈ ps, Pl w p.1) (hpb : Pl w b) (hlen : ps.length ≤ 4194304) :
    Calls Try.prog 47 #[v, .pointer (some ⟨b, o, none⟩)] w fun e w' => e = .returned (.bool false) ∧ w' = w := by
  have H : Hid (Calls Try.prog 63 #[v, .pointer (some ⟨b, o, none⟩)] w fun e w' => e = .returned (.int .i64 (-1)) ∧ w' = w) := indexS b o v ps N T w hown hne hpl hpb hlen
  clear hown hne hpl hpb
  go_enter Try.func47, Try.ntmps47
  go_wp2_with (go_at_call 63; refine H.out.mono ?_; rintro e w5 ⟨rfl, hw⟩; subst w5)
  go_returns
  exact ⟨rfl, rfl⟩
end Go.Proofs.Ytimfdfeleoaehaa
namespace Go.Proofs.Ytimfdfeleoaehaa
open Go.RowKit Go.Shelf
set_option linter.unusedSimpArgs false
set_option linter.unusedVariables false
attribute [local go_sem] Oper.semAt_some

theorem ERow.under {ok : Nat → Prop} {n : Nat} {A B : World} {a : Option Addr} {l : List XT} (h : ERow ok A a l) (hk : Below n A B) (hs : ∀ b, ok b → b < n) : ERow ok B a l := by
  intro i k hi
  obtain ⟨b, o, h1, h2, h3⟩ := h i k hi
  exact ⟨b, o, h1, h2, h3.below hk (hs b h2)⟩
def psOf {α : Type} (xs : List (Nat × Nat × α)) : List (Nat × Nat) := xs.map (fun x => (x.1, x.2.1))
theorem psOf_snoc {α : Type} (xs : List (Nat × Nat × α)) (x : Nat × Nat × α) : psOf (xs ++ [x]) = psOf xs ++ [(x.1, x.2.1)] := by simp [psOf]
theorem kept_below {S : Nat → Prop} {A B : World} {N : Nat} (h : Kept S A B) (hN : N ≤ A.heap.size) (hs : ∀ k, S k → N ≤ k) : Below N A B := h.below hN hs
theorem cell_one_new (w : World) (v : Value) (T : TypeId) : ∀ j u, [v][j]? = some u → (w.alloc (.cells #[v] T)).cell? ((⟨w.heap.size, 0, none⟩ : Addr).add j) = some u := by
  intro j u h
  cases j with
  | zero =>
    simp at h
    subst h
    have hadd : (⟨w.heap.size, 0, none⟩ : Addr).add 0 = ⟨w.heap.size, 0, none⟩ := by unfold Addr.add; split <;> simp_all
    rw [hadd]
    exact World.cell?_alloc_new w #[v] T 0
  | succ j => simp at h
theorem listsE0 (k n : Int) (s : ByteArray) (a : Option Addr) (len c : Nat) (w : World) :
    Calls Try.prog 69 #[.agg #[.int .i64 k, .int .i64 n, .string s, .slice a len c]] w fun e w' => e = .returned (.slice (some ⟨w.heap.size + 1, 0, none⟩) 1 1) ∧
      w' = (w.alloc (.cells #[.int .i64 k, .int .i64 n, .string s, .slice a len c] 48)).alloc (.cells #[.slice a len c] 46) := by
  go_enter Try.func69, Try.ntmps69
  go_wp2
  go_returns
  exact ⟨rfl, rfl⟩
theorem infoPE : (Try.prog.info? 133).map (fun i => (i.zero, i.size, i.bytes)) = some (some (.pointer none), 1, 8) := by kernel_rfl
structure ArndE (ok : Nat → Prop) (W : World) (N : Nat) (v : Value) (xs : List (Nat × Nat × XT)) (m : Nat) : Prop where
  own : W.ownsRow N 133 1 v (psOf xs).length ((psOf xs).map ptrV)
  lie : ∀ x ∈ xs, Cells4 W x.1 x.2.1 x.2.2 ∧ Lies ok W x.2.2 ∧ ok x.1 ∧ m < x.2.2.size
set_option maxRecDepth 20000 in
set_option maxHeartbeats 8000000 in
theorem holdsE (sz : Nat) : ∀ ks : List XT, XT.sizeAll ks ≤ sz → ks.length ≤ 1099511627776 → ∀ (a : Option Addr) (c : Nat) (ok : Nat → Prop) (N : Nat) (v : Value) (xs : List (Nat × Nat × XT)) (w : World), (∀ b, ok b → b < N ∧ Pl w b) → N ≤ w.heap.size →
    ERow ok w a ks → (∀ (i : Nat) (k : XT), ks[i]? = some k → Lies ok w k) → ArndE ok w N v xs (XT.sizeAll ks) → xs.length + XT.sizeAll ks ≤ 4194304 →
    Calls Try.prog 68 #[.slice a ks.length c, .func (.func 69) #[] #[], v] w fun e w' => e = .returned (.bool false) ∧ Kept (fun k => v.ownBlock = some k) w w' ∧ w'.ownsRow N 133 1 v (psOf xs).length ((psOf xs).map ptrV) := by
  induction sz using Nat.strongRecOn with
  | _ sz ih =>
  intro ks hsz hlen a c ok N v xs w hok hN hR hL hA htot
  obtain ⟨i0, hi0, hz0, hz1, hz2⟩ := info_parts infoPE
  obtain ⟨len, hl⟩ : ∃ len, ks.length = len := ⟨_, rfl⟩
  rw [hl] at hlen ⊢
  have hxl : (psOf xs).length = xs.length := by simp [psOf]
  have hvN : ∀ g, v.ownBlock = some g → N ≤ g := fun g hg => (hA.own.lt g hg).1
  have hown0 : Hid (w.ownsRow N 133 1 v (psOf xs).length ((psOf xs).map ptrV)) := hA.own
  -- what is known of a world in which all but the list of pointers is as it was
  have facts : Hid (∀ wr : World, Kept (fun k => v.ownBlock = some k) w wr → ∀ (i : Nat) (x : XT), ks[i]? = some x → ∃ b o, a = some ⟨b, o, none⟩ ∧ ok b ∧ Cells4 wr b (o + i * 4) x ∧ Lies ok wr x ∧ (∀ b, ok b → b < N ∧ Pl wr b) ∧ (∀ y ∈ xs, Cells4 wr y.1 y.2.1 y.2.2 ∧ Lies ok wr y.2.2 ∧ ok y.1 ∧ XT.sizeAll ks < y.2.2.size) ∧ (∀ p ∈ psOf xs, p ≠ (b, o + i * 4)) ∧ (∀ p ∈ psOf xs, Pl wr p.1)) := by
    intro wr hk i x hx
    have hBN : Below N w wr := kept_below hk hN (fun k h => hvN k h)
    obtain ⟨b, o, h1, h2, h3⟩ := hR i x hx
    have hcx := h3.below hBN (hok b h2).1
    have hLx := (hL i x hx).under hBN (fun b hb => (hok b hb).1)
    have hlie : ∀ y ∈ xs, Cells4 wr y.1 y.2.1 y.2.2 ∧ Lies ok wr y.2.2 ∧ ok y.1 ∧ XT.sizeAll ks < y.2.2.size := by
      intro y hy
      obtain ⟨l1, l2, l3, l4⟩ := hA.lie y hy
      exact ⟨l1.below hBN (hok _ l3).1, l2.under hBN (fun b hb => (hok b hb).1), l3, l4⟩
    refine ⟨b, o, h1, h2, hcx, hLx, fun b hb => ⟨(hok b hb).1, (hok b hb).2.below hBN (hok b hb).1⟩, hlie, ?_, ?_⟩
    · intro p hp e
      subst e
      simp only [psOf, List.mem_map] at hp
      obtain ⟨y, hy, e⟩ := hp
      obtain ⟨l1, l2, l3, l4⟩ := hlie y hy
      obtain ⟨y1, y2, y3⟩ := y
      cases e
      have := Lies.one _ _ _ (Nat.le_refl _) (l1.heads hcx) l2 hLx
      dsimp only at this l4
      rw [this] at l4
      have h5 := XT.size_get hx
      omega
    · intro p hp
      simp only [psOf, List.mem_map] at hp
      obtain ⟨y, hy, rfl⟩ := hp
      obtain ⟨l1, l2, l3, l4⟩ := hlie y hy
      exact (hok _ l3).2.below hBN (hok _ l3).1
  have ih' : Hid (∀ m < sz, ∀ ks : List XT, XT.sizeAll ks ≤ m → ks.length ≤ 1099511627776 → ∀ (a : Option Addr) (c : Nat) (ok : Nat → Prop) (N : Nat) (v : Value) (xs : List (Nat × Nat × XT)) (w : World), (∀ b, ok b → b < N ∧ Pl w b) → N ≤ w.heap.size →
    ERow ok w a ks → (∀ (i : Nat) (k : XT), ks[i]? = some k → Lies ok w k) → ArndE ok w N v xs (XT.sizeAll ks) → xs.length + XT.sizeAll ks ≤ 4194304 →
    Calls Try.prog 68 #[.slice a ks.length c, .func (.func 69) #[] #[], v] w fun e w' => e = .returned (.bool false) ∧ Kept (fun k => v.ownBlock = some k) w w' ∧ w'.ownsRow N 133 1 v (psOf xs).length ((psOf xs).map ptrV)) := ih
  clear ih hR hL hA hok
  go_enter Try.func68, Try.ntmps68
  go_wp2_with fail
  go_loopw [13] (fun v13 wr => ∃ (i : Nat), v13 = .int .i64 i ∧ i ≤ len ∧ Kept (fun k => v.ownBlock = some k) w wr ∧ Hid (wr.ownsRow N 133 1 v (psOf xs).length ((psOf xs).map ptrV))) (fun v13 _ => len - (intOf v13).toNat)
  case atStart => exact ⟨0, rfl, by omega, Kept.refl _ _, hown0⟩
  case round =>
    obtain ⟨i, rfl, hi, hK, hown⟩ := hrel
    rename World => wo
    by_cases hlt : i < len
    · obtain ⟨x, hx⟩ : ∃ x, ks[i]? = some x := ⟨_, List.getElem?_eq_getElem (by omega)⟩
      obtain ⟨b, o, hbase, hokb, hcx, hLx, hokr, hlie, hne, hpl⟩ := facts.out wo hK i x hx
      have hct : Hid (Calls Try.prog 80 #[v, .pointer (some ⟨b, o + i * 4, none⟩)] wo fun e w' => e = .returned (.bool false) ∧ w' = wo) := containsE b (o + i * 4) v (psOf xs) N 133 wo hown.out hne hpl (hokr b hokb).2 (by omega)
      have hcx' : Hid (Cells4 wo b (o + i * 4) x) := hcx
      have hN' : N ≤ wo.heap.size := Nat.le_trans hN hK.size
      have hbN := (hokr b hokb).1
      have hss := XT.size_get hx
      have hsq := x.size_eq
      have hlt0 := x.length_le
      have hlt1 := x.length_le
      obtain ⟨c0, c1, c2, c3⟩ := hcx
      have hlieH : Hid (∀ y ∈ xs, Cells4 wo y.1 y.2.1 y.2.2 ∧ Lies ok wo y.2.2 ∧ ok y.1 ∧ XT.sizeAll ks < y.2.2.size) := hlie
      have hokH : Hid (∀ b, ok b → b < N ∧ Pl wo b) := hokr
      have hLH : Hid (Lies ok wo x) := hLx
      clear hlie hne hpl hokr hLx
      subst hbase
      obtain ⟨W2, hW2⟩ : ∃ W2, (wo.alloc (.cells #[.int .i64 x.kind, .int .i64 x.num, .string x.name, .slice x.base x.kids.length x.cap] 48)).alloc (.cells #[.slice x.base x.kids.length x.cap] 46) = W2 := ⟨_, rfl⟩
      have hB2 : Below wo.heap.size wo W2 := by rw [← hW2]; exact ((Below.refl _ wo).alloc (Nat.le_refl _) _).alloc (by simp) _
      have hs2 : W2.heap.size = wo.heap.size + 2 := by rw [← hW2]; simp
      have hl0 : W2.cell? ⟨wo.heap.size + 1, 0, none⟩ = some (.slice x.base x.kids.length x.cap) := by
        have h1 := World.cell?_alloc_new (wo.alloc (.cells #[.int .i64 x.kind, .int .i64 x.num, .string x.name, .slice x.base x.kids.length x.cap] 48)) #[.slice x.base x.kids.length x.cap] 46 0
        rw [World.size_alloc, hW2] at h1
        exact h1
      have hl1 : True := trivial
      go_wp2_with (first | (go_at_call 80; refine hct.out.mono ?_; rintro e w5 ⟨rfl, hw⟩; subst w5) | (go_at_call 69; refine (listsE0 _ _ _ _ _ _ _).mono ?_; rintro e w6 ⟨rfl, hw⟩; subst w6))
      clear c0 c1 c2 c3 hW2
      have hK2 : Kept (fun k => v.ownBlock = some k) w W2 := hK.trans (Kept.of_new _ hB2)
      have hown2 : Hid (W2.ownsRow N 133 1 v (psOf xs).length ((psOf xs).map ptrV)) := own_on hown.out (fun g hg => hB2.block g (hown.out.lt g hg).2)
      have hgw : ∀ g, v.ownBlock = some g → g < wo.heap.size := fun g hg => (hown.out.lt g hg).2
      go_loopw [28] (fun v28 wr => ∃ (j : Nat), v28 = .int .i64 j ∧ j ≤ 1 ∧ Kept (fun k => v.ownBlock = some k) W2 wr ∧ Hid (wr.ownsRow N 133 1 v (psOf xs).length ((psOf xs).map ptrV))) (fun v28 _ => 1 - (intOf v28).toNat)
      case atStart => exact ⟨0, rfl, by omega, Kept.refl _ _, hown2⟩
      case round =>
        obtain ⟨j, rfl, hj, hKj, hownj⟩ := hrel
        have hzj := hKj.size
        by_cases hjl : j < 1
        · have step : Hid (∀ (la : List XT) (ba : Option Addr) (ca : Nat), XT.sizeAll la < x.size → la.length ≤ 1099511627776 → (∀ W, Lies ok W x → ERow ok W ba la ∧ ∀ (i : Nat) (k : XT), la[i]? = some k → Lies ok W k) → ∀ (v' : Value) (w2 : World), w2.ownsRow N 133 1 v' ((psOf xs).length + 1) ((psOf xs).map ptrV ++ [ptrV (b, o + i * 4)]) → Kept (fun k => v.ownBlock = some k ∨ v'.ownBlock = some k) wo w2 → (∀ g, v'.ownBlock = some g → N ≤ g) →
              Calls Try.prog 68 #[.slice ba la.length ca, .func (.func 69) #[] #[], v'] w2 fun e w' => e = .returned (.bool false) ∧ Kept (fun k => v'.ownBlock = some k) w2 w' ∧ w'.ownsRow N 133 1 v' ((psOf xs).length + 1) ((psOf xs).map ptrV ++ [ptrV (b, o + i * 4)])) := by
            intro la ba ca hsl hll hrow v' w2 ho2 hk2 hv'
            have hBN : Below N wo w2 := kept_below hk2 hN' (fun k h => h.elim (fun h => hvN k h) (fun h => hv' k h))
            obtain ⟨r1, r2⟩ := hrow w2 (hLH.out.under hBN (fun b hb => (hokH.out b hb).1))
            have hp : (psOf (xs ++ [(b, o + i * 4, x)])) = psOf xs ++ [(b, o + i * 4)] := psOf_snoc xs _
            have hq := ih'.out (XT.sizeAll la) (by omega) la (Nat.le_refl _) hll ba ca ok N v' (xs ++ [(b, o + i * 4, x)]) w2 (fun b hb => ⟨(hokH.out b hb).1, (hokH.out b hb).2.below hBN (hokH.out b hb).1⟩) (Nat.le_trans hN' hk2.size) r1 r2 ⟨by rw [hp]; simpa using ho2, ?_⟩ (by simp; omega)
            · rw [hp] at hq
              simpa using hq
            · intro y hy
              rcases List.mem_append.1 hy with hy | hy
              · obtain ⟨l1, l2, l3, l4⟩ := hlieH.out y hy
                exact ⟨l1.below hBN (hokH.out _ l3).1, l2.under hBN (fun b hb => (hokH.out b hb).1), l3, by omega⟩
              · simp only [List.mem_singleton] at hy
                subst hy
                exact ⟨hcx'.out.below hBN hbN, hLH.out.under hBN (fun b hb => (hokH.out b hb).1), hokb, hsl⟩
          have hVN : ∀ g, (∀ (v' : Value) (w2 : World), w2.ownsRow N 133 1 v' ((psOf xs).length + 1) ((psOf xs).map ptrV ++ [ptrV (b, o + i * 4)]) → v'.ownBlock = some g → N ≤ g) := fun g v' w2 h hg => (h.lt g hg).1
          obtain rfl : j = 0 := by omega
          have d0 := hKj.cell hl0 (fun h => by have := hgw _ h; dsimp only at this; omega)
          have howna : Hid ((wr.alloc (.cells #[ptrV (b, o + i * 4)] 133)).ownsRow N 133 1 v (psOf xs).length ((psOf xs).map ptrV)) := own_on hownj.out (fun g hg => Below.heap_alloc _ _ _ ((hownj.out.lt g hg).2))
          go_wp2_with (at_builtin; refine wpList_append_back _ rfl _ _ 132 rfl N 133 i0 _ 1 8 Try.underlying132 hi0 hz0 hz1 hz2 rfl (by decide) v (psOf xs).length ((psOf xs).map ptrV) rfl howna.out ⟨wr.heap.size, 0, none⟩ 1 1 [ptrV (b, o + i * 4)] rfl rfl (cell_one_new _ _ _) (by simp [Value.oneCell']) (by unfold maxLen; omega) (by omega) (by rw [World.size_alloc]; omega) (by omega) ?_; intro v' w2 hown' hback)
          go_at_call 68
          refine (step.out x.kids x.base x.cap (by omega) (by omega) (fun W h => ⟨h.cells, h.kid⟩) v' w2 hown' ?k2 (fun g hg => (hown'.lt g hg).1)).mono ?_
          case k2 => exact ((Kept.of_new _ hB2).trans (hKj.mono (fun k _ h => .inl h))).trans (((Kept.refl _ wr).alloc _).trans hback.kept)
          rintro e w3 ⟨rfl, hk3, ho3⟩
          obtain ⟨hk4, ho4⟩ := hback.on howna.out hk3 ho3
          clear hown' hback hk3 ho3
          go_wp2
          exact ⟨⟨0 + 1, by go_num, by omega, (hKj.alloc _).trans hk4, ho4⟩, by simp [intOf]⟩
        · go_wp2_with fail
          all_goals first | (exfalso; omega) | skip
          refine ⟨⟨i + 1, by go_num, by omega, hK2.trans hKj, hownj⟩, ?_⟩
          simp [intOf]
          omega
    · go_wp2_with fail
      go_returns
      exact ⟨rfl, hK, hown⟩
end Go.Proofs.Ytimfdfeleoaehaa
namespace Go.Proofs.Ytimfdfeleoaehaa
open Go.RowKit Go.Shelf
set_option linter.unusedSimpArgs false
set_option linter.unusedVariables false
attribute [local go_sem] Oper.semAt_some

theorem infoPS : (Try.prog.info? 85).map (fun i => (i.zero, i.size, i.bytes)) = some (some (.pointer none), 1, 8) := by kernel_rfl
structure ArndS (ok : Nat → Prop) (W : World) (N : Nat) (v : Value) (xs : List (Nat × Nat × SX)) (m : Nat) : Prop where
  own : W.ownsRow N 85 1 v (psOf xs).length ((psOf xs).map ptrV)
  lie : ∀ x ∈ xs, Cells12 W x.1 x.2.1 x.2.2 ∧ LiesS ok W x.2.2 ∧ ok x.1 ∧ m < x.2.2.size
set_option maxRecDepth 20000 in
set_option maxHeartbeats 8000000 in
theorem holdsS (sz : Nat) : ∀ ks : List SX, SX.sizeAll ks ≤ sz → ks.length ≤ 1099511627776 → ∀ (a : Option Addr) (c : Nat) (ok : Nat → Prop) (N : Nat) (v : Value) (xs : List (Nat × Nat × SX)) (w : World), (∀ b, ok b → b < N ∧ Pl w b) → N ≤ w.heap.size →
    SRow ok w a ks → (∀ (i : Nat) (k : SX), ks[i]? = some k → LiesS ok w k) → ArndS ok w N v xs (SX.sizeAll ks) → xs.length + SX.sizeAll ks ≤ 4194304 →
    Calls Try.prog 24 #[.slice a ks.length c, .func (.func 66) #[] #[], v] w fun e w' => e = .returned (.bool false) ∧ Kept (fun k => v.ownBlock = some k) w w' ∧ w'.ownsRow N 85 1 v (psOf xs).length ((psOf xs).map ptrV) := by
  induction sz using Nat.strongRecOn with
  | _ sz ih =>
  intro ks hsz hlen a c ok N v xs w hok hN hR hL hA htot
  obtain ⟨i0, hi0, hz0, hz1, hz2⟩ := info_parts infoPS
  obtain ⟨len, hl⟩ : ∃ len, ks.length = len := ⟨_, rfl⟩
  rw [hl] at hlen ⊢
  have hxl : (psOf xs).length = xs.length := by simp [psOf]
  have hvN : ∀ g, v.ownBlock = some g → N ≤ g := fun g hg => (hA.own.lt g hg).1
  have hown0 : Hid (w.ownsRow N 85 1 v (psOf xs).length ((psOf xs).map ptrV)) := hA.own
  -- what is known of a world in which all but the list of pointers is as it was
  have facts : Hid (∀ wr : World, Kept (fun k => v.ownBlock = some k) w wr → ∀ (i : Nat) (x : SX), ks[i]? = some x → ∃ b o, a = some ⟨b, o, none⟩ ∧ ok b ∧ Cells12 wr b (o + i * 12) x ∧ LiesS ok wr x ∧ (∀ b, ok b → b < N ∧ Pl wr b) ∧ (∀ y ∈ xs, Cells12 wr y.1 y.2.1 y.2.2 ∧ LiesS ok wr y.2.2 ∧ ok y.1 ∧ SX.sizeAll ks < y.2.2.size) ∧ (∀ p ∈ psOf xs, p ≠ (b, o + i * 12)) ∧ (∀ p ∈ psOf xs, Pl wr p.1)) := by
    intro wr hk i x hx
    have hBN : Below N w wr := kept_below hk hN (fun k h => hvN k h)
    obtain ⟨b, o, h1, h2, h3⟩ := hR i x hx
    have hcx := h3.below hBN (hok b h2).1
    have hLx := (hL i x hx).under hBN (fun b hb => (hok b hb).1)
    have hlie : ∀ y ∈ xs, Cells12 wr y.1 y.2.1 y.2.2 ∧ LiesS ok wr y.2.2 ∧ ok y.1 ∧ SX.sizeAll ks < y.2.2.size := by
      intro y hy
      obtain ⟨l1, l2, l3, l4⟩ := hA.lie y hy
      exact ⟨l1.below hBN (hok _ l3).1, l2.under hBN (fun b hb => (hok b hb).1), l3, l4⟩
    refine ⟨b, o, h1, h2, hcx, hLx, fun b hb => ⟨(hok b hb).1, (hok b hb).2.below hBN (hok b hb).1⟩, hlie, ?_, ?_⟩
    · intro p hp e
      subst e
      simp only [psOf, List.mem_map] at hp
      obtain ⟨y, hy, e⟩ := hp
      obtain ⟨l1, l2, l3, l4⟩ := hlie y hy
      obtain ⟨y1, y2, y3⟩ := y
      cases e
      have := LiesS.one _ _ _ (Nat.le_refl _) ⟨_, _, l1, hcx⟩ l2 hLx
      dsimp only at this l4
      rw [this] at l4
      have h5 := SX.size_get hx
      omega
    · intro p hp
      simp only [psOf, List.mem_map] at hp
      obtain ⟨y, hy, rfl⟩ := hp
      obtain ⟨l1, l2, l3, l4⟩ := hlie y hy
      exact (hok _ l3).2.below hBN (hok _ l3).1
  have ih' : Hid (∀ m < sz, ∀ ks : List SX, SX.sizeAll ks ≤ m → ks.length ≤ 1099511627776 → ∀ (a : Option Addr) (c : Nat) (ok : Nat → Prop) (N : Nat) (v : Value) (xs : List (Nat × Nat × SX)) (w : World), (∀ b, ok b → b < N ∧ Pl w b) → N ≤ w.heap.size →
    SRow ok w a ks → (∀ (i : Nat) (k : SX), ks[i]? = some k → LiesS ok w k) → ArndS ok w N v xs (SX.sizeAll ks) → xs.length + SX.sizeAll ks ≤ 4194304 →
    Calls Try.prog 24 #[.slice a ks.length c, .func (.func 66) #[] #[], v] w fun e w' => e = .returned (.bool false) ∧ Kept (fun k => v.ownBlock = some k) w w' ∧ w'.ownsRow N 85 1 v (psOf xs).length ((psOf xs).map ptrV)) := ih
  clear ih hR hL hA hok
  go_enter Try.func24, Try.ntmps24
  go_wp2_with fail
  go_loopw [13] (fun v13 wr => ∃ (i : Nat), v13 = .int .i64 i ∧ i ≤ len ∧ Kept (fun k => v.ownBlock = some k) w wr ∧ Hid (wr.ownsRow N 85 1 v (psOf xs).length ((psOf xs).map ptrV))) (fun v13 _ => len - (intOf v13).toNat)
  case atStart => exact ⟨0, rfl, by omega, Kept.refl _ _, hown0⟩
  case round =>
    obtain ⟨i, rfl, hi, hK, hown⟩ := hrel
    rename World => wo
    by_cases hlt : i < len
    · obtain ⟨x, hx⟩ : ∃ x, ks[i]? = some x := ⟨_, List.getElem?_eq_getElem (by omega)⟩
      obtain ⟨b, o, hbase, hokb, hcx, hLx, hokr, hlie, hne, hpl⟩ := facts.out wo hK i x hx
      have hct : Hid (Calls Try.prog 47 #[v, .pointer (some ⟨b, o + i * 12, none⟩)] wo fun e w' => e = .returned (.bool false) ∧ w' = wo) := containsS b (o + i * 12) v (psOf xs) N 85 wo hown.out hne hpl (hokr b hokb).2 (by omega)
      have hcx' : Hid (Cells12 wo b (o + i * 12) x) := hcx
      have hN' : N ≤ wo.heap.size := Nat.le_trans hN hK.size
      have hbN := (hokr b hokb).1
      have hss := SX.size_get hx
      have hsq := x.size_eq
      have hlt0 := SX.length_le x.la
      have hlt1 := SX.length_le x.lb
      obtain ⟨c0, c1, c2, c3, c4, c5, c6, c7, c8, c9, c10, c11⟩ := hcx
      have hlieH : Hid (∀ y ∈ xs, Cells12 wo y.1 y.2.1 y.2.2 ∧ LiesS ok wo y.2.2 ∧ ok y.1 ∧ SX.sizeAll ks < y.2.2.size) := hlie
      have hokH : Hid (∀ b, ok b → b < N ∧ Pl wo b) := hokr
      have hLH : Hid (LiesS ok wo x) := hLx
      clear hlie hne hpl hokr hLx
      subst hbase
      obtain ⟨W2, hW2⟩ : ∃ W2, (wo.alloc (.cells #[.int .i64 x.kind, .string x.name, .int .i64 x.e.kind, .int .i64 x.e.num, .string x.e.name, .slice x.e.base x.e.kids.length x.e.cap, .int .i64 x.f.kind, .int .i64 x.f.num, .string x.f.name, .slice x.f.base x.f.kids.length x.f.cap, .slice x.abase x.la.length x.acap, .slice x.bbase x.lb.length x.bcap] 50)).alloc (.cells #[.slice x.abase x.la.length x.acap, .slice x.bbase x.lb.length x.bcap] 26) = W2 := ⟨_, rfl⟩
      have hB2 : Below wo.heap.size wo W2 := by rw [← hW2]; exact ((Below.refl _ wo).alloc (Nat.le_refl _) _).alloc (by simp) _
      have hs2 : W2.heap.size = wo.heap.size + 2 := by rw [← hW2]; simp
      have hl0 : W2.cell? ⟨wo.heap.size + 1, 0, none⟩ = some (.slice x.abase x.la.length x.acap) := by
        have h1 := World.cell?_alloc_new (wo.alloc (.cells #[.int .i64 x.kind, .string x.name, .int .i64 x.e.kind, .int .i64 x.e.num, .string x.e.name, .slice x.e.base x.e.kids.length x.e.cap, .int .i64 x.f.kind, .int .i64 x.f.num, .string x.f.name, .slice x.f.base x.f.kids.length x.f.cap, .slice x.abase x.la.length x.acap, .slice x.bbase x.lb.length x.bcap] 50)) #[.slice x.abase x.la.length x.acap, .slice x.bbase x.lb.length x.bcap] 26 0
        rw [World.size_alloc, hW2] at h1
        exact h1
      have hl1 : W2.cell? ⟨wo.heap.size + 1, 1, none⟩ = some (.slice x.bbase x.lb.length x.bcap) := by
        have h1 := World.cell?_alloc_new (wo.alloc (.cells #[.int .i64 x.kind, .string x.name, .int .i64 x.e.kind, .int .i64 x.e.num, .string x.e.name, .slice x.e.base x.e.kids.length x.e.cap, .int .i64 x.f.kind, .int .i64 x.f.num, .string x.f.name, .slice x.f.base x.f.kids.length x.f.cap, .slice x.abase x.la.length x.acap, .slice x.bbase x.lb.length x.bcap] 50)) #[.slice x.abase x.la.length x.acap, .slice x.bbase x.lb.length x.bcap] 26 1
        rw [World.size_alloc, hW2] at h1
        exact h1
      go_wp2_with (first | (go_at_call 47; refine hct.out.mono ?_; rintro e w5 ⟨rfl, hw⟩; subst w5) | (go_at_call 66; refine (listsS0 _ _ _ _ _ _ _ _ _ _ _ _ _ _ _ _ _ _ _ _ _).mono ?_; rintro e w6 ⟨rfl, hw⟩; subst w6))
      clear c0 c1 c2 c3 c4 c5 c6 c7 c8 c9 c10 c11 hW2
      have hK2 : Kept (fun k => v.ownBlock = some k) w W2 := hK.trans (Kept.of_new _ hB2)
      have hown2 : Hid (W2.ownsRow N 85 1 v (psOf xs).length ((psOf xs).map ptrV)) := own_on hown.out (fun g hg => hB2.block g (hown.out.lt g hg).2)
      have hgw : ∀ g, v.ownBlock = some g → g < wo.heap.size := fun g hg => (hown.out.lt g hg).2
      go_loopw [28] (fun v28 wr => ∃ (j : Nat), v28 = .int .i64 j ∧ j ≤ 2 ∧ Kept (fun k => v.ownBlock = some k) W2 wr ∧ Hid (wr.ownsRow N 85 1 v (psOf xs).length ((psOf xs).map ptrV))) (fun v28 _ => 2 - (intOf v28).toNat)
      case atStart => exact ⟨0, rfl, by omega, Kept.refl _ _, hown2⟩
      case round =>
        obtain ⟨j, rfl, hj, hKj, hownj⟩ := hrel
        have hzj := hKj.size
        by_cases hjl : j < 2
        · have step : Hid (∀ (la : List SX) (ba : Option Addr) (ca : Nat), SX.sizeAll la < x.size → la.length ≤ 1099511627776 → (∀ W, LiesS ok W x → SRow ok W ba la ∧ ∀ (i : Nat) (k : SX), la[i]? = some k → LiesS ok W k) → ∀ (v' : Value) (w2 : World), w2.ownsRow N 85 1 v' ((psOf xs).length + 1) ((psOf xs).map ptrV ++ [ptrV (b, o + i * 12)]) → Kept (fun k => v.ownBlock = some k ∨ v'.ownBlock = some k) wo w2 → (∀ g, v'.ownBlock = some g → N ≤ g) →
              Calls Try.prog 24 #[.slice ba la.length ca, .func (.func 66) #[] #[], v'] w2 fun e w' => e = .returned (.bool false) ∧ Kept (fun k => v'.ownBlock = some k) w2 w' ∧ w'.ownsRow N 85 1 v' ((psOf xs).length + 1) ((psOf xs).map ptrV ++ [ptrV (b, o + i * 12)])) := by
            intro la ba ca hsl hll hrow v' w2 ho2 hk2 hv'
            have hBN : Below N wo w2 := kept_below hk2 hN' (fun k h => h.elim (fun h => hvN k h) (fun h => hv' k h))
            obtain ⟨r1, r2⟩ := hrow w2 (hLH.out.under hBN (fun b hb => (hokH.out b hb).1))
            have hp : (psOf (xs ++ [(b, o + i * 12, x)])) = psOf xs ++ [(b, o + i * 12)] := psOf_snoc xs _
            have hq := ih'.out (SX.sizeAll la) (by omega) la (Nat.le_refl _) hll ba ca ok N v' (xs ++ [(b, o + i * 12, x)]) w2 (fun b hb => ⟨(hokH.out b hb).1, (hokH.out b hb).2.below hBN (hokH.out b hb).1⟩) (Nat.le_trans hN' hk2.size) r1 r2 ⟨by rw [hp]; simpa using ho2, ?_⟩ (by simp; omega)
            · rw [hp] at hq
              simpa using hq
            · intro y hy
              rcases List.mem_append.1 hy with hy | hy
              · obtain ⟨l1, l2, l3, l4⟩ := hlieH.out y hy
                exact ⟨l1.below hBN (hokH.out _ l3).1, l2.under hBN (fun b hb => (hokH.out b hb).1), l3, by omega⟩
              · simp only [List.mem_singleton] at hy
                subst hy
                exact ⟨hcx'.out.below hBN hbN, hLH.out.under hBN (fun b hb => (hokH.out b hb).1), hokb, hsl⟩
          have hVN : ∀ g, (∀ (v' : Value) (w2 : World), w2.ownsRow N 85 1 v' ((psOf xs).length + 1) ((psOf xs).map ptrV ++ [ptrV (b, o + i * 12)]) → v'.ownBlock = some g → N ≤ g) := fun g v' w2 h hg => (h.lt g hg).1
          rcases (show j = 0 ∨ j = 1 by omega) with rfl | rfl
          · skip
            have d0 := hKj.cell hl0 (fun h => by have := hgw _ h; dsimp only at this; omega)
            have howna : Hid ((wr.alloc (.cells #[ptrV (b, o + i * 12)] 85)).ownsRow N 85 1 v (psOf xs).length ((psOf xs).map ptrV)) := own_on hownj.out (fun g hg => Below.heap_alloc _ _ _ ((hownj.out.lt g hg).2))
            go_wp2_with (at_builtin; refine wpList_append_back _ rfl _ _ 84 rfl N 85 i0 _ 1 8 Try.underlying84 hi0 hz0 hz1 hz2 rfl (by decide) v (psOf xs).length ((psOf xs).map ptrV) rfl howna.out ⟨wr.heap.size, 0, none⟩ 1 1 [ptrV (b, o + i * 12)] rfl rfl (cell_one_new _ _ _) (by simp [Value.oneCell']) (by unfold maxLen; omega) (by omega) (by rw [World.size_alloc]; omega) (by omega) ?_; intro v' w2 hown' hback)
            go_at_call 24
            refine (step.out x.la x.abase x.acap (by omega) (by omega) (fun W h => ⟨h.parts.2.2.1, h.parts.2.2.2.2.1⟩) v' w2 hown' ?k2 (fun g hg => (hown'.lt g hg).1)).mono ?_
            case k2 => exact ((Kept.of_new _ hB2).trans (hKj.mono (fun k _ h => .inl h))).trans (((Kept.refl _ wr).alloc _).trans hback.kept)
            rintro e w3 ⟨rfl, hk3, ho3⟩
            obtain ⟨hk4, ho4⟩ := hback.on howna.out hk3 ho3
            clear hown' hback hk3 ho3
            go_wp2
            exact ⟨⟨0 + 1, by go_num, by omega, (hKj.alloc _).trans hk4, ho4⟩, by simp [intOf]⟩
          · skip
            have d0 := hKj.cell hl1 (fun h => by have := hgw _ h; dsimp only at this; omega)
            have howna : Hid ((wr.alloc (.cells #[ptrV (b, o + i * 12)] 85)).ownsRow N 85 1 v (psOf xs).length ((psOf xs).map ptrV)) := own_on hownj.out (fun g hg => Below.heap_alloc _ _ _ ((hownj.out.lt g hg).2))
            go_wp2_with (at_builtin; refine wpList_append_back _ rfl _ _ 84 rfl N 85 i0 _ 1 8 Try.underlying84 hi0 hz0 hz1 hz2 rfl (by decide) v (psOf xs).length ((psOf xs).map ptrV) rfl howna.out ⟨wr.heap.size, 0, none⟩ 1 1 [ptrV (b, o + i * 12)] rfl rfl (cell_one_new _ _ _) (by simp [Value.oneCell']) (by unfold maxLen; omega) (by omega) (by rw [World.size_alloc]; omega) (by omega) ?_; intro v' w2 hown' hback)
            go_at_call 24
            refine (step.out x.lb x.bbase x.bcap (by omega) (by omega) (fun W h => ⟨h.parts.2.2.2.1, h.parts.2.2.2.2.2⟩) v' w2 hown' ?k2 (fun g hg => (hown'.lt g hg).1)).mono ?_
            case k2 => exact ((Kept.of_new _ hB2).trans (hKj.mono (fun k _ h => .inl h))).trans (((Kept.refl _ wr).alloc _).trans hback.kept)
            rintro e w3 ⟨rfl, hk3, ho3⟩
            obtain ⟨hk4, ho4⟩ := hback.on howna.out hk3 ho3
            clear hown' hback hk3 ho3
            go_wp2
            exact ⟨⟨1 + 1, by go_num, by omega, (hKj.alloc _).trans hk4, ho4⟩, by simp [intOf]⟩
        · go_wp2_with fail
          all_goals first | (exfalso; omega) | skip
          refine ⟨⟨i + 1, by go_num, by omega, hK2.trans hKj, hownj⟩, ?_⟩
          simp [intOf]
          omega
    · go_wp2_with fail
      go_returns
      exact ⟨rfl, hK, hown⟩
end Go.Proofs.Ytimfdfeleoaehaa
namespace Go.Proofs.Ytimfdfeleoaehaa
open Go.RowKit Go.Shelf
set_option linter.unusedSimpArgs false
set_option linter.unusedVariables false
attribute [local go_sem] Oper.semAt_some

theorem kept_none {A B : World} (h : Kept (fun k => (Value.slice none 0 0).ownBlock = some k) A B) : Below A.heap.size A B := h.below (Nat.le_refl _) (fun k e => by simp [Value.ownBlock] at e)
theorem holdsS0 (ks : List SX) (hsz : SX.sizeAll ks ≤ 2097152) (a : Option Addr) (c : Nat) (ok : Nat → Prop) (w : World) (hok : ∀ b, ok b → b < w.heap.size ∧ Pl w b) (hR : SRow ok w a ks) (hL : ∀ (i : Nat) (k : SX), ks[i]? = some k → LiesS ok w k) (x : World) (hx : Below w.heap.size w x) :
    Calls Try.prog 24 #[.slice a ks.length c, .func (.func 66) #[] #[], .slice none 0 0] x fun e w' => e = .returned (.bool false) ∧ Below x.heap.size x w' := by
  have hlen := SX.length_le ks
  have h := holdsS _ ks (Nat.le_refl _) (by omega) a c ok w.heap.size (.slice none 0 0) [] x (fun b hb => ⟨(hok b hb).1, (hok b hb).2.below hx (hok b hb).1⟩) hx.size (hR.under hx (fun b hb => (hok b hb).1)) (fun i k hk => (hL i k hk).under hx (fun b hb => (hok b hb).1)) ⟨World.ownsRow_nil _ _ _ _, fun y hy => by simp at hy⟩ (by simp; omega)
  exact h.mono fun e w' ⟨h1, h2, _⟩ => ⟨h1, kept_none h2⟩
theorem holdsE0 (ks : List XT) (hsz : XT.sizeAll ks ≤ 2097152) (hlen : ks.length ≤ 2097152) (a : Option Addr) (c : Nat) (ok : Nat → Prop) (w : World) (hok : ∀ b, ok b → b < w.heap.size ∧ Pl w b) (hR : ERow ok w a ks) (hL : ∀ (i : Nat) (k : XT), ks[i]? = some k → Lies ok w k) (x : World) (hx : Below w.heap.size w x) :
    Calls Try.prog 68 #[.slice a ks.length c, .func (.func 69) #[] #[], .slice none 0 0] x fun e w' => e = .returned (.bool false) ∧ Below x.heap.size x w' := by
  have h := holdsE _ ks (Nat.le_refl _) (by omega) a c ok w.heap.size (.slice none 0 0) [] x (fun b hb => ⟨(hok b hb).1, (hok b hb).2.below hx (hok b hb).1⟩) hx.size (hR.under hx (fun b hb => (hok b hb).1)) (fun i k hk => (hL i k hk).under hx (fun b hb => (hok b hb).1)) ⟨World.ownsRow_nil _ _ _ _, fun y hy => by simp at hy⟩ (by simp; omega)
  exact h.mono fun e w' ⟨h1, h2, _⟩ => ⟨h1, kept_none h2⟩
set_option maxRecDepth 100000 in
set_option maxHeartbeats 2000000 in
theorem ends (ks : List SX) (hsz : SX.sizeAll ks ≤ 2097152) (hsm : ∀ (i : Nat) (k : SX), ks[i]? = some k → SmallS k) (a : Option Addr) (c : Nat) (ok : Nat → Prop) (w : World) (hok : ∀ b, ok b → b < w.heap.size ∧ Pl w b) (hR : SRow ok w a ks) (hL : ∀ (i : Nat) (k : SX), ks[i]? = some k → LiesS ok w k) :
    Calls Try.prog 51 #[.slice a ks.length c] w fun e w' => e = .returned (.bool true) ∧ Below w.heap.size w w' := by
  have hok' : ∀ b, ok b → b < w.heap.size := fun b hb => (hok b hb).1
  have hLW : ∀ x ∈ SX.withinAll ks 0, LiesS ok w x.2 := SX.within_all (fun s => LiesS ok w s) (fun s hs => ⟨hs.parts.2.2.2.2.1, hs.parts.2.2.2.2.2⟩) _ ks (Nat.le_refl _) hL 0
  have hSW : ∀ x ∈ SX.withinAll ks 0, SmallS x.2 := SX.within_all SmallS (fun s hs => ⟨hs.parts.2.2.2.2.1, hs.parts.2.2.2.2.2⟩) _ ks (Nat.le_refl _) hsm 0
  have HS := holdsS0 ks hsz a c ok w hok hR hL
  have HE : ∀ y ∈ SX.withinAll ks 0, ∀ x, Below w.heap.size w x → Calls Try.prog 68 #[.slice y.2.e.base y.2.e.kids.length y.2.e.cap, .func (.func 69) #[] #[], .slice none 0 0] x fun e w' => e = .returned (.bool false) ∧ Below x.heap.size x w' := by
    intro y hy x hx
    have hm := (hSW y hy).parts.2.1.1
    have h1 := y.2.e.size_eq
    have h2 := y.2.e.length_le
    have hl := (hLW y hy).parts.1
    exact holdsE0 y.2.e.kids (by omega) (by omega) _ _ ok w hok hl.cells hl.kid x hx
  have HF : ∀ y ∈ SX.withinAll ks 0, ∀ x, Below w.heap.size w x → Calls Try.prog 68 #[.slice y.2.f.base y.2.f.kids.length y.2.f.cap, .func (.func 69) #[] #[], .slice none 0 0] x fun e w' => e = .returned (.bool false) ∧ Below x.heap.size x w' := by
    intro y hy x hx
    have hm := (hSW y hy).parts.2.2.1.1
    have h1 := y.2.f.size_eq
    have h2 := y.2.f.length_le
    have hl := (hLW y hy).parts.2.1
    exact holdsE0 y.2.f.kids (by omega) (by omega) _ _ ok w hok hl.cells hl.kid x hx
  obtain ⟨n, -⟩ : ∃ n : Nat, True := ⟨0, trivial⟩
  refine (callsIn_wide (n := n)).1 ?_
  refine callsIn_of_wp_marks Try.func51 rfl trivial ?_ rfl
  simp only [Try.ntmps51, List.size_toArray, List.length_cons, List.length_nil, Nat.reduceAdd, Nat.reduceSub, Array.replicate_succ, Array.replicate_zero, List.push_toArray, List.append_toArray, List.nil_append, List.cons_append]
  gi_wp2
  refine ⟨trivial, (fun h => by cases h), (callsIn_wide.2 (HS _ ((Below.refl _ w).alloc (Nat.le_refl _) _))).mono ?_⟩
  rintro e w2 ⟨rfl, hB2⟩
  have hbr0 : Boxed w2 w.heap.size 4 (.bool false) := (hB2.block _ (by simp)).trans (Boxed.new w 4 (.bool false))
  have hB02 : Below w.heap.size w w2 := bstep ((Below.refl _ w).alloc (Nat.le_refl _) _) hB2
  have hz2 : w.heap.size + 1 ≤ w2.heap.size := by have := hB2.size; simp at this; omega
  clear hB2
  gi_wp2
  refine ⟨trivial, (fun h => by cases h), (callsIn_wide.2 (stmtsOf a ks.length c 0 _)).mono ?_⟩
  rintro e w3 ⟨rfl, hw3⟩
  subst w3
  gi_wp2
  obtain ⟨W4, hW4⟩ : ∃ W4, w2.alloc (.cells #[.slice a ks.length c] 26) = W4 := ⟨_, rfl⟩
  obtain ⟨W5, hW5⟩ : ∃ W5, W4.alloc (.cells #[.int .i64 0] 3) = W5 := ⟨_, rfl⟩
  rw [hW4, hW5]
  have s4 : W4.heap.size = w2.heap.size + 1 := by rw [← hW4]; simp
  have s5 : W5.heap.size = w2.heap.size + 2 := by rw [← hW5]; simp [s4]
  have hbr : Boxed W5 w.heap.size 4 (.bool false) := by
    have h := (hbr0.alloc (.cells #[.slice a ks.length c] 26)).alloc (.cells #[.int .i64 0] 3)
    rw [hW4, hW5] at h
    exact h
  have hbl : W5.cell? ⟨w2.heap.size, 0, none⟩ = some (.slice a ks.length c) := by
    have h := (Boxed.new w2 26 (.slice a ks.length c)).alloc (.cells #[.int .i64 0] 3)
    rw [hW4, hW5] at h
    exact h.cell
  have hbd : W5.cell? ⟨w2.heap.size + 1, 0, none⟩ = some (.int .i64 0) := by
    have h := Boxed.new W4 3 (.int .i64 0)
    rw [hW5, s4] at h
    exact h.cell
  have hB5 : Below w.heap.size w W5 := by
    rw [← hW5, ← hW4]
    exact (hB02.alloc hB02.size _).alloc (by simp; omega) _
  clear hW4 hW5
  refine range_law (gf := 79) (lb := #[.pointer (some ⟨w2.heap.size, 0, none⟩), .pointer (some ⟨w2.heap.size + 1, 0, none⟩)]) rfl (enters_of Try.func79 (by kernel_rfl) rfl) stmtE (fun _ => rfl) (SX.withinAll ks 0) (fun k => k = w.heap.size)
    (fun pre X => Boxed X w.heap.size 4 (.bool false) ∧ Below w.heap.size w X)
    (fun pre X => False)
    (fun k h => by omega)
    (fun pre A B h ⟨h1, h2⟩ => ⟨(h.block _ (by omega)).trans h1, h2.trans (h.mono (by omega))⟩)
    (fun pre A B h h1 => h1.elim)
    ⟨hbr, hB5⟩
    ?hit ?hround ?hdone ?hstop
  case hit =>
    intro W6 hB6 hs6
    have hB56 := hB5.trans (hB6.mono (by omega))
    refine stmts1 _ ks (by omega) (Nat.le_refl _) a c 0 _ _ _ ok W6 ?_ ?_ (below_cell hB6 hbd (by dsimp only; omega)) ?_ (below_cell hB6 hbl (by dsimp only; omega)) (hR.under hB56 hok') (fun i k hk => (hL i k hk).under hB56 hok')
    · intro k h; omega
    · intro b hb
      have := hok' b hb
      omega
    · omega
  case hround =>
    rintro l m pre x X hl hlX ⟨h1, h2⟩ hpre
    gi_wp2
    refine ⟨(Below.refl _ X).alloc (Nat.le_refl _) _, ?_⟩
    rintro w₂ hk2 ⟨j1, j2⟩
    have hXb := h1.lt
    have hX7 : Cells12 w₂ X.heap.size 0 x.2 := (Cells12.new X x.2 _).kept hk2 (by omega)
    have hxm : x ∈ SX.withinAll ks 0 := hpre.subset (by simp)
    have hX8 := hX7
    obtain ⟨q0, q1, q2, q3, q4, q5, q6, q7, q8, q9, q10, q11⟩ := hX7
    gi_wp2
    refine ⟨trivial, (fun h => by cases h), (CallsIn.inRound l (callsIn_wide.2 (HE x hxm _ j2))).mono ?_⟩
    rintro e w5 ⟨rfl, hB7⟩
    have hj5 := bstep j2 hB7
    clear q0 q1 q2 q3 q4 q5 q6 q7 q8 q9 q10 q11
    obtain ⟨q0, q1, q2, q3, q4, q5, q6, q7, q8, q9, q10, q11⟩ := hX8.below hB7 hX8.lt
    gi_wp2
    refine ⟨trivial, (fun h => by cases h), (CallsIn.inRound l (callsIn_wide.2 (HF x hxm _ hj5))).mono ?_⟩
    rintro e w6 ⟨rfl, hB8⟩
    clear q0 q1 q2 q3 q4 q5 q6 q7 q8 q9 q10 q11
    gi_wp2
    have hB9 := bstep hB7 hB8
    exact ⟨Kept.of_new _ hB9, (hB9.block _ j1.lt).trans j1, bstep j2 hB9⟩
  case hdone =>
    rintro D X hD ⟨h1, h2⟩ hkX hdX
    have hc2 := h1.cell
    have hf2 := h1.frozen
    have hb2 := h1.set (.bool true)
    have hKX : Kept (fun k => k = w.heap.size) W5 (X.setCell ⟨w.heap.size, 0, none⟩ (.bool true)) := hkX.setCell (by dsimp only) _
    gi_wp2
    refine leave_marks [D] _ (by simp) (fun E hE => ?_) (fun W' hk' => ⟨.bool true, ?_, rfl, ?_⟩)
    · rw [List.mem_singleton.1 hE]
      exact (Below.heap_setCell _ _ _ _ (by dsimp only; omega)).trans hdX
    · have hb3 : Boxed W' w.heap.size 4 (.bool true) := (hk'.block _ hb2.lt (by simp; omega)).trans hb2
      have hc3 := hb3.cell
      simp [results, Try.results51, go_sem, hc3]
    · exact hB5.trans (((hKX.mono (T := fun k => w.heap.size ≤ k) (fun k _ h => by omega)).join hk' (T := fun k => k ∈ [D]) (fun k h1 h2 => by simp at h2; omega)).below (by omega) (fun k h => h))
  case hstop =>
    rintro D pre X hD hpre h1 hkX hdX
    exact h1.elim
end Go.Proofs.Ytimfdfeleoaehaa
