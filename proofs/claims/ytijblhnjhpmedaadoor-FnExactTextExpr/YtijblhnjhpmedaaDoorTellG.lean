/-
  What the program writes of an expression.
-/
import Derived.Test.YtijblhnjhpmedaaDoorTellF
namespace Go.Proofs.YtijblhnjhpmedaaDoor
open Go.RowKit Go.Shelf
set_option linter.unusedSimpArgs false
set_option linter.unusedVariables false
attribute [local go_sem] Oper.semAt_some

theorem strB (l : List UInt8) : Lib.strCells (ba l) = Lib.byteCells l := by simp [Lib.strCells, Lib.byteCells, ba]
theorem strS (s : ByteArray) : Lib.strCells s = Lib.byteCells s.data.toList := rfl
theorem bytes_app (l m : List UInt8) : Lib.byteCells l ++ Lib.byteCells m = Lib.byteCells (l ++ m) := by simp [Lib.byteCells]
/-- The box of an expression while its text is written. -/
structure BoxX (w W : World) (B b : Nat) (k n : Int) (s : ByteArray) (a : Option Addr) (len c : Nat) (l : List UInt8) : Prop where
  box : W.heap[w.heap.size]? = some (.cells #[.int .i64 k, .int .i64 n, .string s, .slice a len c] 29)
  tl : Tl B b (Lib.byteCells l) W
  below : Below B w W
  others : Lib.OthersKept 5 (some b) w W
theorem BoxX.cells {w W : World} {B b : Nat} {k n : Int} {s : ByteArray} {a : Option Addr} {len c : Nat} {l : List UInt8} (h : BoxX w W B b k n s a len c l) : W.cell? ⟨w.heap.size, 0, none⟩ = some (.int .i64 k) ∧ W.cell? ⟨w.heap.size, 1, none⟩ = some (.int .i64 n) ∧ W.cell? ⟨w.heap.size, 2, none⟩ = some (.string s) ∧ W.cell? ⟨w.heap.size, 3, none⟩ = some (.slice a len c) := by
  refine ⟨?_, ?_, ?_, ?_⟩ <;> simp [World.cell?, h.box]
theorem BoxX.new {w W : World} {B b : Nat} {k n : Int} {s : ByteArray} {a : Option Addr} {len c : Nat} {l : List UInt8} (h : BoxX w W B b k n s a len c l) {X : World} (hb : Below W.heap.size W X) : BoxX w X B b k n s a len c l :=
  ⟨(hb.block _ (Array.getElem?_eq_some_iff.1 h.box).1).trans h.box, h.tl.below hb, h.below.trans (hb.mono h.tl.le), h.others.trans (ok_new hb)⟩
theorem BoxX.write {w W : World} {B b : Nat} {k n : Int} {s : ByteArray} {a : Option Addr} {len c : Nat} {l l' : List UInt8} (h : BoxX w W B b k n s a len c l) {X : World} (hne : w.heap.size ≠ b) (ht : Tl B b (Lib.byteCells l') X) (hb : Below B W X) (ho : Lib.OthersKept 5 (some b) W X) : BoxX w X B b k n s a len c l' :=
  ⟨ho _ _ h.box (fun e => hne (Option.some.inj e)) (fun c fz e => by cases e), ht, h.below.trans hb, h.others.trans ho⟩
set_option maxRecDepth 20000 in
set_option maxHeartbeats 8000000 in
theorem tellX (sz : Nat) : ∀ t : XT, t.size ≤ sz → 32 * t.size + t.tot ≤ 1099511627776 → Nums t → ∀ (ok : Nat → Prop) (B b : Nat) (l : List UInt8) (w : World), 0 < B → (∀ x, ok x → x < B) → Lies ok w t → Tl B b (Lib.byteCells l) w → l.length + t.text.length ≤ 2199023255552 → Tab w →
    Calls Tryd.prog 15 #[.pointer (some ⟨b, 0, none⟩), t.val] w fun e w' => (∃ v, e = .returned v) ∧ Tl B b (Lib.byteCells (l ++ t.text)) w' ∧ Below B w w' ∧ Lib.OthersKept 5 (some b) w w' := by
  induction sz with
  | zero => intro t h; rw [XT.size_eq] at h; omega
  | succ sz ih =>
  intro t hsz hlim hn ok B b l w hG hok hL hTl hlen htab
  have hnum := hn.num
  have hnk := hn.kid
  have hse := t.size_eq
  have hto := t.tot_eq
  have hcl := hL.cells
  have hlk := hL.kid
  clear hn hL
  obtain ⟨k, n, s, a, c, ks⟩ := t
  simp only [XT.kind, XT.num, XT.name, XT.kids, XT.base, XT.cap] at hnum hnk hse hto hcl hlk
  have hte := XT.text_mk k n s a c ks
  show Calls Tryd.prog 15 #[.pointer (some ⟨b, 0, none⟩), .agg #[.int .i64 k, .int .i64 n, .string s, .slice a ks.length c]] w fun e w' => (∃ v, e = .returned v) ∧ Tl B b (Lib.byteCells (l ++ (XT.mk k n s a c ks).text)) w' ∧ Below B w w' ∧ Lib.OthersKept 5 (some b) w w'
  obtain ⟨T, hT⟩ : ∃ T, (XT.mk k n s a c ks).text = T := ⟨_, rfl⟩
  rw [hT] at hte hlen ⊢
  obtain ⟨Z, hZ⟩ : ∃ Z, (XT.mk k n s a c ks).size = Z := ⟨_, rfl⟩
  rw [hZ] at hsz hlim hse
  obtain ⟨O, hO⟩ : ∃ O, (XT.mk k n s a c ks).tot = O := ⟨_, rfl⟩
  rw [hO] at hlim hto
  clear hT hZ hO
  obtain ⟨len, hln⟩ : ∃ len, ks.length = len := ⟨_, rfl⟩
  rw [hln] at hto ⊢
  have hbw : b < w.heap.size := by
    obtain ⟨p, v, h1, h2, h3, h4⟩ := hTl
    exact (Array.getElem?_eq_some_iff.1 h3).1
  have hne : w.heap.size ≠ b := by omega
  obtain ⟨W1, hW1⟩ : ∃ W1, w.alloc (.cells #[.int .i64 k, .int .i64 n, .string s, .slice a len c] 29) = W1 := ⟨_, rfl⟩
  have hB1 : Below w.heap.size w W1 := by rw [← hW1]; exact (Below.refl _ w).alloc (Nat.le_refl _) _
  have s1 : w.heap.size + 1 = W1.heap.size := by rw [← hW1]; simp
  have hX1 : BoxX w W1 B b k n s a len c l := ⟨by rw [← hW1]; exact World.alloc_heap_new w _, hTl.below hB1, hB1.mono hTl.le, ok_new hB1⟩
  have hX1d : BoxX w W1.drew B b k n s a len c l := hX1.new (Below.drew (Below.refl _ W1))
  obtain ⟨c0, c1, c2, c3⟩ := hX1.cells
  go_enter Tryd.func15, Tryd.ntmps15
  go_wp2_with fail
  refine wp_region_held_drew (S := fun w' => w'.cell? ⟨w.heap.size, 0, none⟩ = some (.int .i64 k)) (by kernel_rfl) c0 (fun hHeld => ?_)
  refine wpAnyH_take (i := 1) (oi := _) (v := ?_) rfl (by kernel_rfl) (by kernel_rfl) (by kernel_rfl) (fun _ _ _ h => h) (Or.inl ⟨by rfl, ?_⟩) (by assumption) ?_
  rotate_left
  · (intro w hSw; go_simp; (try with_reducible rfl))
  try simp only [Act.put, List.setIfInBounds_toArray, List.set_cons_zero, List.set_cons_succ]
  refine wpAnyH_take (i := 2) (oi := _) (v := ?_) rfl (by kernel_rfl) (by kernel_rfl) (by kernel_rfl) (fun _ _ _ h => h) (Or.inl ⟨by rfl, ?_⟩) (by assumption) ?_
  rotate_left
  · (intro w hSw; go_simp; (try with_reducible rfl))
  try simp only [Act.put, List.setIfInBounds_toArray, List.set_cons_zero, List.set_cons_succ]
  refine wpAnyH_ready (rs := [0]) (by kernel_rfl) (by simp) ?_
  refine AllReadyH.cons (o := _) rfl (fun K hK => ?_) AllReadyH.nil
  go_simp
  go_at_call 20
  refine (wordKind k _).mono ?_
  rintro e x1 ⟨rfl, hb1, hw⟩
  have hw' : ∀ W, Below x1.heap.size x1 W → Calls Tryd.prog 19 #[.slice (some ⟨W1.heap.size, 0, none⟩) 13 13, .int .i64 k] W fun e w' => e = .returned (.string (ba (wordE k))) ∧ w' = W := hw
  have hX2 := hX1d.new hb1
  have k0 := hX2.cells.1
  try go_wp2_with fail
  refine hK.out _ _ k0 (fun hHeld => ?_)
  clear hK K
  try simp only [Act.put, List.setIfInBounds_toArray, List.set_cons_zero, List.set_cons_succ]
  refine wpAnyH_ready (rs := [3]) (by kernel_rfl) (by simp) ?_
  refine AllReadyH.cons (o := _) rfl (fun K hK => ?_) AllReadyH.nil
  go_simp
  go_at_call 19
  refine (hw' _ (Below.refl _ _)).mono ?_
  rintro e x2 ⟨rfl, hx2⟩
  subst x2
  try go_wp2_with fail
  refine hK.out _ _ k0 (fun hHeld => ?_)
  clear hK K
  try simp only [Act.put, List.setIfInBounds_toArray, List.set_cons_zero, List.set_cons_succ]
  refine wpAnyH_take (i := 4) (oi := _) (v := ?_) rfl (by kernel_rfl) (by kernel_rfl) (by kernel_rfl) (fun _ _ _ h => h) (Or.inl ⟨by rfl, ?_⟩) (by assumption) ?_
  rotate_left
  · (intro w hSw; go_simp; (try with_reducible rfl))
  try simp only [Act.put, List.setIfInBounds_toArray, List.set_cons_zero, List.set_cons_succ]
  refine wpAnyH_done (by kernel_rfl) ?_ _
  clear hX1 hX1d c0 c1 c2 c3 hw hw' hb1 hB1 hW1
  obtain ⟨k0, k1, k2, k3⟩ := hX2.cells
  by_cases hk1 : k = 1
  · rw [if_pos hk1] at hte
    subst hte
    subst hk1
    have hX2d := hX2.new (Below.drew (Below.refl _ x1))
    have hsz1 := itoa_length n hnum
    go_wp2_with fail
    go_region_held3 (fun w' => w'.cell? ⟨w.heap.size, 0, none⟩ = some (.int .i64 1) ∧ w'.cell? ⟨w.heap.size, 1, none⟩ = some (.int .i64 n) ∧ w'.cell? ⟨w.heap.size, 2, none⟩ = some (.string s)) (simp [*, go_sem, World.cell?_alloc_some, World.cell?_setCell_far, apart1, apart2, apart3, apart4, apart5, apart6]) (first | (go_at_call 22; refine (itoa n hnum.1 hnum.2 _ (htab.below hX2d.below hG)).mono ?_; rintro e y1 ⟨rfl, hy1⟩; (have hX3 := hX2d.new hy1); (obtain ⟨m0, m1, m2, m3⟩ := hX3.cells)) | (go_at_call 21; refine (tlString B b (Lib.byteCells l) _ _ hX3.tl (by rw [Lib.byteCells_length]; rw [ba_size]; omega)).mono ?_; rintro e y2 ⟨⟨vv, rfl⟩, ht, hb2, ho2⟩; (have hX4 := hX3.write hne (by rw [strB, bytes_app] at ht; exact ht) hb2 ho2); (obtain ⟨q0, q1, q2, q3⟩ := hX4.cells)))
    go_wp2
    (first | go_end0 | (refine bodyPost_ret (results_none rfl _ _ _) rfl ?_))
    exact ⟨⟨_, rfl⟩, hX4.tl, hX4.below, hX4.others⟩
  rw [if_neg hk1] at hte
  by_cases hk2 : k = 2
  · rw [if_pos hk2] at hte
    subst hte
    subst hk2
    have hX3 := hX2.new (Below.drew (Below.refl _ x1))
    have hsl : s.data.toList.length = s.size := Array.length_toList
    go_wp2_with fail
    go_region_held3 (fun w' => w'.cell? ⟨w.heap.size, 0, none⟩ = some (.int .i64 2) ∧ w'.cell? ⟨w.heap.size, 1, none⟩ = some (.int .i64 n) ∧ w'.cell? ⟨w.heap.size, 2, none⟩ = some (.string s)) (simp [*, go_sem, World.cell?_alloc_some, World.cell?_setCell_far, apart1, apart2, apart3, apart4, apart5, apart6]) (first | (go_at_call 21; refine (tlString B b (Lib.byteCells l) _ _ hX3.tl (by rw [Lib.byteCells_length]; omega)).mono ?_; rintro e y2 ⟨⟨vv, rfl⟩, ht, hb2, ho2⟩; (have hX4 := hX3.write hne (by rw [strS, bytes_app] at ht; exact ht) hb2 ho2); (obtain ⟨q0, q1, q2, q3⟩ := hX4.cells)))
    go_wp2
    (first | go_end0 | (refine bodyPost_ret (results_none rfl _ _ _) rfl ?_))
    exact ⟨⟨_, rfl⟩, hX4.tl, hX4.below, hX4.others⟩
  rw [if_neg hk2] at hte
  obtain ⟨eb, heb⟩ : ∃ eb, (wordE k == []) = eb := ⟨_, rfl⟩
  have hes := emptyStr _ _ heb
  by_cases hk3 : k < 3 ∨ 12 < k
  · rw [if_pos hk3] at hte
    subst hte
    have hX3 := hX2
    have hw0 := (wordE_empty k).2 hk3
    rw [hw0] at heb ⊢
    go_wp2_with fail
    all_goals first | (exfalso; omega) | skip
    go_at_call 21
    refine (tlString B b (Lib.byteCells l) _ _ hX2.tl (by rw [Lib.byteCells_length]; have h4 : (⟨#[110, 111, 110, 101]⟩ : ByteArray).size = 4 := rfl; rw [h4]; omega)).mono ?_
    rintro e y2 ⟨⟨vv, rfl⟩, ht, hb2, ho2⟩
    have hX4 := hX2.write hne (by rw [strS, bytes_app] at ht; exact ht) hb2 ho2
    go_wp2
    (first | go_end0 | (refine bodyPost_ret (results_none rfl _ _ _) rfl ?_))
    exact ⟨⟨_, rfl⟩, hX4.tl, hX4.below, hX4.others⟩
  rw [if_neg hk3] at hte
  have hwE : wordE k = wordX k := by unfold wordE; rw [if_pos (by omega)]
  have hwl := wordX_length k
  have hef : eb = false := by
    rw [← heb]
    cases hq : (wordE k == []) with
    | false => rfl
    | true => exact absurd ((wordE_empty k).1 (by simpa using hq)) hk3
  subst hef
  rw [hwE] at heb hes ⊢
  have hlT : T.length = (wordX k).length + ((if k = 3 then 32 :: s.data.toList else []).length + (XT.textAll ks).length) := by rw [hte, List.length_append, List.length_append]
  obtain ⟨wd, hwd⟩ : ∃ wd, ba (wordX k) = wd := ⟨_, rfl⟩
  rw [hwd] at hes ⊢
  have hes2 : (wd.toList == ([] : List UInt8)) = false := by rw [← hwd, ByteArray.toList_eq]; exact heb
  have hes3 : ¬ wd.toList = [] := by intro h; rw [h] at hes2; simp at hes2
  have hwds : wd.size = (wordX k).length := by rw [← hwd, ba_size]
  have hwdB : Hid (Lib.strCells wd = Lib.byteCells (wordX k)) := by rw [← hwd]; exact strB _
  clear hwd
  go_wp2_with fail
  all_goals first | (exfalso; omega) | skip
  go_at_call 21
  refine (tlString B b (Lib.byteCells l) wd _ hX2.tl (by rw [Lib.byteCells_length]; omega)).mono ?_
  rintro e y2 ⟨⟨vv, rfl⟩, ht, hb2, ho2⟩
  have hX4 := hX2.write hne (by rw [hwdB.out, bytes_app] at ht; exact ht) hb2 ho2
  clear k0 k1 k2 k3
  obtain ⟨k0, k1, k2, k3⟩ := hX4.cells
  by_cases h3 : k = 3
  · rw [if_pos h3] at hte hlT
    subst h3
    have hsl : s.data.toList.length = s.size := Array.length_toList
    rw [List.length_cons, hsl] at hlT
    have hX5 := hX4.new (Below.drew (Below.refl _ y2))
    have hsp : ((⟨#[32]⟩ : ByteArray) ++ s).size = 1 + s.size := by rw [ByteArray.size_append]; rfl
    have h32 : (⟨#[32]⟩ : ByteArray).size = 1 := rfl
    obtain ⟨sp, hspe⟩ : ∃ sp, (⟨#[32]⟩ : ByteArray) ++ s = sp := ⟨_, rfl⟩
    rw [hspe] at hsp
    have hspB : Hid (Lib.strCells sp = Lib.byteCells (32 :: s.data.toList)) := by
      show _ = _
      rw [← hspe, show (⟨#[32]⟩ : ByteArray) = ba [32] from rfl]
      conv => lhs; rw [← ba_of s]
      rw [ba_append, strB]
      rfl
    have hss : s.size ≤ 1099511627776 := by omega
    have f6 : 1 + s.size ≤ 9223372036854775807 := by omega
    have f7 : ¬ 9223372036854775807 < 1 + s.size := by omega
    have f8 : ¬ (9223372036854775807 : Int) < 1 + (s.size : Int) := by omega
    go_wp2_with fail
    all_goals first | (exfalso; omega) | skip
    go_region_held3 (fun w' => w'.cell? ⟨w.heap.size, 0, none⟩ = some (.int .i64 3) ∧ w'.cell? ⟨w.heap.size, 1, none⟩ = some (.int .i64 n) ∧ w'.cell? ⟨w.heap.size, 2, none⟩ = some (.string s)) (simp [*, go_sem, World.cell?_alloc_some, World.cell?_setCell_far, apart1, apart2, apart3, apart4, apart5, apart6]) (first | (go_at_call 21; refine (tlString B b _ _ _ hX5.tl (by rw [Lib.byteCells_length, List.length_append]; omega)).mono ?_; rintro e y3 ⟨⟨vv3, rfl⟩, ht3, hb3, ho3⟩; (have hX6 := hX5.write hne (by rw [hspB.out, bytes_app] at ht3; exact ht3) hb3 ho3); (obtain ⟨q0, q1, q2, q3⟩ := hX6.cells)))
    clear q0 q1 q2 q3
    obtain ⟨PR, hPR⟩ : ∃ PR, wordX 3 ++ 32 :: s.data.toList = PR := ⟨_, rfl⟩
    have hPl : PR.length = (wordX 3).length + (1 + s.size) := by rw [← hPR, List.length_append, List.length_cons, hsl]; omega
    have hX8 : BoxX w y3 B b 3 n s a len c (l ++ PR) := by rw [← hPR]; simpa [List.append_assoc] using hX6
    have hte2 : T = PR ++ XT.textAll ks := by rw [hte, ← hPR]; simp
    clear hte hPR hX6 hspB hspe hwdB
    have hte := hte2
    have hX := hX8
    clear k0 k1 k2 k3 hX2 ht hb2 ho2
    obtain ⟨k0, k1, k2, k3⟩ := hX.cells
    go_wp2_with fail
    all_goals first | (exfalso; omega) | skip
    have hX0 : Hid (BoxX w y3 B b 3 n s a len c (l ++ PR ++ XT.textAll (ks.take 0))) := by
      show BoxX w y3 B b 3 n s a len c (l ++ PR ++ XT.textAll (ks.take 0))
      simpa [XT.textAll] using hX
    go_loopw [29] (fun v29 wr => ∃ i : Nat, v29 = .int .i64 i ∧ i ≤ len ∧ Hid (BoxX w wr B b 3 n s a len c (l ++ PR ++ XT.textAll (ks.take i)))) (fun v29 _ => len - (intOf v29).toNat)
    case atStart => exact ⟨0, rfl, by omega, hX0⟩
    case round =>
      obtain ⟨i, rfl, hi, hXi⟩ := hrel
      by_cases hlt : i < len
      · obtain ⟨q, hq⟩ : ∃ q, ks[i]? = some q := ⟨_, List.getElem?_eq_getElem (by omega)⟩
        obtain ⟨b1, o1, hb1, hok1, hc1⟩ := hcl i q hq
        obtain ⟨e0, e1, e2, e3⟩ := hc1.below hXi.out.below (hok b1 hok1)
        have hqs := XT.size_get hq
        have hqt : q.tot ≤ XT.totAll ks := XT.tot_get hq
        have htk := XT.textAll_take hq
        have htl := XT.textAll_take_le ks (i + 1)
        rw [htk, List.length_append, List.length_cons] at htl
        obtain ⟨W5, hW5⟩ : ∃ W5, wr.alloc (.cells #[.int .i64 q.kind, .int .i64 q.num, .string q.name, .slice q.base q.kids.length q.cap] 29) = W5 := ⟨_, rfl⟩
        have hB5 : Below wr.heap.size wr W5 := by rw [← hW5]; exact (Below.refl _ _).alloc (Nat.le_refl _) _
        have hq5 : W5.heap[wr.heap.size]? = some (.cells #[.int .i64 q.kind, .int .i64 q.num, .string q.name, .slice q.base q.kids.length q.cap] 29) := by rw [← hW5]; exact World.alloc_heap_new wr _
        have hX5 := hXi.out.new hB5
        have hbwr : b < wr.heap.size := by
          have := hXi.out.below.size
          omega
        subst hb1
        go_wp2_with fail
        all_goals first | (exfalso; omega) | skip
        go_at_call 23
        refine (tlByte B b _ 32 _ hX5.tl (by rw [Lib.byteCells_length, List.length_append, List.length_append]; omega)).mono ?_
        rintro e W6 ⟨⟨vv, rfl⟩, ht6, hb6, ho6⟩
        have hX6 := hX5.write (l' := l ++ PR ++ XT.textAll (ks.take i) ++ [32]) hne (by rw [← bytes_app]; exact ht6) hb6 ho6
        have hq6 := ho6 _ _ hq5 (fun e => by have := Option.some.inj e; omega) (fun c fz e => by cases e)
        have g0 : W6.cell? ⟨wr.heap.size, 0, none⟩ = some (.int .i64 q.kind) := by simp [World.cell?, hq6]
        have g1 : W6.cell? ⟨wr.heap.size, 1, none⟩ = some (.int .i64 q.num) := by simp [World.cell?, hq6]
        have g2 : W6.cell? ⟨wr.heap.size, 2, none⟩ = some (.string q.name) := by simp [World.cell?, hq6]
        have g3 : W6.cell? ⟨wr.heap.size, 3, none⟩ = some (.slice q.base q.kids.length q.cap) := by simp [World.cell?, hq6]
        clear e0 e1 e2 e3 hW5
        have hrec := ih q (by omega) (by omega) (hnk i q hq) ok B b _ W6 hG hok ((hlk i q hq).under hX6.below hok) hX6.tl (by simp only [List.length_append, List.length_singleton]; omega) (htab.below hX6.below hG)
        go_wp2_with fail
        go_at_call 15
        refine hrec.mono ?_
        rintro e W7 ⟨⟨vv2, rfl⟩, ht7, hb7, ho7⟩
        have hX7 := hX6.write hne ht7 hb7 ho7
        clear g0 g1 g2 g3 hrec
        go_wp2_with fail
        refine ⟨⟨i + 1, by go_num, by omega, ?_⟩, by simp [intOf]; omega⟩
        show BoxX _ _ _ _ _ _ _ _ _ _ _
        rw [htk]
        simpa [List.append_assoc] using hX7
      · have he : i = len := by omega
        go_wp2_with fail
        all_goals first | (exfalso; omega) | skip
        (first | go_end0 | (refine bodyPost_ret (results_none rfl _ _ _) rfl ?_))
        have h9 := hXi.out
        rw [he, ← hln, List.take_length] at h9
        refine ⟨⟨_, rfl⟩, ?_, h9.below, h9.others⟩
        have h10 := h9.tl
        rw [hte]
        simpa [List.append_assoc] using h10
  · rw [if_neg h3] at hte hlT
    obtain ⟨PR, hPR⟩ : ∃ PR, wordX k = PR := ⟨_, rfl⟩
    rw [List.nil_append, hPR] at hte
    rw [hPR, List.length_nil] at hlT
    have hX8 : BoxX w y2 B b k n s a len c (l ++ PR) := by rw [← hPR]; exact hX4
    clear hPR hwdB
    have hX := hX8
    clear k0 k1 k2 k3 hX2 ht hb2 ho2
    obtain ⟨k0, k1, k2, k3⟩ := hX.cells
    go_wp2_with fail
    all_goals first | (exfalso; omega) | skip
    clear h3 hk1 hk2 hk3 hwl hwE hes hes2 hes3 heb hwds
    generalize (k == 1) = d1
    generalize (k == 2) = d2
    generalize (k == 3) = d3
    have hX0 : Hid (BoxX w y2 B b k n s a len c (l ++ PR ++ XT.textAll (ks.take 0))) := by
      show BoxX w y2 B b k n s a len c (l ++ PR ++ XT.textAll (ks.take 0))
      simpa [XT.textAll] using hX
    go_loopw [29] (fun v29 wr => ∃ i : Nat, v29 = .int .i64 i ∧ i ≤ len ∧ Hid (BoxX w wr B b k n s a len c (l ++ PR ++ XT.textAll (ks.take i)))) (fun v29 _ => len - (intOf v29).toNat)
    case atStart => exact ⟨0, rfl, by omega, hX0⟩
    case round =>
      obtain ⟨i, rfl, hi, hXi⟩ := hrel
      by_cases hlt : i < len
      · obtain ⟨q, hq⟩ : ∃ q, ks[i]? = some q := ⟨_, List.getElem?_eq_getElem (by omega)⟩
        obtain ⟨b1, o1, hb1, hok1, hc1⟩ := hcl i q hq
        obtain ⟨e0, e1, e2, e3⟩ := hc1.below hXi.out.below (hok b1 hok1)
        have hqs := XT.size_get hq
        have hqt : q.tot ≤ XT.totAll ks := XT.tot_get hq
        have htk := XT.textAll_take hq
        have htl := XT.textAll_take_le ks (i + 1)
        rw [htk, List.length_append, List.length_cons] at htl
        obtain ⟨W5, hW5⟩ : ∃ W5, wr.alloc (.cells #[.int .i64 q.kind, .int .i64 q.num, .string q.name, .slice q.base q.kids.length q.cap] 29) = W5 := ⟨_, rfl⟩
        have hB5 : Below wr.heap.size wr W5 := by rw [← hW5]; exact (Below.refl _ _).alloc (Nat.le_refl _) _
        have hq5 : W5.heap[wr.heap.size]? = some (.cells #[.int .i64 q.kind, .int .i64 q.num, .string q.name, .slice q.base q.kids.length q.cap] 29) := by rw [← hW5]; exact World.alloc_heap_new wr _
        have hX5 := hXi.out.new hB5
        have hbwr : b < wr.heap.size := by
          have := hXi.out.below.size
          omega
        subst hb1
        go_wp2_with fail
        all_goals first | (exfalso; omega) | skip
        go_at_call 23
        refine (tlByte B b _ 32 _ hX5.tl (by rw [Lib.byteCells_length, List.length_append, List.length_append]; omega)).mono ?_
        rintro e W6 ⟨⟨vv, rfl⟩, ht6, hb6, ho6⟩
        have hX6 := hX5.write (l' := l ++ PR ++ XT.textAll (ks.take i) ++ [32]) hne (by rw [← bytes_app]; exact ht6) hb6 ho6
        have hq6 := ho6 _ _ hq5 (fun e => by have := Option.some.inj e; omega) (fun c fz e => by cases e)
        have g0 : W6.cell? ⟨wr.heap.size, 0, none⟩ = some (.int .i64 q.kind) := by simp [World.cell?, hq6]
        have g1 : W6.cell? ⟨wr.heap.size, 1, none⟩ = some (.int .i64 q.num) := by simp [World.cell?, hq6]
        have g2 : W6.cell? ⟨wr.heap.size, 2, none⟩ = some (.string q.name) := by simp [World.cell?, hq6]
        have g3 : W6.cell? ⟨wr.heap.size, 3, none⟩ = some (.slice q.base q.kids.length q.cap) := by simp [World.cell?, hq6]
        clear e0 e1 e2 e3 hW5
        have hrec := ih q (by omega) (by omega) (hnk i q hq) ok B b _ W6 hG hok ((hlk i q hq).under hX6.below hok) hX6.tl (by simp only [List.length_append, List.length_singleton]; omega) (htab.below hX6.below hG)
        go_wp2_with fail
        go_at_call 15
        refine hrec.mono ?_
        rintro e W7 ⟨⟨vv2, rfl⟩, ht7, hb7, ho7⟩
        have hX7 := hX6.write hne ht7 hb7 ho7
        clear g0 g1 g2 g3 hrec
        go_wp2_with fail
        refine ⟨⟨i + 1, by go_num, by omega, ?_⟩, by simp [intOf]; omega⟩
        show BoxX _ _ _ _ _ _ _ _ _ _ _
        rw [htk]
        simpa [List.append_assoc] using hX7
      · have he : i = len := by omega
        go_wp2_with fail
        all_goals first | (exfalso; omega) | skip
        (first | go_end0 | (refine bodyPost_ret (results_none rfl _ _ _) rfl ?_))
        have h9 := hXi.out
        rw [he, ← hln, List.take_length] at h9
        refine ⟨⟨_, rfl⟩, ?_, h9.below, h9.others⟩
        have h10 := h9.tl
        rw [hte]
        simpa [List.append_assoc] using h10
end Go.Proofs.YtijblhnjhpmedaaDoor
