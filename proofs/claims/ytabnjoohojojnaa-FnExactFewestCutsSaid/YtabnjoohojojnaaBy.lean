/- Leaves and books: what their methods tell. -/
import Derived.Test.YtabnjoohojojnaaBi
namespace Go.Proofs.Ytabnjoohojojnaa
open Go.RowKit Go.Joins Go.Deep Go.ChangeShapes Go.WideShapes
set_option linter.unusedVariables false
set_option linter.unusedSimpArgs false
namespace Ln
theorem cell_one_b (w : World) (x : Value) (t : TypeId) (b : Nat) (hb : b = w.heap.size) : ∀ j u, [x][j]? = some u → (w.alloc (.cells #[x] t)).cell? ((⟨b, 0, none⟩ : Addr).add j) = some u := by
  subst hb
  exact cell_one_new w x t
theorem cell_two_b (w : World) (x y : Value) (t : TypeId) (b : Nat) (hb : b = w.heap.size) : ∀ j u, [x, y][j]? = some u → (w.alloc (.cells #[x, y] t)).cell? ((⟨b, 0, none⟩ : Addr).add j) = some u := by
  subst hb
  exact cell_two_new w x y t
theorem ab_neg {z : Int} (h : z < 0) : ab z = -z := by unfold ab; rw [if_neg (by omega)]
theorem ab_pos {z : Int} (h : ¬ z < 0) : ab z = z := by unfold ab; rw [if_pos (by omega)]
theorem ab_8 {z : Int} (h1 : -8 ≤ z) (h2 : z ≤ 8) : 0 ≤ ab z ∧ ab z ≤ 8 := by unfold ab; split <;> omega
set_option maxRecDepth 100000 in
theorem signed_any (z : Int) (h1 : -8 ≤ z) (h2 : z ≤ 8) (w : World) :
    Calls Try.prog 87 #[.agg #[.int .i64 (ab z), .bool (decide (z < 0))]] w fun e w' => e = .returned (.int .i64 z) ∧ w.alloc (.cells #[.int .i64 (ab z), .bool (decide (z < 0))] 50) = w' := by
  by_cases c : z < 0
  · rw [ab_neg c, show decide (z < 0) = true by simpa using c]
    go_enter Try.func87, Try.ntmps87
    go_wp2
    go_ret
    exact ⟨by first | rfl | (simp; done), rfl⟩
  · rw [ab_pos c, show decide (z < 0) = false by simpa using c]
    go_enter Try.func87, Try.ntmps87
    go_wp2
    go_ret
    exact ⟨rfl, rfl⟩
set_option maxRecDepth 100000 in
set_option maxHeartbeats 1000000 in
theorem hasPart_any (n : Nat) (zs : List Int) (f t : Int) (v : Bool) (hv : (decide (0 ≤ f) && (decide (f ≤ t) && decide (t < (n : Int)))) = v) (w : World) :
    Calls Try.prog 59 #[.agg (bkA n zs), .int .i64 f, .int .i64 t] w fun e w' => e = .returned (.bool v) ∧ w.alloc (.cells (bkA n zs) 54) = w' := by
  by_cases c1 : 0 ≤ f
  · by_cases c2 : f ≤ t
    · by_cases c3 : t < (n : Int)
      · have e : v = true := by rw [← hv]; simp [c1, c2, c3]
        subst e
        clear hv
        go_enter Try.func59, Try.ntmps59
        go_wp2
        go_ret
        exact ⟨rfl, rfl⟩
      · have e : v = false := by rw [← hv]; simp [c3]
        subst e
        have t3 : decide (t < (n : Int)) = false := by simpa using c3
        clear hv c3
        go_enter Try.func59, Try.ntmps59
        go_wp2
        go_ret
        exact ⟨rfl, rfl⟩
    · have e : v = false := by rw [← hv]; simp [c2]
      subst e
      have t3 : decide (f ≤ t) = false := by simpa using c2
      clear hv c2
      go_enter Try.func59, Try.ntmps59
      go_wp2
      go_ret
      exact ⟨rfl, rfl⟩
  · have e : v = false := by rw [← hv]; simp [c1]
    subst e
    have t3 : decide (0 ≤ f) = false := by simpa using c1
    clear hv c1
    go_enter Try.func59, Try.ntmps59
    go_wp2
    go_ret
    exact ⟨rfl, rfl⟩
/-- the cells of a leaf in a book that lies in a block -/
theorem lf_cells {W : World} {b n : Nat} {zs : List Int} {T : TypeId} (h : Arr W b T (bkA n zs)) {k : Nat} (hk : k < 8) : W.cell? ⟨b, k * 2, none⟩ = some (.int .i64 (ab (zs.getD k 0))) ∧ W.cell? ⟨b, k * 2 + 1, none⟩ = some (.bool (decide (zs.getD k 0 < 0))) :=
  ⟨h.cell (A17_num _ _ _ k hk), h.cell (A17_mark _ _ _ k hk)⟩
set_option maxRecDepth 100000 in
set_option maxHeartbeats 2000000 in
theorem countT_any (n : Nat) (zs : List Int) (hn : n ≤ 8) (w : World) :
    Calls Try.prog 49 #[.agg (bkA n zs)] w (Ret (.int .i64 (trn zs n)) w) := by
  obtain ⟨R, hR⟩ : ∃ R, trn zs n = R := ⟨_, rfl⟩
  have HR := Lib.hid hR
  rw [hR]
  clear hR
  go_enter Try.func49, Try.ntmps49
  go_wp2_with (first | (with_reducible refine wpList_load17 rfl (.tmp 1) rfl w.heap.size rfl (Arr.new _ _ _) ?_))
  refine (leaves_any n hn zs _).mono ?_
  rintro e w' ⟨rfl, rfl⟩
  go_wp2
  go_loopw [3, 9] (fun s i wr => ∃ (k : Nat) (S : Int), k ≤ n ∧ i = .int .i64 (k : Int) ∧ s = .int .i64 S ∧ Hid (S = trn zs k) ∧ Hid (Arr wr (w.heap.size + 1) 54 (bkA n zs)) ∧ Hid (Below w.heap.size w wr)) (fun _ i _ => ((n : Int) - intOf i).toNat)
  case atStart => exact ⟨0, 0, by omega, rfl, rfl, Lib.hid rfl, Lib.hid (arr_new _ _ _ (by simp)), Lib.hid ((below_alloc1 _ _).alloc (by simp) _)⟩
  case round =>
    obtain ⟨k, S, hk, rfl, rfl, HS, HA, HB⟩ := hrel
    have hb := trn_bd zs k
    rw [← HS.out] at hb
    have s1 := hb.1
    have s2 : S ≤ 8 := by omega
    clear hb
    by_cases hlt : (k : Int) < n
    · obtain ⟨q0, q1⟩ := lf_cells HA.out (k := k) (by omega)
      have HT := Lib.hid (trn_step zs k)
      obtain ⟨z, hz⟩ : ∃ z, zs.getD k 0 = z := ⟨_, rfl⟩
      rw [hz] at q0 q1 HT
      obtain ⟨a, ha⟩ : ∃ a, ab z = a := ⟨_, rfl⟩
      rw [ha] at q0
      clear hz ha
      have HA2 := Lib.hid (fun x => HA.out.on (below_alloc1 wr x))
      have HB2 := Lib.hid (fun x => HB.out.alloc HB.out.size x)
      by_cases c : z < 0
      · have HN := Lib.hid (show S + 1 = trn zs (k + 1) by rw [HT.out, if_pos c, HS.out])
        rw [show decide (z < 0) = true by simpa using c] at q1
        go_wp2
        go_roundw
        case rel => exact ⟨k + 1, S + 1, by omega, by go_num, by first | rfl | go_num, HN, Lib.hid (HA2.out _), Lib.hid (HB2.out _)⟩
        case measure => simp [intOf]; omega
      · have HN := Lib.hid (show S = trn zs (k + 1) by rw [HT.out, if_neg c, HS.out]; omega)
        rw [show decide (z < 0) = false by simpa using c] at q1
        go_wp2
        go_roundw
        case rel => exact ⟨k + 1, S, by omega, by go_num, by first | rfl | go_num, HN, Lib.hid (HA2.out _), Lib.hid (HB2.out _)⟩
        case measure => simp [intOf]; omega
    · have ek : k = n := by omega
      have HE := Lib.hid (show S = R by rw [HS.out, ek, HR.out])
      clear ek
      go_wp2
      go_ret
      exact ⟨by rw [HE.out] <;> rfl, HB.out⟩
set_option maxRecDepth 100000 in
set_option maxHeartbeats 2000000 in
theorem numbers_any (n : Nat) (zs : List Int) (hl : zs.length = n) (hn : n ≤ 8) (hz8 : ∀ k, k < n → -8 ≤ zs.getD k 0 ∧ zs.getD k 0 ≤ 8) (w : World) :
    Calls Try.prog 78 #[.agg (bkA n zs)] w fun e w' => ∃ v, e = .returned v ∧ w'.ownsRow w.heap.size 3 1 v n (Li.nums zs) ∧ Below w.heap.size w w' := by
  obtain ⟨i0, hi, hz0, hz1, hz2⟩ := info_parts Li.info3
  have HL := Lib.hid hl
  have HK := Lib.hid hz8
  have HT := Lib.hid (show zs.take n = zs from List.take_of_length_le (by omega))
  clear hl hz8
  go_enter Try.func78, Try.ntmps78
  go_wp2_with (first | (with_reducible refine wpList_load17 rfl (.tmp 1) rfl w.heap.size rfl (Arr.new _ _ _) ?_))
  refine (leaves_any n hn zs _).mono ?_
  rintro e w' ⟨rfl, rfl⟩
  go_wp2
  go_loopw [3, 9] (fun v i wr => ∃ (k : Nat) (vv : Value), vv = v ∧ k ≤ n ∧ i = .int .i64 (k : Int) ∧ Hid (wr.ownsRow (w.heap.size + 2) 3 1 vv k (Li.nums (zs.take k))) ∧ Hid (Arr wr (w.heap.size + 1) 54 (bkA n zs)) ∧ Hid (Below w.heap.size w wr)) (fun _ i _ => ((n : Int) - intOf i).toNat)
  case atStart => exact ⟨0, _, rfl, by omega, rfl, Lib.hid (World.ownsRow_nil _ _ _ _), Lib.hid (arr_new _ _ _ (by simp)), Lib.hid ((below_alloc1 _ _).alloc (by simp) _)⟩
  case round =>
    obtain ⟨k, v, rfl, hk, rfl, HO, HA, HB⟩ := hrel
    have hsw := HB.out.size
    have hsA := HA.out.lt
    by_cases hlt : (k : Int) < n
    · obtain ⟨q0, q1⟩ := lf_cells HA.out (k := k) (by omega)
      have hzb := HK.out k (by omega)
      have HN := Lib.hid (show zs.take (k + 1) = zs.take k ++ [zs.getD k 0] by
        rw [List.take_succ_eq_append_getElem (by rw [HL.out]; omega)]
        simp [List.getD, List.getElem?_eq_getElem (show k < zs.length by rw [HL.out]; omega)])
      obtain ⟨z, hz⟩ : ∃ z, zs.getD k 0 = z := ⟨_, rfl⟩
      rw [hz] at q0 q1 HN hzb
      have C := Lib.hid (fun W => signed_any z hzb.1 hzb.2 W)
      have z1 := hzb.1
      have z2 := hzb.2
      clear hz hzb
      have HB1 := Lib.hid (HB.out.alloc HB.out.size (.cells #[.int .i64 (ab z), .bool (decide (z < 0))] 50))
      have HB2 := Lib.hid (HB1.out.alloc HB1.out.size (.cells #[.int .i64 (ab z), .bool (decide (z < 0))] 50))
      have HB3 := Lib.hid (HB2.out.alloc HB2.out.size (.cells #[.int .i64 z] 3))
      have HOw := Lib.hid (((HO.out.alloc (.cells #[.int .i64 (ab z), .bool (decide (z < 0))] 50)).alloc (.cells #[.int .i64 (ab z), .bool (decide (z < 0))] 50)).alloc (.cells #[.int .i64 z] 3))
      have HA3 := Lib.hid (((HA.out.on (below_alloc1 wr (.cells #[.int .i64 (ab z), .bool (decide (z < 0))] 50))).on (below_alloc1 _ (.cells #[.int .i64 (ab z), .bool (decide (z < 0))] 50))).on (below_alloc1 _ (.cells #[.int .i64 z] 3)))
      have HLT := Lib.hid (fun j hj => (HO.out.lt j hj).1)
      obtain ⟨a, ha⟩ : ∃ a, ab z = a := ⟨_, rfl⟩
      obtain ⟨b, hb⟩ : ∃ b, decide (z < 0) = b := ⟨_, rfl⟩
      rw [ha, hb] at C HB1 HB2 HB3 HOw HA3
      rw [ha] at q0
      rw [hb] at q1
      clear ha hb
      go_wp2_with fail
      refine (C.out _).mono ?_
      rintro e w' ⟨rfl, rfl⟩
      go_wp2_with (first | (at_builtin; refine wpList_append_own _ rfl _ _ 22 rfl (w.heap.size + 2) 3 i0 (.int .i64 0) 1 8 Try.underlying22 hi hz0 hz1 hz2 rfl (by decide) _ _ _ rfl HOw.out ⟨_, 0, none⟩ 1 1 [.int .i64 z] rfl rfl (cell_one_b _ _ _ _ (by simp)) (fun x hx => by simp at hx; subst hx; rfl) (by unfold maxLen; omega) (by omega) (by simp; omega) ?_; intro v3 w3 hown3 hgrow3 _))
      have HB4 := Lib.hid (Below.grown HB3.out hgrow3 (by simp; omega) (fun j hj => by have := HLT.out j hj; omega))
      have HO3 := Lib.hid (show w3.ownsRow (w.heap.size + 2) 3 1 v3 (k + 1) (Li.nums (zs.take (k + 1))) by rw [HN.out, nums_snoc]; exact hown3)
      have HA4 := Lib.hid (show Arr w3 (w.heap.size + 1) 54 (bkA n zs) from (hgrow3.block (w.heap.size + 1) (by simp; omega) (fun e => by have := HLT.out _ e.symm; omega)).trans HA3.out)
      clear hown3 hgrow3
      go_roundw
      case rel => exact ⟨k + 1, _, rfl, by omega, by go_num, HO3, HA4, HB4⟩
      case measure => simp [intOf]; omega
    · have HE := Lib.hid (show k = n by omega)
      go_wp2
      go_ret
      exact ⟨_, rfl, by have h := HO.out; rw [HE.out, HT.out] at h; exact Li.own_le h (by omega), HB.out⟩
set_option maxRecDepth 100000 in
theorem leafPages_any (a : Int) (h1 : 1 ≤ a) (h2 : a ≤ 8) (w : World) : Calls Try.prog 75 #[.int .i64 a] w fun e w' => e = .returned (.tuple #[.int .i64 (2 * a - 1), .int .i64 (2 * a), .bool true]) ∧ w = w' := by
  have h3 : a ≤ 1000 := by omega
  go_enter Try.func75, Try.ntmps75
  go_wp2_with go_in
  go_ret3
  exact ⟨rfl, rfl⟩
set_option maxRecDepth 100000 in
set_option maxHeartbeats 2000000 in
theorem pages_any (n : Nat) (zs : List Int) (hl : zs.length = n) (hn : n ≤ 8) (hz8 : ∀ k, k < n → -8 ≤ zs.getD k 0 ∧ zs.getD k 0 ≤ 8 ∧ zs.getD k 0 ≠ 0) (w : World) :
    Calls Try.prog 47 #[.agg (bkA n zs)] w fun e w' => ∃ v, e = .returned v ∧ w'.ownsRow w.heap.size 3 1 v (2 * n) (Li.nums (rdL zs n)) ∧ Below w.heap.size w w' := by
  obtain ⟨i0, hi, hz0, hz1, hz2⟩ := info_parts Li.info3
  have HK := Lib.hid hz8
  clear hl hz8
  go_enter Try.func47, Try.ntmps47
  go_wp2_with (first | (with_reducible refine wpList_load17 rfl (.tmp 1) rfl w.heap.size rfl (Arr.new _ _ _) ?_))
  refine (leaves_any n hn zs _).mono ?_
  rintro e w' ⟨rfl, rfl⟩
  go_wp2
  go_loopw [3, 12] (fun v i wr => ∃ (k : Nat) (vv : Value), vv = v ∧ k ≤ n ∧ i = .int .i64 (k : Int) ∧ Hid (wr.ownsRow (w.heap.size + 2) 3 1 vv (2 * k) (Li.nums (rdL zs k))) ∧ Hid (Arr wr (w.heap.size + 1) 54 (bkA n zs)) ∧ Hid (Below w.heap.size w wr)) (fun _ i _ => ((n : Int) - intOf i).toNat)
  case atStart => exact ⟨0, _, rfl, by omega, rfl, Lib.hid (World.ownsRow_nil _ _ _ _), Lib.hid (arr_new _ _ _ (by simp)), Lib.hid ((below_alloc1 _ _).alloc (by simp) _)⟩
  case round =>
    obtain ⟨k, v, rfl, hk, rfl, HO, HA, HB⟩ := hrel
    have hsw := HB.out.size
    have hsA := HA.out.lt
    by_cases hlt : (k : Int) < n
    · obtain ⟨q0, q1⟩ := lf_cells HA.out (k := k) (by omega)
      have hzb := HK.out k (by omega)
      have HN := Lib.hid (rdL_step zs k)
      have HLT := Lib.hid (fun j hj => (HO.out.lt j hj).1)
      obtain ⟨z, hz⟩ : ∃ z, zs.getD k 0 = z := ⟨_, rfl⟩
      rw [hz] at q0 q1 HN hzb
      have z1 := hzb.1
      have z2 := hzb.2.1
      have z3 := hzb.2.2
      by_cases c : z < 0
      · rw [ab_neg c] at q0
        rw [show decide (z < 0) = true by simpa using c] at q1
        have C := Lib.hid (fun W => leafPages_any (-z) (by omega) (by omega) W)
        have e1 : p1 z = 2 * -z := by unfold p1; rw [if_pos c]; omega
        have e2 : p2 z = 2 * -z - 1 := by unfold p2; rw [if_pos c]; omega
        rw [e1, e2] at HN
        have HB1 := Lib.hid (HB.out.alloc HB.out.size (.cells #[.int .i64 (-z), .bool true] 50))
        have HB3 := Lib.hid (HB1.out.alloc HB1.out.size (.cells #[.int .i64 (2 * -z), .int .i64 (2 * -z - 1)] 3))
        have HOw := Lib.hid ((HO.out.alloc (.cells #[.int .i64 (-z), .bool true] 50)).alloc (.cells #[.int .i64 (2 * -z), .int .i64 (2 * -z - 1)] 3))
        have HA3 := Lib.hid ((HA.out.on (below_alloc1 wr (.cells #[.int .i64 (-z), .bool true] 50))).on (below_alloc1 _ (.cells #[.int .i64 (2 * -z), .int .i64 (2 * -z - 1)] 3)))
        clear hz hzb e1 e2
        obtain ⟨y, hy⟩ : ∃ y, -z = y := ⟨_, rfl⟩
        rw [hy] at q0 C HN HB1 HB3 HOw HA3
        have y1 : 1 ≤ y := by omega
        have y2 : y ≤ 8 := by omega
        clear hy
        go_wp2_with (first | (go_at_call 75; refine (C.out _).mono ?_; rintro e w' ⟨rfl, rfl⟩) | (at_builtin; refine wpList_append_own _ rfl _ _ 22 rfl (w.heap.size + 2) 3 i0 (.int .i64 0) 1 8 Try.underlying22 hi hz0 hz1 hz2 rfl (by decide) _ _ _ rfl HOw.out ⟨_, 0, none⟩ 2 2 [.int .i64 (2 * y), .int .i64 (2 * y - 1)] rfl rfl (cell_two_b _ _ _ _ _ (by simp)) (fun x hx => by simp at hx; rcases hx with rfl | rfl <;> rfl) (by unfold maxLen; omega) (by omega) (by simp; omega) ?_; intro v3 w3 hown3 hgrow3 _))
        have HB4 := Lib.hid (Below.grown HB3.out hgrow3 (by simp; omega) (fun j hj => by have := HLT.out j hj; omega))
        have HO3 := Lib.hid (show w3.ownsRow (w.heap.size + 2) 3 1 v3 (2 * (k + 1)) (Li.nums (rdL zs (k + 1))) by rw [HN.out, nums_two]; exact hown3)
        have HA4 := Lib.hid (show Arr w3 (w.heap.size + 1) 54 (bkA n zs) from (hgrow3.block (w.heap.size + 1) (by simp; omega) (fun e => by have := HLT.out _ e.symm; omega)).trans HA3.out)
        clear hown3 hgrow3
        go_roundw
        case rel => exact ⟨k + 1, _, rfl, by omega, by go_num, HO3, HA4, HB4⟩
        case measure => simp [intOf]; omega
      · rw [ab_pos c] at q0
        rw [show decide (z < 0) = false by simpa using c] at q1
        have C := Lib.hid (fun W => leafPages_any z (by omega) (by omega) W)
        have e1 : p1 z = 2 * z - 1 := by unfold p1; rw [if_neg c]
        have e2 : p2 z = 2 * z := by unfold p2; rw [if_neg c]
        rw [e1, e2] at HN
        have HB1 := Lib.hid (HB.out.alloc HB.out.size (.cells #[.int .i64 z, .bool false] 50))
        have HB3 := Lib.hid (HB1.out.alloc HB1.out.size (.cells #[.int .i64 (2 * z - 1), .int .i64 (2 * z)] 3))
        have HOw := Lib.hid ((HO.out.alloc (.cells #[.int .i64 z, .bool false] 50)).alloc (.cells #[.int .i64 (2 * z - 1), .int .i64 (2 * z)] 3))
        have HA3 := Lib.hid ((HA.out.on (below_alloc1 wr (.cells #[.int .i64 z, .bool false] 50))).on (below_alloc1 _ (.cells #[.int .i64 (2 * z - 1), .int .i64 (2 * z)] 3)))
        clear hz hzb e1 e2
        go_wp2_with (first | (go_at_call 75; refine (C.out _).mono ?_; rintro e w' ⟨rfl, rfl⟩) | (at_builtin; refine wpList_append_own _ rfl _ _ 22 rfl (w.heap.size + 2) 3 i0 (.int .i64 0) 1 8 Try.underlying22 hi hz0 hz1 hz2 rfl (by decide) _ _ _ rfl HOw.out ⟨_, 0, none⟩ 2 2 [.int .i64 (2 * z - 1), .int .i64 (2 * z)] rfl rfl (cell_two_b _ _ _ _ _ (by simp)) (fun x hx => by simp at hx; rcases hx with rfl | rfl <;> rfl) (by unfold maxLen; omega) (by omega) (by simp; omega) ?_; intro v3 w3 hown3 hgrow3 _))
        have HB4 := Lib.hid (Below.grown HB3.out hgrow3 (by simp; omega) (fun j hj => by have := HLT.out j hj; omega))
        have HO3 := Lib.hid (show w3.ownsRow (w.heap.size + 2) 3 1 v3 (2 * (k + 1)) (Li.nums (rdL zs (k + 1))) by rw [HN.out, nums_two]; exact hown3)
        have HA4 := Lib.hid (show Arr w3 (w.heap.size + 1) 54 (bkA n zs) from (hgrow3.block (w.heap.size + 1) (by simp; omega) (fun e => by have := HLT.out _ e.symm; omega)).trans HA3.out)
        clear hown3 hgrow3
        go_roundw
        case rel => exact ⟨k + 1, _, rfl, by omega, by go_num, HO3, HA4, HB4⟩
        case measure => simp [intOf]; omega
    · have HE := Lib.hid (show k = n by omega)
      go_wp2
      go_ret
      exact ⟨_, rfl, by have h := HO.out; rw [HE.out] at h; exact Li.own_le h (by omega), HB.out⟩
end Ln
end Go.Proofs.Ytabnjoohojojnaa
