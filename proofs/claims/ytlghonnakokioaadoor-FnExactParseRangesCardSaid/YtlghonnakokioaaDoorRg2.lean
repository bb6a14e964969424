/- Lists of ranges are compared, marked and held; how long a list the laws take; a list that came in as an argument. -/
import Derived.Test.YtlghonnakokioaaDoorRg
namespace Go.Proofs.YtlghonnakokioaaDoor
open Go.RowKit Go.Joins Go.Deep Go.ChangeShapes Go.WideShapes
set_option linter.unusedVariables false
set_option linter.unusedSimpArgs false
namespace Rg
theorem lt_of_cell {w : World} {a : Addr} {v : Value} (h : w.cell? a = some v) : a.block < w.heap.size := World.block_lt_of_cell? _ _ h
theorem keep1 {w w' : World} {a : Addr} {v : Value} (hb : Below w.drew.heap.size w.drew w') (h : w.cell? a = some v) : w'.cell? a = some v :=
  (hb.cell (p := a) (lt_of_cell h)).trans h
theorem keep4 {w w' : World} {a b a' b' : Addr} {x y x' y' : Value} (hb : Below w.drew.heap.size w.drew w')
    (h : w.cell? a = some x ∧ w.cell? b = some y ∧ w.cell? a' = some x' ∧ w.cell? b' = some y') :
    w'.cell? a = some x ∧ w'.cell? b = some y ∧ w'.cell? a' = some x' ∧ w'.cell? b' = some y' :=
  ⟨keep1 hb h.1, keep1 hb h.2.1, keep1 hb h.2.2.1, keep1 hb h.2.2.2⟩
set_option maxRecDepth 100000 in
set_option maxHeartbeats 1000000 in
theorem eqRangeS_some {b1 b2 g g' len cap cap' : Nat} {zs : List Int} {w : World} (h : Own w b1 (.slice (some ⟨g, 0, none⟩) len cap) len zs) (h' : Own w b2 (.slice (some ⟨g', 0, none⟩) len cap') len zs) (hl : len ≤ 1048576) :
    Calls Tryd.prog 19 #[.slice (some ⟨g, 0, none⟩) len cap, .slice (some ⟨g', 0, none⟩) len cap'] w (Ret (.bool true) w) := by
  have HC := Lib.hid h
  have HD := Lib.hid h'
  clear h h'
  go_enter Tryd.func19, Tryd.ntmps19
  go_wp2
  go_loopw [5] (fun i wr => ∃ k : Nat, k ≤ len ∧ i = .int .i64 (k : Int) ∧ Below w.heap.size w wr) (fun i _ => ((len : Int) - intOf i).toNat)
  case atStart => exact ⟨0, by omega, rfl, Below.refl _ _⟩
  case round =>
    obtain ⟨k, hk, rfl, hb⟩ := hrel
    by_cases hlt : (k : Int) < len
    · obtain ⟨q0, q1⟩ := cells2 (Li.own_on HC.out hb) (k := k) (by omega)
      obtain ⟨Q0, Q1⟩ := cells2 (Li.own_on HD.out hb) (k := k) (by omega)
      generalize zs.getD (k * 2) 0 = m at *
      generalize zs.getD (k * 2 + 1) 0 = d at *
      have HB := Lib.hid hb
      clear hb
      go_wp2
      go_region_held3 (fun w' => w'.cell? ⟨g, k * 2, none⟩ = some (.int .i64 m) ∧ w'.cell? ⟨g, k * 2 + 1, none⟩ = some (.int .i64 d) ∧ w'.cell? ⟨g', k * 2, none⟩ = some (.int .i64 m) ∧ w'.cell? ⟨g', k * 2 + 1, none⟩ = some (.int .i64 d))
        (first | exact ⟨q0, q1, Q0, Q1⟩ | exact hs6 | go_keep)
        (first
          | (go_at_call 14; refine (eqRange_same m d _).mono ?_; rintro e w4 ⟨rfl, hb4⟩; have hs6 : w4.cell? ⟨g, k * 2, none⟩ = some (.int .i64 m) ∧ w4.cell? ⟨g, k * 2 + 1, none⟩ = some (.int .i64 d) ∧ w4.cell? ⟨g', k * 2, none⟩ = some (.int .i64 m) ∧ w4.cell? ⟨g', k * 2 + 1, none⟩ = some (.int .i64 d) := keep4 hb4 ⟨q0, q1, Q0, Q1⟩))
      go_wp2
      go_roundw
      case rel => exact ⟨k + 1, by omega, by go_num, HB.out.drew.trans (below_le hb4 HB.out.size)⟩
      case measure => simp [intOf]; omega
    · go_wp2
      go_ret
      exact ⟨rfl, hb⟩
set_option maxRecDepth 100000 in
theorem eqRangeS_none (a a' : Option Addr) (cap cap' : Nat) (w : World) :
    Calls Tryd.prog 19 #[.slice a 0 cap, .slice a' 0 cap'] w (Ret (.bool true) w) := by
  go_enter Tryd.func19, Tryd.ntmps19
  go_wp2
  refine wp_loop_rounds 1 ?_
  rw [rounds_succ]
  go_wp2
  go_ret
  exact ⟨rfl, Below.refl _ _⟩
theorem eqRangeS_own {b1 b2 n : Nat} {v v' : Value} {zs : List Int} {w : World} (h : Own w b1 v n zs) (h' : Own w b2 v' n zs) (hl : n ≤ 1048576) :
    Calls Tryd.prog 19 #[v, v'] w (Ret (.bool true) w) := by
  by_cases h0 : n = 0
  · subst h0
    have k1 : ∃ a cap, v = .slice a 0 cap := by
      rcases Li.own_forms h with ⟨rfl, _⟩ | ⟨g, cap, rfl⟩ <;> exact ⟨_, _, rfl⟩
    have k2 : ∃ a cap, v' = .slice a 0 cap := by
      rcases Li.own_forms h' with ⟨rfl, _⟩ | ⟨g, cap, rfl⟩ <;> exact ⟨_, _, rfl⟩
    obtain ⟨a, cap, rfl⟩ := k1
    obtain ⟨a', cap', rfl⟩ := k2
    exact eqRangeS_none a a' cap cap' w
  · rcases Li.own_forms h with ⟨_, hz⟩ | ⟨g, cap, rfl⟩
    · exact absurd hz h0
    · rcases Li.own_forms h' with ⟨_, hz⟩ | ⟨g', cap', rfl⟩
      · exact absurd hz h0
      · exact eqRangeS_some h h' hl
/-- the marks z, z + 1, .. of j cells ahead of what stood there -/
def mk (z : Int) (xs : List Value) (j : Nat) : List Value := (List.range j).map (fun i : Nat => Value.int .i64 (z + (i : Int))) ++ xs.drop j
theorem mk_zero (z : Int) (xs : List Value) : mk z xs 0 = xs := by simp [mk]
theorem mk_step (z : Int) (xs : List Value) (k : Nat) (h : k < xs.length) : (mk z xs k).set k (.int .i64 (z + (k : Int))) = mk z xs (k + 1) := by
  unfold mk
  have e : ((List.range k).map (fun i : Nat => Value.int .i64 (z + (i : Int)))).length = k := by simp
  rw [List.set_append_right _ _ (by rw [e]; exact Nat.le_refl _), e, Nat.sub_self, List.range_succ, List.map_append, List.drop_eq_getElem_cons h]
  simp only [List.set_cons_zero, List.map_cons, List.map_nil, List.append_assoc, List.cons_append, List.nil_append]
theorem mk_step2 (z : Int) (xs : List Value) (k : Nat) (h : k * 2 + 1 < xs.length) : ((mk z xs (k * 2)).set (k * 2) (.int .i64 (z + 2 * (k : Int)))).set (k * 2 + 1) (.int .i64 (z + 2 * (k : Int) + 1)) = mk z xs ((k + 1) * 2) := by
  have e1 := mk_step z xs (k * 2) (by omega)
  have e2 := mk_step z xs (k * 2 + 1) (by omega)
  rw [show z + 2 * (k : Int) = z + ((k * 2 : Nat) : Int) by omega, e1, show z + ((k * 2 : Nat) : Int) + 1 = z + ((k * 2 + 1 : Nat) : Int) by omega, e2]
  rw [show k * 2 + 1 + 1 = (k + 1) * 2 by omega]
def marks (z : Int) (j : Nat) : List Int := (List.range j).map (fun i : Nat => z + (i : Int))
theorem mk_end (z : Int) (xs : List Value) (n : Nat) (h : xs.length = n) : mk z xs n = Li.nums (marks z n) := by
  unfold mk Li.nums marks
  rw [List.drop_of_length_le (by omega), List.map_map, List.append_nil]
  rfl
theorem marks_at (z : Int) (n k : Nat) (h : k < n) : (marks z n).getD k 0 = z + (k : Int) := by
  unfold marks
  simp [List.getD, h]
set_option maxRecDepth 100000 in
set_option maxHeartbeats 1000000 in
theorem markRangeS_some (base g cap len : Nat) (z : Int) (xs : List Value) (w : World) (h : w.ownsRow base 26 2 (.slice (some ⟨g, 0, none⟩) len cap) len xs) (hl : len ≤ 1048576) (z1 : 0 ≤ z) (z2 : z ≤ 100000000) :
    Calls Tryd.prog 22 #[.slice (some ⟨g, 0, none⟩) len cap, .int .i64 z] w fun e w' => e = .returned (.int .i64 (z + 2 * (len : Int))) ∧ Own w' base (.slice (some ⟨g, 0, none⟩) len cap) len (marks z (len * 2)) ∧ w.grownBy w' (some g) := by
  have hx : xs.length = len * 2 := h.1
  have h0 : w.ownsRow base 26 2 (.slice (some ⟨g, 0, none⟩) len cap) len (mk z xs (0 * 2)) := by rw [Nat.zero_mul, mk_zero]; exact h
  have H0 := Lib.hid h0
  have HX := Lib.hid hx
  clear h h0 hx
  go_enter Tryd.func22, Tryd.ntmps22
  go_wp2
  go_loopw [1, 5] (fun q i wr => ∃ k : Nat, k ≤ len ∧ i = .int .i64 (k : Int) ∧ q = .int .i64 (z + 2 * (k : Int)) ∧ wr.ownsRow base 26 2 (.slice (some ⟨g, 0, none⟩) len cap) len (mk z xs (k * 2)) ∧ w.grownBy wr (some g)) (fun _ i _ => ((len : Int) - intOf i).toNat)
  case atStart => exact ⟨0, by omega, rfl, by simp, H0.out, ⟨rfl, rfl, rfl, Nat.le_refl _, fun _ _ _ => rfl⟩⟩
  case round =>
    obtain ⟨k, hk, rfl, rfl, hown, hg⟩ := hrel
    by_cases hlt : (k : Int) < len
    · obtain ⟨v0, d0⟩ := hown.some_at2 (j := k * 2) (by omega)
      obtain ⟨v1, d1⟩ := hown.some_at2 (j := k * 2 + 1) (by omega)
      have f0 := hown.frozenAt (k * 2)
      have f1 := hown.frozenAt (k * 2 + 1)
      obtain ⟨s0, g0⟩ := hown.stored (k * 2) (.int .i64 (z + 2 * (k : Int)))
      obtain ⟨s1, g1⟩ := s0.stored (k * 2 + 1) (.int .i64 (z + 2 * (k : Int) + 1))
      rw [mk_step2 z xs k (by rw [HX.out]; omega)] at s1
      have HST := Lib.hid s1
      have HG := Lib.hid (show w.grownBy ((wr.setCell ⟨g, k * 2, none⟩ (.int .i64 (z + 2 * (k : Int)))).setCell ⟨g, k * 2 + 1, none⟩ (.int .i64 (z + 2 * (k : Int) + 1))) (some g) from
        ⟨(g1.os.trans g0.os).trans hg.os, (g1.tape.trans g0.tape).trans hg.tape, (g1.output.trans g0.output).trans hg.output, Nat.le_trans hg.size (Nat.le_trans g0.size g1.size), fun j hj hr => ((g1.block j (Nat.lt_of_lt_of_le hj (Nat.le_trans hg.size g0.size)) hr).trans (g0.block j (Nat.lt_of_lt_of_le hj hg.size) hr)).trans (hg.block j hj hr)⟩)
      clear s0 s1 g0 g1 hown hg
      go_wp2
      go_roundw
      case rel => exact ⟨k + 1, by omega, by go_num, by go_num, HST.out, HG.out⟩
      case measure => simp [intOf]; omega
    · have e : k = len := by omega
      have HO := Lib.hid (show Own wr base (.slice (some ⟨g, 0, none⟩) len cap) len (marks z (len * 2)) by unfold Own; rw [← mk_end z xs (len * 2) HX.out]; rw [e] at hown; exact hown)
      have E := Lib.hid e
      clear e hown
      go_wp2
      go_ret
      exact ⟨Li.ret_int (by have := E.out; omega), HO.out, hg⟩
set_option maxRecDepth 100000 in
theorem markRangeS_none (a : Option Addr) (cap : Nat) (z : Int) (w : World) :
    Calls Tryd.prog 22 #[.slice a 0 cap, .int .i64 z] w fun e w' => e = .returned (.int .i64 z) ∧ w = w' := by
  go_enter Tryd.func22, Tryd.ntmps22
  go_wp2
  refine wp_loop_rounds 1 ?_
  rw [rounds_succ]
  go_wp2
  go_ret
  exact ⟨rfl, rfl⟩
theorem markRangeS_own {base : Nat} {v : Value} {n : Nat} {z : Int} {xs : List Value} {w : World} (h : w.ownsRow base 26 2 v n xs) (hl : n ≤ 1048576) (z1 : 0 ≤ z) (z2 : z ≤ 100000000) :
    Calls Tryd.prog 22 #[v, .int .i64 z] w fun e w' => e = .returned (.int .i64 (z + 2 * (n : Int))) ∧ Own w' base v n (marks z (n * 2)) ∧ w.grownBy w' v.ownBlock := by
  rcases Li.own_forms h with ⟨rfl, rfl⟩ | ⟨g, cap, rfl⟩
  · refine (markRangeS_none none 0 z w).mono ?_
    rintro e w' ⟨rfl, rfl⟩
    exact ⟨Li.ret_int (by simp), World.ownsRow_nil _ _ _ _, ⟨rfl, rfl, rfl, Nat.le_refl _, fun _ _ _ => rfl⟩⟩
  · exact markRangeS_some base g cap n z xs w h hl z1 z2
set_option maxRecDepth 100000 in
set_option maxHeartbeats 1000000 in
theorem heldRangeS_some (base g cap len : Nat) (w : World) (h : Own w base (.slice (some ⟨g, 0, none⟩) len cap) len (marks 1 (len * 2))) (hl : len ≤ 1048576) :
    Calls Tryd.prog 23 #[.slice (some ⟨g, 0, none⟩) len cap, .int .i64 1] w fun e w' => e = .returned (.int .i64 (1 + 2 * (len : Int))) ∧ w = w' := by
  have HC := Lib.hid h
  clear h
  go_enter Tryd.func23, Tryd.ntmps23
  go_wp2
  go_loop [1, 5] (fun q i => ∃ k : Nat, k ≤ len ∧ i = .int .i64 (k : Int) ∧ q = .int .i64 (1 + 2 * (k : Int))) (fun _ i => ((len : Int) - intOf i).toNat)
  case atStart => exact ⟨0, by omega, rfl, rfl⟩
  case round =>
    obtain ⟨k, hk, rfl, rfl⟩ := hrel
    by_cases hlt : (k : Int) < len
    · obtain ⟨q0, q1⟩ := cells2 HC.out (k := k) (by omega)
      rw [marks_at 1 _ _ (by omega), show (1 : Int) + ((k * 2 : Nat) : Int) = 1 + 2 * (k : Int) by omega] at q0
      rw [marks_at 1 _ _ (by omega), show (1 : Int) + ((k * 2 + 1 : Nat) : Int) = 1 + 2 * (k : Int) + 1 by omega] at q1
      go_wp2
      go_round
      case rel => exact ⟨k + 1, by omega, by go_num, by go_num⟩
      case measure => simp [intOf]; omega
    · have E := Lib.hid (show k = len by omega)
      go_wp2
      go_ret
      exact ⟨Li.ret_int (by have := E.out; omega), rfl⟩
set_option maxRecDepth 100000 in
theorem heldRangeS_none (a : Option Addr) (cap : Nat) (w : World) :
    Calls Tryd.prog 23 #[.slice a 0 cap, .int .i64 1] w fun e w' => e = .returned (.int .i64 1) ∧ w = w' := by
  go_enter Tryd.func23, Tryd.ntmps23
  go_wp2
  refine wp_loop_rounds 1 ?_
  rw [rounds_succ]
  go_wp2
  go_ret
  exact ⟨rfl, rfl⟩
theorem heldRangeS_own {base : Nat} {v : Value} {n : Nat} {w : World} (h : Own w base v n (marks 1 (n * 2))) (hl : n ≤ 1048576) :
    Calls Tryd.prog 23 #[v, .int .i64 1] w fun e w' => e = .returned (.int .i64 (1 + 2 * (n : Int))) ∧ w = w' := by
  rcases Li.own_forms h with ⟨rfl, rfl⟩ | ⟨g, cap, rfl⟩
  · refine (heldRangeS_none none 0 w).mono ?_
    rintro e w' ⟨rfl, rfl⟩
    exact ⟨Li.ret_int (by simp), rfl⟩
  · exact heldRangeS_some base g cap n w h hl
set_option maxRecDepth 100000 in
theorem sz_yes (a : Option Addr) (len cap : Nat) (L : Int) (hl : (len : Int) ≤ L) (hL : L ≤ 1048576) (w : World) : Calls Tryd.prog 15 #[.slice a len cap, .int .i64 L] w fun e w' => e = .returned (.int .i64 (L - (len : Int))) ∧ w = w' := by
  have t1 : decide (L - (len : Int) < 0) = false := by simp; omega
  have t2 : wrap64 (L - (len : Int)) = L - (len : Int) := IntWalk.wrap64_in _ (by omega)
  go_enter Tryd.func15, Tryd.ntmps15
  go_wp2
  go_ret
  exact ⟨rfl, rfl⟩
set_option maxRecDepth 100000 in
theorem sz_no (a : Option Addr) (len cap : Nat) (L : Int) (hl : ¬ (len : Int) ≤ L) (h0 : 0 ≤ L) (hL : L ≤ 1048576) (hm : len ≤ maxLen) (w : World) : Calls Tryd.prog 15 #[.slice a len cap, .int .i64 L] w fun e w' => e = .returned (.int .i64 (-1)) ∧ w = w' := by
  have t0 : (len : Int) ≤ 9223372036854775807 := by unfold maxLen at hm; omega
  have t1 : decide (L - (len : Int) < 0) = true := by simp; omega
  have t2 : wrap64 (L - (len : Int)) = L - (len : Int) := IntWalk.wrap64_in _ (by omega)
  clear hm hl
  go_enter Tryd.func15, Tryd.ntmps15
  go_wp2
  go_ret
  exact ⟨rfl, rfl⟩
/-- a list of ranges as it came in -/
def Raw (W : World) (a : Option Addr) (len : Nat) (zs : List Int) : Prop := zs.length = 2 * len ∧ len ≤ maxLen ∧ (len = 0 ∨ ∃ b off, a = some ⟨b, off, none⟩ ∧ b < W.heap.size ∧
  ∀ i, i < len → W.cell? ⟨b, off + i * 2, none⟩ = some (.int .i64 (zs.getD (i * 2) 0)) ∧ W.cell? ⟨b, off + i * 2 + 1, none⟩ = some (.int .i64 (zs.getD (i * 2 + 1) 0)))
theorem Raw.came {W : World} {a : Option Addr} {len cap : Nat} {zs : List Int} (h : Raw W a len zs) (hl : len ≤ 1048576) : Came W (.slice a len cap) len zs := by
  refine ⟨h.1, hl, ?_⟩
  rcases h.2.2 with h0 | ⟨b, off, rfl, hb, hc⟩
  · exact Or.inl ⟨h0, a, cap, by rw [h0]⟩
  · exact Or.inr ⟨b, off, cap, rfl, h.1, hl, hb, hc⟩
/-- the number in a cell -/
def gv (W : World) (a : Addr) (j : Nat) : Int := match W.cell? (a.add j) with
  | some (.int _ z) => z
  | _ => 0
theorem gv_of {W : World} {a : Addr} {j : Nat} {z : Int} (h : W.cell? (a.add j) = some (.int .i64 z)) : W.cell? (a.add j) = some (.int .i64 (gv W a j)) := by
  unfold gv
  rw [h]
theorem cellsR : Tryd.prog.cellsOf 23 = 2 := by kernel_rfl
set_option maxRecDepth 100000 in
theorem rd_open {H : Type} {enc : TypeId × Value → H} {W : World} {fuel : Nat} {a : Option Addr} {len cap : Nat} {x : DataW H × List MemPlace} (h : DataW.trod enc Tryd.prog W 0 (fun _ => true) true fuel 33 [.slice a len cap] = some x) : ∃ zs, Raw W a len zs := by
  rcases open_slice Tryd.underlying33 h with ⟨hcs, _⟩ | ⟨b, l, c, m, n, D, Pl, hcs, hb, hl, hm, hmm, hx, hi⟩
  · simp at hcs
    obtain ⟨rfl, rfl, rfl⟩ := hcs
    exact ⟨[], by simp, by unfold maxLen; omega, Or.inl rfl⟩
  · simp at hcs
    obtain ⟨rfl, rfl, rfl⟩ := hcs
    have hlm : len ≤ m := by rw [hmm]; split <;> omega
    have key : ∀ j, j < 2 * len → W.cell? (b.add j) = some (.int .i64 (gv W b j)) := by
      intro j hj
      obtain ⟨i, r, hir, hr⟩ : ∃ i r, j = i * 2 + r ∧ r < 2 := ⟨j / 2, j % 2, by omega, by omega⟩
      subst hir
      obtain ⟨cs', h1, h2⟩ := hi i (by omega)
      rw [cellsR] at h1
      obtain ⟨_, hlen, hat⟩ := World.cells?_some h1
      obtain ⟨y0, y1, n', _, _, g0, g1⟩ := trod_struct2 Tryd.underlying23 h2
      have hc := hat r hr
      rw [Go.Deep.add_add] at hc
      match cs', hlen, g0, g1, hc with
      | [c0, c1], _, g0, g1, hc =>
        have e3 : Tryd.prog.cellsOf 3 = 1 := by kernel_rfl
        simp only [e3] at g0 g1
        obtain ⟨z0, e0, _, _⟩ := DataW.trod_int Tryd.underlying3 g0
        obtain ⟨z1, e1, _, _⟩ := DataW.trod_int Tryd.underlying3 g1
        simp at e0 e1
        subst e0 e1
        rcases (show r = 0 ∨ r = 1 by omega) with rfl | rfl
        · exact gv_of (by rw [hc]; rfl)
        · exact gv_of (by rw [hc]; rfl)
    refine ⟨(List.range (2 * len)).map (gv W b), by simp, Nat.le_trans hl hm, ?_⟩
    by_cases h0 : len = 0
    · exact Or.inl h0
    · refine Or.inr ?_
      have key2 : ∀ j, j < ((List.range (2 * len)).map (gv W b)).length → W.cell? (b.add j) = some (.int .i64 (((List.range (2 * len)).map (gv W b)).getD j 0)) := by
        intro j hj
        have hj' : j < 2 * len := by simpa using hj
        rw [key j hj']
        simp [List.getD, hj']
      obtain ⟨bb, off, rfl, hc⟩ := ints_at key2 (by simp; omega)
      have hlt := World.block_lt_of_cell? _ _ (hc 0 (by simp; omega))
      refine ⟨bb, off, rfl, hlt, fun i hi' => ⟨?_, ?_⟩⟩
      · exact hc (i * 2) (by simp; omega)
      · exact hc (i * 2 + 1) (by simp; omega)
end Rg
end Go.Proofs.YtlghonnakokioaaDoor
