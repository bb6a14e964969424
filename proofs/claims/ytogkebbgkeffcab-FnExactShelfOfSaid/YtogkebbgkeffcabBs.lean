/- What is left behind a shelf that has taken as many volumes as it can. -/
import Derived.Test.YtogkebbgkeffcabWa
namespace Go.Proofs.Ytogkebbgkeffcab
open Go.RowKit Go.Joins Go.Deep Go.ChangeShapes Go.WideShapes
set_option linter.unusedVariables false
set_option linter.unusedSimpArgs false
namespace Sh
open So (Arr)
def BFacts (zs : List Int) (c wide : Int) (J n : Nat) (t : Int) (j : Nat) : Prop :=
  (∀ u, J ≤ u → u < j → Sf.on zs c wide u = t ∧ Sf.own zs c u ≤ wide) ∧ (j < n → Sf.own zs c j ≤ wide → Sf.st zs c wide (j + 1) = (t + 1, wide - Sf.own zs c j)) ∧ (j = J → J < n → wide < Sf.own zs c J)
def BPost (zs : List Int) (c wide : Int) (J n : Nat) (t : Int) (w : World) (e : Ending) (w' : World) : Prop :=
  ∃ j, J ≤ j ∧ j ≤ n ∧ e = .returned (.agg (A8 (wf zs c j n))) ∧ Below w.heap.size w w' ∧ BFacts zs c wide J n t j
def jj (J n k : Nat) : Nat := max J (min k n)
theorem jj_in {J n k : Nat} (h : J ≤ n) : J ≤ jj J n k ∧ jj J n k ≤ n := by unfold jj; omega
def QR (zs : List Int) (c wide : Int) (J n : Nat) (t : Int) (k : Nat) (r : Int) : Prop :=
  0 ≤ r ∧ r ≤ wide ∧ (jj J n k = J → r = wide) ∧ (J < jj J n k → Sf.st zs c wide (jj J n k) = (t, r)) ∧ ∀ u, J ≤ u → u < jj J n k → Sf.on zs c wide u = t ∧ Sf.own zs c u ≤ wide
theorem QR.pass {zs : List Int} {c wide : Int} {J n : Nat} {t : Int} {k : Nat} {r : Int} (h : QR zs c wide J n t k r) (hJ : J ≤ n) (hk : k < J ∨ n ≤ k) : jj J n (k + 1) = jj J n k ∧ QR zs c wide J n t (k + 1) r := by
  have e : jj J n (k + 1) = jj J n k := by unfold jj; omega
  refine ⟨e, ?_⟩
  unfold QR at *
  rw [e]
  exact h
theorem QR.take {zs : List Int} {c wide : Int} {J n : Nat} {t : Int} {k : Nat} {r : Int} (h : QR zs c wide J n t k r) (h1 : J ≤ k) (h2 : k < n) (hE : J < n → Sf.own zs c J ≤ wide → Sf.st zs c wide (J + 1) = (t, wide - Sf.own zs c J)) (hp : 0 ≤ Sf.own zs c k) (hr : Sf.own zs c k ≤ r) : jj J n (k + 1) = k + 1 ∧ QR zs c wide J n t (k + 1) (r - Sf.own zs c k) := by
  have e0 : jj J n k = k := by unfold jj; omega
  have e : jj J n (k + 1) = k + 1 := by unfold jj; omega
  refine ⟨e, ?_⟩
  obtain ⟨a1, a2, a3, a4, a5⟩ := h
  rw [e0] at a3 a4 a5
  have key : Sf.st zs c wide (k + 1) = (t, r - Sf.own zs c k) := by
    by_cases ek : k = J
    · subst ek
      rw [a3 rfl] at hr ⊢
      exact hE h2 hr
    · have e1 := a4 (by omega)
      show (if (Sf.st zs c wide k).2 < Sf.own zs c k then ((Sf.st zs c wide k).1 + 1, wide - Sf.own zs c k) else ((Sf.st zs c wide k).1, (Sf.st zs c wide k).2 - Sf.own zs c k)) = _
      rw [e1]
      simp only []
      rw [if_neg (by omega)]
  refine ⟨by omega, by omega, fun ej => by omega, fun _ => by rw [e]; exact key, fun u u1 u2 => ?_⟩
  rw [e] at u2
  by_cases eu : u = k
  · subst eu
    exact ⟨by unfold Sf.on; rw [key], by omega⟩
  · exact a5 u u1 (by omega)
theorem QR.stop {zs : List Int} {c wide : Int} {J n : Nat} {t : Int} {k : Nat} {r : Int} (h : QR zs c wide J n t k r) (h1 : J ≤ k) (h2 : k < n) (hr : r < Sf.own zs c k) : jj J n k = k ∧ BFacts zs c wide J n t k := by
  have e0 : jj J n k = k := by unfold jj; omega
  refine ⟨e0, ?_⟩
  obtain ⟨a1, a2, a3, a4, a5⟩ := h
  rw [e0] at a3 a4 a5
  refine ⟨a5, fun _ hw => ?_, fun ek _ => ?_⟩
  · by_cases ek : k = J
    · subst ek
      rw [a3 rfl] at hr
      omega
    · have e1 := a4 (by omega)
      show (if (Sf.st zs c wide k).2 < Sf.own zs c k then ((Sf.st zs c wide k).1 + 1, wide - Sf.own zs c k) else ((Sf.st zs c wide k).1, (Sf.st zs c wide k).2 - Sf.own zs c k)) = _
      rw [e1]
      simp only []
      rw [if_pos hr]
  · subst ek
    rw [a3 rfl] at hr
    exact hr
theorem QR.done {zs : List Int} {c wide : Int} {J n : Nat} {t : Int} {r : Int} (h : QR zs c wide J n t 8 r) (hJ : J ≤ n) (hn : n ≤ 8) : jj J n 8 = n ∧ BFacts zs c wide J n t n := by
  have e0 : jj J n 8 = n := by unfold jj; omega
  refine ⟨e0, ?_⟩
  obtain ⟨a1, a2, a3, a4, a5⟩ := h
  rw [e0] at a3 a4 a5
  exact ⟨a5, fun hh => absurd hh (Nat.lt_irrefl _), fun ek hh => by omega⟩
theorem wf_in {zs : List Int} {c : Int} {J n k : Nat} (h1 : J ≤ k) (h2 : k < n) : wf zs c J n k = Sf.own zs c k := by unfold wf; rw [if_pos ⟨h1, h2⟩]
theorem wf_out {zs : List Int} {c : Int} {J n k : Nat} (h : k < J ∨ n ≤ k) : wf zs c J n k = 0 := by unfold wf; rw [if_neg (by omega)]
theorem wf_zero (zs : List Int) (c : Int) (J n k J' : Nat) (hJ' : J' = if J ≤ k ∧ k < n then k + 1 else jj J n k) : ∀ v, v < 8 → (if v = k then 0 else wf zs c (jj J n k) n v) = wf zs c J' n v := by
  intro v _
  subst hJ'
  by_cases hk : J ≤ k ∧ k < n
  · rw [if_pos hk]
    have e0 : jj J n k = k := by unfold jj; omega
    rw [e0]
    by_cases ev : v = k
    · rw [if_pos ev, wf_out (by omega)]
    · rw [if_neg ev]
      unfold wf
      by_cases e2 : k ≤ v ∧ v < n
      · rw [if_pos e2, if_pos (by omega)]
      · rw [if_neg e2, if_neg (by omega)]
  · rw [if_neg hk]
    by_cases ev : v = k
    · rw [if_pos ev, wf_out (by unfold jj; omega)]
    · rw [if_neg ev]
theorem index_run (f : Nat → Int) : ∀ k : Nat, k < 8 → ∀ W, (Instr.index 48 (.agg (A8 f)) (.int .i64 (k : Int))).run Try.prog W = .ok (.int .i64 (f k)) W := by
  refine lt8 ?_ ?_ ?_ ?_ ?_ ?_ ?_ ?_ <;> (intro W; first | rfl | kernel_rfl)
set_option maxRecDepth 100000 in
set_option maxHeartbeats 4000000 in
theorem behind_any {zs : List Int} {c : Int} {J n : Nat} {t wide : Int} {w : World} (ho : Ok zs c) (hn : zs.length = n) (hJ : J ≤ n) (hw1 : 1 ≤ wide) (hw2 : wide ≤ 2000) (hE : J < n → Sf.own zs c J ≤ wide → Sf.st zs c wide (J + 1) = (t, wide - Sf.own zs c J)) :
    Calls Try.prog 42 #[.agg (A8 (wf zs c J n)), .int .i64 wide] w (BPost zs c wide J n t w) := by
  have HK := Lib.hid ho
  have HN := Lib.hid hn
  have HE := Lib.hid hE
  have hn8 : n ≤ 8 := by have := ho.2.1; omega
  have ha1 : Arr ((w.alloc (.cells (A8 (wf zs c J n)) 48)).alloc (.cells (A8 fun _ => 0) 48)) w.heap.size 48 (A8 (wf zs c (jj J n 0) n)) := by
    rw [show jj J n 0 = J by unfold jj; omega]
    exact (Arr.new w _ _).on (below_alloc1 _ _)
  have HA1 := Lib.hid ha1
  have HA2 := Lib.hid (arr_new (w.alloc (.cells (A8 (wf zs c J n)) 48)) (A8 fun _ => 0) 48 (b := w.heap.size + 1) (by simp))
  have HB0 := Lib.hid (show Below w.heap.size w ((w.alloc (.cells (A8 (wf zs c J n)) 48)).alloc (.cells (A8 fun _ => 0) 48)) from (below_alloc1 _ _).alloc (by simp) _)
  have HQ := Lib.hid (show QR zs c wide J n t 0 wide from by
    have e : jj J n 0 = J := by unfold jj; omega
    refine ⟨by omega, Int.le_refl _, fun _ => rfl, fun hh => by omega, fun u u1 u2 => by omega⟩)
  clear ho hn hE ha1
  go_enter Try.func42, Try.ntmps42
  go_wp2
  go_loopw [1, 8] (fun r i wr => ∃ (k : Nat) (x : Int), k ≤ 8 ∧ i = .int .i64 (k : Int) ∧ r = .int .i64 x ∧ QR zs c wide J n t k x ∧ Arr wr w.heap.size 48 (A8 (wf zs c (jj J n k) n)) ∧ Arr wr (w.heap.size + 1) 48 (A8 fun _ => 0) ∧ Below w.heap.size w wr) (fun _ i _ => (8 - intOf i).toNat)
  case atStart => exact ⟨0, wide, by omega, rfl, rfl, HQ.out, HA1.out, HA2.out, HB0.out⟩
  case round =>
    obtain ⟨k, x, hk, rfl, rfl, hq, a1, a2, hb⟩ := hrel
    have Q := Lib.hid hq
    have R1 := Lib.hid a1
    have R2 := Lib.hid a2
    have HB := Lib.hid hb
    have x1 := hq.1
    have x2 := hq.2.1
    clear hq a1 a2 hb
    by_cases hlt : (k : Int) < 8
    · have hk8 : k < 8 := by omega
      have hidx := index_run (wf zs c J n) k hk8
      have hfz := R1.out.frozen k
      have hcl := R1.out.cell (A8_at (wf zs c (jj J n k) n) k hk8)
      have HB2 := Lib.hid (HB.out.setCell (p := ⟨w.heap.size, k, none⟩) (Nat.le_refl _) (.int .i64 0))
      have U2 := Lib.hid (arr_other R2.out (b' := w.heap.size) (by omega) k (.int .i64 0))
      have U1 := R1.out.set k (.int .i64 0)
      rw [A8_set _ _ k hk8] at U1
      have HU1 := Lib.hid U1
      clear U1
      by_cases hin : J ≤ k ∧ k < n
      · have ho1 := own_in HK.out k (by rw [HN.out]; omega)
        have EW := wf_in (zs := zs) (c := c) hin.1 hin.2
        obtain ⟨y, hy⟩ : ∃ y, Sf.own zs c k = y := ⟨_, rfl⟩
        rw [hy] at ho1 EW
        have HY := Lib.hid hy
        have y1 := ho1.1
        have y2 := ho1.2
        rw [EW] at hidx
        have hin1 := hin.1
        have hin2 := hin.2
        clear hy ho1 EW
        by_cases hxy : x < y
        · have ST := Q.out.stop hin1 hin2 (by rw [HY.out]; exact hxy)
          have FF := Lib.hid ST.2
          have e0 := ST.1
          have R1' := R1.out
          rw [e0] at R1'
          have R1 := Lib.hid R1'
          have JJ1 := hin1
          have JJ2 : k ≤ n := by omega
          clear ST e0 R1' hin hcl hfz HU1 U2 HB2
          obtain ⟨q0, q1, q2, q3, q4, q5, q6, q7⟩ := c8 R1.out
          obtain ⟨r0, r1, r2, r3, r4, r5, r6, r7⟩ := c8 R2.out
          have hfz := fun j => R2.out.frozen j
          go_wp2
          have hC := c8 (arr_set8 (wf zs c k n) R2.out)
          have hB := below_set8 HB.out (show w.heap.size ≤ w.heap.size + 1 by omega) (.int .i64 (wf zs c k n 0)) (.int .i64 (wf zs c k n 1)) (.int .i64 (wf zs c k n 2)) (.int .i64 (wf zs c k n 3)) (.int .i64 (wf zs c k n 4)) (.int .i64 (wf zs c k n 5)) (.int .i64 (wf zs c k n 6)) (.int .i64 (wf zs c k n 7))
          clear q0 q1 q2 q3 q4 q5 q6 q7 r0 r1 r2 r3 r4 r5 r6 r7 hfz
          revert hC hB
          generalize ((((((((wr.setCell ⟨w.heap.size + 1, 0, none⟩ (.int .i64 (wf zs c k n 0))).setCell ⟨w.heap.size + 1, 1, none⟩ (.int .i64 (wf zs c k n 1))).setCell ⟨w.heap.size + 1, 2, none⟩ (.int .i64 (wf zs c k n 2))).setCell ⟨w.heap.size + 1, 3, none⟩ (.int .i64 (wf zs c k n 3))).setCell ⟨w.heap.size + 1, 4, none⟩ (.int .i64 (wf zs c k n 4))).setCell ⟨w.heap.size + 1, 5, none⟩ (.int .i64 (wf zs c k n 5))).setCell ⟨w.heap.size + 1, 6, none⟩ (.int .i64 (wf zs c k n 6))).setCell ⟨w.heap.size + 1, 7, none⟩ (.int .i64 (wf zs c k n 7))) = W8
          intro hC hB
          obtain ⟨q0, q1, q2, q3, q4, q5, q6, q7⟩ := hC
          exact bodyPost_ret (v := .agg (A8 (wf zs c k n))) (by simp [results, Try.results42, go_sem, q0, q1, q2, q3, q4, q5, q6, q7]) rfl ⟨k, JJ1, JJ2, rfl, hB, FF.out⟩
        · have TK := Q.out.take hin1 hin2 HE.out (by rw [HY.out]; omega) (by rw [HY.out]; omega)
          have QN := Lib.hid (show QR zs c wide J n t (k + 1) (x - y) by rw [← HY.out]; exact TK.2)
          have V1 := Lib.hid (show Arr (wr.setCell ⟨w.heap.size, k, none⟩ (.int .i64 0)) w.heap.size 48 (A8 (wf zs c (jj J n (k + 1)) n)) from
            arr_ext (wf_zero zs c J n k _ (by rw [if_pos hin, TK.1])) HU1.out)
          have t1 : decide (x < y) = false := by simpa using hxy
          clear TK hin hxy HU1
          go_wp2
          go_roundw
          case rel => exact ⟨k + 1, x - y, by omega, by go_num, rfl, QN.out, V1.out, U2.out, HB2.out⟩
          case measure => simp [intOf]; omega
      · have EW := wf_out (zs := zs) (c := c) (J := J) (n := n) (k := k) (by omega)
        rw [EW] at hidx
        have PS := Q.out.pass hJ (by omega)
        have QN := Lib.hid PS.2
        have V1 := Lib.hid (show Arr (wr.setCell ⟨w.heap.size, k, none⟩ (.int .i64 0)) w.heap.size 48 (A8 (wf zs c (jj J n (k + 1)) n)) from
          arr_ext (wf_zero zs c J n k _ (by rw [if_neg hin, PS.1])) HU1.out)
        clear PS EW hin HU1
        go_wp2
        go_roundw
        case rel => exact ⟨k + 1, x, by omega, by go_num, rfl, QN.out, V1.out, U2.out, HB2.out⟩
        case measure => simp [intOf]; omega
    · have e : k = 8 := by omega
      subst e
      have ST := Q.out.done hJ hn8
      have FF := Lib.hid ST.2
      have e0 := ST.1
      have R1' := R1.out
      rw [e0] at R1'
      have R1 := Lib.hid R1'
      have JJ1 := hJ
      have JJ2 : n ≤ n := Nat.le_refl _
      clear ST e0 R1'
      obtain ⟨q0, q1, q2, q3, q4, q5, q6, q7⟩ := c8 R1.out
      obtain ⟨r0, r1, r2, r3, r4, r5, r6, r7⟩ := c8 R2.out
      have hfz := fun j => R2.out.frozen j
      go_wp2
      have hC := c8 (arr_set8 (wf zs c n n) R2.out)
      have hB := below_set8 HB.out (show w.heap.size ≤ w.heap.size + 1 by omega) (.int .i64 (wf zs c n n 0)) (.int .i64 (wf zs c n n 1)) (.int .i64 (wf zs c n n 2)) (.int .i64 (wf zs c n n 3)) (.int .i64 (wf zs c n n 4)) (.int .i64 (wf zs c n n 5)) (.int .i64 (wf zs c n n 6)) (.int .i64 (wf zs c n n 7))
      clear q0 q1 q2 q3 q4 q5 q6 q7 r0 r1 r2 r3 r4 r5 r6 r7 hfz
      revert hC hB
      generalize ((((((((wr.setCell ⟨w.heap.size + 1, 0, none⟩ (.int .i64 (wf zs c n n 0))).setCell ⟨w.heap.size + 1, 1, none⟩ (.int .i64 (wf zs c n n 1))).setCell ⟨w.heap.size + 1, 2, none⟩ (.int .i64 (wf zs c n n 2))).setCell ⟨w.heap.size + 1, 3, none⟩ (.int .i64 (wf zs c n n 3))).setCell ⟨w.heap.size + 1, 4, none⟩ (.int .i64 (wf zs c n n 4))).setCell ⟨w.heap.size + 1, 5, none⟩ (.int .i64 (wf zs c n n 5))).setCell ⟨w.heap.size + 1, 6, none⟩ (.int .i64 (wf zs c n n 6))).setCell ⟨w.heap.size + 1, 7, none⟩ (.int .i64 (wf zs c n n 7))) = W8
      intro hC hB
      obtain ⟨q0, q1, q2, q3, q4, q5, q6, q7⟩ := hC
      exact bodyPost_ret (v := .agg (A8 (wf zs c n n))) (by simp [results, Try.results42, go_sem, q0, q1, q2, q3, q4, q5, q6, q7]) rfl ⟨n, JJ1, JJ2, rfl, hB, FF.out⟩
end Sh
end Go.Proofs.Ytogkebbgkeffcab
