/- IsStanding, from the program's side: an array of marks. -/
import Derived.Test.YtkfoapidmockfacSo
namespace Go.Proofs.Ytkfoapidmockfac
open Go.RowKit Go.Joins Go.Deep Go.ChangeShapes Go.WideShapes
set_option linter.unusedVariables false
set_option linter.unusedSimpArgs false
namespace So
open Sh
def marks (f : Nat → Bool) : Array Value := ((List.range 8).map fun j => Value.bool (f j)).toArray
theorem marks_size (f : Nat → Bool) : (marks f).size = 8 := by simp [marks]
theorem marks_at (f : Nat → Bool) (m : Nat) (h : m < 8) : (marks f)[m]? = some (.bool (f m)) := by
  unfold marks
  simp [h]
theorem marks_set (f : Nat → Bool) (m : Nat) (h : m < 8) : (marks f).setIfInBounds m (.bool true) = marks (fun j => f j || decide (m = j)) := by
  apply Array.ext
  · simp [marks]
  · intro i h1 h2
    rw [marks_size] at h2
    rw [Array.getElem_setIfInBounds (by simpa [marks] using h2)]
    by_cases e : m = i
    · subst e
      rw [if_pos rfl]
      simp [marks]
    · rw [if_neg e]
      simp [marks, e]
theorem marks_ext {f g : Nat → Bool} (h : ∀ j, j < 8 → f j = g j) : marks f = marks g := by
  unfold marks
  congr 1
  apply List.map_congr_left
  intro j hj
  rw [h j (List.mem_range.1 hj)]
theorem hasTo_step (zs : List Int) (x : Int) (k : Nat) : hasTo zs x (k + 1) = (hasTo zs x k || decide (zs.getD k 0 = x)) := by
  unfold hasTo
  rw [List.range_succ, List.any_append]
  simp
theorem hasTo_zero (zs : List Int) (x : Int) : hasTo zs x 0 = false := rfl
set_option maxRecDepth 100000 in
set_option maxHeartbeats 2000000 in
theorem iStands_any {b1 g len cap : Nat} {zs : List Int} {w : World} (h : Ow w b1 g len cap zs) (hl : len ≤ 1048576) (v : Bool) (hv : Ns.good zs = v) :
    Calls Try.prog 31 #[.slice (some ⟨g, 0, none⟩) len cap] w (Ret (.bool v) w) := by
  have hz := ow_len h
  have HO := Lib.hid h
  have HV := Lib.hid hv
  have HZ := Lib.hid hz
  clear h hv hz
  by_cases c1 : (len : Int) < 1
  · have E := Lib.hid (show v = false by
      rw [← HV.out]
      unfold Ns.good
      rw [HZ.out, show decide (1 ≤ len) = false by simp; omega]
      rfl)
    go_enter Try.func31, Try.ntmps31
    go_wp2
    go_ret
    exact ⟨rb E.out rfl, Below.refl _ _⟩
  by_cases c2 : (8 : Int) < len
  · have E := Lib.hid (show v = false by
      rw [← HV.out]
      unfold Ns.good
      rw [HZ.out, show decide (len ≤ 8) = false by simp; omega, Bool.and_false]
      rfl)
    go_enter Try.func31, Try.ntmps31
    go_wp2
    go_ret
    exact ⟨rb E.out rfl, Below.refl _ _⟩
  have h18 : 1 ≤ len := by omega
  have h28 : len ≤ 8 := by omega
  have GE := Lib.hid (show v = Ns.okTo zs len by
    rw [← HV.out]
    unfold Ns.good
    rw [HZ.out]
    simp [h18, h28])
  have HA0 := Lib.hid (show Arr (w.alloc (.cells #[.bool false, .bool false, .bool false, .bool false, .bool false, .bool false, .bool false, .bool false] 65)) w.heap.size 65 (marks fun j => hasTo zs (j : Int) 0) from Arr.new _ _ _)
  have HB0 := Lib.hid (show Below w.heap.size w (w.alloc (.cells #[.bool false, .bool false, .bool false, .bool false, .bool false, .bool false, .bool false, .bool false] 65)) from below_alloc1 _ _)
  go_enter Try.func31, Try.ntmps31
  go_wp2
  go_loopw [16] (fun i wr => ∃ k : Nat, k ≤ len ∧ i = .int .i64 (k : Int) ∧ Ns.okTo zs k = true ∧ Arr wr w.heap.size 65 (marks fun j => hasTo zs (j : Int) k) ∧ Below w.heap.size w wr) (fun i _ => ((len : Int) - intOf i).toNat)
  case atStart => exact ⟨0, by omega, rfl, rfl, HA0.out, HB0.out⟩
  case round =>
    obtain ⟨k, hk, rfl, hall, harr, hb⟩ := hrel
    have HA := Lib.hid hall
    have HR := Lib.hid harr
    have HB := Lib.hid hb
    clear hall harr hb
    by_cases hlt : (k : Int) < len
    · obtain ⟨z, HZK, hc⟩ := ow_at (Li.own_on HO.out HB.out) (k := k) (by omega)
      have ES := okTo_step zs k
      rw [HA.out, HZK.out, HZ.out, Bool.true_and] at ES
      have HES := Lib.hid ES
      clear ES
      by_cases d1 : z < 0
      · have E := Lib.hid (show v = false by
          rw [GE.out]
          refine okTo_le zs (j := k + 1) (by omega) ?_
          rw [HES.out, show decide (0 ≤ z) = false by simp; omega]
          rfl)
        go_wp2
        go_ret
        exact ⟨rb E.out rfl, HB.out⟩
      · by_cases d2 : (len : Int) ≤ z
        · have E := Lib.hid (show v = false by
            rw [GE.out]
            refine okTo_le zs (j := k + 1) (by omega) ?_
            rw [HES.out, show decide (z < (len : Int)) = false by simp; omega, Bool.and_false]
            rfl)
          go_wp2
          go_ret
          exact ⟨rb E.out rfl, HB.out⟩
        · obtain ⟨m, rfl⟩ := Int.eq_ofNat_of_zero_le (show 0 ≤ z by omega)
          have hm : m < len := by omega
          have hm8 : m < 8 := by omega
          obtain ⟨x3, hx3⟩ : ∃ x, hasTo zs (m : Int) k = x := ⟨_, rfl⟩
          have hq := HR.out.cell (marks_at _ m hm8)
          rw [hx3] at hq
          have HX3 := Lib.hid hx3
          have HN := Lib.hid (show Ns.okTo zs (k + 1) = !x3 by
            rw [HES.out, hx3, show decide ((0 : Int) ≤ (m : Int)) = true by simp, show decide ((m : Int) < (len : Int)) = true by simp; omega]
            rfl)
          clear hx3
          cases x3
          · have hfz := HR.out.frozen m
            have HR2 := Lib.hid (show Arr (wr.setCell ⟨w.heap.size, m, none⟩ (.bool true)) w.heap.size 65 (marks fun j => hasTo zs (j : Int) (k + 1)) by
              have h1 := HR.out.set m (.bool true)
              rw [marks_set _ m hm8] at h1
              rw [marks_ext (g := fun j => hasTo zs (j : Int) k || decide (m = j)) (fun j hj => by
                rw [hasTo_step, HZK.out]
                congr 1
                rw [Bool.eq_iff_iff]
                simp only [decide_eq_true_eq]
                omega)]
              exact h1)
            have HB2 := Lib.hid (HB.out.setCell (p := ⟨w.heap.size, m, none⟩) (Nat.le_refl _) (.bool true))
            go_wp2
            go_roundw
            case rel => exact ⟨k + 1, by omega, by go_num, HN.out, HR2.out, HB2.out⟩
            case measure => simp [intOf]; omega
          · have E := Lib.hid (show v = false by rw [GE.out]; exact okTo_le zs (j := k + 1) (by omega) HN.out)
            go_wp2
            go_ret
            exact ⟨rb E.out rfl, HB.out⟩
    · have E := Lib.hid (show v = true by rw [GE.out, show len = k by omega]; exact HA.out)
      go_wp2
      go_ret
      exact ⟨rb E.out rfl, HB.out⟩
end So
end Go.Proofs.Ytkfoapidmockfac
