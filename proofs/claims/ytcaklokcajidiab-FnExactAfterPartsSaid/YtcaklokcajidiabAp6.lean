/- How many pages there were at first: what impl.AfterParts answers. -/
import Derived.Test.YtcaklokcajidiabAp5
namespace Go.Proofs.Ytcaklokcajidiab
open Go.RowKit Go.Joins Li
set_option linter.unusedVariables false
set_option linter.unusedSimpArgs false
namespace Ap
set_option maxRecDepth 100000 in
set_option maxHeartbeats 4000000 in
theorem impl_some (l : Int) (b off len cap mb mo mcap : Nat) (R : List (List Int)) (ms : List Int) (w : World) (h : Ss.Rows 0 w b off R) (hz : R.length = len) (hm : Ss.At 0 w mb mo ms) (hmz : ms.length = len)
    (hg : Good l R ms) :
    Calls Try.prog 27 #[.int .i64 l, .slice (some ⟨b, off, none⟩) len cap, .slice (some ⟨mb, mo, none⟩) len mcap] w (Out (ans l R ms) w) := by
  have h6 : len ≤ 6 := by have := hg.2.1; omega
  obtain ⟨hl0, hl1⟩ := hg.1
  have HC := Lib.hid h
  have HZ := Lib.hid hz
  have HM := Lib.hid hm
  have HMZ := Lib.hid hmz
  have HG := Lib.hid hg
  have HV := Lib.hid (show Ss.Row 0 w (.slice (some ⟨mb, mo, none⟩) len mcap) ms from ⟨_, _, by rw [hmz], by rw [hmz]; unfold maxLen; omega, Or.inr ⟨_, _, rfl, hm⟩⟩)
  have HW := Lib.hid (show Ss.Grid 0 w (.slice (some ⟨b, off, none⟩) len cap) R from ⟨_, _, by rw [hz], by rw [hz]; unfold maxLen; omega, Or.inr ⟨_, _, rfl, h⟩⟩)
  clear h hz hm hmz hg
  go_enter Try.func27, Try.ntmps27
  go_wp2_with fail
  refine (areParts_any HW.out).mono ?_
  rintro e w1 ⟨bb, rfl, hbb, hb1⟩
  obtain rfl : bb = true := hbb.2 ⟨HG.out.2.1, HG.out.2.2.2.2⟩
  have HV1 := Lib.hid (HV.out.on hb1)
  have HB1 := Lib.hid hb1
  clear hbb HV HW hb1
  go_wp2_with fail
  refine (areMore_any HV1.out).mono ?_
  rintro e w2 ⟨bb, rfl, hbb, hb2⟩
  obtain rfl : bb = true := hbb.2 HG.out.2.2.2.1
  have HB := Lib.hid (HB1.out.trans (below_le hb2 HB1.out.size))
  clear hbb HV1 HB1 hb2
  go_wp2
  go_loopw [8, 9] (fun v i wr => ∃ (j : Nat) (m z : Int), i = .int .i64 z ∧ z = (j : Int) - 1 ∧ v = .int .i64 m ∧ At l R ms j m ∧ Below w.heap.size w wr) (fun _ i _ => (intOf i + 1).toNat)
  case atStart => exact ⟨len, l, (len : Int) - 1, by go_num, rfl, rfl, ⟨by have := HZ.out; omega, hl0, hl1, by rw [HZ.out]⟩, HB.out⟩
  case round =>
    clear HB
    obtain ⟨j, m, z, rfl, hz, rfl, ⟨hj, h0, h1, hrun⟩, hb⟩ := hrel
    cases j with
    | zero =>
      obtain rfl : z = -1 := by omega
      have HO := Lib.hid (show run R ms R.length l = some m from hrun.symm)
      clear hrun hz
      go_wp2
      go_ret2
      exact out_some HG.out HO.out hb
    | succ j =>
      obtain rfl : z = (j : Int) := by omega
      have hlen := HZ.out
      have hj' : j < len := by omega
      obtain ⟨u, q, hu⟩ := (HC.out.on hb).2 j (by omega)
      have qm := (HM.out.on hb).2.2 j (by rw [HMZ.out]; omega)
      have hpo := HG.out.2.2.2.2 j (by omega)
      obtain ⟨ub, uo, uc, rfl, q0, q1⟩ := row_two hu hpo.1
      have hmo := HG.out.2.2.2.1 j (by rw [HMZ.out]; omega)
      obtain ⟨_, p1, p2, p3⟩ := hpo
      have E1 := Lib.hid (step_bad (R := R) (ms := ms) (k := j) (l := m))
      have E2 := Lib.hid (step_far (R := R) (ms := ms) (k := j) (l := m))
      have E3 := Lib.hid (step_on (R := R) (ms := ms) (k := j) (l := m))
      have HX := Lib.hid hrun
      have HB := Lib.hid hb
      unfold nu de at E1 E2 E3
      clear hu hrun hb hlen hj hz
      generalize (R.getD j []).getD 0 0 = x at *
      generalize (R.getD j []).getD 1 0 = y at *
      generalize ms.getD j 0 = d at *
      obtain ⟨f1, f2, f3, f4, f5, f6⟩ := prod_in (K := m + d) (n := x) (d := y) (by omega) (by omega) p1 p2 p3
      have n1 : ¬ y - x = 0 := by omega
      have g1 : IntKind.i64.wrap (((m + d) * y).tdiv (y - x)) = ((m + d) * y).tdiv (y - x) := by rw [IntKind.wrap_i64]; omega
      by_cases c1 : ((m + d) * y).tmod (y - x) = 0
      · have t1 : (((m + d) * y).tmod (y - x) != 0) = false := by simp [c1]
        have t1' : ((m + d) * y % (y - x) != 0) = false := by rw [← Int.tmod_eq_emod_of_nonneg f1]; exact t1
        by_cases c2 : ((m + d) * y).tdiv (y - x) ≤ 2000
        · have HE := Lib.hid (E3.out c1 c2)
          have t4 : decide (2000 < ((m + d) * y).tdiv (y - x)) = false := decide_eq_false (by omega)
          clear E1 E2 E3 c1
          go_wp2
          go_quiet (fail)
          go_wp2
          go_roundw
          case rel => exact ⟨j, _, _, by go_num, rfl, rfl, ⟨by have := HZ.out; omega, f3, c2, by rw [← HE.out]; exact HX.out⟩, Li.below_draws HB.out _⟩
          case measure => simp [intOf]; try omega
        · have HE := Lib.hid ((E2.out c2).symm.trans HX.out)
          have t4 : decide (2000 < ((m + d) * y).tdiv (y - x)) = true := decide_eq_true (by omega)
          clear E1 E2 E3 c1
          go_wp2
          go_quiet (fail)
          go_wp2
          go_ret2
          exact out_none HE.out.symm (Li.below_draws HB.out _)
      · have HE := Lib.hid ((E1.out c1).symm.trans HX.out)
        rw [Int.tmod_eq_emod_of_nonneg f1] at c1
        obtain ⟨X, hX⟩ : ∃ X, X = (m + d) * y % (y - x) := ⟨_, rfl⟩
        have t1 : (X != 0) = true := by rw [hX]; simp [c1]
        have t0 := hX.symm
        clear hX E1 E2 E3 c1
        go_wp2
        go_quiet (fail)
        go_wp2
        go_ret2
        exact out_none HE.out.symm (Li.below_draws HB.out _)
end Ap
end Go.Proofs.Ytcaklokcajidiab
