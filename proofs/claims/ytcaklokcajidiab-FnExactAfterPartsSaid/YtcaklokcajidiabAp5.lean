/- How many pages there were at first: what spec.AfterParts answers. -/
import Derived.Test.YtcaklokcajidiabAp4
namespace Go.Proofs.Ytcaklokcajidiab
open Go.RowKit Go.Joins Li
set_option linter.unusedVariables false
set_option linter.unusedSimpArgs false
namespace Ap
def Out (a : Int × Bool) (W : World) (e : Ending) (w' : World) : Prop := e = .returned (.tuple #[.int .i64 a.1, .bool a.2]) ∧ Below W.heap.size W w'
theorem out_no {l : Int} {R : List (List Int)} {ms : List Int} {W w' : World} (h : ¬ Good l R ms) (hb : Below W.heap.size W w') : Out (ans l R ms) W (.returned (.tuple #[.int .i64 0, .bool false])) w' := by
  rw [ans_no h]
  exact ⟨rfl, hb⟩
theorem out_none {l : Int} {R : List (List Int)} {ms : List Int} {W w' : World} (h : run R ms R.length l = none) (hb : Below W.heap.size W w') : Out (ans l R ms) W (.returned (.tuple #[.int .i64 0, .bool false])) w' := by
  rw [ans_none h]
  exact ⟨rfl, hb⟩
theorem out_some {l p : Int} {R : List (List Int)} {ms : List Int} {W w' : World} (hg : Good l R ms) (h : run R ms R.length l = some p) (hb : Below W.heap.size W w') : Out (ans l R ms) W (.returned (.tuple #[.int .i64 p, .bool true])) w' := by
  rw [ans_some hg h]
  exact ⟨rfl, hb⟩
/-- the loop back over the days has come to day j -/
def At (l : Int) (R : List (List Int)) (ms : List Int) (j : Nat) (m : Int) : Prop := j ≤ R.length ∧ 0 ≤ m ∧ m ≤ 2000 ∧ run R ms j m = run R ms R.length l
set_option maxRecDepth 100000 in
set_option maxHeartbeats 4000000 in
theorem spec_some (l : Int) (b off len cap mb mo mcap : Nat) (R : List (List Int)) (ms : List Int) (w : World) (h : Ss.Rows 0 w b off R) (hz : R.length = len) (h6 : len ≤ 6) (hm : Ss.At 0 w mb mo ms) (hmz : ms.length = len)
    (hl0 : 0 ≤ l) (hl1 : l ≤ 2000) (hms : AllIn 0 200 ms) :
    Calls Try.prog 24 #[.int .i64 l, .slice (some ⟨b, off, none⟩) len cap, .slice (some ⟨mb, mo, none⟩) len mcap] w (Out (ans l R ms) w) := by
  have HC := Lib.hid h
  have HZ := Lib.hid hz
  have HM := Lib.hid hm
  have HMZ := Lib.hid hmz
  have HMS := Lib.hid hms
  have HL := Lib.hid (show 0 ≤ l ∧ l ≤ 2000 from ⟨hl0, hl1⟩)
  have HV := Lib.hid (show Ss.Row 0 w (.slice (some ⟨mb, mo, none⟩) len mcap) ms from ⟨_, _, by rw [hmz], by rw [hmz]; unfold maxLen; omega, Or.inr ⟨_, _, rfl, hm⟩⟩)
  clear h hz hm hmz hms
  go_enter Try.func24, Try.ntmps24
  go_wp2_with fail
  refine (l1In_yes l 0 2000 hl0 hl1 _).mono ?_
  rintro e w' ⟨rfl, rfl⟩
  go_wp2_with fail
  refine (l1All_any HV.out 0 200).mono ?_
  rintro e w1 ⟨bb, rfl, hbb, hb1⟩
  obtain rfl : bb = true := hbb.2 HMS.out
  clear hbb HV
  have HB1 := Lib.hid hb1
  clear hb1
  go_wp2
  go_loopw [35] (fun i wr => ∃ k : Nat, k ≤ len ∧ i = .int .i64 (k : Int) ∧ PartsTo R k ∧ Below w.heap.size w wr) (fun i _ => ((len : Int) - intOf i).toNat)
  case atStart => exact ⟨0, by omega, rfl, fun r hr => by omega, HB1.out⟩
  case round =>
    clear HB1
    obtain ⟨k, hk, rfl, hr, hb⟩ := hrel
    by_cases hlt : (k : Int) < len
    · have hl := HZ.out
      obtain ⟨u, q, hu⟩ := (HC.out.on hb).2 k (by omega)
      have HR := Lib.hid hr
      have HB := Lib.hid hb
      clear hl hr hb
      by_cases h2 : (R.getD k []).length = 2
      · obtain ⟨ub, uo, uc, rfl, q0, q1⟩ := row_two hu h2
        clear hu
        have HP := Lib.hid (show PartOk (R.getD k []) ↔ 1 ≤ (R.getD k []).getD 0 0 ∧ (R.getD k []).getD 0 0 < (R.getD k []).getD 1 0 ∧ (R.getD k []).getD 1 0 ≤ 200 from ⟨fun h => h.2, fun h => ⟨h2, h⟩⟩)
        clear h2
        generalize (R.getD k []).getD 0 0 = x at *
        generalize (R.getD k []).getD 1 0 = y at *
        by_cases hin : 1 ≤ x ∧ x < y ∧ y ≤ 200
        · have t := decide_eq_true hin
          have HI := Lib.hid (parts_on HR.out (HP.out.2 hin))
          clear hin HP HR
          go_wp2
          go_region_held3 (fun w' => w'.cell? ⟨ub, uo, none⟩ = some (.int .i64 x) ∧ w'.cell? ⟨ub, uo + 1, none⟩ = some (.int .i64 y))
            (first | exact ⟨q0, q1⟩ | go_keep)
            (first
              | (go_at_call 48; refine (rdPart_any x y _).mono ?_; rw [t]; rintro e w4 ⟨rfl, rfl⟩))
          go_wp2
          go_roundw
          case rel => exact ⟨k + 1, by omega, by go_num, HI.out, HB.out.drew⟩
          case measure => simp [intOf]; omega
        · have t := decide_eq_false hin
          have HI := Lib.hid (show ¬ Good l R ms from fun hg => not_parts (R := R) (k := k) (by have := HZ.out; omega) (fun hp => hin (HP.out.1 hp)) ⟨hg.2.1, hg.2.2.2.2⟩)
          clear hin HP HR
          go_wp2
          go_region_held3 (fun w' => w'.cell? ⟨ub, uo, none⟩ = some (.int .i64 x) ∧ w'.cell? ⟨ub, uo + 1, none⟩ = some (.int .i64 y))
            (first | exact ⟨q0, q1⟩ | go_keep)
            (first
              | (go_at_call 48; refine (rdPart_any x y _).mono ?_; rw [t]; rintro e w4 ⟨rfl, rfl⟩))
          go_wp2
          go_ret2
          exact out_no HI.out HB.out.drew
      · have HI := Lib.hid (show ¬ Good l R ms from fun hg => not_parts (R := R) (k := k) (by have := HZ.out; omega) (fun hp => h2 hp.1) ⟨hg.2.1, hg.2.2.2.2⟩)
        obtain ⟨ua, uc, rfl, hm, _⟩ := hu
        clear HR
        have hm' : ((R.getD k []).length : Int) ≤ 9223372036854775807 := by unfold maxLen at hm; omega
        clear hm
        generalize (R.getD k []).length = n at *
        have t : ((n : Int) != 2) = true := by
          simp; omega
        clear h2
        go_wp2
        go_region
        go_wp2
        go_ret2
        exact out_no HI.out HB.out.drew
    · have HG := Lib.hid (show Good l R ms from ⟨HL.out, by have := HZ.out; omega, by rw [HZ.out, HMZ.out], HMS.out, fun r h => hr r (by have := HZ.out; omega)⟩)
      have HB := Lib.hid hb
      clear hr hb
      go_wp2
      go_loopw [0, 10] (fun v i wr => ∃ (j : Nat) (m z : Int), i = .int .i64 z ∧ z = (j : Int) - 1 ∧ v = .int .i64 m ∧ At l R ms j m ∧ Below w.heap.size w wr) (fun _ i _ => (intOf i + 1).toNat)
      case atStart => exact ⟨len, l, (len : Int) - 1, by go_num, rfl, rfl, ⟨by have := HZ.out; omega, hl0, hl1, by rw [HZ.out]⟩, HB.out⟩
      case round =>
        clear HB
        obtain ⟨j, m, z, rfl, hz, rfl, ⟨hj, h0, h1, hrun⟩, hb⟩ := hrel
        cases j with
        | zero =>
          obtain rfl : z = -1 := by omega
          have HO := Lib.hid (show run R ms R.length l = some m from hrun.symm)
          clear hrun hz
          go_wp2
          go_ret2
          exact out_some HG.out HO.out hb
        | succ j =>
          obtain rfl : z = (j : Int) := by omega
          have hlen := HZ.out
          have hj' : j < len := by omega
          obtain ⟨u, q, hu⟩ := (HC.out.on hb).2 j (by omega)
          have qm := (HM.out.on hb).2.2 j (by rw [HMZ.out]; omega)
          have hpo := HG.out.2.2.2.2 j (by omega)
          obtain ⟨ub, uo, uc, rfl, q0, q1⟩ := row_two hu hpo.1
          have hmo := HMS.out j (by rw [HMZ.out]; omega)
          obtain ⟨_, p1, p2, p3⟩ := hpo
          have E1 := Lib.hid (step_bad (R := R) (ms := ms) (k := j) (l := m))
          have E2 := Lib.hid (step_far (R := R) (ms := ms) (k := j) (l := m))
          have E3 := Lib.hid (step_on (R := R) (ms := ms) (k := j) (l := m))
          have HX := Lib.hid hrun
          have HB := Lib.hid hb
          unfold nu de at E1 E2 E3
          clear hu hrun hb hlen hj hz
          generalize (R.getD j []).getD 0 0 = x at *
          generalize (R.getD j []).getD 1 0 = y at *
          generalize ms.getD j 0 = d at *
          obtain ⟨f1, f2, f3, f4, f5, f6⟩ := prod_in (K := m + d) (n := x) (d := y) (by omega) (by omega) p1 p2 p3
          have n1 : ¬ y - x = 0 := by omega
          have n2 : ¬ y = 0 := by omega
          have g1 : IntKind.i64.wrap (((m + d) * y).tdiv (y - x)) = ((m + d) * y).tdiv (y - x) := by rw [IntKind.wrap_i64]; omega
          have g2 : IntKind.i64.wrap (((m + d) * y).tdiv (y - x) * x) = ((m + d) * y).tdiv (y - x) * x := by rw [IntKind.wrap_i64]; omega
          have t2 := whole (K := m + d) (n := x) (d := y) p2 p1
          by_cases c1 : ((m + d) * y).tmod (y - x) = 0
          · replace t2 := t2 c1
            by_cases c2 : ((m + d) * y).tdiv (y - x) ≤ 2000
            · have HE := Lib.hid (E3.out c1 c2)
              have t1 : (((m + d) * y).tmod (y - x) != 0) = false := by simp [c1]
              have t3 : ((((m + d) * y).tdiv (y - x) * x).tmod y != 0) = false := by simp [t2]
              have t4 : decide (2000 < ((m + d) * y).tdiv (y - x)) = false := decide_eq_false (by omega)
              clear E1 E2 E3 t2 c1
              go_wp2
              go_quiet (fail)
              go_wp2
              go_quiet (fail)
              go_wp2
              go_quiet (fail)
              go_wp2
              go_roundw
              case rel => exact ⟨j, _, _, by go_num, rfl, rfl, ⟨by have := HZ.out; omega, f3, c2, by rw [← HE.out]; exact HX.out⟩, Li.below_draws HB.out _⟩
              case measure => simp [intOf]; try omega
            · have HE := Lib.hid ((E2.out c2).symm.trans HX.out)
              have t1 : (((m + d) * y).tmod (y - x) != 0) = false := by simp [c1]
              have t3 : ((((m + d) * y).tdiv (y - x) * x).tmod y != 0) = false := by simp [t2]
              have t4 : decide (2000 < ((m + d) * y).tdiv (y - x)) = true := decide_eq_true (by omega)
              clear E1 E2 E3 t2 c1
              go_wp2
              go_quiet (fail)
              go_wp2
              go_quiet (fail)
              go_wp2
              go_quiet (fail)
              go_wp2
              go_ret2
              exact out_none HE.out.symm (Li.below_draws (Li.below_draws (Li.below_draws HB.out _) _) _)
          · have HE := Lib.hid ((E1.out c1).symm.trans HX.out)
            obtain ⟨X, hX⟩ : ∃ X, X = ((m + d) * y).tmod (y - x) := ⟨_, rfl⟩
            have t1 : (X != 0) = true := by rw [hX]; simp [c1]
            have t0 := hX.symm
            clear hX
            clear E1 E2 E3 t2 c1
            go_wp2
            go_quiet (fail)
            go_wp2
            go_quiet (fail)
            go_wp2
            go_quiet (fail)
            go_wp2
            go_ret2
            exact out_none HE.out.symm (Li.below_draws (Li.below_draws (Li.below_draws HB.out _) _) _)
end Ap
end Go.Proofs.Ytcaklokcajidiab
