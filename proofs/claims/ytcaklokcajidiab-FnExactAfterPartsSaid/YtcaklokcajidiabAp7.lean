/- How many pages there were at first: both functions, whatever is told. -/
import Derived.Test.YtcaklokcajidiabAp6
namespace Go.Proofs.Ytcaklokcajidiab
open Go.RowKit Go.Joins Li
set_option linter.unusedVariables false
set_option linter.unusedSimpArgs false
namespace Ap
theorem ans_zero {l : Int} (h0 : 0 ≤ l) (h1 : l ≤ 2000) : ans l [] [] = (l, true) := ans_some ⟨⟨h0, h1⟩, by simp, rfl, fun r hr => by simp at hr, fun r hr => by simp at hr⟩ rfl
theorem out_zero {l : Int} (h0 : 0 ≤ l) (h1 : l ≤ 2000) {W w' : World} (hb : Below W.heap.size W w') : Out (ans l [] []) W (.returned (.tuple #[.int .i64 l, .bool true])) w' := by
  rw [ans_zero h0 h1]
  exact ⟨rfl, hb⟩
section
variable {l : Int} {a a' : Option Addr} {len len' cap cap' : Nat} {R : List (List Int)} {ms : List Int} {w : World}
set_option maxRecDepth 100000 in
theorem s1 (h : ¬ (0 ≤ l ∧ l ≤ 2000)) : Calls Try.prog 24 #[.int .i64 l, .slice a len cap, .slice a' len' cap'] w (Out (ans l R ms) w) := by
  have t := decide_eq_false h
  have HN := Lib.hid (show ¬ Good l R ms from fun hg => h hg.1)
  clear h
  go_enter Try.func24, Try.ntmps24
  go_wp2_with fail
  refine (l1In_any l 0 2000 _).mono ?_
  rw [t]
  rintro e w' ⟨rfl, rfl⟩
  go_wp2
  go_ret2
  exact out_no HN.out (Below.refl _ _)
set_option maxRecDepth 100000 in
theorem s2 (h0 : 0 ≤ l) (h1 : l ≤ 2000) (hz : R.length = len) (h : ¬ len ≤ 6) (hm : len ≤ maxLen) : Calls Try.prog 24 #[.int .i64 l, .slice a len cap, .slice a' len' cap'] w (Out (ans l R ms) w) := by
  have hm' : (len : Int) ≤ 9223372036854775807 := by unfold maxLen at hm; omega
  have HN := Lib.hid (show ¬ Good l R ms from fun hg => by have := hg.2.1; omega)
  have t : decide ((6 : Int) < (len : Int)) = true := decide_eq_true (by omega)
  clear hz hm
  go_enter Try.func24, Try.ntmps24
  go_wp2_with fail
  refine (l1In_yes l 0 2000 h0 h1 _).mono ?_
  rintro e w' ⟨rfl, rfl⟩
  go_wp2
  go_ret2
  exact out_no HN.out (Below.refl _ _)
set_option maxRecDepth 100000 in
theorem s3 (h0 : 0 ≤ l) (h1 : l ≤ 2000) (hz : R.length = len) (hz' : ms.length = len') (h6 : len ≤ 6) (h : ¬ len = len') (hm : len' ≤ maxLen) : Calls Try.prog 24 #[.int .i64 l, .slice a len cap, .slice a' len' cap'] w (Out (ans l R ms) w) := by
  have hm' : (len' : Int) ≤ 9223372036854775807 := by unfold maxLen at hm; omega
  have HN := Lib.hid (show ¬ Good l R ms from fun hg => by have := hg.2.2.1; omega)
  have t : decide ((6 : Int) < (len : Int)) = false := decide_eq_false (by omega)
  have t2 : ((len : Int) != (len' : Int)) = true := by simp; omega
  clear hz hz' hm h
  go_enter Try.func24, Try.ntmps24
  go_wp2_with fail
  refine (l1In_yes l 0 2000 h0 h1 _).mono ?_
  rintro e w' ⟨rfl, rfl⟩
  go_wp2
  go_ret2
  exact out_no HN.out (Below.refl _ _)
set_option maxRecDepth 100000 in
theorem s4 (h0 : 0 ≤ l) (h1 : l ≤ 2000) (h6 : len ≤ 6) (hr : Ss.Row 0 w (.slice a' len cap') ms) (h : ¬ AllIn 0 200 ms) : Calls Try.prog 24 #[.int .i64 l, .slice a len cap, .slice a' len cap'] w (Out (ans l R ms) w) := by
  have HN := Lib.hid (show ¬ Good l R ms from fun hg => h hg.2.2.2.1)
  have HA := Lib.hid h
  have HR := Lib.hid hr
  have t : decide ((6 : Int) < (len : Int)) = false := decide_eq_false (by omega)
  clear hr h
  go_enter Try.func24, Try.ntmps24
  go_wp2_with fail
  refine (l1In_yes l 0 2000 h0 h1 _).mono ?_
  rintro e w' ⟨rfl, rfl⟩
  go_wp2_with fail
  refine (l1All_any HR.out 0 200).mono ?_
  rintro e w1 ⟨bb, rfl, hbb, hb1⟩
  obtain rfl : bb = false := by cases bb with
    | false => rfl
    | true => exact absurd (hbb.1 rfl) HA.out
  clear hbb
  go_wp2
  go_ret2
  exact out_no HN.out hb1
set_option maxRecDepth 100000 in
theorem s5 (h0 : 0 ≤ l) (h1 : l ≤ 2000) : Calls Try.prog 24 #[.int .i64 l, .slice a 0 cap, .slice a' 0 cap'] w (Out (ans l [] []) w) := by
  go_enter Try.func24, Try.ntmps24
  go_wp2_with fail
  refine (l1In_yes l 0 2000 h0 h1 _).mono ?_
  rintro e w' ⟨rfl, rfl⟩
  go_wp2_with fail
  refine (l1All_none _ _ 0 200 _).mono ?_
  rintro e w1 ⟨bb, rfl, hbb, hb1⟩
  obtain rfl : bb = true := hbb.2 (fun r hr => by simp at hr)
  clear hbb
  go_wp2
  refine wp_loop_rounds 1 ?_
  rw [rounds_succ]
  go_wp2
  refine wp_loop_rounds 1 ?_
  rw [rounds_succ]
  go_wp2
  go_ret2
  exact out_zero h0 h1 hb1
set_option maxRecDepth 100000 in
theorem i1 (h : ¬ (0 ≤ l ∧ l ≤ 2000)) : Calls Try.prog 27 #[.int .i64 l, .slice a len cap, .slice a' len' cap'] w (Out (ans l R ms) w) := by
  have HN := Lib.hid (show ¬ Good l R ms from fun hg => h hg.1)
  by_cases h0 : 0 ≤ l
  · have h1 : ¬ l ≤ 2000 := by omega
    have t0 : decide (l < 0) = false := decide_eq_false (by omega)
    have t1 : decide (2000 < l) = true := decide_eq_true (by omega)
    clear h h0 h1
    go_enter Try.func27, Try.ntmps27
    go_wp2
    go_ret2
    exact out_no HN.out (Below.refl _ _)
  · have t0 : decide (l < 0) = true := decide_eq_true (by omega)
    clear h h0
    go_enter Try.func27, Try.ntmps27
    go_wp2
    go_ret2
    exact out_no HN.out (Below.refl _ _)
set_option maxRecDepth 100000 in
theorem i2 (h0 : 0 ≤ l) (h1 : l ≤ 2000) (hr : Ss.Grid 0 w (.slice a len cap) R) (h : ¬ (R.length ≤ 6 ∧ PartsOk R)) : Calls Try.prog 27 #[.int .i64 l, .slice a len cap, .slice a' len' cap'] w (Out (ans l R ms) w) := by
  have HN := Lib.hid (show ¬ Good l R ms from fun hg => h ⟨hg.2.1, hg.2.2.2.2⟩)
  have HA := Lib.hid h
  have HR := Lib.hid hr
  have t0 : decide (l < 0) = false := decide_eq_false (by omega)
  have t1 : decide (2000 < l) = false := decide_eq_false (by omega)
  clear hr h h0 h1
  go_enter Try.func27, Try.ntmps27
  go_wp2_with fail
  refine (areParts_any HR.out).mono ?_
  rintro e w1 ⟨bb, rfl, hbb, hb1⟩
  obtain rfl : bb = false := by cases bb with
    | false => rfl
    | true => exact absurd (hbb.1 rfl) HA.out
  clear hbb
  go_wp2
  go_ret2
  exact out_no HN.out hb1
set_option maxRecDepth 100000 in
theorem i3 (h0 : 0 ≤ l) (h1 : l ≤ 2000) (hr : Ss.Grid 0 w (.slice a len cap) R) (hg : R.length ≤ 6 ∧ PartsOk R) (hz : R.length = len) (hz' : ms.length = len') (h : ¬ len = len') (hm : len' ≤ maxLen) : Calls Try.prog 27 #[.int .i64 l, .slice a len cap, .slice a' len' cap'] w (Out (ans l R ms) w) := by
  have hm' : (len' : Int) ≤ 9223372036854775807 := by unfold maxLen at hm; omega
  have h6 : len ≤ 6 := by omega
  have HN := Lib.hid (show ¬ Good l R ms from fun hg => by have := hg.2.2.1; omega)
  have HA := Lib.hid hg
  have HR := Lib.hid hr
  have t0 : decide (l < 0) = false := decide_eq_false (by omega)
  have t1 : decide (2000 < l) = false := decide_eq_false (by omega)
  have t2 : ((len' : Int) != (len : Int)) = true := by simp; omega
  clear hr h h0 h1 hg hz hz' hm
  go_enter Try.func27, Try.ntmps27
  go_wp2_with fail
  refine (areParts_any HR.out).mono ?_
  rintro e w1 ⟨bb, rfl, hbb, hb1⟩
  obtain rfl : bb = true := hbb.2 HA.out
  clear hbb
  go_wp2
  go_ret2
  exact out_no HN.out hb1
set_option maxRecDepth 100000 in
theorem i4 (h0 : 0 ≤ l) (h1 : l ≤ 2000) (hr : Ss.Grid 0 w (.slice a len cap) R) (hg : R.length ≤ 6 ∧ PartsOk R) (hz : R.length = len) (hv : Ss.Row 0 w (.slice a' len cap') ms) (h : ¬ AllIn 0 200 ms) : Calls Try.prog 27 #[.int .i64 l, .slice a len cap, .slice a' len cap'] w (Out (ans l R ms) w) := by
  have h6 : len ≤ 6 := by omega
  have HN := Lib.hid (show ¬ Good l R ms from fun hg => h hg.2.2.2.1)
  have HG := Lib.hid hg
  have HA := Lib.hid h
  have HR := Lib.hid hr
  have HV := Lib.hid hv
  have t0 : decide (l < 0) = false := decide_eq_false (by omega)
  have t1 : decide (2000 < l) = false := decide_eq_false (by omega)
  clear hr h h0 h1 hg hz hv
  go_enter Try.func27, Try.ntmps27
  go_wp2_with fail
  refine (areParts_any HR.out).mono ?_
  rintro e w1 ⟨bb, rfl, hbb, hb1⟩
  obtain rfl : bb = true := hbb.2 HG.out
  have HV1 := Lib.hid (HV.out.on hb1)
  clear hbb
  go_wp2_with fail
  refine (areMore_any HV1.out).mono ?_
  rintro e w2 ⟨bb, rfl, hbb, hb2⟩
  obtain rfl : bb = false := by cases bb with
    | false => rfl
    | true => exact absurd (hbb.1 rfl) HA.out
  have HB := Lib.hid (hb1.trans (below_le hb2 hb1.size))
  clear hbb HV1 hb1 hb2
  go_wp2
  go_ret2
  exact out_no HN.out HB.out
set_option maxRecDepth 100000 in
theorem i5 (h0 : 0 ≤ l) (h1 : l ≤ 2000) : Calls Try.prog 27 #[.int .i64 l, .slice a 0 cap, .slice a' 0 cap'] w (Out (ans l [] []) w) := by
  have t0 : decide (l < 0) = false := decide_eq_false (by omega)
  have t1 : decide (2000 < l) = false := decide_eq_false (by omega)
  go_enter Try.func27, Try.ntmps27
  go_wp2_with fail
  refine (areParts_none _ _ _).mono ?_
  rintro e w1 ⟨bb, rfl, hbb, hb1⟩
  obtain rfl : bb = true := hbb.2 ⟨by simp, fun r hr => by simp at hr⟩
  have HB1 := Lib.hid hb1
  clear hbb hb1
  go_wp2_with fail
  refine (areMore_none _ _ _).mono ?_
  rintro e w2 ⟨bb, rfl, hbb, hb2⟩
  obtain rfl : bb = true := hbb.2 (fun r hr => by simp at hr)
  have HB := Lib.hid (HB1.out.trans (below_le hb2 HB1.out.size))
  clear hbb HB1 hb2
  go_wp2
  refine wp_loop_rounds 1 ?_
  rw [rounds_succ]
  go_wp2
  go_ret2
  exact out_zero h0 h1 HB.out
end
theorem spec_any {l : Int} {P M : Value} {R : List (List Int)} {ms : List Int} {w : World} {n n' : Nat} (hp : Ss.Grid n w P R) (hm : Ss.Row n' w M ms) : Calls Try.prog 24 #[.int .i64 l, P, M] w (Out (ans l R ms) w) := by
  replace hp := hp.le (Nat.zero_le _)
  replace hm := hm.le (Nat.zero_le _)
  have hm0 := hm
  obtain ⟨a, cap, rfl, ha, h⟩ := hp
  obtain ⟨a', cap', rfl, ha', h'⟩ := hm
  by_cases h1 : 0 ≤ l ∧ l ≤ 2000
  · by_cases h6 : R.length ≤ 6
    · by_cases he : R.length = ms.length
      · by_cases hall : AllIn 0 200 ms
        · by_cases h0 : R.length = 0
          · have e1 : R = [] := List.eq_nil_of_length_eq_zero h0
            have e2 : ms = [] := List.eq_nil_of_length_eq_zero (by omega)
            subst e1 e2
            exact s5 h1.1 h1.2
          · obtain ⟨b, off, rfl, hr⟩ := h.resolve_left h0
            obtain ⟨b', off', rfl, hr'⟩ := h'.resolve_left (by omega)
            rw [← he]
            exact spec_some l b off _ cap b' off' cap' R ms w hr rfl h6 hr' he.symm h1.1 h1.2 hall
        · rw [he]
          exact s4 h1.1 h1.2 (by omega) hm0 hall
      · exact s3 h1.1 h1.2 rfl rfl h6 he ha'
    · exact s2 h1.1 h1.2 rfl h6 ha
  · exact s1 h1
theorem impl_any {l : Int} {P M : Value} {R : List (List Int)} {ms : List Int} {w : World} {n n' : Nat} (hp : Ss.Grid n w P R) (hm : Ss.Row n' w M ms) : Calls Try.prog 27 #[.int .i64 l, P, M] w (Out (ans l R ms) w) := by
  replace hp := hp.le (Nat.zero_le _)
  replace hm := hm.le (Nat.zero_le _)
  have hm0 := hm
  have hp0 := hp
  obtain ⟨a, cap, rfl, ha, h⟩ := hp
  obtain ⟨a', cap', rfl, ha', h'⟩ := hm
  by_cases h1 : 0 ≤ l ∧ l ≤ 2000
  · by_cases h6 : R.length ≤ 6 ∧ PartsOk R
    · by_cases he : R.length = ms.length
      · by_cases hall : AllIn 0 200 ms
        · by_cases h0 : R.length = 0
          · have e1 : R = [] := List.eq_nil_of_length_eq_zero h0
            have e2 : ms = [] := List.eq_nil_of_length_eq_zero (by omega)
            subst e1 e2
            exact i5 h1.1 h1.2
          · obtain ⟨b, off, rfl, hr⟩ := h.resolve_left h0
            obtain ⟨b', off', rfl, hr'⟩ := h'.resolve_left (by omega)
            rw [← he]
            exact impl_some l b off _ cap b' off' cap' R ms w hr rfl hr' he.symm ⟨h1, h6.1, he, hall, h6.2⟩
        · rw [← he] at hm0
          rw [← he]
          exact i4 h1.1 h1.2 hp0 h6 rfl hm0 hall
      · exact i3 h1.1 h1.2 hp0 h6 rfl rfl he ha'
    · exact i2 h1.1 h1.2 hp0 h6
  · exact i1 h1
end Ap
end Go.Proofs.Ytcaklokcajidiab
