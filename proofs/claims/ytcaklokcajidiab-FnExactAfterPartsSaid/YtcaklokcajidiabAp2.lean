/- How many pages there were at first: the small tests. -/
import Derived.Test.YtcaklokcajidiabSs3
import Derived.Test.YtcaklokcajidiabAp
namespace Go.Proofs.Ytcaklokcajidiab
open Go.RowKit Go.Joins Li
set_option linter.unusedVariables false
set_option linter.unusedSimpArgs false
namespace Ap
/-- it answers so and changes nothing -/
def Is (b : Bool) (W : World) (e : Ending) (w' : World) : Prop := e = .returned (.bool b) ∧ W = w'
theorem Is.of {a b : Bool} (h : a = b) {W w' : World} {e : Ending} (k : Is a W e w') : Is b W e w' := h ▸ k
theorem l1In_yes (a b c : Int) (h1 : b ≤ a) (h2 : a ≤ c) (w : World) : Calls Try.prog 42 #[.int .i64 a, .int .i64 b, .int .i64 c] w (Is (true) w) := by
  go_enter Try.func42, Try.ntmps42
  go_wp2
  go_ret
  exact ⟨rfl, rfl⟩
theorem l1In_lo (a b c : Int) (h1 : ¬ b ≤ a) (w : World) : Calls Try.prog 42 #[.int .i64 a, .int .i64 b, .int .i64 c] w (Is (false) w) := by
  go_enter Try.func42, Try.ntmps42
  go_wp2
  go_ret
  exact ⟨rfl, rfl⟩
theorem l1In_hi (a b c : Int) (h1 : b ≤ a) (h2 : ¬ a ≤ c) (w : World) : Calls Try.prog 42 #[.int .i64 a, .int .i64 b, .int .i64 c] w (Is (false) w) := by
  go_enter Try.func42, Try.ntmps42
  go_wp2
  go_ret
  exact ⟨rfl, rfl⟩
theorem l1In_any (a b c : Int) (w : World) : Calls Try.prog 42 #[.int .i64 a, .int .i64 b, .int .i64 c] w (Is (decide (b ≤ a ∧ a ≤ c)) w) := by
  by_cases h1 : b ≤ a
  · by_cases h2 : a ≤ c
    · exact (l1In_yes a b c h1 h2 w).mono fun _ _ k => k.of (by simp [h1, h2])
    · exact (l1In_hi a b c h1 h2 w).mono fun _ _ k => k.of (by simp [h2])
  · exact (l1In_lo a b c h1 w).mono fun _ _ k => k.of (by simp [h1])
theorem isDaily_yes (a : Int) (h1 : 1 ≤ a) (h2 : a ≤ 200) (w : World) : Calls Try.prog 61 #[.int .i64 a] w (Is (true) w) := by
  go_enter Try.func61, Try.ntmps61
  go_wp2
  go_ret
  exact ⟨rfl, rfl⟩
theorem isDaily_lo (a : Int) (h1 : ¬ 1 ≤ a) (w : World) : Calls Try.prog 61 #[.int .i64 a] w (Is (false) w) := by
  go_enter Try.func61, Try.ntmps61
  go_wp2
  go_ret
  exact ⟨rfl, rfl⟩
theorem isDaily_hi (a : Int) (h1 : 1 ≤ a) (h2 : ¬ a ≤ 200) (w : World) : Calls Try.prog 61 #[.int .i64 a] w (Is (false) w) := by
  go_enter Try.func61, Try.ntmps61
  go_wp2
  go_ret
  exact ⟨rfl, rfl⟩
theorem isDaily_any (a : Int) (b : Bool) (h : decide (1 ≤ a ∧ a ≤ 200) = b) (w : World) : Calls Try.prog 61 #[.int .i64 a] w (Is b w) := by
  subst h
  by_cases h1 : 1 ≤ a
  · by_cases h2 : a ≤ 200
    · exact (isDaily_yes a h1 h2 w).mono fun _ _ k => k.of (by simp [h1, h2])
    · exact (isDaily_hi a h1 h2 w).mono fun _ _ k => k.of (by simp [h2])
  · exact (isDaily_lo a h1 w).mono fun _ _ k => k.of (by simp [h1])
theorem isMore_0  (w : World) : Calls Try.prog 62 #[.int .i64 0] w (Is (true) w) := by
  go_enter Try.func62, Try.ntmps62
  go_wp2
  go_ret
  exact ⟨rfl, rfl⟩
theorem isMore_true (a : Int) (h0 : (a == 0) = false) (h : decide (1 ≤ a ∧ a ≤ 200) = true) (w : World) : Calls Try.prog 62 #[.int .i64 a] w (Is (true) w) := by
  have H := Lib.hid h
  clear h
  go_enter Try.func62, Try.ntmps62
  go_wp2_with fail
  refine (isDaily_any a true H.out _).mono ?_
  rintro e w' ⟨rfl, rfl⟩
  go_wp2
  go_ret
  exact ⟨rfl, rfl⟩
theorem isMore_false (a : Int) (h0 : (a == 0) = false) (h : decide (1 ≤ a ∧ a ≤ 200) = false) (w : World) : Calls Try.prog 62 #[.int .i64 a] w (Is (false) w) := by
  have H := Lib.hid h
  clear h
  go_enter Try.func62, Try.ntmps62
  go_wp2_with fail
  refine (isDaily_any a false H.out _).mono ?_
  rintro e w' ⟨rfl, rfl⟩
  go_wp2
  go_ret
  exact ⟨rfl, rfl⟩
theorem isMore_any (a : Int) (b : Bool) (h : decide (0 ≤ a ∧ a ≤ 200) = b) (w : World) : Calls Try.prog 62 #[.int .i64 a] w (Is b w) := by
  by_cases h0 : a = 0
  · subst h0 h
    exact isMore_0 w
  · have t0 : (a == 0) = false := by simp [h0]
    have t : decide (1 ≤ a ∧ a ≤ 200) = b := by
      rw [← h]
      congr 1
      exact propext ⟨fun ⟨x, y⟩ => ⟨by omega, y⟩, fun ⟨x, y⟩ => ⟨by omega, y⟩⟩
    cases b with
    | true => exact isMore_true a t0 t w
    | false => exact isMore_false a t0 t w
theorem fr_1 (n d : Int) (h1 : decide (1 ≤ n ∧ n ≤ 200) = false) (w : World) : Calls Try.prog 51 #[.int .i64 n, .int .i64 d] w (Is (false) w) := by
  have H1 := Lib.hid h1
  clear h1
  go_enter Try.func51, Try.ntmps51
  go_wp2_with fail
  refine (isDaily_any n false H1.out _).mono ?_
  rintro e w' ⟨rfl, rfl⟩
  go_wp2
  go_ret
  exact ⟨rfl, rfl⟩
theorem fr_2 (n d : Int) (h1 : decide (1 ≤ n ∧ n ≤ 200) = true) (h2 : decide (1 ≤ d ∧ d ≤ 200) = false) (w : World) : Calls Try.prog 51 #[.int .i64 n, .int .i64 d] w (Is (false) w) := by
  have H1 := Lib.hid h1
  clear h1
  have H2 := Lib.hid h2
  clear h2
  go_enter Try.func51, Try.ntmps51
  go_wp2_with fail
  refine (isDaily_any n true H1.out _).mono ?_
  rintro e w' ⟨rfl, rfl⟩
  go_wp2_with fail
  refine (isDaily_any d false H2.out _).mono ?_
  rintro e w' ⟨rfl, rfl⟩
  go_wp2
  go_ret
  exact ⟨rfl, rfl⟩
theorem fr_3 (n d : Int) (h1 : decide (1 ≤ n ∧ n ≤ 200) = true) (h2 : decide (1 ≤ d ∧ d ≤ 200) = true) (h3 : ¬ n < d) (w : World) : Calls Try.prog 51 #[.int .i64 n, .int .i64 d] w (Is (false) w) := by
  have t3 : decide (n < d) = false := decide_eq_false h3
  have H1 := Lib.hid h1
  clear h1
  have H2 := Lib.hid h2
  clear h2
  go_enter Try.func51, Try.ntmps51
  go_wp2_with fail
  refine (isDaily_any n true H1.out _).mono ?_
  rintro e w' ⟨rfl, rfl⟩
  go_wp2_with fail
  refine (isDaily_any d true H2.out _).mono ?_
  rintro e w' ⟨rfl, rfl⟩
  go_wp2
  go_ret
  exact ⟨rfl, rfl⟩
theorem fr_4 (n d : Int) (h1 : decide (1 ≤ n ∧ n ≤ 200) = true) (h2 : decide (1 ≤ d ∧ d ≤ 200) = true) (h3 : n < d) (w : World) : Calls Try.prog 51 #[.int .i64 n, .int .i64 d] w (Is (true) w) := by
  have H1 := Lib.hid h1
  clear h1
  have H2 := Lib.hid h2
  clear h2
  go_enter Try.func51, Try.ntmps51
  go_wp2_with fail
  refine (isDaily_any n true H1.out _).mono ?_
  rintro e w' ⟨rfl, rfl⟩
  go_wp2_with fail
  refine (isDaily_any d true H2.out _).mono ?_
  rintro e w' ⟨rfl, rfl⟩
  go_wp2
  go_ret
  exact ⟨rfl, rfl⟩
theorem isFraction_any (n d : Int) (w : World) : Calls Try.prog 51 #[.int .i64 n, .int .i64 d] w (Is (decide (1 ≤ n ∧ n < d ∧ d ≤ 200)) w) := by
  by_cases h1 : 1 ≤ n ∧ n ≤ 200
  · by_cases h2 : 1 ≤ d ∧ d ≤ 200
    · by_cases h3 : n < d
      · exact (fr_4 n d (decide_eq_true h1) (decide_eq_true h2) h3 w).mono fun _ _ k => k.of (decide_eq_true (p := 1 ≤ n ∧ n < d ∧ d ≤ 200) ⟨by omega, by omega, by omega⟩).symm
      · exact (fr_3 n d (decide_eq_true h1) (decide_eq_true h2) h3 w).mono fun _ _ k => k.of (decide_eq_false (p := 1 ≤ n ∧ n < d ∧ d ≤ 200) (by omega)).symm
    · exact (fr_2 n d (decide_eq_true h1) (decide_eq_false h2) w).mono fun _ _ k => k.of (decide_eq_false (p := 1 ≤ n ∧ n < d ∧ d ≤ 200) (by omega)).symm
  · exact (fr_1 n d (decide_eq_false h1) w).mono fun _ _ k => k.of (decide_eq_false (p := 1 ≤ n ∧ n < d ∧ d ≤ 200) (by omega)).symm
theorem rp_lo (n d : Int) (h1 : ¬ 2 ≤ d) (w : World) : Calls Try.prog 48 #[.int .i64 n, .int .i64 d] w (Is (false) w) := by
  have H1 := Lib.hid h1
  clear h1
  go_enter Try.func48, Try.ntmps48
  go_wp2_with fail
  refine (l1In_lo d 2 200 (by have := H1.out; omega) _).mono ?_
  rintro e w' ⟨rfl, rfl⟩
  go_wp2
  go_ret
  exact ⟨rfl, rfl⟩
theorem rp_hi (n d : Int) (h1 : 2 ≤ d) (h2 : ¬ d ≤ 200) (w : World) : Calls Try.prog 48 #[.int .i64 n, .int .i64 d] w (Is (false) w) := by
  have H1 := Lib.hid h1
  clear h1
  have H2 := Lib.hid h2
  clear h2
  go_enter Try.func48, Try.ntmps48
  go_wp2_with fail
  refine (l1In_hi d 2 200 (by have := H1.out; omega) (by have := H2.out; omega) _).mono ?_
  rintro e w' ⟨rfl, rfl⟩
  go_wp2
  go_ret
  exact ⟨rfl, rfl⟩
theorem rp_3 (n d : Int) (h1 : 2 ≤ d) (h2 : d ≤ 200) (h3 : ¬ 1 ≤ n) (w : World) : Calls Try.prog 48 #[.int .i64 n, .int .i64 d] w (Is (false) w) := by
  have H3 := Lib.hid h3
  clear h3
  go_enter Try.func48, Try.ntmps48
  go_wp2_with fail
  refine (l1In_yes d 2 200 h1 h2 _).mono ?_
  rintro e w' ⟨rfl, rfl⟩
  go_wp2_with fail
  refine (l1In_lo n 1 (d - 1) (by have := H3.out; omega) _).mono ?_
  rintro e w' ⟨rfl, rfl⟩
  go_wp2
  go_ret
  exact ⟨rfl, rfl⟩
theorem rp_4 (n d : Int) (h1 : 2 ≤ d) (h2 : d ≤ 200) (h3 : 1 ≤ n) (h4 : ¬ n ≤ d - 1) (w : World) : Calls Try.prog 48 #[.int .i64 n, .int .i64 d] w (Is (false) w) := by
  have H3 := Lib.hid h3
  clear h3
  have H4 := Lib.hid h4
  clear h4
  go_enter Try.func48, Try.ntmps48
  go_wp2_with fail
  refine (l1In_yes d 2 200 h1 h2 _).mono ?_
  rintro e w' ⟨rfl, rfl⟩
  go_wp2_with fail
  refine (l1In_hi n 1 (d - 1) (by have := H3.out; omega) (by have := H4.out; omega) _).mono ?_
  rintro e w' ⟨rfl, rfl⟩
  go_wp2
  go_ret
  exact ⟨rfl, rfl⟩
theorem rp_5 (n d : Int) (h1 : 2 ≤ d) (h2 : d ≤ 200) (h3 : 1 ≤ n) (h4 : n ≤ d - 1) (w : World) : Calls Try.prog 48 #[.int .i64 n, .int .i64 d] w (Is (true) w) := by
  have H3 := Lib.hid h3
  clear h3
  have H4 := Lib.hid h4
  clear h4
  go_enter Try.func48, Try.ntmps48
  go_wp2_with fail
  refine (l1In_yes d 2 200 h1 h2 _).mono ?_
  rintro e w' ⟨rfl, rfl⟩
  go_wp2_with fail
  refine (l1In_yes n 1 (d - 1) (by have := H3.out; omega) (by have := H4.out; omega) _).mono ?_
  rintro e w' ⟨rfl, rfl⟩
  go_wp2
  go_ret
  exact ⟨rfl, rfl⟩
theorem rdPart_any (n d : Int) (w : World) : Calls Try.prog 48 #[.int .i64 n, .int .i64 d] w (Is (decide (1 ≤ n ∧ n < d ∧ d ≤ 200)) w) := by
  by_cases h1 : 2 ≤ d
  · by_cases h2 : d ≤ 200
    · by_cases h3 : 1 ≤ n
      · by_cases h4 : n ≤ d - 1
        · exact (rp_5 n d h1 h2 h3 h4 w).mono fun _ _ k => k.of (decide_eq_true (p := 1 ≤ n ∧ n < d ∧ d ≤ 200) ⟨by omega, by omega, by omega⟩).symm
        · exact (rp_4 n d h1 h2 h3 h4 w).mono fun _ _ k => k.of (decide_eq_false (p := 1 ≤ n ∧ n < d ∧ d ≤ 200) (by omega)).symm
      · exact (rp_3 n d h1 h2 h3 w).mono fun _ _ k => k.of (decide_eq_false (p := 1 ≤ n ∧ n < d ∧ d ≤ 200) (by omega)).symm
    · exact (rp_hi n d h1 h2 w).mono fun _ _ k => k.of (decide_eq_false (p := 1 ≤ n ∧ n < d ∧ d ≤ 200) (by omega)).symm
  · exact (rp_lo n d h1 w).mono fun _ _ k => k.of (decide_eq_false (p := 1 ≤ n ∧ n < d ∧ d ≤ 200) (by omega)).symm
end Ap
end Go.Proofs.Ytcaklokcajidiab
