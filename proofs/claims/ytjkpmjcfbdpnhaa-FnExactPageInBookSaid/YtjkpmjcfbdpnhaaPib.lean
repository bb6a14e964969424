/- What the functions that find a page of a book of signatures answer: for every four numbers, each case by its own theorem. -/
import Derived.Test.YtjkpmjcfbdpnhaaWalks1
namespace Go.Proofs.Ytjkpmjcfbdpnhaa
open Go.RowKit
set_option linter.unusedVariables false
theorem s_pib_no (n a g p : Int) (h : ¬ 1 ≤ n ∨ ¬ n ≤ 2000 ∨ ¬ 1 ≤ a ∨ ¬ a ≤ 16 ∨ ¬ 1 ≤ p ∨ ¬ p ≤ 4 * a ∨ ¬ 1 ≤ g ∨ ¬ g ≤ 2000) (w : World) :
    Calls Try.prog 28 #[.int .i64 n, .int .i64 a, .int .i64 g, .int .i64 p] w fun e w' => e = .returned (.tuple #[.int .i64 0, .bool false]) ∧ w = w' := by
  by_cases c0 : 1 ≤ n
  · by_cases c1 : n ≤ 2000
    · by_cases c2 : 1 ≤ a
      · by_cases c3 : a ≤ 16
        · by_cases c4 : 1 ≤ p
          · by_cases c5 : p ≤ 4 * a
            · by_cases c6 : 1 ≤ g
              · by_cases c7 : g ≤ 2000
                · exfalso; omega
                · clear h
                  go_enter Try.func28, Try.ntmps28
                  go_wp2
                  go_ret2
                  exact ⟨rfl, rfl⟩
              · clear h
                go_enter Try.func28, Try.ntmps28
                go_wp2
                go_ret2
                exact ⟨rfl, rfl⟩
            · clear h
              go_enter Try.func28, Try.ntmps28
              go_wp2
              go_ret2
              exact ⟨rfl, rfl⟩
          · clear h
            go_enter Try.func28, Try.ntmps28
            go_wp2
            go_ret2
            exact ⟨rfl, rfl⟩
        · clear h
          go_enter Try.func28, Try.ntmps28
          go_wp2
          go_ret2
          exact ⟨rfl, rfl⟩
      · clear h
        go_enter Try.func28, Try.ntmps28
        go_wp2
        go_ret2
        exact ⟨rfl, rfl⟩
    · clear h
      go_enter Try.func28, Try.ntmps28
      go_wp2
      go_ret2
      exact ⟨rfl, rfl⟩
  · clear h
    go_enter Try.func28, Try.ntmps28
    go_wp2
    go_ret2
    exact ⟨rfl, rfl⟩
theorem mul_bd (g a : Int) (h0 : 0 ≤ g) (h1 : g ≤ 2000) (h2 : 1 ≤ a) (h3 : a ≤ 16) : 0 ≤ g * 4 * a ∧ g * 4 * a ≤ 128000 := by
  have e1 : 0 ≤ (g * 4) * a := Int.mul_nonneg (by omega) (by omega)
  have e2 : (g * 4) * a ≤ 8000 * 16 := Int.mul_le_mul (by omega) h3 (by omega) (by omega)
  omega
theorem s_pib_blank (n a g p : Int) (h1 : 1 ≤ n) (h2 : n ≤ 2000) (h3 : 1 ≤ a) (h4 : a ≤ 16) (h5 : 1 ≤ p) (h6 : p ≤ 4 * a) (h7 : 1 ≤ g) (h8 : g ≤ 2000) (h9 : n < (g - 1) * 4 * a + p) (w : World) :
    Calls Try.prog 28 #[.int .i64 n, .int .i64 a, .int .i64 g, .int .i64 p] w fun e w' => e = .returned (.tuple #[.int .i64 0, .bool false]) ∧ w = w' := by
  obtain ⟨m1, m2⟩ := mul_bd (g - 1) a (by omega) (by omega) h3 h4
  go_enter Try.func28, Try.ntmps28
  go_wp2
  go_ret2
  exact ⟨rfl, rfl⟩
theorem s_pib_yes (n a g p : Int) (h1 : 1 ≤ n) (h2 : n ≤ 2000) (h3 : 1 ≤ a) (h4 : a ≤ 16) (h5 : 1 ≤ p) (h6 : p ≤ 4 * a) (h7 : 1 ≤ g) (h8 : g ≤ 2000) (h9 : ¬ n < (g - 1) * 4 * a + p) (w : World) :
    Calls Try.prog 28 #[.int .i64 n, .int .i64 a, .int .i64 g, .int .i64 p] w fun e w' => e = .returned (.tuple #[.int .i64 ((g - 1) * 4 * a + p), .bool true]) ∧ w = w' := by
  obtain ⟨m1, m2⟩ := mul_bd (g - 1) a (by omega) (by omega) h3 h4
  go_enter Try.func28, Try.ntmps28
  go_wp2
  go_ret2
  exact ⟨rfl, rfl⟩
theorem mul_bd2 (g a : Int) (h0 : 0 ≤ g) (h1 : g ≤ 3000) (h2 : 1 ≤ a) (h3 : a ≤ 16) : 0 ≤ g * a ∧ g * a ≤ 48000 := by
  have e1 : 0 ≤ g * a := Int.mul_nonneg (by omega) (by omega)
  have e2 : g * a ≤ 3000 * 16 := Int.mul_le_mul (by omega) h3 (by omega) (by omega)
  omega
def sig (n a : Int) : Int := (n + 4 * a - 1) / (4 * a)
theorem sig_le (n a : Int) (h1 : 1 ≤ n) (h2 : n ≤ 2000) (h3 : 1 ≤ a) : sig n a ≤ 2000 := by
  have : sig n a < 2001 := Int.ediv_lt_of_lt_mul (by omega) (by omega)
  omega
theorem sig_at (n a g p : Int) (h3 : 1 ≤ a) (hp : 1 ≤ p) (h : (g - 1) * 4 * a + p ≤ n) : g ≤ sig n a := by
  unfold sig
  rw [Int.le_ediv_iff_mul_le (by omega)]
  have e : g * (4 * a) = (g - 1) * 4 * a + 4 * a := by rw [Int.mul_assoc, Int.sub_mul]; omega
  omega
theorem at_eq (g a : Int) : (g - 1) * a * 4 = (g - 1) * 4 * a := by rw [Int.mul_assoc, Int.mul_comm a 4, Int.mul_assoc]
theorem i_signs_sig (n a : Int) (h1 : 1 ≤ n) (h2 : n ≤ 2000) (h3 : 1 ≤ a) (h4 : a ≤ 16) (w : World) :
    Calls Try.prog 25 #[.int .i64 n, .int .i64 a] w fun e w' => e = .returned (.tuple #[.int .i64 (sig n a), .bool true]) ∧ w = w' :=
  i_signs_yes n a h1 h2 h3 h4 w
theorem i_pib_bad (n a g p : Int) (h : ¬ 1 ≤ n ∨ ¬ n ≤ 2000 ∨ ¬ 1 ≤ a ∨ ¬ a ≤ 16) (w : World) :
    Calls Try.prog 29 #[.int .i64 n, .int .i64 a, .int .i64 g, .int .i64 p] w fun e w' => e = .returned (.tuple #[.int .i64 0, .bool false]) ∧ w = w' := by
  go_enter Try.func29, Try.ntmps29
  go_wp2_with (go_at_call 25; refine (i_signs_no _ _ h _).mono ?_; rintro e w' ⟨rfl, rfl⟩)
  go_ret2
  exact ⟨rfl, rfl⟩
theorem i_pib_no (n a g p : Int) (h1 : 1 ≤ n) (h2 : n ≤ 2000) (h3 : 1 ≤ a) (h4 : a ≤ 16) (h : g < 1 ∨ sig n a < g ∨ p < 1 ∨ 4 * a < p) (w : World) :
    Calls Try.prog 29 #[.int .i64 n, .int .i64 a, .int .i64 g, .int .i64 p] w fun e w' => e = .returned (.tuple #[.int .i64 0, .bool false]) ∧ w = w' := by
  by_cases c1 : g < 1
  · clear h
    go_enter Try.func29, Try.ntmps29
    go_wp2_with (first | (go_at_call 25; refine (i_signs_sig _ _ h1 h2 h3 h4 _).mono ?_; rintro e w' ⟨rfl, rfl⟩) | go_in)
    go_ret2
    exact ⟨rfl, rfl⟩
  · by_cases c2 : sig n a < g
    · have d1 : decide (g < 1) = false := by simp; omega
      clear h
      go_enter Try.func29, Try.ntmps29
      go_wp2_with (first | (go_at_call 25; refine (i_signs_sig _ _ h1 h2 h3 h4 _).mono ?_; rintro e w' ⟨rfl, rfl⟩) | go_in)
      go_ret2
      exact ⟨rfl, rfl⟩
    · by_cases c3 : 1 ≤ p
      · have c4 : decide (p ≤ a * 4) = false := by simp; omega
        have d1 : decide (g < 1) = false := by simp; omega
        have d2 : decide (sig n a < g) = false := by simp; omega
        clear h
        go_enter Try.func29, Try.ntmps29
        go_wp2_with (first | (go_at_call 25; refine (i_signs_sig _ _ h1 h2 h3 h4 _).mono ?_; rintro e w' ⟨rfl, rfl⟩) | go_in)
        go_ret2
        exact ⟨rfl, rfl⟩
      · have d1 : decide (g < 1) = false := by simp; omega
        have d2 : decide (sig n a < g) = false := by simp; omega
        clear h
        go_enter Try.func29, Try.ntmps29
        go_wp2_with (first | (go_at_call 25; refine (i_signs_sig _ _ h1 h2 h3 h4 _).mono ?_; rintro e w' ⟨rfl, rfl⟩) | go_in)
        go_ret2
        exact ⟨rfl, rfl⟩
theorem i_pib_blank (n a g p : Int) (h1 : 1 ≤ n) (h2 : n ≤ 2000) (h3 : 1 ≤ a) (h4 : a ≤ 16) (h5 : 1 ≤ p) (h6 : p ≤ 4 * a) (h7 : 1 ≤ g) (h8 : g ≤ sig n a) (h9 : n < (g - 1) * 4 * a + p) (w : World) :
    Calls Try.prog 29 #[.int .i64 n, .int .i64 a, .int .i64 g, .int .i64 p] w fun e w' => e = .returned (.tuple #[.int .i64 0, .bool false]) ∧ w = w' := by
  have hs := sig_le n a h1 h2 h3
  obtain ⟨m1, m2⟩ := mul_bd2 (g - 1) a (by omega) (by omega) h3 h4
  rw [← at_eq] at h9
  have c4 : p ≤ a * 4 := by omega
  have c5 : decide ((g - 1) * a * 4 + p ≤ n) = false := by simp; omega
  have c6 : decide (sig n a < g) = false := by simp; omega
  have c7 : decide (g < 1) = false := by simp; omega
  have c8 : 1 ≤ (g - 1) * a * 4 + p := by omega
  go_enter Try.func29, Try.ntmps29
  go_wp2_with (first | (go_at_call 25; refine (i_signs_sig _ _ h1 h2 h3 h4 _).mono ?_; rintro e w' ⟨rfl, rfl⟩) | go_in)
  go_ret2
  exact ⟨rfl, rfl⟩
theorem i_pib_yes (n a g p : Int) (h1 : 1 ≤ n) (h2 : n ≤ 2000) (h3 : 1 ≤ a) (h4 : a ≤ 16) (h5 : 1 ≤ p) (h6 : p ≤ 4 * a) (h7 : 1 ≤ g) (h9 : ¬ n < (g - 1) * 4 * a + p) (w : World) :
    Calls Try.prog 29 #[.int .i64 n, .int .i64 a, .int .i64 g, .int .i64 p] w fun e w' => e = .returned (.tuple #[.int .i64 ((g - 1) * 4 * a + p), .bool true]) ∧ w = w' := by
  have hs := sig_le n a h1 h2 h3
  have h8 := sig_at n a g p h3 h5 (by omega)
  obtain ⟨m1, m2⟩ := mul_bd2 (g - 1) a (by omega) (by omega) h3 h4
  rw [← at_eq] at h9
  have c4 : p ≤ a * 4 := by omega
  have c5 : (g - 1) * a * 4 + p ≤ n := by omega
  have c6 : decide (sig n a < g) = false := by simp; omega
  have c7 : decide (g < 1) = false := by simp; omega
  have c8 : 1 ≤ (g - 1) * a * 4 + p := by omega
  go_enter Try.func29, Try.ntmps29
  go_wp2_with (first | (go_at_call 25; refine (i_signs_sig _ _ h1 h2 h3 h4 _).mono ?_; rintro e w' ⟨rfl, rfl⟩) | go_in)
  go_ret2
  exact ⟨ret_ib (by rw [at_eq]), rfl⟩
end Go.Proofs.Ytjkpmjcfbdpnhaa
