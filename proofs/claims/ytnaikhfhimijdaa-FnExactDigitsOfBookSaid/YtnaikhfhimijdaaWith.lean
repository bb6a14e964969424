/- How many page numbers have a digit: what spec.PagesWithDigit and impl.PagesWithDigit answer, each by its own loop, for books of 1 to 2000 pages and the digits 0 to 9. -/
import Derived.Test.YtnaikhfhimijdaaCounts
namespace Go.Proofs.Ytnaikhfhimijdaa
open Go.RowKit
/-- how many of the first k page numbers have the digit d -/
def pw (d : Int) : Nat → Int
  | 0 => 0
  | k + 1 => pw d k + if 0 < D.cnt (k + 1) d then 1 else 0
theorem pw_bd (d : Int) (k : Nat) : 0 ≤ pw d k ∧ pw d k ≤ k := by
  induction k with
  | zero => exact ⟨by simp [pw], by simp [pw]⟩
  | succ k ih => unfold pw; split <;> omega
theorem pw_yes {d : Int} {k : Nat} (h : 0 < D.cnt (k + 1) d) : pw d (k + 1) = pw d k + 1 := by
  show pw d k + _ = _; rw [if_pos h]
theorem pw_no {d : Int} {k : Nat} (h : ¬ 0 < D.cnt (k + 1) d) : pw d (k + 1) = pw d k := by
  show pw d k + _ = _; rw [if_neg h]; omega
theorem ret_yes {a b : Int} (h : a = b) : Ending.returned (.tuple #[.int .i64 a, .bool true]) = .returned (.tuple #[.int .i64 b, .bool true]) := by rw [h]
theorem bpDigit_yes (p d : Int) (h1 : 1 ≤ p) (h2 : p ≤ 2000) (h3 : 0 ≤ d) (h4 : d ≤ 9) (w : World) :
    Calls Try.prog 42 #[.int .i64 p, .int .i64 d] w fun e w' => e = .returned (.bool true) ∧ w = w' := by
  go_enter Try.func42, Try.ntmps42
  go_wp2
  go_ret
  exact ⟨rfl, rfl⟩
theorem isBook_yes (n : Int) (h1 : 1 ≤ n) (h2 : n ≤ 2000) (w : World) :
    Calls Try.prog 35 #[.int .i64 n] w fun e w' => e = .returned (.bool true) ∧ w = w' := by
  go_enter Try.func35, Try.ntmps35
  go_wp2
  go_ret
  exact ⟨rfl, rfl⟩
theorem isDigit_yes (n : Int) (h1 : 0 ≤ n) (h2 : n ≤ 9) (w : World) :
    Calls Try.prog 44 #[.int .i64 n] w fun e w' => e = .returned (.bool true) ∧ w = w' := by
  go_enter Try.func44, Try.ntmps44
  go_wp2
  go_ret
  exact ⟨rfl, rfl⟩
theorem least_one (x : Int) (h : 0 < x) (w : World) :
    Calls Try.prog 45 #[.int .i64 1, .int .i64 x] w fun e w' => e = .returned (.int .i64 1) ∧ w = w' := by
  by_cases c : 1 < x
  · go_enter Try.func45, Try.ntmps45
    go_wp2
    go_ret
    exact ⟨rfl, rfl⟩
  · obtain rfl : x = 1 := by omega
    go_enter Try.func45, Try.ntmps45
    go_wp2
    go_ret
    exact ⟨rfl, rfl⟩
theorem least_none (x : Int) (h : x = 0) (w : World) :
    Calls Try.prog 45 #[.int .i64 1, .int .i64 x] w fun e w' => e = .returned (.int .i64 0) ∧ w = w' := by
  subst h
  go_enter Try.func45, Try.ntmps45
  go_wp2
  go_ret
  exact ⟨rfl, rfl⟩
set_option maxRecDepth 100000 in
set_option maxHeartbeats 1000000 in
theorem spec_with (p d : Int) (h1 : 1 ≤ p) (h2 : p ≤ 2000) (h3 : 0 ≤ d) (h4 : d ≤ 9) (w : World) :
    Calls Try.prog 31 #[.int .i64 p, .int .i64 d] w fun e w' => e = .returned (.tuple #[.int .i64 (pw d p.toNat), .bool true]) ∧ w = w' := by
  go_enter Try.func31, Try.ntmps31
  go_wp2_with (go_at_call 42; refine (bpDigit_yes _ _ h1 h2 h3 h4 _).mono ?_; rintro e w' ⟨rfl, rfl⟩)
  go_loop [6, 7] (fun n q => ∃ k : Nat, (k : Int) ≤ p ∧ q = .int .i64 ((k : Int) + 1) ∧ n = .int .i64 (pw d k)) (fun _ q => (p + 1 - intOf q).toNat)
  case atStart => exact ⟨0, by omega, rfl, rfl⟩
  case round =>
    obtain ⟨k, hk, rfl, rfl⟩ := hrel
    obtain ⟨n1, n2⟩ := pw_bd d k
    by_cases hlt : (k : Int) + 1 ≤ p
    · have ek : ((k : Int) + 1).toNat = k + 1 := by omega
      have B1 : Hid (∀ w : World, Calls Try.prog 43 #[.int .i64 ((k : Int) + 1), .int .i64 d] w fun e w' => e = .returned (.int .i64 (D.cnt (k + 1) d)) ∧ w = w') := Lib.hid (fun w => by rw [← ek]; exact bpCount_any ((k : Int) + 1) d (by omega) (by omega) w)
      have hb := D.cnt_le (k + 1) d (by omega)
      clear ek
      by_cases hp : 0 < D.cnt (k + 1) d
      · have HS := Lib.hid (pw_yes hp)
        go_wp2_with (first | (go_at_call 43; refine (B1.out _).mono ?_; rintro e w' ⟨rfl, rfl⟩) | (go_at_call 45; refine (least_one _ hp _).mono ?_; rintro e w' ⟨rfl, rfl⟩))
        go_round
        case rel => exact ⟨k + 1, by omega, by go_num, by rw [HS.out]⟩
        case measure => simp [intOf]; omega
      · have HS := Lib.hid (pw_no hp)
        have HZ := Lib.hid (show D.cnt (k + 1) d = 0 by omega)
        go_wp2_with (first | (go_at_call 43; refine (B1.out _).mono ?_; rintro e w' ⟨rfl, rfl⟩) | (go_at_call 45; refine (least_none _ HZ.out _).mono ?_; rintro e w' ⟨rfl, rfl⟩))
        go_round
        case rel => exact ⟨k + 1, by omega, by go_num, by rw [HS.out]⟩
        case measure => simp [intOf]; omega
    · have E := Lib.hid (show p.toNat = k by omega)
      go_wp2
      go_ret2
      exact ⟨ret_yes (by rw [E.out]), rfl⟩
set_option maxRecDepth 100000 in
set_option maxHeartbeats 1000000 in
theorem impl_with (p d : Int) (h1 : 1 ≤ p) (h2 : p ≤ 2000) (h3 : 0 ≤ d) (h4 : d ≤ 9) (w : World) :
    Calls Try.prog 32 #[.int .i64 p, .int .i64 d] w fun e w' => e = .returned (.tuple #[.int .i64 (pw d p.toNat), .bool true]) ∧ Grown w w' := by
  go_enter Try.func32, Try.ntmps32
  go_wp2_with (first | (go_at_call 35; refine (isBook_yes _ h1 h2 _).mono ?_; rintro e w' ⟨rfl, rfl⟩) | (go_at_call 44; refine (isDigit_yes _ h3 h4 _).mono ?_; rintro e w' ⟨rfl, rfl⟩))
  go_loopw [6, 7] (fun n q wr => ∃ k : Nat, (k : Int) ≤ p ∧ q = .int .i64 ((k : Int) + 1) ∧ n = .int .i64 (pw d k) ∧ Grown w wr) (fun _ q _ => (p + 1 - intOf q).toNat)
  case atStart => exact ⟨0, by omega, rfl, rfl, Grown.refl _⟩
  case round =>
    obtain ⟨k, hk, rfl, rfl, hg⟩ := hrel
    obtain ⟨n1, n2⟩ := pw_bd d k
    by_cases hlt : (k : Int) + 1 ≤ p
    · have ek : ((k : Int) + 1).toNat = k + 1 := by omega
      have B1 : Hid (∀ w : World, Calls Try.prog 46 #[.int .i64 ((k : Int) + 1), .int .i64 ((k : Int) + 1)] w fun e w' => e = .returned (.agg (row (D.cnt (k + 1)))) ∧ Grown w w') := Lib.hid (fun w => by rw [← ek]; exact countsOne_any ((k : Int) + 1) (by omega) (by omega) w)
      have ix := fun w => index_row (D.cnt (k + 1)) d h3 h4 w
      have hb := D.cnt_le (k + 1) d (by omega)
      clear ek
      by_cases hp : 0 < D.cnt (k + 1) d
      · have HS := Lib.hid (pw_yes hp)
        go_wp2_with (go_at_call 46; refine (B1.out _).mono ?_; rintro e w' ⟨rfl, hg'⟩)
        go_roundw
        case rel => exact ⟨k + 1, by omega, by go_num, by rw [HS.out], grown_trans hg hg'⟩
        case measure => simp [intOf]; omega
      · have HS := Lib.hid (pw_no hp)
        go_wp2_with (go_at_call 46; refine (B1.out _).mono ?_; rintro e w' ⟨rfl, hg'⟩)
        go_roundw
        case rel => exact ⟨k + 1, by omega, by go_num, by rw [HS.out], grown_trans hg hg'⟩
        case measure => simp [intOf]; omega
    · have E := Lib.hid (show p.toNat = k by omega)
      go_wp2
      go_ret2
      exact ⟨ret_yes (by rw [E.out]), hg⟩
end Go.Proofs.Ytnaikhfhimijdaa
