/- How many pages so many types of a digit number: what spec.PagesForTypes and impl.PagesForTypes answer, each by its own loop, for the digits 0 to 9 and 0 to 2000 types; and that it is one answer. -/
import Derived.Test.YtnaikhfhimijdabCounts
namespace Go.Proofs.Ytnaikhfhimijdab
open Go.RowKit
def Types (d many : Int) (e : Ending) : Prop := ∃ p : Nat, D.Most d many p ∧ e = .returned (.tuple #[.int .i64 (p : Int), .bool (decide (0 < (p : Int)))])
theorem types_mk {d many : Int} {p : Nat} {c : Bool} (h : D.Most d many p) (hc : c = decide (0 < (p : Int))) : Types d many (.returned (.tuple #[.int .i64 (p : Int), .bool c])) := ⟨p, h, by rw [hc]⟩
/-- p pages are numbered, m types are left -/
def At (d many m : Int) (p : Nat) : Prop := m = many - D.cs 1 p d ∧ 0 ≤ m ∧ p ≤ 2000
theorem at_zero {d many : Int} (h : 0 ≤ many) : At d many many 0 := ⟨by simp [D.cs], h, by omega⟩
theorem at_succ {d many m : Int} {p : Nat} (h : At d many m p) (hp : p < 2000) (hm : D.cnt (p + 1) d ≤ m) : At d many (m - D.cnt (p + 1) d) (p + 1) := by
  obtain ⟨h1, h2, h3⟩ := h
  refine ⟨?_, by omega, by omega⟩
  rw [D.cs_next]; omega
theorem at_end {d many m : Int} {p : Nat} (h : At d many m p) (hm : p = 2000 ∨ m < D.cnt (p + 1) d) : D.Most d many p := by
  obtain ⟨h1, h2, h3⟩ := h
  refine ⟨h3, by omega, ?_⟩
  rcases hm with hm | hm
  · exact Or.inl hm
  · exact Or.inr (by rw [D.cs_next]; omega)
theorem l1In_yes (n lo hi : Int) (h1 : lo ≤ n) (h2 : n ≤ hi) (w : World) :
    Calls Try.prog 27 #[.int .i64 n, .int .i64 lo, .int .i64 hi] w fun e w' => e = .returned (.bool true) ∧ w = w' := by
  go_enter Try.func27, Try.ntmps27
  go_wp2
  go_ret
  exact ⟨rfl, rfl⟩
theorem isDigit_yes (n : Int) (h1 : 0 ≤ n) (h2 : n ≤ 9) (w : World) :
    Calls Try.prog 29 #[.int .i64 n] w fun e w' => e = .returned (.bool true) ∧ w = w' := by
  go_enter Try.func29, Try.ntmps29
  go_wp2
  go_ret
  exact ⟨rfl, rfl⟩
set_option maxRecDepth 100000 in
set_option maxHeartbeats 1000000 in
theorem spec_types (d many : Int) (h1 : 0 ≤ d) (h2 : d ≤ 9) (h3 : 0 ≤ many) (h4 : many ≤ 2000) (w : World) :
    Calls Try.prog 11 #[.int .i64 d, .int .i64 many] w fun e w' => Types d many e ∧ w = w' := by
  go_enter Try.func11, Try.ntmps11
  go_wp2_with (go_at_call 27; refine (l1In_yes _ _ _ (by omega) (by omega) _).mono ?_; rintro e w' ⟨rfl, rfl⟩)
  go_loop [1, 6] (fun m p => ∃ (k : Nat) (x : Int), k ≤ 2000 ∧ 0 ≤ x ∧ x ≤ many ∧ p = .int .i64 (k : Int) ∧ m = .int .i64 x ∧ At d many x k) (fun _ p => (2000 - intOf p).toNat)
  case atStart => exact ⟨0, many, by omega, by omega, by omega, rfl, rfl, at_zero h3⟩
  case round =>
    obtain ⟨k, x, hk, hx1, hx2, rfl, rfl, ha⟩ := hrel
    by_cases hlt : (k : Int) < 2000
    · have hb := D.cnt_le (k + 1) d (by omega)
      have ek : ((k : Int) + 1).toNat = k + 1 := by omega
      have B1 : Hid (∀ w : World, Calls Try.prog 28 #[.int .i64 ((k : Int) + 1), .int .i64 d] w fun e w' => e = .returned (.int .i64 (D.cnt (k + 1) d)) ∧ w = w') := Lib.hid (fun w => by rw [← ek]; exact bpCount_any ((k : Int) + 1) d (by omega) (by omega) w)
      clear ek
      by_cases hm : D.cnt (k + 1) d ≤ x
      · have HA := at_succ ha (by omega) hm
        go_wp2_with (go_at_call 28; refine (B1.out _).mono ?_; rintro e w' ⟨rfl, rfl⟩)
        go_round
        case rel =>
          exact ⟨k + 1, x - D.cnt (k + 1) d, by omega, by omega, by omega, by go_num, by go_num, HA⟩
        case measure => simp [intOf]; omega
      · have HA := at_end ha (Or.inr (by omega))
        go_wp2_with (go_at_call 28; refine (B1.out _).mono ?_; rintro e w' ⟨rfl, rfl⟩)
        go_ret2
        exact ⟨types_mk HA (by simp), rfl⟩
    · have HA := at_end ha (Or.inl (by omega))
      go_wp2
      go_ret2
      exact ⟨types_mk HA (by simp), rfl⟩
set_option maxRecDepth 100000 in
set_option maxHeartbeats 1000000 in
theorem impl_types (d many : Int) (h1 : 0 ≤ d) (h2 : d ≤ 9) (h3 : 0 ≤ many) (h4 : many ≤ 2000) (w : World) :
    Calls Try.prog 12 #[.int .i64 d, .int .i64 many] w fun e w' => Types d many e ∧ Grown w w' := by
  have d1 : ¬ many < 0 := by omega
  have d2 : ¬ 2000 < many := by omega
  go_enter Try.func12, Try.ntmps12
  go_wp2_with (go_at_call 29; refine (isDigit_yes _ h1 h2 _).mono ?_; rintro e w' ⟨rfl, rfl⟩)
  go_loopw [1, 6] (fun m p wr => ∃ (k : Nat) (x : Int), k ≤ 2000 ∧ 0 ≤ x ∧ x ≤ many ∧ p = .int .i64 (k : Int) ∧ m = .int .i64 x ∧ At d many x k ∧ Grown w wr) (fun _ p _ => (2000 - intOf p).toNat)
  case atStart => exact ⟨0, many, by omega, by omega, by omega, rfl, rfl, at_zero h3, Grown.refl _⟩
  case round =>
    obtain ⟨k, x, hk, hx1, hx2, rfl, rfl, ha, hg⟩ := hrel
    by_cases hlt : (k : Int) < 2000
    · have hb := D.cnt_le (k + 1) d (by omega)
      have ek : ((k : Int) + 1).toNat = k + 1 := by omega
      have B1 : Hid (∀ w : World, Calls Try.prog 30 #[.int .i64 ((k : Int) + 1), .int .i64 ((k : Int) + 1)] w fun e w' => e = .returned (.agg (row (D.cnt (k + 1)))) ∧ Grown w w') := Lib.hid (fun w => by rw [← ek]; exact countsOne_any ((k : Int) + 1) (by omega) (by omega) w)
      clear ek
      have ix := fun w => index_row (D.cnt (k + 1)) d h1 h2 w
      by_cases hm : D.cnt (k + 1) d ≤ x
      · have HA := at_succ ha (by omega) hm
        have hm2 : ¬ x - D.cnt (k + 1) d < 0 := by omega
        go_wp2_with (go_at_call 30; refine (B1.out _).mono ?_; rintro e w' ⟨rfl, hg'⟩)
        go_roundw
        case rel => exact ⟨k + 1, x - D.cnt (k + 1) d, by omega, by omega, by omega, by go_num, by go_num, HA, grown_trans hg hg'⟩
        case measure => simp [intOf]; omega
      · have HA := at_end ha (Or.inr (by omega))
        have hm2 : x - D.cnt (k + 1) d < 0 := by omega
        go_wp2_with (go_at_call 30; refine (B1.out _).mono ?_; rintro e w' ⟨rfl, hg'⟩)
        go_ret2
        exact ⟨types_mk HA (by simp), grown_trans hg hg'⟩
    · have HA := at_end ha (Or.inl (by omega))
      go_wp2
      go_ret2
      exact ⟨types_mk HA (by simp), hg⟩
end Go.Proofs.Ytnaikhfhimijdab
