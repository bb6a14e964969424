/- What the functions on sums and torn leaves answer, each as a plain function of its arguments: for books of 1 to 2000 pages and sums within the bounds that each theorem states. -/
import Derived.Test.YtnaikhfhimijdabChecked
import Derived.Test.YtnaikhfhimijdabMath
import Derived.WalkKit
import Derived.Lib.Hide
import Derived.Outline
namespace Go.Proofs.Ytnaikhfhimijdab
open Go.RowKit
theorem ret_int {k : IntKind} {a b : Int} (h : a = b) : Ending.returned (.int k a) = .returned (.int k b) := by rw [h]

theorem ret_ib {a b : Int} {c : Bool} (h : a = b) : Ending.returned (.tuple #[.int .i64 a, .bool c]) = .returned (.tuple #[.int .i64 b, .bool c]) := by rw [h]

theorem v_int {a b : Int} (h : a = b) : Value.int .i64 a = .int .i64 b := by rw [h]
theorem ret_iii {a b c a' b' c' : Int} (h1 : a = a') (h2 : b = b') (h3 : c = c') : Ending.returned (.tuple #[.int .i64 a, .int .i64 b, .int .i64 c]) = .returned (.tuple #[.int .i64 a', .int .i64 b', .int .i64 c']) := by rw [h1, h2, h3]

theorem bpSum_any (p : Int) (h1 : 0 ≤ p) (h2 : p ≤ 2000) (w : World) :
    Calls Try.prog 32 #[.int .i64 p] w fun e w' => e = .returned (.int .i64 (M.tri p)) ∧ w = w' := by
  obtain ⟨b1, b2⟩ := M.mul_bd p h1 h2
  go_enter Try.func32, Try.ntmps32
  go_wp2
  go_ret
  exact ⟨ret_int rfl, rfl⟩
theorem sumUpTo_any (p : Int) (h1 : 0 ≤ p) (h2 : p ≤ 2000) (w : World) :
    Calls Try.prog 34 #[.int .i64 p] w fun e w' => e = .returned (.int .i64 (M.tri p)) ∧ w = w' := by
  obtain ⟨b1, b2⟩ := M.mul_bd p h1 h2
  go_enter Try.func34, Try.ntmps34
  go_wp2
  go_ret
  exact ⟨ret_int rfl, rfl⟩
theorem bpTorn_any (p s : Int) (h1 : 0 ≤ p) (h2 : p ≤ 2000) (h3 : -9000000 ≤ s) (h4 : s ≤ 9000000) (w : World) :
    Calls Try.prog 39 #[.int .i64 p, .int .i64 s] w fun e w' => e = .returned (.int .i64 (M.torn p s)) ∧ w = w' := by
  by_cases c1 : s < 3
  · have HT := Lib.hid (M.torn_no (p := p) (s := s) (by omega))
    go_enter Try.func39, Try.ntmps39
    go_wp2
    go_ret
    exact ⟨ret_int HT.out.symm, rfl⟩
  · by_cases c2 : (s + 1) % 4 = 0
    · by_cases c3 : p / 2 < (s + 1) / 4
      · have HT := Lib.hid (M.torn_no (p := p) (s := s) (by omega))
        go_enter Try.func39, Try.ntmps39
        go_wp2
        go_ret
        exact ⟨ret_int HT.out.symm, rfl⟩
      · have HT := Lib.hid (M.torn_yes (p := p) (s := s) (by omega) c2 (by omega))
        go_enter Try.func39, Try.ntmps39
        go_wp2
        go_ret
        exact ⟨ret_int HT.out.symm, rfl⟩
    · have HT := Lib.hid (M.torn_no (p := p) (s := s) (by omega))
      go_enter Try.func39, Try.ntmps39
      go_wp2
      go_ret
      exact ⟨ret_int HT.out.symm, rfl⟩
theorem leafWithSum_no (p s : Int) (h1 : 0 ≤ p) (h2 : p ≤ 2000) (h3 : -9223372036854775807 ≤ s) (h4 : s ≤ 9000000) (h : M.torn p s = 0) (w : World) :
    Calls Try.prog 40 #[.int .i64 p, .int .i64 s] w fun e w' => e = .returned (.tuple #[.int .i64 0, .bool false]) ∧ w = w' := by
  have H := Lib.hid h
  clear h
  by_cases c0 : s < 0
  · obtain ⟨t, rfl⟩ : ∃ t, s = -t := ⟨-s, by omega⟩
    by_cases c5 : 4 ≤ t
    · have e : (-t).tdiv 4 = -(t / 4) := by rw [Int.neg_tdiv, Int.tdiv_eq_ediv_of_nonneg (by omega)]
      have c6 : -(t / 4) + 1 < 1 := by omega
      go_enter Try.func40, Try.ntmps40
      go_wp2
      go_ret2
      exact ⟨rfl, rfl⟩
    · by_cases c7 : p / 2 < 1
      · rcases (show t = 1 ∨ t = 2 ∨ t = 3 from by omega) with rfl | rfl | rfl
        all_goals
          go_enter Try.func40, Try.ntmps40
          go_wp2
          go_ret2
          exact ⟨rfl, rfl⟩
      · rcases (show t = 1 ∨ t = 2 ∨ t = 3 from by omega) with rfl | rfl | rfl
        all_goals
          go_enter Try.func40, Try.ntmps40
          go_wp2
          go_ret2
          exact ⟨rfl, rfl⟩
  · by_cases c3 : p / 2 < s / 4 + 1
    · go_enter Try.func40, Try.ntmps40
      go_wp2
      go_ret2
      exact ⟨rfl, rfl⟩
    · have hd : decide (s / 4 + 1 < 1) = false := by simp; omega
      have c4 : (4 * (s / 4 + 1) - 1 != s) = true := by
        simp only [bne_iff_ne, ne_eq]
        intro hs
        have := M.torn_yes (p := p) (s := s) (by omega) (by omega) (by omega)
        have := H.out
        omega
      go_enter Try.func40, Try.ntmps40
      go_wp2
      go_ret2
      exact ⟨rfl, rfl⟩
theorem leafWithSum_yes (p s : Int) (h1 : 0 ≤ p) (h2 : p ≤ 2000) (h3 : 3 ≤ s) (h4 : s ≤ 9000000) (h5 : (s + 1) % 4 = 0) (h6 : (s + 1) / 4 ≤ p / 2) (w : World) :
    Calls Try.prog 40 #[.int .i64 p, .int .i64 s] w fun e w' => e = .returned (.tuple #[.int .i64 (M.torn p s), .bool true]) ∧ w = w' := by
  have HT := Lib.hid (M.torn_yes (p := p) (s := s) (by omega) h5 (by omega))
  have e1 : s / 4 + 1 = (s + 1) / 4 := by omega
  have c3 : ¬ p / 2 < s / 4 + 1 := by omega
  have hd : decide (s / 4 + 1 < 1) = false := by simp; omega
  have c4 : (4 * (s / 4 + 1) - 1 != s) = false := by simp; omega
  have E1 := Lib.hid e1
  clear e1
  go_enter Try.func40, Try.ntmps40
  go_wp2
  go_ret2
  exact ⟨ret_ib (by rw [HT.out, E1.out]), rfl⟩

set_option maxHeartbeats 1000000 in
theorem bpTwo_any (p s : Int) (h1 : 1 ≤ p) (h2 : p ≤ 2000) (h3 : 0 ≤ s) (h4 : s ≤ 4000000) (w : World) :
    Calls Try.prog 41 #[.int .i64 p, .int .i64 s] w fun e w' => e = .returned (.tuple #[.int .i64 (M.st p (M.tri p - s) (p / 2).toNat).1, .int .i64 (M.st p (M.tri p - s) (p / 2).toNat).2.1, .int .i64 (M.st p (M.tri p - s) (p / 2).toNat).2.2]) ∧ w = w' := by
  obtain ⟨b1, b2⟩ := M.tri_bd p (by omega) h2
  go_enter Try.func41, Try.ntmps41
  go_wp2_with (go_at_call 32; refine (bpSum_any _ (by omega) (by omega) _).mono ?_; rintro e w' ⟨rfl, rfl⟩)
  go_loop [8, 9, 10, 11] (fun a b n l => ∃ k : Nat, (k : Int) ≤ p / 2 ∧ l = .int .i64 ((k : Int) + 1) ∧ a = .int .i64 (M.st p (M.tri p - s) k).1 ∧ b = .int .i64 (M.st p (M.tri p - s) k).2.1 ∧ n = .int .i64 (M.st p (M.tri p - s) k).2.2) (fun _ _ _ l => (p / 2 + 1 - intOf l).toNat)
  case atStart => exact ⟨0, by omega, rfl, rfl, rfl, rfl⟩
  case round =>
    obtain ⟨k, hk, rfl, rfl, rfl, rfl⟩ := hrel
    obtain ⟨n1, n2⟩ := M.st_n p (M.tri p - s) k
    by_cases hlt : (k : Int) + 1 ≤ p / 2
    · by_cases ho : M.torn p (M.tri p - s - (4 * ((k : Int) + 1) - 1)) ≤ (k : Int) + 1
      · have HO := Lib.hid ho
        go_wp2_with (go_at_call 39; refine (bpTorn_any _ _ (by omega) (by omega) (by omega) (by omega) _).mono ?_; rintro e w' ⟨rfl, rfl⟩)
        go_round
        case rel => rw [show (k : Int) + 1 + 1 = ((k + 1 : Nat) : Int) + 1 from by omega]; exact ⟨k + 1, by omega, rfl, by rw [M.st_skip HO.out], by rw [M.st_skip HO.out], by rw [M.st_skip HO.out]⟩
        case measure => simp [intOf]; omega
      · by_cases hn : (M.st p (M.tri p - s) k).2.2 = 0
        · have HO := Lib.hid ho
          have HN := Lib.hid hn
          go_wp2_with (go_at_call 39; refine (bpTorn_any _ _ (by omega) (by omega) (by omega) (by omega) _).mono ?_; rintro e w' ⟨rfl, rfl⟩)
          go_round
          case rel => exact ⟨k + 1, by omega, v_int (by omega), v_int (by rw [M.st_first HO.out HN.out]), v_int (by rw [M.st_first HO.out HN.out]), v_int (by rw [M.st_first HO.out HN.out])⟩
          case measure => simp [intOf]; omega
        · have HO := Lib.hid ho
          have HN := Lib.hid hn
          go_wp2_with (go_at_call 39; refine (bpTorn_any _ _ (by omega) (by omega) (by omega) (by omega) _).mono ?_; rintro e w' ⟨rfl, rfl⟩)
          go_round
          case rel => exact ⟨k + 1, by omega, v_int (by omega), v_int (by rw [M.st_more HO.out HN.out]), v_int (by rw [M.st_more HO.out HN.out]), v_int (by rw [M.st_more HO.out HN.out])⟩
          case measure => simp [intOf]; omega
    · have E := Lib.hid (show (p / 2).toNat = k by omega)
      go_wp2
      go_ret3
      exact ⟨ret_iii (by rw [E.out]) (by rw [E.out]) (by rw [E.out]), rfl⟩

set_option maxHeartbeats 1000000 in
theorem tornPairs_any (p s : Int) (h1 : 1 ≤ p) (h2 : p ≤ 2000) (h3 : 0 ≤ s) (h4 : s ≤ 4000000) (w : World) :
    Calls Try.prog 42 #[.int .i64 p, .int .i64 s] w fun e w' => e = .returned (.tuple #[.int .i64 (M.st p (M.tri p - s) (p / 2).toNat).2.2, .int .i64 (M.st p (M.tri p - s) (p / 2).toNat).1, .int .i64 (M.st p (M.tri p - s) (p / 2).toNat).2.1]) ∧ w = w' := by
  obtain ⟨b1, b2⟩ := M.tri_bd p (by omega) h2
  go_enter Try.func42, Try.ntmps42
  go_wp2_with (go_at_call 34; refine (sumUpTo_any _ (by omega) (by omega) _).mono ?_; rintro e w' ⟨rfl, rfl⟩)
  go_loop [4, 5, 6, 8] (fun n a b l => ∃ k : Nat, (k : Int) ≤ p / 2 ∧ l = .int .i64 ((k : Int) + 1) ∧ a = .int .i64 (M.st p (M.tri p - s) k).1 ∧ b = .int .i64 (M.st p (M.tri p - s) k).2.1 ∧ n = .int .i64 (M.st p (M.tri p - s) k).2.2) (fun _ _ _ l => (p / 2 + 1 - intOf l).toNat)
  case atStart => exact ⟨0, by omega, rfl, rfl, rfl, rfl⟩
  case round =>
    obtain ⟨k, hk, rfl, rfl, rfl, rfl⟩ := hrel
    obtain ⟨n1, n2⟩ := M.st_n p (M.tri p - s) k
    by_cases hlt : (k : Int) + 1 ≤ p / 2
    · have T := Lib.hid (M.torn_cases p (M.tri p - s - (4 * ((k : Int) + 1) - 1)))
      by_cases ho : M.torn p (M.tri p - s - (4 * ((k : Int) + 1) - 1)) ≤ (k : Int) + 1
      · by_cases hz : M.torn p (M.tri p - s - (4 * ((k : Int) + 1) - 1)) = 0
        · have HO := Lib.hid ho
          go_wp2_with (first | (go_at_call 40; refine (leafWithSum_no _ _ (by omega) (by omega) (by omega) (by omega) hz _).mono ?_; rintro e w' ⟨rfl, rfl⟩) | go_in)
          go_round
          case rel => exact ⟨k + 1, by omega, v_int (by omega), v_int (by rw [M.st_skip HO.out]), v_int (by rw [M.st_skip HO.out]), v_int (by rw [M.st_skip HO.out])⟩
          case measure => simp [intOf]; omega
        · have HO := Lib.hid ho
          obtain ⟨t1, t2, t3⟩ := (T.out).resolve_left hz
          go_wp2_with (first | (go_at_call 40; refine (leafWithSum_yes _ _ (by omega) (by omega) (by omega) (by omega) (by omega) (by omega) _).mono ?_; rintro e w' ⟨rfl, rfl⟩) | go_in)
          go_round
          case rel => exact ⟨k + 1, by omega, v_int (by omega), v_int (by rw [M.st_skip HO.out]), v_int (by rw [M.st_skip HO.out]), v_int (by rw [M.st_skip HO.out])⟩
          case measure => simp [intOf]; omega
      · obtain ⟨t1, t2, t3⟩ := (T.out).resolve_left (by omega)
        by_cases hn : (M.st p (M.tri p - s) k).2.2 = 0
        · have HO := Lib.hid ho
          have HN := Lib.hid hn
          go_wp2_with (first | (go_at_call 40; refine (leafWithSum_yes _ _ (by omega) (by omega) (by omega) (by omega) (by omega) (by omega) _).mono ?_; rintro e w' ⟨rfl, rfl⟩) | go_in)
          go_round
          case rel => exact ⟨k + 1, by omega, v_int (by omega), v_int (by rw [M.st_first HO.out HN.out]), v_int (by rw [M.st_first HO.out HN.out]), v_int (by rw [M.st_first HO.out HN.out])⟩
          case measure => simp [intOf]; omega
        · have HO := Lib.hid ho
          have HN := Lib.hid hn
          go_wp2_with (first | (go_at_call 40; refine (leafWithSum_yes _ _ (by omega) (by omega) (by omega) (by omega) (by omega) (by omega) _).mono ?_; rintro e w' ⟨rfl, rfl⟩) | go_in)
          go_round
          case rel => exact ⟨k + 1, by omega, v_int (by omega), v_int (by rw [M.st_more HO.out HN.out]), v_int (by rw [M.st_more HO.out HN.out]), v_int (by rw [M.st_more HO.out HN.out])⟩
          case measure => simp [intOf]; omega
    · have E := Lib.hid (show (p / 2).toNat = k by omega)
      go_wp2
      go_ret3
      exact ⟨ret_iii (by rw [E.out]) (by rw [E.out]) (by rw [E.out]), rfl⟩
end Go.Proofs.Ytnaikhfhimijdab
