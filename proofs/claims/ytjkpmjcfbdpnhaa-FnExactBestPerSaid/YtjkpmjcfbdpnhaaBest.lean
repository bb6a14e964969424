/- What the functions that look for the best number of sheets in a signature answer: for books of 1 to 2000 pages and up to 16 sheets one and the same plain function, otherwise nothing. -/
import Derived.Test.YtjkpmjcfbdpnhaaPib
namespace Go.Proofs.Ytjkpmjcfbdpnhaa
open Go.RowKit
set_option linter.unusedVariables false
/-- the blank pages of n pages in signatures of a sheets -/
def blk (n a : Int) : Int := sig n a * 4 * a - n
/-- the best of the first k + 1 numbers of sheets, and its blank pages -/
def bst (n : Int) : Nat → Int × Int
  | 0 => (1, blk n 1)
  | k + 1 => if blk n ((k : Int) + 2) ≤ (bst n k).2 then ((k : Int) + 2, blk n ((k : Int) + 2)) else bst n k
theorem sig_bd (n a : Int) (h1 : 1 ≤ n) (h2 : n ≤ 2000) (h3 : 1 ≤ a) (h4 : a ≤ 16) : 0 ≤ sig n a ∧ sig n a ≤ 2000 ∧ 0 ≤ sig n a * 4 * a ∧ sig n a * 4 * a ≤ 128000 := by
  have e0 : 0 ≤ sig n a := Int.ediv_nonneg (by omega) (by omega)
  have e1 := sig_le n a h1 h2 h3
  obtain ⟨m1, m2⟩ := mul_bd (sig n a) a e0 e1 h3 h4
  exact ⟨e0, e1, m1, m2⟩
theorem bst_pos (n : Int) (k : Nat) : 1 ≤ (bst n k).1 := by
  induction k with
  | zero => exact Int.le_refl _
  | succ k ih => unfold bst; split <;> first | exact ih | (show (1:Int) ≤ (k : Int) + 2; omega)
theorem s_best_no (n m : Int) (h : ¬ 1 ≤ n ∨ ¬ n ≤ 2000 ∨ ¬ 1 ≤ m ∨ ¬ m ≤ 16) (w : World) :
    Calls Try.prog 30 #[.int .i64 n, .int .i64 m] w fun e w' => e = .returned (.tuple #[.int .i64 0, .int .i64 0, .bool false]) ∧ w = w' := by
  by_cases c0 : 1 ≤ n <;> by_cases c1 : n ≤ 2000 <;> by_cases c2 : 1 ≤ m <;> by_cases c3 : m ≤ 16 <;> first | (exfalso; omega) | skip
  all_goals
    clear h
    go_enter Try.func30, Try.ntmps30
    go_wp2
    go_ret3
    exact ⟨rfl, rfl⟩
theorem i_best_no (n m : Int) (h : ¬ 1 ≤ n ∨ ¬ n ≤ 2000 ∨ ¬ 1 ≤ m ∨ ¬ m ≤ 16) (w : World) :
    Calls Try.prog 31 #[.int .i64 n, .int .i64 m] w fun e w' => e = .returned (.tuple #[.int .i64 0, .int .i64 0, .bool false]) ∧ w = w' := by
  by_cases c0 : 1 ≤ n <;> by_cases c1 : n ≤ 2000 <;> by_cases c2 : 1 ≤ m <;> by_cases c3 : m ≤ 16 <;> first | (exfalso; omega) | skip
  all_goals
    clear h
    go_enter Try.func31, Try.ntmps31
    go_wp2
    go_ret3
    exact ⟨rfl, rfl⟩
theorem foBoth_yes (n a : Int) (h1 : 1 ≤ n) (h2 : n ≤ 2000) (h3 : 1 ≤ a) (h4 : a ≤ 16) (w : World) :
    Calls Try.prog 49 #[.int .i64 n, .int .i64 a] w fun e w' => e = .returned (.bool true) ∧ w = w' := by
  go_enter Try.func49, Try.ntmps49
  go_wp2
  go_ret
  exact ⟨rfl, rfl⟩
theorem isBook_yes (n : Int) (h1 : 1 ≤ n) (h2 : n ≤ 2000) (w : World) :
    Calls Try.prog 40 #[.int .i64 n] w fun e w' => e = .returned (.bool true) ∧ w = w' := by
  go_enter Try.func40, Try.ntmps40
  go_wp2
  go_ret
  exact ⟨rfl, rfl⟩
theorem isPer_yes (n : Int) (h1 : 1 ≤ n) (h2 : n ≤ 16) (w : World) :
    Calls Try.prog 50 #[.int .i64 n] w fun e w' => e = .returned (.bool true) ∧ w = w' := by
  go_enter Try.func50, Try.ntmps50
  go_wp2
  go_ret
  exact ⟨rfl, rfl⟩
theorem blanks_any (n a : Int) (h1 : 1 ≤ n) (h2 : n ≤ 2000) (h3 : 1 ≤ a) (h4 : a ≤ 16) (w : World) :
    Calls Try.prog 52 #[.int .i64 n, .int .i64 a] w fun e w' => e = .returned (.int .i64 (blk n a)) ∧ w = w' := by
  obtain ⟨e0, e1, e2, e3⟩ := sig_bd n a h1 h2 h3 h4
  have e4 : sig n a * a * 4 = sig n a * 4 * a := by rw [Int.mul_assoc, Int.mul_comm a 4, Int.mul_assoc]
  have e5 : (n + a * 4 - 1) / (a * 4) = sig n a := by unfold sig; rw [Int.mul_comm a 4]
  obtain ⟨m1, m2⟩ := mul_bd2 (sig n a) a e0 (by omega) h3 h4
  have E4 := Lib.hid e4
  clear e4
  go_enter Try.func52, Try.ntmps52
  go_wp2
  go_ret
  exact ⟨ret_int (by unfold blk; rw [E4.out]), rfl⟩
theorem s_signs_sig (n a : Int) (h1 : 1 ≤ n) (h2 : n ≤ 2000) (h3 : 1 ≤ a) (h4 : a ≤ 16) (w : World) :
    Calls Try.prog 24 #[.int .i64 n, .int .i64 a] w fun e w' => e = .returned (.tuple #[.int .i64 (sig n a), .bool true]) ∧ w = w' :=
  s_signs_yes n a h1 h2 h3 h4 w
theorem bst_yes {n : Int} {k : Nat} (h : blk n ((k : Int) + 2) ≤ (bst n k).2) : bst n (k + 1) = ((k : Int) + 2, blk n ((k : Int) + 2)) := by unfold bst; rw [if_pos h]
theorem bst_no {n : Int} {k : Nat} (h : ¬ blk n ((k : Int) + 2) ≤ (bst n k).2) : bst n (k + 1) = bst n k := by rw [bst, if_neg h]
theorem v_int {a b : Int} (h : a = b) : Value.int .i64 a = .int .i64 b := by rw [h]
theorem i_best_yes (n m : Int) (h1 : 1 ≤ n) (h2 : n ≤ 2000) (h3 : 1 ≤ m) (h4 : m ≤ 16) (w : World) :
    Calls Try.prog 31 #[.int .i64 n, .int .i64 m] w fun e w' => e = .returned (.tuple #[.int .i64 (bst n (m.toNat - 1)).1, .int .i64 (bst n (m.toNat - 1)).2, .bool true]) ∧ w = w' := by
  go_enter Try.func31, Try.ntmps31
  go_wp2_with (first | (go_at_call 40; refine (isBook_yes _ h1 h2 _).mono ?_; rintro e w' ⟨rfl, rfl⟩) | (go_at_call 50; refine (isPer_yes _ h3 h4 _).mono ?_; rintro e w' ⟨rfl, rfl⟩) | (go_at_call 52; refine (blanks_any _ _ h1 h2 (by omega) (by omega) _).mono ?_; rintro e w' ⟨rfl, rfl⟩))
  go_loop [7, 8, 9] (fun b f i => ∃ k : Nat, (k : Int) + 1 ≤ m ∧ i = .int .i64 ((k : Int) + 2) ∧ b = .int .i64 (bst n k).1 ∧ f = .int .i64 (bst n k).2) (fun _ _ i => (m + 2 - intOf i).toNat)
  case atStart => exact ⟨0, by omega, rfl, rfl, rfl⟩
  case round =>
    obtain ⟨k, hk, rfl, rfl, rfl⟩ := hrel
    by_cases hlt : (k : Int) + 2 ≤ m
    · by_cases hb : blk n ((k : Int) + 2) ≤ (bst n k).2
      · have HB := Lib.hid (bst_yes hb)
        go_wp2_with (go_at_call 52; refine (blanks_any _ _ h1 h2 (by omega) (by omega) _).mono ?_; rintro e w' ⟨rfl, rfl⟩)
        go_round
        case rel => exact ⟨k + 1, by omega, v_int (by omega), v_int (by rw [HB.out]), v_int (by rw [HB.out])⟩
        case measure => simp [intOf]; omega
      · have HB := Lib.hid (bst_no hb)
        go_wp2_with (go_at_call 52; refine (blanks_any _ _ h1 h2 (by omega) (by omega) _).mono ?_; rintro e w' ⟨rfl, rfl⟩)
        go_round
        case rel => exact ⟨k + 1, by omega, v_int (by omega), v_int (by rw [HB.out]), v_int (by rw [HB.out])⟩
        case measure => simp [intOf]; omega
    · have E := Lib.hid (show m.toNat - 1 = k by omega)
      go_wp2
      go_ret3
      exact ⟨ret_iib (by rw [E.out]) (by rw [E.out]), rfl⟩
theorem s_best_yes (n m : Int) (h1 : 1 ≤ n) (h2 : n ≤ 2000) (h3 : 1 ≤ m) (h4 : m ≤ 16) (w : World) :
    Calls Try.prog 30 #[.int .i64 n, .int .i64 m] w fun e w' => e = .returned (.tuple #[.int .i64 (bst n (m.toNat - 1)).1, .int .i64 (bst n (m.toNat - 1)).2, .bool true]) ∧ w = w' := by
  go_enter Try.func30, Try.ntmps30
  go_wp2_with (go_at_call 49; refine (foBoth_yes _ _ h1 h2 h3 h4 _).mono ?_; rintro e w' ⟨rfl, rfl⟩)
  go_loop [7, 8, 9] (fun b f i => ∃ k : Nat, (k : Int) ≤ m ∧ i = .int .i64 ((k : Int) + 1) ∧ (k = 0 → b = .int .i64 0 ∧ f = .int .i64 0) ∧ (0 < k → b = .int .i64 (bst n (k - 1)).1 ∧ f = .int .i64 (bst n (k - 1)).2)) (fun _ _ i => (m + 2 - intOf i).toNat)
  case atStart => exact ⟨0, by omega, rfl, fun _ => ⟨rfl, rfl⟩, fun h => absurd h (by omega)⟩
  case round =>
    obtain ⟨k, hk, rfl, hz, hp⟩ := hrel
    by_cases hk0 : k = 0
    · subst hk0
      obtain ⟨rfl, rfl⟩ := hz rfl
      clear hp hz
      obtain ⟨e0, e1, e2, e3⟩ := sig_bd n 1 h1 h2 (by omega) (by omega)
      go_wp2_with (go_at_call 24; refine (s_signs_sig _ _ h1 h2 (by omega) (by omega) _).mono ?_; rintro e w' ⟨rfl, rfl⟩)
      go_round
      case rel => exact ⟨1, by omega, rfl, fun h => absurd h (by omega), fun _ => ⟨rfl, v_int (by show _ = blk n 1; unfold blk; omega)⟩⟩
      case measure => simp [intOf]; omega
    · obtain ⟨j, rfl⟩ : ∃ j, k = j + 1 := ⟨k - 1, by omega⟩
      obtain ⟨rfl, rfl⟩ := hp (by omega)
      clear hp hz hk0
      have hb0 := bst_pos n j
      simp only [Nat.add_sub_cancel]
      by_cases hlt : (j : Int) + 2 ≤ m
      · have hj2 : ((j + 1 : Nat) : Int) + 1 = (j : Int) + 2 := by omega
        obtain ⟨e0, e1, e2, e3⟩ := sig_bd n ((j : Int) + 2) h1 h2 (by omega) (by omega)
        rw [hj2]
        have hne : ((bst n j).1 == 0) = false := by simp; omega
        by_cases hb : blk n ((j : Int) + 2) ≤ (bst n j).2
        · have HB := Lib.hid (bst_yes hb)
          have hb' : sig n ((j : Int) + 2) * 4 * ((j : Int) + 2) - n ≤ (bst n j).2 := hb
          clear hb hj2
          go_wp2_with (go_at_call 24; refine (s_signs_sig _ _ h1 h2 (by omega) (by omega) _).mono ?_; rintro e w' ⟨rfl, rfl⟩)
          go_round
          case rel => exact ⟨j + 2, by omega, v_int (by omega), fun h => absurd h (by omega), fun _ => ⟨v_int (by show _ = (bst n (j + 1)).1; rw [HB.out]), v_int (by show _ = (bst n (j + 1)).2; rw [HB.out]; rfl)⟩⟩
          case measure => simp [intOf]; omega
        · have HB := Lib.hid (bst_no hb)
          have hb' : ¬ sig n ((j : Int) + 2) * 4 * ((j : Int) + 2) - n ≤ (bst n j).2 := hb
          clear hb hj2
          go_wp2_with (go_at_call 24; refine (s_signs_sig _ _ h1 h2 (by omega) (by omega) _).mono ?_; rintro e w' ⟨rfl, rfl⟩)
          go_round
          case rel => exact ⟨j + 2, by omega, v_int (by omega), fun h => absurd h (by omega), fun _ => ⟨v_int (by show _ = (bst n (j + 1)).1; rw [HB.out]), v_int (by show _ = (bst n (j + 1)).2; rw [HB.out])⟩⟩
          case measure => simp [intOf]; omega
      · have hgt : ¬ ((j + 1 : Nat) : Int) + 1 ≤ m := by omega
        have E := Lib.hid (show m.toNat - 1 = j by omega)
        clear hlt
        go_wp2
        go_ret3
        exact ⟨ret_iib (by rw [E.out]) (by rw [E.out]), rfl⟩
end Go.Proofs.Ytjkpmjcfbdpnhaa
