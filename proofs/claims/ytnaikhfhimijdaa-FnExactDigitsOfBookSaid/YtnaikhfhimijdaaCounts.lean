/- What countsBetween and bpCount answer, as plain functions: for numbers of at most 3000. -/
import Derived.Test.YtnaikhfhimijdaaChecked
import Derived.Test.YtnaikhfhimijdaaDigits
import Derived.WalkKit
import Derived.Lib.Hide
import Derived.Maps.AppendAt
namespace Go.Proofs.Ytnaikhfhimijdaa
open Go.RowKit
def row (g : Int → Int) : Array Value := #[.int .i64 (g 0), .int .i64 (g 1), .int .i64 (g 2), .int .i64 (g 3), .int .i64 (g 4), .int .i64 (g 5), .int .i64 (g 6), .int .i64 (g 7), .int .i64 (g 8), .int .i64 (g 9)]
def zeros : Array Value := row (fun _ => 0)
def up (g : Int → Int) (j : Int) : Int → Int := fun d => if d = j then g d + 1 else g d
/-- the counts while the number q is looked at, n of its digits to come -/
def Mid (f k q n : Nat) (g : Int → Int) : Prop := ∀ d, g d + D.cnt n d = D.cs f k d + D.cnt q d
theorem mid_up {f k q n : Nat} {g : Int → Int} (h : Mid f k q n g) (hn : 0 < n) (j : Int) (hj : ((n % 10 : Nat) : Int) = j) : Mid f k q (n / 10) (up g j) := by
  intro d
  have := h d
  unfold up
  by_cases e : d = j
  · rw [if_pos e]; rw [D.cnt_yes hn (by rw [e]; exact hj)] at this; omega
  · rw [if_neg e]; rw [D.cnt_no hn (by rw [hj]; exact fun x => e x.symm)] at this; omega
theorem mid_bd {f k q n : Nat} {g : Int → Int} (h : Mid f k q n g) (hq : q < 3001) (hn : n < 3001) (hk : f + k < 3002) (d : Int) : 0 - 5 ≤ g d ∧ g d ≤ 100000 := by
  have := h d
  have := D.cnt_le n d (by omega)
  have := D.cnt_le q d (by omega)
  have := D.cs_bd f k d (by omega)
  omega
theorem row_eq (g : Int → Int) : row g = #[.int .i64 (g 0), .int .i64 (g 1), .int .i64 (g 2), .int .i64 (g 3), .int .i64 (g 4), .int .i64 (g 5), .int .i64 (g 6), .int .i64 (g 7), .int .i64 (g 8), .int .i64 (g 9)] := rfl
set_option maxHeartbeats 1000000 in
theorem countsBetween_all (f l : Nat) (h1 : 1 ≤ f) (h2 : f ≤ 3000) (h4 : l ≤ 3000) (h5 : f ≤ l + 1) (w : World) :
    Calls Try.prog 46 #[.int .i64 f, .int .i64 l] w fun e w' => e = .returned (.agg (row (D.cs f (l + 1 - f)))) ∧ Grown w w' ∧ w.grownBy w' none := by
  go_enter Try.func46, Try.ntmps46
  go_wp2
  go_loopw [6] (fun q wr => ∃ k : Nat, f ≤ k ∧ k ≤ l + 1 ∧ q = .int .i64 (k : Int) ∧ wr = ((w.alloc (.cells zeros 37)).alloc (.cells (row (D.cs f (k - f))) 37))) (fun q _ => (l + 1 - intOf q).toNat)
  case atStart => exact ⟨f, by omega, by omega, rfl, by rw [Nat.sub_self]; rfl⟩
  case round =>
    obtain ⟨k, hk, hk2, rfl, rfl⟩ := hrel
    by_cases hlt : (k : Int) ≤ l
    · go_wp2
      go_loopw [7] (fun r wi => ∃ (n : Nat) (g : Int → Int), n ≤ k ∧ r = .int .i64 (n : Int) ∧ Mid f (k - f) k n g ∧ wi = ((w.alloc (.cells zeros 37)).alloc (.cells (row g) 37))) (fun r _ => (intOf r).toNat)
      case atStart => exact ⟨k, D.cs f (k - f), by omega, rfl, fun d => rfl, rfl⟩
      case round =>
        obtain ⟨n, g, hn, rfl, hm, rfl⟩ := hrel
        by_cases hp : 0 < (n : Int)
        · have hj : ((n % 10 : Nat) : Int) = 0 ∨ ((n % 10 : Nat) : Int) = 1 ∨ ((n % 10 : Nat) : Int) = 2 ∨ ((n % 10 : Nat) : Int) = 3 ∨ ((n % 10 : Nat) : Int) = 4 ∨ ((n % 10 : Nat) : Int) = 5 ∨ ((n % 10 : Nat) : Int) = 6 ∨ ((n % 10 : Nat) : Int) = 7 ∨ ((n % 10 : Nat) : Int) = 8 ∨ ((n % 10 : Nat) : Int) = 9 := by omega
          rcases hj with hj | hj | hj | hj | hj | hj | hj | hj | hj | hj
          · obtain ⟨b1, b2⟩ := mid_bd hm (by omega) (by omega) (by omega) 0
            have HM := mid_up hm (by omega) 0 hj
            have hj' : (n : Int) % 10 = 0 := by omega
            clear hj
            rw [row_eq]
            unfold zeros
            rw [row_eq]
            go_wp2
            go_roundw
            case rel => exact ⟨n / 10, up g 0, by omega, by go_num, HM, by simp [row_eq, up]⟩
            case measure => simp [intOf]; omega
          · obtain ⟨b1, b2⟩ := mid_bd hm (by omega) (by omega) (by omega) 1
            have HM := mid_up hm (by omega) 1 hj
            have hj' : (n : Int) % 10 = 1 := by omega
            clear hj
            rw [row_eq]
            unfold zeros
            rw [row_eq]
            go_wp2
            go_roundw
            case rel => exact ⟨n / 10, up g 1, by omega, by go_num, HM, by simp [row_eq, up]⟩
            case measure => simp [intOf]; omega
          · obtain ⟨b1, b2⟩ := mid_bd hm (by omega) (by omega) (by omega) 2
            have HM := mid_up hm (by omega) 2 hj
            have hj' : (n : Int) % 10 = 2 := by omega
            clear hj
            rw [row_eq]
            unfold zeros
            rw [row_eq]
            go_wp2
            go_roundw
            case rel => exact ⟨n / 10, up g 2, by omega, by go_num, HM, by simp [row_eq, up]⟩
            case measure => simp [intOf]; omega
          · obtain ⟨b1, b2⟩ := mid_bd hm (by omega) (by omega) (by omega) 3
            have HM := mid_up hm (by omega) 3 hj
            have hj' : (n : Int) % 10 = 3 := by omega
            clear hj
            rw [row_eq]
            unfold zeros
            rw [row_eq]
            go_wp2
            go_roundw
            case rel => exact ⟨n / 10, up g 3, by omega, by go_num, HM, by simp [row_eq, up]⟩
            case measure => simp [intOf]; omega
          · obtain ⟨b1, b2⟩ := mid_bd hm (by omega) (by omega) (by omega) 4
            have HM := mid_up hm (by omega) 4 hj
            have hj' : (n : Int) % 10 = 4 := by omega
            clear hj
            rw [row_eq]
            unfold zeros
            rw [row_eq]
            go_wp2
            go_roundw
            case rel => exact ⟨n / 10, up g 4, by omega, by go_num, HM, by simp [row_eq, up]⟩
            case measure => simp [intOf]; omega
          · obtain ⟨b1, b2⟩ := mid_bd hm (by omega) (by omega) (by omega) 5
            have HM := mid_up hm (by omega) 5 hj
            have hj' : (n : Int) % 10 = 5 := by omega
            clear hj
            rw [row_eq]
            unfold zeros
            rw [row_eq]
            go_wp2
            go_roundw
            case rel => exact ⟨n / 10, up g 5, by omega, by go_num, HM, by simp [row_eq, up]⟩
            case measure => simp [intOf]; omega
          · obtain ⟨b1, b2⟩ := mid_bd hm (by omega) (by omega) (by omega) 6
            have HM := mid_up hm (by omega) 6 hj
            have hj' : (n : Int) % 10 = 6 := by omega
            clear hj
            rw [row_eq]
            unfold zeros
            rw [row_eq]
            go_wp2
            go_roundw
            case rel => exact ⟨n / 10, up g 6, by omega, by go_num, HM, by simp [row_eq, up]⟩
            case measure => simp [intOf]; omega
          · obtain ⟨b1, b2⟩ := mid_bd hm (by omega) (by omega) (by omega) 7
            have HM := mid_up hm (by omega) 7 hj
            have hj' : (n : Int) % 10 = 7 := by omega
            clear hj
            rw [row_eq]
            unfold zeros
            rw [row_eq]
            go_wp2
            go_roundw
            case rel => exact ⟨n / 10, up g 7, by omega, by go_num, HM, by simp [row_eq, up]⟩
            case measure => simp [intOf]; omega
          · obtain ⟨b1, b2⟩ := mid_bd hm (by omega) (by omega) (by omega) 8
            have HM := mid_up hm (by omega) 8 hj
            have hj' : (n : Int) % 10 = 8 := by omega
            clear hj
            rw [row_eq]
            unfold zeros
            rw [row_eq]
            go_wp2
            go_roundw
            case rel => exact ⟨n / 10, up g 8, by omega, by go_num, HM, by simp [row_eq, up]⟩
            case measure => simp [intOf]; omega
          · obtain ⟨b1, b2⟩ := mid_bd hm (by omega) (by omega) (by omega) 9
            have HM := mid_up hm (by omega) 9 hj
            have hj' : (n : Int) % 10 = 9 := by omega
            clear hj
            rw [row_eq]
            unfold zeros
            rw [row_eq]
            go_wp2
            go_roundw
            case rel => exact ⟨n / 10, up g 9, by omega, by go_num, HM, by simp [row_eq, up]⟩
            case measure => simp [intOf]; omega
        · have HG : g = D.cs f (k + 1 - f) := by
            funext d
            have := hm d
            have e : k + 1 - f = (k - f) + 1 := by omega
            have e0 : n = 0 := by omega
            have ek : f + (k - f) = k := by omega
            rw [e, D.cs_succ, ek]
            rw [e0, D.cnt_zero] at this
            omega
          have HR := Lib.hid (congrArg row HG)
          clear HG
          go_wp2
          go_roundw
          case rel => exact ⟨k + 1, by omega, by omega, by go_num, by rw [HR.out]⟩
          case measure => simp [intOf]; omega
    · have e : k = l + 1 := by omega
      subst e
      rw [row_eq]
      unfold zeros
      rw [row_eq]
      go_wp2
      exact bodyPost_ret (v := .agg (row (D.cs f (l + 1 - f)))) (by simp [results, Try.results46, go_sem, row_eq]) rfl ⟨rfl, ((Grown.refl _).alloc _ _).alloc _ _, (World.grownBy_alloc _ _ none).trans (World.grownBy_alloc _ _ none)⟩
theorem countsBetween_any (f l : Nat) (h1 : 1 ≤ f) (h2 : f ≤ 3000) (h4 : l ≤ 3000) (h5 : f ≤ l + 1) (w : World) :
    Calls Try.prog 46 #[.int .i64 f, .int .i64 l] w fun e w' => e = .returned (.agg (row (D.cs f (l + 1 - f)))) ∧ Grown w w' :=
  (countsBetween_all f l h1 h2 h4 h5 w).mono fun _ _ h => ⟨h.1, h.2.1⟩
theorem ret_i {a b : Int} (h : a = b) : Ending.returned (.int .i64 a) = .returned (.int .i64 b) := by rw [h]
theorem countsOne_any (q : Int) (h1 : 1 ≤ q) (h2 : q ≤ 3000) (w : World) :
    Calls Try.prog 46 #[.int .i64 q, .int .i64 q] w fun e w' => e = .returned (.agg (row (D.cnt q.toNat))) ∧ Grown w w' := by
  obtain ⟨k, rfl⟩ := Int.eq_ofNat_of_zero_le (show 0 ≤ q by omega)
  refine (countsBetween_any k k (by omega) (by omega) (by omega) (by omega) w).mono ?_
  rintro e w' ⟨rfl, hg⟩
  have e1 : k + 1 - k = 1 := by omega
  have e2 : D.cs k 1 = D.cnt k := by funext d; exact D.cs_one k d
  refine ⟨?_, hg⟩
  rw [e1, e2]
  rfl
theorem index_row (g : Int → Int) (d : Int) (h1 : 0 ≤ d) (h2 : d ≤ 9) (w : World) : (Instr.index 37 (.agg (row g)) (.int .i64 d)).run Try.prog w = .ok (.int .i64 (g d)) w := by
  rcases (show d = 0 ∨ d = 1 ∨ d = 2 ∨ d = 3 ∨ d = 4 ∨ d = 5 ∨ d = 6 ∨ d = 7 ∨ d = 8 ∨ d = 9 from by omega) with rfl | rfl | rfl | rfl | rfl | rfl | rfl | rfl | rfl | rfl
  all_goals kernel_rfl
theorem bpCount_any (n : Int) (d : Int) (h1 : 0 ≤ n) (h2 : n ≤ 3000) (w : World) :
    Calls Try.prog 43 #[.int .i64 n, .int .i64 d] w fun e w' => e = .returned (.int .i64 (D.cnt n.toNat d)) ∧ w = w' := by
  obtain ⟨k, rfl⟩ := Int.eq_ofNat_of_zero_le h1
  show Calls Try.prog 43 #[.int .i64 (k : Int), .int .i64 d] w fun e w' => e = .returned (.int .i64 (D.cnt k d)) ∧ w = w'
  go_enter Try.func43, Try.ntmps43
  go_wp2
  go_loop [0, 5] (fun p c => ∃ (m : Nat) (x : Int), m ≤ k ∧ 0 ≤ x ∧ p = .int .i64 (m : Int) ∧ c = .int .i64 x ∧ x + D.cnt m d = D.cnt k d) (fun p _ => (intOf p).toNat)
  case atStart => exact ⟨k, 0, by omega, by omega, rfl, rfl, by omega⟩
  case round =>
    obtain ⟨m, x, hm, hx, rfl, rfl, hc⟩ := hrel
    have hb1 := D.cnt_le m d (by omega)
    have hb2 := D.cnt_le k d (by omega)
    have hx2 : x ≤ 5 := by omega
    have HC := Lib.hid hc
    clear hc hb1 hb2
    by_cases hp : 0 < (m : Int)
    · by_cases hd : (m : Int) % 10 = d
      · have HS := Lib.hid (D.cnt_yes (n := m) (d := d) (by omega) (by omega))
        go_wp2
        go_round
        case rel => exact ⟨m / 10, x + 1, by omega, by omega, by go_num, by go_num, by have := HS.out; have := HC.out; omega⟩
        case measure => simp [intOf]; omega
      · have HS := Lib.hid (D.cnt_no (n := m) (d := d) (by omega) (by omega))
        go_wp2
        go_round
        case rel => exact ⟨m / 10, x, by omega, by omega, by go_num, by go_num, by have := HS.out; have := HC.out; omega⟩
        case measure => simp [intOf]; omega
    · have HE : Hid (x = D.cnt k d) := Lib.hid (by have e : m = 0 := by omega
                                                   have := HC.out; rw [e, D.cnt_zero] at this; omega)
      go_wp2
      go_ret
      exact ⟨ret_i HE.out, rfl⟩
theorem grown_trans {a b c : World} (h1 : Grown a b) (h2 : Grown b c) : Grown a c :=
  ⟨World.keptBut_trans h1.1 h2.1, fun x => (h2.2.1 x).trans (h1.2.1 x), Nat.le_trans h1.2.2 h2.2.2⟩
end Go.Proofs.Ytnaikhfhimijdaa
