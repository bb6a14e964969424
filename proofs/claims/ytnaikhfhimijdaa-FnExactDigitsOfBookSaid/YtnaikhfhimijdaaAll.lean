/- How many digits all page numbers have: what spec.DigitsOfBook and impl.DigitsOfBook answer, each by its own loops, for books of 1 to 2000 pages. -/
import Derived.Test.YtnaikhfhimijdaaRange
import Derived.Test.YtnaikhfhimijdaaNum
namespace Go.Proofs.Ytnaikhfhimijdaa
open Go.RowKit Go.WideMaps Go.Maps
def tot (g : Int → Int) : Int := g 0 + g 1 + g 2 + g 3 + g 4 + g 5 + g 6 + g 7 + g 8 + g 9
def part (g : Int → Int) : Nat → Int
  | 0 => 0
  | k + 1 => part g k + g k
theorem part_ten (g : Int → Int) : part g 10 = tot g := by simp [part, tot]
/-- how many digits the first k page numbers have -/
def ds : Nat → Int
  | 0 => 0
  | k + 1 => ds k + (decN (k + 1)).length
theorem cnt_tot (n : Nat) (h : 0 < n) : tot (D.cnt n) = (decN n).length := by
  induction n using Nat.strongRecOn with
  | ind n ih =>
    have step : ∀ d : Int, D.cnt n d = (if ((n % 10 : Nat) : Int) = d then 1 else 0) + D.cnt (n / 10) d := fun d => by
      rw [D.cnt, if_neg (by omega)]
    have one : tot (D.cnt n) = 1 + tot (D.cnt (n / 10)) := by
      unfold tot
      simp only [step]
      have : n % 10 = 0 ∨ n % 10 = 1 ∨ n % 10 = 2 ∨ n % 10 = 3 ∨ n % 10 = 4 ∨ n % 10 = 5 ∨ n % 10 = 6 ∨ n % 10 = 7 ∨ n % 10 = 8 ∨ n % 10 = 9 := by omega
      rcases this with e | e | e | e | e | e | e | e | e | e <;> rw [e] <;> simp <;> omega
    rw [one]
    by_cases c : n < 10
    · rw [decN_small c, show n / 10 = 0 from by omega]
      unfold tot
      simp [D.cnt_zero]
    · rw [decN_great c, ih (n / 10) (by omega) (by omega), List.length_append]
      simp
      omega
theorem cs_tot (p : Nat) : tot (D.cs 1 p) = ds p := by
  induction p with
  | zero => rfl
  | succ p ih =>
    have := cnt_tot (p + 1) (by omega)
    unfold ds
    rw [← ih, ← this]
    unfold tot
    simp only [D.cs_succ, Nat.add_comm 1 p]
    omega
theorem ds_bd (k : Nat) (h : k ≤ 3000) : 0 ≤ ds k ∧ ds k ≤ 5 * k * 10 := by
  rw [← cs_tot]
  unfold tot
  have h0 := D.cs_bd 1 k 0 (by omega)
  have h1 := D.cs_bd 1 k 1 (by omega)
  have h2 := D.cs_bd 1 k 2 (by omega)
  have h3 := D.cs_bd 1 k 3 (by omega)
  have h4 := D.cs_bd 1 k 4 (by omega)
  have h5 := D.cs_bd 1 k 5 (by omega)
  have h6 := D.cs_bd 1 k 6 (by omega)
  have h7 := D.cs_bd 1 k 7 (by omega)
  have h8 := D.cs_bd 1 k 8 (by omega)
  have h9 := D.cs_bd 1 k 9 (by omega)
  omega
theorem sum_tot (f : Nat → Int → Int) (m : Nat) : sumTo (fun i => tot (f i)) m = tot (fun d => sumTo (fun i => f i d) m) := by
  induction m with
  | zero => rfl
  | succ m ih =>
    unfold sumTo
    rw [ih]
    unfold tot
    simp only []
    omega
theorem sum_all (p m : Nat) (h1 : 1 ≤ p) (h2 : p ≤ 2000) (hl : Len p m) (hp : p < 10 ^ m) : sumTo (fun i => tot (C p i)) m = ds p := by
  rw [sum_tot, ← cs_tot]
  congr 1
  funext d
  exact sum_C p m d h1 h2 hl hp
theorem tot_bd (p i : Nat) (h2 : p ≤ 2000) (hi : i < 4) : 0 ≤ tot (C p i) ∧ tot (C p i) ≤ 1000000 := by
  unfold tot
  have h0 := C_bd p i 0 h2 hi
  have h1 := C_bd p i 1 h2 hi
  have h2' := C_bd p i 2 h2 hi
  have h3 := C_bd p i 3 h2 hi
  have h4 := C_bd p i 4 h2 hi
  have h5 := C_bd p i 5 h2 hi
  have h6 := C_bd p i 6 h2 hi
  have h7 := C_bd p i 7 h2 hi
  have h8 := C_bd p i 8 h2 hi
  have h9 := C_bd p i 9 h2 hi
  omega
theorem got_wide (f : Nat → Int) (m : Nat) (left : Lit → Bool) (h : ∀ i, i < m → 0 ≤ f i ∧ f i ≤ 1000000) : 0 ≤ got f m left ∧ got f m left ≤ 1000000 * m := by
  induction m with
  | zero => exact ⟨by simp [got], by simp [got]⟩
  | succ m ih =>
    have := ih (fun i hi => h i (by omega))
    have := h m (by omega)
    unfold got
    split <;> omega
def Had (p m : Nat) (x : Int) (left : Lit → Bool) : Prop := x = got (fun i => tot (C p i)) m left
theorem had_zero {p m : Nat} (hm : m ≤ 4) : Had p m 0 (Maps.has (Dm p m)) := (got_start _ m _ (fun i hi => dm_mem p m i hm hi)).symm
theorem had_next {p m j : Nat} {x y : Int} {left : Lit → Bool} (h : Had p m x left) (hm : m ≤ 4) (hj : j < m) (hl : left (key j) = true) (hy : y = tot (C p j)) : Had p m (x + y) (fun z => left z && !z.sameKey (key j)) := by
  unfold Had at *
  rw [got_step _ m j left hm hj hl, h, hy]
theorem had_limit {p m : Nat} {x : Int} {left : Lit → Bool} (h : Had p m x left) (h2 : p ≤ 2000) (hm : m ≤ 4) : 0 ≤ x ∧ x ≤ 4000000 := by
  unfold Had at h
  have := got_wide (fun i => tot (C p i)) m left (fun i hi => tot_bd p i h2 (by omega))
  omega
theorem had_all {p m : Nat} {x : Int} {left : Lit → Bool} (h : Had p m x left) (h1 : 1 ≤ p) (h2 : p ≤ 2000) (hl : Len p m) (hp : p < 10 ^ m) (h0 : ∀ kl, left kl = false) : x = ds p := by
  unfold Had at h
  rw [h, got_end _ m left h0, sum_all p m h1 h2 hl hp]
theorem part_bd (g : Int → Int) (k : Nat) (hk : k ≤ 10) (h : ∀ d, 0 ≤ d → d ≤ 9 → 0 ≤ g d ∧ g d ≤ 100000) : 0 ≤ part g k ∧ part g k ≤ 100000 * k := by
  induction k with
  | zero => exact ⟨by simp [part], by simp [part]⟩
  | succ k ih =>
    have := ih (by omega)
    have := h k (by omega) (by omega)
    unfold part
    omega
theorem part_next (g : Int → Int) (k : Nat) : part g (k + 1) = part g k + g k := rfl
theorem same_tot {g : Int → Int} {p j : Nat} (hg : ∀ d, 0 ≤ d → d ≤ 9 → g d = C p j d) : tot g = tot (C p j) := by
  unfold tot
  rw [hg 0 (by omega) (by omega), hg 1 (by omega) (by omega), hg 2 (by omega) (by omega), hg 3 (by omega) (by omega), hg 4 (by omega) (by omega), hg 5 (by omega) (by omega), hg 6 (by omega) (by omega), hg 7 (by omega) (by omega), hg 8 (by omega) (by omega), hg 9 (by omega) (by omega)]

theorem v_int {a b : Int} (h : a = b) : Value.int .i64 a = .int .i64 b := by rw [h]
set_option maxRecDepth 100000 in
set_option maxHeartbeats 1000000 in
theorem impl_digits (p : Nat) (h1 : 1 ≤ p) (h2 : p ≤ 2000) (w : World) :
    Calls Try.prog 28 #[.int .i64 p] w fun e w' => e = .returned (.tuple #[.int .i64 (ds p), .bool true]) ∧ Below w.heap.size w w' := by
  have H41 := Lib.hid (fun w => byLength_any p h1 h2 w)
  go_enter Try.func28, Try.ntmps28
  go_wp2_with (first | (go_at_call 35; refine (isBook_yes _ (by omega) (by omega) _).mono ?_; rintro e w' ⟨rfl, rfl⟩))
  refine (H41.out _).mono ?_
  rintro e w1 ⟨m, hl, hp, rfl, hown, hb⟩
  have HL := Lib.hid hl
  have HP := Lib.hid hp
  have hm4 : m ≤ 4 := hl.1
  clear hl hp
  go_wp2_with (first | (at_range; refine wpList_range_own _ rfl _ 34 rfl 3 37 law Try.underlying34 R w.heap.size m (Dm p m) rfl hown ?_; intro w0 hrg0 hg0 hs0))
  go_frame
  go_loopw [4] (fun u wr => ∃ (left : Lit → Bool) (cnt : Nat) (x : Int), wr.ranges Try.prog 3 R w.heap.size w1.heap.size m (Dm p m) left cnt ∧ HasLeft p m left ∧ u = .int .i64 x ∧ Had p m x left ∧ Below w.heap.size w wr) (fun _ wr => wr.rangeLeft w.heap.size w1.heap.size)
  case atStart => exact ⟨_, _, 0, hrg0, fun _ h => h, rfl, had_zero hm4, hb.grown hg0 hb.size (by simp)⟩
  case round =>
    obtain ⟨left, cnt, x, hrg, hh, rfl, hx, hnx⟩ := hrel
    obtain ⟨x1, x2⟩ := had_limit hx h2 hm4
    go_wp2_with (first | (at_next; refine wpList_next_ranges _ rfl _ rfl 3 law R (Value.int .i64) mkRow next_inv row_inv w.heap.size w1.heap.size m (Dm p m) left cnt rfl hrg ?_ ?_))
    · intro hc0 hl0
      have HX := Lib.hid (had_all hx h1 h2 HL.out HP.out hl0)
      clear hl0
      go_wp2
      go_ret2
      exact ⟨ret_ok HX.out, hnx⟩
    · intro ky g kl y ps w2 cnt2 hkey hlk hR hat hrg1 hlt hg1 hs1 hen
      obtain ⟨j, hj, rfl, hg⟩ := entry_of hm4 hh hlk hR hat
      have HN := had_next hx hm4 hj hlk (same_tot hg)
      have HG := Lib.hid (show ∀ d, 0 ≤ d → d ≤ 9 → 0 ≤ g d ∧ g d ≤ 100000 from fun d a b => by rw [hg d a b]; exact C_bd p j d h2 (by omega))
      have hh' := hasLeft_step (kl := key j) hh
      clear hg hR hat hkey hlk hh
      have hB := hnx.grown hg1 hnx.size (fun k hk => by cases hk; exact hb.size)
      have hz := hB.size
      unfold mkRow at hen ⊢
      go_wp2
      go_loop [4, 20] (fun u t => ∃ k : Nat, k ≤ 10 ∧ t = .int .i64 (k : Int) ∧ u = .int .i64 (x + part g k)) (fun _ t => (10 - intOf t).toNat)
      case atStart => exact ⟨0, by omega, rfl, by simp [part]⟩
      case round =>
        obtain ⟨k, hk, rfl, rfl⟩ := hrel
        obtain ⟨q1, q2⟩ := part_bd g k hk HG.out
        by_cases hlt10 : (k : Int) < 10
        · obtain ⟨g1, g2⟩ := HG.out k (by omega) (by omega)
          have ix : ∀ W : World, (Instr.index 37 (.agg #[.int .i64 (g 0), .int .i64 (g 1), .int .i64 (g 2), .int .i64 (g 3), .int .i64 (g 4), .int .i64 (g 5), .int .i64 (g 6), .int .i64 (g 7), .int .i64 (g 8), .int .i64 (g 9)]) (.int .i64 (k : Int))).run Try.prog W = .ok (.int .i64 (g k)) W := fun W => index_row g k (by omega) (by omega) W
          have HS := Lib.hid (part_next g k)
          go_wp2
          go_round
          case rel => exact ⟨k + 1, by omega, by go_num, v_int (by rw [HS.out]; omega)⟩
          case measure => simp [intOf]; omega
        · have hk10 : k = 10 := by omega
          subst hk10
          have HT := Lib.hid (part_ten g)
          go_wp2
          go_roundw
          case rel => exact ⟨_, _, _, hrg1.alloc _, hh', v_int (by rw [HT.out]), HN, hB.alloc hz _⟩
          case measure => rw [(hrg1.alloc _).left_eq, hrg.left_eq]; omega
theorem impl_digitsInt (p : Int) (h1 : 1 ≤ p) (h2 : p ≤ 2000) (w : World) :
    Calls Try.prog 28 #[.int .i64 p] w fun e w' => e = .returned (.tuple #[.int .i64 (ds p.toNat), .bool true]) ∧ Below w.heap.size w w' := by
  obtain ⟨k, rfl⟩ := Int.eq_ofNat_of_zero_le (show 0 ≤ p by omega)
  exact impl_digits k (by omega) (by omega) w
set_option maxRecDepth 100000 in
set_option maxHeartbeats 1000000 in
theorem bpDigits_any (p : Int) (h1 : 0 ≤ p) (h2 : p ≤ 2000) (w : World) :
    Calls Try.prog 40 #[.int .i64 p] w fun e w' => e = .returned (.int .i64 (ds p.toNat)) ∧ Below w.heap.size w w' := by
  go_enter Try.func40, Try.ntmps40
  go_wp2_with fail
  go_loopw [3, 4] (fun n q wr => ∃ k : Nat, (k : Int) ≤ p ∧ q = .int .i64 ((k : Int) + 1) ∧ n = .int .i64 (ds k) ∧ Below w.heap.size w wr) (fun _ q _ => (p + 1 - intOf q).toNat)
  case atStart => exact ⟨0, by omega, rfl, rfl, Below.refl _ _⟩
  case round =>
    obtain ⟨k, hk, rfl, rfl, hg⟩ := hrel
    obtain ⟨n1, n2⟩ := ds_bd k (by omega)
    by_cases hlt : (k : Int) + 1 ≤ p
    · have B1 : Hid (∀ W : World, Calls Try.prog 47 #[.int .i64 ((k : Int) + 1)] W fun e w' => e = .returned (.string (numS (k + 1))) ∧ Grown W w' ∧ W.grownBy w' none) := Lib.hid (fun W => num_any (k + 1) (k + 1) W (Nat.le_refl _) (by omega))
      have HL := Lib.hid (numS_size (k + 1))
      have hb := decN_length (k + 1)
      have hb2 : ((numS (k + 1)).size : Int) ≤ 10000 := by rw [HL.out]; omega
      have HS : Hid (ds (k + 1) = ds k + ((numS (k + 1)).size : Int)) := Lib.hid (by rw [HL.out]; rfl)
      clear hb
      go_wp2_with fail
      refine (B1.out _).mono ?_
      rintro e w' ⟨rfl, _, hg'⟩
      go_wp2_with fail
      go_roundw
      case rel => exact ⟨k + 1, by omega, by go_num, by rw [HS.out], hg.grown hg' hg.size (by simp)⟩
      case measure => simp [intOf]; omega
    · have E := Lib.hid (show p.toNat = k by omega)
      go_wp2_with fail
      go_ret
      exact ⟨ret_i (by rw [E.out]), hg⟩
end Go.Proofs.Ytnaikhfhimijdaa
