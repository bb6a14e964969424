/- What the functions that list the pages without a sheet, and the sewn openings, answer: lists in new memory, the same from both sides. -/
import Derived.Test.YtjoapogkooblgaaPlace
import Derived.Test.YtjoapogkooblgaaBest
import Derived.Test.YtjoapogkooblgaaInts
import Derived.Maps.AppendAt
namespace Go.Proofs.Ytjoapogkooblgaa
open Go.RowKit
set_option linter.unusedVariables false
namespace Wo
/-- the pages 1, .., k that are not on sheet s of n -/
def wo (n s : Int) : Nat → List Int
  | 0 => []
  | k + 1 => if Pl.pl n ((k : Int) + 1) = s then wo n s k else wo n s k ++ [(k : Int) + 1]
theorem wo_le (n s : Int) (k : Nat) : (wo n s k).length ≤ k := by
  induction k with
  | zero => exact Nat.le_refl _
  | succ k ih =>
    unfold wo
    split
    · omega
    · rw [List.length_append]; show _ + 1 ≤ _; omega
theorem wo_skip {n s : Int} {k : Nat} (h : Pl.pl n ((k : Int) + 1) = s) : wo n s (k + 1) = wo n s k := by rw [wo, if_pos h]
theorem wo_take {n s : Int} {k : Nat} (h : ¬ Pl.pl n ((k : Int) + 1) = s) : wo n s (k + 1) = wo n s k ++ [(k : Int) + 1] := by rw [wo, if_neg h]
theorem own_more {W : World} {base : Nat} {v : Value} {zs ys : List Int} {x : Int} (h : W.ownsRow base 3 1 v (zs.length + 1) (Li.nums zs ++ [.int .i64 x])) (e : ys = zs ++ [x]) : W.ownsRow base 3 1 v ys.length (Li.nums ys) := by
  subst e; simpa [Li.nums] using h
theorem hasSheet_yes (n s : Int) (h1 : 1 ≤ n) (h2 : n ≤ 100) (h3 : 1 ≤ s) (h4 : s ≤ n) (w : World) :
    Calls Try.prog 46 #[.int .i64 n, .int .i64 s] w fun e w' => e = .returned (.bool true) ∧ w = w' := by
  go_enter Try.func46, Try.ntmps46
  go_wp2
  go_ret
  exact ⟨rfl, rfl⟩
theorem foSheets_yes (n : Int) (h1 : 1 ≤ n) (h2 : n ≤ 100) (w : World) :
    Calls Try.prog 43 #[.int .i64 n] w fun e w' => e = .returned (.bool true) ∧ w = w' := by
  go_enter Try.func43, Try.ntmps43
  go_wp2
  go_ret
  exact ⟨rfl, rfl⟩
theorem l1In_yes (a b c : Int) (h1 : b ≤ a) (h2 : a ≤ c) (w : World) :
    Calls Try.prog 44 #[.int .i64 a, .int .i64 b, .int .i64 c] w fun e w' => e = .returned (.bool true) ∧ w = w' := by
  go_enter Try.func44, Try.ntmps44
  go_wp2
  go_ret
  exact ⟨rfl, rfl⟩
theorem s_no (n s : Int) (h : ¬ 1 ≤ n ∨ ¬ n ≤ 100 ∨ ¬ 1 ≤ s ∨ ¬ s ≤ n) (w : World) : Calls Try.prog 32 #[.int .i64 n, .int .i64 s] w (Li.Gives false [] w) := by
  by_cases c0 : 1 ≤ n <;> by_cases c1 : n ≤ 100 <;> by_cases c2 : 1 ≤ s <;> by_cases c3 : s ≤ n <;> first | (exfalso; omega) | skip
  all_goals
    clear h
    go_enter Try.func32, Try.ntmps32
    go_wp2
    go_ret2
    exact Li.Gives.none (Below.refl _ _)
theorem i_no (n s : Int) (h : ¬ 1 ≤ n ∨ ¬ n ≤ 100 ∨ ¬ 1 ≤ s ∨ ¬ s ≤ n) (w : World) : Calls Try.prog 33 #[.int .i64 n, .int .i64 s] w (Li.Gives false [] w) := by
  by_cases c0 : 1 ≤ n <;> by_cases c1 : n ≤ 100 <;> by_cases c2 : 1 ≤ s <;> by_cases c3 : s ≤ n <;> first | (exfalso; omega) | skip
  all_goals
    clear h
    go_enter Try.func33, Try.ntmps33
    go_wp2
    go_ret2
    exact Li.Gives.none (Below.refl _ _)
set_option maxRecDepth 100000 in
set_option maxHeartbeats 1000000 in
theorem s_yes (n s : Int) (h1 : 1 ≤ n) (h2 : n ≤ 100) (h3 : 1 ≤ s) (h4 : s ≤ n) (w : World) : Calls Try.prog 32 #[.int .i64 n, .int .i64 s] w (Li.Gives true (wo n s (4 * n).toNat) w) := by
  obtain ⟨i0, hi, hz0, hz1, hz2⟩ := info_parts Li.info3
  go_enter Try.func32, Try.ntmps32
  go_wp2_with (first | (go_at_call 43; refine (foSheets_yes _ h1 h2 _).mono ?_; rintro e w' ⟨rfl, rfl⟩) | (go_at_call 44; refine (l1In_yes _ _ _ h3 h4 _).mono ?_; rintro e w' ⟨rfl, rfl⟩))
  go_loopw [6, 7] (fun v i wr => ∃ k : Nat, (k : Int) ≤ 4 * n ∧ i = .int .i64 ((k : Int) + 1) ∧ wr.ownsRow w.heap.size 3 1 v (wo n s k).length (Li.nums (wo n s k)) ∧ Below w.heap.size w wr) (fun _ i _ => (4 * n + 1 - intOf i).toNat)
  case atStart => exact ⟨0, by omega, rfl, World.ownsRow_nil _ _ _ _, Below.refl _ _⟩
  case round =>
    obtain ⟨k, hk, rfl, hown, hb⟩ := hrel
    have hw := wo_le n s k
    by_cases hlt : (k : Int) + 1 ≤ 4 * n
    · go_wp2_with fail
      refine (Pl.place_any n _ h1 h2 (by omega) hlt _).mono ?_
      rintro e w1 ⟨rfl, hb1⟩
      have hown1 := Li.own_on hown hb1
      have hb2 := hb.trans (hb1.mono hb.size)
      have hsz := hb2.size
      clear hown hb hb1
      by_cases hc : Pl.pl n ((k : Int) + 1) = s
      · have HS := Lib.hid (wo_skip hc)
        have q1 : (Pl.pl n ((k : Int) + 1) != s) = false := by simp; omega
        clear hc
        go_wp2
        go_roundw
        case rel => exact ⟨k + 1, by omega, by go_num, by rw [HS.out]; exact hown1, hb2⟩
        case measure => simp [intOf]; omega
      · have HS := Lib.hid (wo_take hc)
        have q1 : (Pl.pl n ((k : Int) + 1) != s) = true := by simp; omega
        clear hc
        go_wp2_with (first | (at_builtin; refine wpList_append_own _ rfl _ _ 36 rfl w.heap.size 3 i0 (.int .i64 0) 1 8 Try.underlying36 hi hz0 hz1 hz2 rfl (by decide) _ _ _ rfl (hown1.alloc _) ⟨w1.heap.size, 0, none⟩ 1 1 [.int .i64 ((k : Int) + 1)] rfl rfl (cell_one_new _ _ _) (fun x hx => by simp at hx; subst hx; rfl) (by unfold maxLen; omega) (by omega) (by simp; omega) ?_; intro v' w2 hown2 hgrow2 hnil2))
        have O := Lib.hid (own_more hown2 HS.out)
        have B := Lib.hid ((hb2.alloc hsz _).grown hgrow2 (by simp; omega) (fun j hj => (hown1.lt j hj).1))
        clear hown2 hgrow2 hnil2 hown1 hb2
        go_roundw
        case rel => exact ⟨k + 1, by omega, by go_num, O.out, B.out⟩
        case measure => simp [intOf]; omega
    · have E := Lib.hid (show (4 * n).toNat = k by omega)
      go_wp2
      go_ret2
      exact ⟨_, rfl, by rw [E.out]; exact hown, hb⟩
def sw (w : World) (n s : Int) : World := w.alloc (.cells #[.int .i64 s, .int .i64 (4 * n + 2 - 2 * s), .int .i64 (2 * s - 1), .int .i64 (2 * s), .int .i64 (4 * n + 1 - 2 * s)] 47)
theorem sw_cells {w wr : World} {n s : Int} (hb : Below (sw w n s).heap.size (sw w n s) wr) :
    wr.cell? ⟨w.heap.size, 0, none⟩ = some (.int .i64 s) ∧ wr.cell? ⟨w.heap.size, 1, none⟩ = some (.int .i64 (4 * n + 2 - 2 * s)) ∧ wr.cell? ⟨w.heap.size, 2, none⟩ = some (.int .i64 (2 * s - 1)) ∧
    wr.cell? ⟨w.heap.size, 3, none⟩ = some (.int .i64 (2 * s)) ∧ wr.cell? ⟨w.heap.size, 4, none⟩ = some (.int .i64 (4 * n + 1 - 2 * s)) := by
  have h : w.heap.size < (sw w n s).heap.size := by simp [sw]
  refine ⟨(hb.cell (p := ⟨w.heap.size, 0, none⟩) h).trans ?_, (hb.cell (p := ⟨w.heap.size, 1, none⟩) h).trans ?_, (hb.cell (p := ⟨w.heap.size, 2, none⟩) h).trans ?_, (hb.cell (p := ⟨w.heap.size, 3, none⟩) h).trans ?_, (hb.cell (p := ⟨w.heap.size, 4, none⟩) h).trans ?_⟩
  all_goals simp [sw, go_sem]
set_option maxRecDepth 100000 in
set_option maxHeartbeats 1000000 in
theorem i_yes (n s : Int) (h1 : 1 ≤ n) (h2 : n ≤ 100) (h3 : 1 ≤ s) (h4 : s ≤ n) (w : World) : Calls Try.prog 33 #[.int .i64 n, .int .i64 s] w (Li.Gives true (wo n s (4 * n).toNat) w) := by
  obtain ⟨i0, hi, hz0, hz1, hz2⟩ := info_parts Li.info3
  go_enter Try.func33, Try.ntmps33
  go_wp2_with fail
  refine (hasSheet_yes n s h1 h2 h3 h4 _).mono ?_
  rintro e w' ⟨rfl, rfl⟩
  go_wp2_with fail
  refine (foldSheet_any n s h1 h2 h3 h4 _).mono ?_
  rintro e w1 ⟨rfl, hb0⟩
  unfold sheetV
  go_wp2
  have hs1 := hb0.size
  have hB : Below w.heap.size w (sw w1 n s) := hb0.alloc hs1 _
  have HB := Lib.hid hB
  clear hB hb0
  go_loopw [7, 8] (fun v i wr => ∃ k : Nat, (k : Int) ≤ 4 * n ∧ i = .int .i64 ((k : Int) + 1) ∧ wr.ownsRow (sw w1 n s).heap.size 3 1 v (wo n s k).length (Li.nums (wo n s k)) ∧ Below (sw w1 n s).heap.size (sw w1 n s) wr) (fun _ i _ => (4 * n + 1 - intOf i).toNat)
  case atStart => exact ⟨0, by omega, rfl, World.ownsRow_nil _ _ _ _, Below.refl _ _⟩
  case round =>
    obtain ⟨k, hk, rfl, hown, hb⟩ := hrel
    have hw := wo_le n s k
    by_cases hlt : (k : Int) + 1 ≤ 4 * n
    · obtain ⟨q0, q1, q2, q3, q4⟩ := sw_cells hb
      have hlt' : (k : Int) + 1 ≤ n * 4 := by omega
      by_cases hc : Pl.pl n ((k : Int) + 1) = s
      · have HS := Lib.hid (wo_skip hc)
        have HC := Lib.hid hc
        clear hc
        go_wp2_with fail
        refine (Pl.has_yes n ((k : Int) + 1) s h1 (by omega) hlt h3 h4 HC.out _).mono ?_
        rintro e w2 ⟨rfl, hb1⟩
        have hown1 := Li.own_on hown hb1
        have hb2 := hb.trans (hb1.mono hb.size)
        clear hown hb hb1 q0 q1 q2 q3 q4
        go_wp2
        go_roundw
        case rel => exact ⟨k + 1, by omega, by go_num, by rw [HS.out]; exact hown1, hb2⟩
        case measure => simp [intOf]; omega
      · have HS := Lib.hid (wo_take hc)
        have HC := Lib.hid hc
        clear hc
        go_wp2_with fail
        refine (Pl.has_no n ((k : Int) + 1) s h1 (by omega) hlt h3 h4 HC.out _).mono ?_
        rintro e w2 ⟨rfl, hb1⟩
        have hown1 := Li.own_on hown hb1
        have hb2 := hb.trans (hb1.mono hb.size)
        have hsz := hb2.size
        clear hown hb hb1 q0 q1 q2 q3 q4
        go_wp2_with (first | (at_builtin; refine wpList_append_own _ rfl _ _ 36 rfl (sw w1 n s).heap.size 3 i0 (.int .i64 0) 1 8 Try.underlying36 hi hz0 hz1 hz2 rfl (by decide) _ _ _ rfl (hown1.alloc _) ⟨w2.heap.size, 0, none⟩ 1 1 [.int .i64 ((k : Int) + 1)] rfl rfl (cell_one_new _ _ _) (fun x hx => by simp at hx; subst hx; rfl) (by unfold maxLen; omega) (by omega) (by simp; omega) ?_; intro v' w3 hown2 hgrow2 hnil2))
        have O := Lib.hid (own_more hown2 HS.out)
        have B := Lib.hid ((hb2.alloc hsz _).grown hgrow2 (by simp; omega) (fun j hj => (hown1.lt j hj).1))
        clear hown2 hgrow2 hnil2 hown1 hb2
        go_roundw
        case rel => exact ⟨k + 1, by omega, by go_num, O.out, B.out⟩
        case measure => simp [intOf]; omega
    · have E := Lib.hid (show (4 * n).toNat = k by omega)
      have hlt' : ¬ (k : Int) + 1 ≤ n * 4 := by omega
      clear hlt
      go_wp2
      go_ret2
      exact ⟨_, rfl, by rw [E.out]; exact Li.own_le hown HB.out.size, HB.out.trans (hb.mono HB.out.size)⟩
/-- the page on the left of the middle of signature k + 1 -/
def pg (a : Int) (k : Nat) : Int := 2 * a + 4 * a * k
def so (a : Int) : Nat → List Int
  | 0 => []
  | k + 1 => so a k ++ [pg a k]
def cnt (n a : Int) : Nat := ((n - 1 - 2 * a) / (4 * a) + 1).toNat
theorem so_length (a : Int) (k : Nat) : (so a k).length = k := by
  induction k with
  | zero => rfl
  | succ k ih => unfold so; rw [List.length_append, ih]; rfl
theorem pg_zero (a : Int) : pg a 0 = 2 * a := by simp [pg]
theorem pg_succ (a : Int) (k : Nat) : pg a (k + 1) = pg a k + 4 * a := by
  unfold pg
  have e : ((k + 1 : Nat) : Int) = (k : Int) + 1 := by omega
  rw [e, Int.mul_add, Int.mul_one]
  omega
theorem pg_iff (n a : Int) (k : Nat) (h1 : 1 ≤ n) (h3 : 1 ≤ a) : pg a k + 1 ≤ n ↔ k < cnt n a := by
  have h : (k : Int) ≤ (n - 1 - 2 * a) / (4 * a) ↔ (k : Int) * (4 * a) ≤ n - 1 - 2 * a := Int.le_ediv_iff_mul_le (by omega)
  have e : (k : Int) * (4 * a) = 4 * a * k := Int.mul_comm _ _
  rw [e] at h
  unfold pg cnt
  omega
theorem pg_bd (n a : Int) (k : Nat) (h1 : 1 ≤ n) (h2 : n ≤ 2000) (h3 : 1 ≤ a) (h4 : a ≤ 16) (hk : k ≤ cnt n a) : 2 ≤ pg a k ∧ pg a k ≤ 2064 := by
  constructor
  · have : 0 ≤ 4 * a * (k : Int) := Int.mul_nonneg (by omega) (by omega)
    unfold pg; omega
  · cases k with
    | zero => rw [pg_zero]; omega
    | succ k => have := (pg_iff n a k h1 h3).mpr (by omega); rw [pg_succ]; omega
theorem cnt_bd (n a : Int) (h1 : 1 ≤ n) (h2 : n ≤ 2000) (h3 : 1 ≤ a) : cnt n a ≤ 2000 := by
  have : (n - 1 - 2 * a) / (4 * a) < 1999 := Int.ediv_lt_of_lt_mul (by omega) (by omega)
  unfold cnt; omega
theorem s_sewn_no (n a : Int) (h : ¬ 1 ≤ n ∨ ¬ n ≤ 2000 ∨ ¬ 1 ≤ a ∨ ¬ a ≤ 16) (w : World) : Calls Try.prog 37 #[.int .i64 n, .int .i64 a] w (Li.Gives false [] w) := by
  by_cases c0 : 1 ≤ n <;> by_cases c1 : n ≤ 2000 <;> by_cases c2 : 1 ≤ a <;> by_cases c3 : a ≤ 16 <;> first | (exfalso; omega) | skip
  all_goals
    clear h
    go_enter Try.func37, Try.ntmps37
    go_wp2
    go_ret2
    exact Li.Gives.none (Below.refl _ _)
theorem i_sewn_no (n a : Int) (h : ¬ 1 ≤ n ∨ ¬ n ≤ 2000 ∨ ¬ 1 ≤ a ∨ ¬ a ≤ 16) (w : World) : Calls Try.prog 38 #[.int .i64 n, .int .i64 a] w (Li.Gives false [] w) := by
  by_cases c0 : 1 ≤ n <;> by_cases c1 : n ≤ 2000 <;> by_cases c2 : 1 ≤ a <;> by_cases c3 : a ≤ 16 <;> first | (exfalso; omega) | skip
  all_goals
    clear h
    go_enter Try.func38, Try.ntmps38
    go_wp2
    go_ret2
    exact Li.Gives.none (Below.refl _ _)
set_option maxRecDepth 100000 in
set_option maxHeartbeats 1000000 in
theorem s_sewn_yes (n a : Int) (h1 : 1 ≤ n) (h2 : n ≤ 2000) (h3 : 1 ≤ a) (h4 : a ≤ 16) (w : World) : Calls Try.prog 37 #[.int .i64 n, .int .i64 a] w (Li.Gives true (so a (cnt n a)) w) := by
  obtain ⟨i0, hi, hz0, hz1, hz2⟩ := info_parts Li.info3
  go_enter Try.func37, Try.ntmps37
  go_wp2_with (go_at_call 50; refine (foBoth_yes _ _ h1 h2 h3 h4 _).mono ?_; rintro e w' ⟨rfl, rfl⟩)
  go_loopw [6, 7] (fun v i wr => ∃ k : Nat, k ≤ cnt n a ∧ i = .int .i64 (pg a k) ∧ wr.ownsRow w.heap.size 3 1 v k (Li.nums (so a k)) ∧ Below w.heap.size w wr) (fun _ i _ => (2100 - intOf i).toNat)
  case atStart => exact ⟨0, by omega, by rw [pg_zero], World.ownsRow_nil _ _ _ _, Below.refl _ _⟩
  case round =>
    obtain ⟨k, hk, rfl, hown, hb⟩ := hrel
    obtain ⟨p1, p2⟩ := pg_bd n a k h1 h2 h3 h4 hk
    have hcb := cnt_bd n a h1 h2 h3
    by_cases hlt : pg a k + 1 ≤ n
    · have hk' := (pg_iff n a k h1 h3).mp hlt
      have PS := Lib.hid (pg_succ a k)
      have hsz := hb.size
      go_wp2_with (first | (at_builtin; refine wpList_append_own _ rfl _ _ 36 rfl w.heap.size 3 i0 (.int .i64 0) 1 8 Try.underlying36 hi hz0 hz1 hz2 rfl (by decide) _ _ _ rfl (hown.alloc _) ⟨wr.heap.size, 0, none⟩ 1 1 [.int .i64 (pg a k)] rfl rfl (cell_one_new _ _ _) (fun x hx => by simp at hx; subst hx; rfl) (by unfold maxLen; omega) (by omega) (by simp; omega) ?_; intro v' w3 hown2 hgrow2 hnil2))
      have O := Lib.hid (show w3.ownsRow w.heap.size 3 1 v' (k + 1) (Li.nums (so a (k + 1))) by simpa [so, Li.nums] using hown2)
      have B := Lib.hid ((hb.alloc hsz _).grown hgrow2 (by simp; omega) (fun j hj => (hown.lt j hj).1))
      clear hown2 hgrow2 hnil2 hown hb
      go_roundw
      case rel => exact ⟨k + 1, hk', by rw [PS.out], O.out, B.out⟩
      case measure => simp [intOf]; omega
    · have E := Lib.hid (show cnt n a = k by have := mt (pg_iff n a k h1 h3).mpr hlt; omega)
      go_wp2
      go_ret2
      exact ⟨_, rfl, by rw [so_length, E.out]; exact hown, hb⟩
theorem hasPage_yes (n p : Int) (h1 : 1 ≤ p) (h2 : p ≤ n) (w : World) :
    Calls Try.prog 52 #[.int .i64 n, .int .i64 p] w fun e w' => e = .returned (.bool true) ∧ w = w' := by
  go_enter Try.func52, Try.ntmps52
  go_wp2
  go_ret
  exact ⟨rfl, rfl⟩
theorem hasPage_over (n p : Int) (h1 : 1 ≤ p) (h2 : ¬ p ≤ n) (w : World) :
    Calls Try.prog 52 #[.int .i64 n, .int .i64 p] w fun e w' => e = .returned (.bool false) ∧ w = w' := by
  go_enter Try.func52, Try.ntmps52
  go_wp2
  go_ret
  exact ⟨rfl, rfl⟩
def bf (a : Int) (k : Nat) : Int := 4 * a * k
theorem bf_pg (a : Int) (k : Nat) : bf a k + 2 * a = pg a k := by unfold bf pg; omega
set_option maxRecDepth 100000 in
set_option maxHeartbeats 1000000 in
theorem i_sewn_yes (n a : Int) (h1 : 1 ≤ n) (h2 : n ≤ 2000) (h3 : 1 ≤ a) (h4 : a ≤ 16) (w : World) : Calls Try.prog 38 #[.int .i64 n, .int .i64 a] w (Li.Gives true (so a (cnt n a)) w) := by
  obtain ⟨i0, hi, hz0, hz1, hz2⟩ := info_parts Li.info3
  go_enter Try.func38, Try.ntmps38
  go_wp2_with fail
  refine (isBook_yes n h1 h2 _).mono ?_
  rintro e w' ⟨rfl, rfl⟩
  go_wp2_with fail
  refine (isPer_yes a h3 h4 _).mono ?_
  rintro e w' ⟨rfl, rfl⟩
  go_wp2_with fail
  refine (i_middle_yes a h3 (by omega) _).mono ?_
  rintro e w1 ⟨rfl, hb0⟩
  go_wp2
  go_loopw [9, 10] (fun v i wr => ∃ k : Nat, k ≤ cnt n a ∧ i = .int .i64 (bf a k) ∧ wr.ownsRow w.heap.size 3 1 v k (Li.nums (so a k)) ∧ Below w.heap.size w wr) (fun _ i _ => (2100 - intOf i).toNat)
  case atStart => exact ⟨0, by omega, by simp [bf], World.ownsRow_nil _ _ _ _, hb0⟩
  case round =>
    obtain ⟨k, hk, rfl, hown, hb⟩ := hrel
    obtain ⟨p1, p2⟩ := pg_bd n a k h1 h2 h3 h4 hk
    have hcb := cnt_bd n a h1 h2 h3
    have hpg := bf_pg a k
    have b1 : 0 ≤ bf a k := Int.mul_nonneg (by omega) (by omega)
    have b2 : bf a k ≤ 2064 := by omega
    by_cases hlt : pg a k + 1 ≤ n
    · have hk' := (pg_iff n a k h1 h3).mp hlt
      have PS := Lib.hid (show bf a (k + 1) = bf a k + a * 4 by have := bf_pg a (k + 1); have := pg_succ a k; omega)
      have PG := Lib.hid hpg
      have hsz := hb.size
      have hle : bf a k + (2 * a + 1) ≤ n := by omega
      clear hpg
      go_wp2_with fail
      refine (hasPage_yes n _ (by omega) hle _).mono ?_
      rintro e w' ⟨rfl, rfl⟩
      go_wp2_with (first | (at_builtin; refine wpList_append_own _ rfl _ _ 36 rfl w.heap.size 3 i0 (.int .i64 0) 1 8 Try.underlying36 hi hz0 hz1 hz2 rfl (by decide) _ _ _ rfl (hown.alloc _) ⟨wr.heap.size, 0, none⟩ 1 1 [.int .i64 (bf a k + 2 * a)] rfl rfl (cell_one_new _ _ _) (fun x hx => by simp at hx; subst hx; rfl) (by unfold maxLen; omega) (by omega) (by simp; omega) ?_; intro v' w3 hown2 hgrow2 hnil2))
      have O := Lib.hid (show w3.ownsRow w.heap.size 3 1 v' (k + 1) (Li.nums (so a (k + 1))) by rw [PG.out] at hown2; simpa [so, Li.nums] using hown2)
      have B := Lib.hid ((hb.alloc hsz _).grown hgrow2 (by simp; omega) (fun j hj => (hown.lt j hj).1))
      clear hown2 hgrow2 hnil2 hown hb
      go_roundw
      case rel => exact ⟨k + 1, hk', by rw [PS.out], O.out, B.out⟩
      case measure => simp [intOf]; omega
    · have E := Lib.hid (show cnt n a = k by have := mt (pg_iff n a k h1 h3).mpr hlt; omega)
      have hgt : ¬ bf a k + (2 * a + 1) ≤ n := by omega
      have HG := Lib.hid (Int.not_le.mp hgt)
      clear hpg hlt hgt
      go_wp2_with fail
      refine (hasPage_over n _ (by omega) (Int.not_le.mpr HG.out) _).mono ?_
      rintro e w' ⟨rfl, rfl⟩
      go_wp2
      go_ret2
      exact ⟨_, rfl, by rw [so_length, E.out]; exact hown, hb⟩
end Wo
end Go.Proofs.Ytjoapogkooblgaa
