/- What the functions on places in a folded strip and on labels answer: for up to seven folds the place of a part in the plain list of parts, and the plain list of labels; otherwise nothing. -/
import Derived.Test.YtjoapogkooblgabPile
import Derived.Lib.Slices
namespace Go.Proofs.Ytjoapogkooblgab
open Go.RowKit
set_option linter.unusedVariables false
namespace St
open Li
theorem st_bd : ∀ f, f < 8 → ∀ x ∈ st f f 0, 1 ≤ x ∧ x ≤ (2 : Int) ^ f := by decide +kernel
theorem st_all : ∀ f, f < 8 → ∀ p : Nat, p < 2 ^ f → ((p : Int) + 1) ∈ st f f 0 := by decide +kernel
theorem at_mem (zs : List Int) (k : Nat) (h : k < zs.length) : zs.getD k 0 ∈ zs := by
  simp [List.getD, List.getElem?_eq_getElem h]
/-- a part that there is has a first place -/
theorem first_at (zs : List Int) (x : Int) (h : x ∈ zs) : ∃ m, m < zs.length ∧ zs.getD m 0 = x ∧ ∀ j, j < m → zs.getD j 0 ≠ x := by
  induction zs with
  | nil => simp at h
  | cons z zs ih =>
    by_cases e : z = x
    · exact ⟨0, by simp, by simpa using e, fun j hj => absurd hj (by omega)⟩
    · obtain ⟨m, h1, h2, h3⟩ := ih (by simpa [Ne.symm e] using h)
      refine ⟨m + 1, by simpa using h1, by simpa using h2, fun j hj => ?_⟩
      cases j with
      | zero => simpa using e
      | succ j => simpa using h3 j (by omega)
theorem l1In_yes (a b c : Int) (h1 : b ≤ a) (h2 : a ≤ c) (w : World) :
    Calls Try.prog 34 #[.int .i64 a, .int .i64 b, .int .i64 c] w fun e w' => e = .returned (.bool true) ∧ w = w' := by
  go_enter Try.func34, Try.ntmps34
  go_wp2
  go_ret
  exact ⟨rfl, rfl⟩
theorem l1In_no (a b c : Int) (h : ¬ b ≤ a ∨ ¬ a ≤ c) (w : World) :
    Calls Try.prog 34 #[.int .i64 a, .int .i64 b, .int .i64 c] w fun e w' => e = .returned (.bool false) ∧ w = w' := by
  by_cases c1 : b ≤ a <;> by_cases c2 : a ≤ c <;> first | (exfalso; omega) | skip
  all_goals
    clear h
    go_enter Try.func34, Try.ntmps34
    go_wp2
    go_ret
    exact ⟨rfl, rfl⟩
theorem ret_ib {a b : Int} {c : Bool} (h : a = b) : Ending.returned (.tuple #[.int .i64 a, .bool c]) = .returned (.tuple #[.int .i64 b, .bool c]) := by rw [h]
theorem sp_bad (n p : Int) (h : ¬ 0 ≤ n ∨ ¬ n ≤ 7) (w : World) : Calls Try.prog 16 #[.int .i64 n, .int .i64 p] w fun e w' => e = .returned (.tuple #[.int .i64 0, .bool false]) ∧ w = w' := by
  by_cases c0 : 0 ≤ n <;> by_cases c1 : n ≤ 7 <;> first | (exfalso; omega) | skip
  all_goals
    clear h
    go_enter Try.func16, Try.ntmps16
    go_wp2
    go_ret2
    exact ⟨rfl, rfl⟩
theorem ip_bad (n p : Int) (h : ¬ 0 ≤ n ∨ ¬ n ≤ 7) (w : World) : Calls Try.prog 17 #[.int .i64 n, .int .i64 p] w fun e w' => e = .returned (.tuple #[.int .i64 0, .bool false]) ∧ Below w.heap.size w w' := by
  have H := Lib.hid (i_no n h w)
  clear h
  go_enter Try.func17, Try.ntmps17
  go_wp2_with fail
  refine H.out.mono ?_
  rintro e w1 ⟨v, rfl, _, hb⟩
  go_wp2
  go_ret2
  exact ⟨rfl, hb⟩
theorem sp_out (f : Nat) (h : f ≤ 7) (p : Int) (hp : ¬ 1 ≤ p ∨ ¬ p ≤ (2 : Int) ^ f) (w : World) : Calls Try.prog 16 #[.int .i64 f, .int .i64 p] w fun e w' => e = .returned (.tuple #[.int .i64 0, .bool false]) ∧ w = w' := by
  obtain ⟨N, hN⟩ : ∃ N : Nat, N = 2 ^ f := ⟨_, rfl⟩
  have hI : (2 : Int) ^ f = (N : Int) := by rw [hN]; simp
  have hN2 : N ≤ 128 := by rw [hN]; exact pow_le f h
  have HP := Lib.hid hp
  clear hN hp
  have h7 : (f : Int) ≤ 7 := by omega
  have h0 : (0 : Int) ≤ f := by omega
  go_enter Try.func16, Try.ntmps16
  go_wp2_with fail
  refine (foFolds_yes _ h0 h7 _).mono ?_
  rintro e w' ⟨rfl, rfl⟩
  go_wp2_with fail
  refine (l1In_no p 1 N (by have := HP.out; omega) _).mono ?_
  rintro e w' ⟨rfl, rfl⟩
  go_wp2
  go_ret2
  exact ⟨rfl, rfl⟩
set_option maxRecDepth 100000 in
theorem sp_in (f : Nat) (h : f ≤ 7) (p : Int) (m : Nat) (h1 : 1 ≤ p) (h2 : p ≤ (2 : Int) ^ f) (hm : m < (st f f 0).length) (hmp : (st f f 0).getD m 0 = p) (hmj : ∀ j, j < m → (st f f 0).getD j 0 ≠ p) (w : World) :
    Calls Try.prog 16 #[.int .i64 f, .int .i64 p] w fun e w' => e = .returned (.tuple #[.int .i64 ((m : Int) + 1), .bool true]) ∧ Below w.heap.size w w' := by
  obtain ⟨N, hN⟩ : ∃ N : Nat, N = 2 ^ f := ⟨_, rfl⟩
  have hI : (2 : Int) ^ f = (N : Int) := by rw [hN]; simp
  have hN2 : N ≤ 128 := by rw [hN]; exact pow_le f h
  have hl : (st f f 0).length = N := by rw [st_length, hN]
  rw [hI] at h2
  rw [hl] at hm
  have HL := Lib.hid hl
  have HMP := Lib.hid hmp
  have HMJ := Lib.hid hmj
  clear hN hl hmp hmj
  have h7 : (f : Int) ≤ 7 := by omega
  have h0 : (0 : Int) ≤ f := by omega
  go_enter Try.func16, Try.ntmps16
  go_wp2_with fail
  refine (foFolds_yes _ h0 h7 _).mono ?_
  rintro e w' ⟨rfl, rfl⟩
  go_wp2_with fail
  refine (l1In_yes p 1 N h1 h2 _).mono ?_
  rintro e w' ⟨rfl, rfl⟩
  go_wp2_with fail
  refine (foStrip_any f h _).mono ?_
  rintro e w1 ⟨v, rfl, ho, hb⟩
  rw [HL.out] at ho
  obtain ⟨b, cap, rfl, _, _⟩ := ho.form (show 0 < N by omega)
  have HR := Lib.hid (row_own ho HL.out (by omega))
  clear ho
  go_wp2
  go_loop [21] (fun i => ∃ k : Nat, k ≤ m ∧ i = .int .i64 (k : Int)) (fun i => N - (intOf i).toNat)
  case atStart => exact ⟨0, by omega, rfl⟩
  case round =>
    obtain ⟨k, hk, rfl⟩ := hrel
    have hlt : k < N := by omega
    have hc := HR.out.2.2.2 k hlt
    by_cases e : k = m
    · have q1 : ((st f f 0).getD k 0 == p) = true := by rw [e, HMP.out]; simp
      have E := Lib.hid e
      obtain ⟨x, hx⟩ : ∃ x, x = (st f f 0).getD k 0 := ⟨_, rfl⟩
      rw [← hx] at hc q1
      clear e hx
      go_wp2
      go_ret2
      exact ⟨ret_ib (by rw [E.out]), hb⟩
    · have q1 : ((st f f 0).getD k 0 == p) = false := by simpa using HMJ.out k (by omega)
      obtain ⟨x, hx⟩ : ∃ x, x = (st f f 0).getD k 0 := ⟨_, rfl⟩
      rw [← hx] at hc q1
      have hk' : k + 1 ≤ m := by omega
      clear e hx
      go_wp2
      go_round
      case rel => exact ⟨k + 1, hk', by go_num⟩
      case measure => simp [intOf]; omega
set_option maxRecDepth 100000 in
theorem ip_any (f : Nat) (h : f ≤ 7) (p : Int) (d : Int) (hd : Lib.idxOf (st f f 0) p = d) (hd1 : -1 ≤ d) (hd2 : d ≤ 1000) (w : World) :
    Calls Try.prog 17 #[.int .i64 f, .int .i64 p] w fun e w' => e = .returned (.tuple #[.int .i64 (d + 1), .bool (decide (0 < d + 1))]) ∧ Below w.heap.size w w' := by
  have hN2 : (st f f 0).length ≤ 128 := by rw [st_length]; exact pow_le f h
  have hN1 : 0 < (st f f 0).length := by rw [st_length]; exact Nat.pow_pos (by omega)
  obtain ⟨N, hl⟩ : ∃ N, (st f f 0).length = N := ⟨_, rfl⟩
  rw [hl] at hN1 hN2
  have HL := Lib.hid hl
  have HD := Lib.hid hd
  have H := Lib.hid (i_yes f h w)
  clear hd hl
  go_enter Try.func17, Try.ntmps17
  go_wp2_with fail
  refine H.out.mono ?_
  rintro e w1 ⟨v, rfl, ho, hb⟩
  rw [HL.out] at ho
  obtain ⟨b, cap, rfl, _, _⟩ := ho.form hN1
  have HR := Lib.hid (row_own ho HL.out (by omega))
  clear ho
  go_wp2_with fail
  refine (Try.slices_Index_int b 0 N cap (st f f 0) p w1 (by rw [HL.out]; exact Nat.le_refl _) (by omega) (fun j hj => by rw [Nat.zero_add]; exact HR.out.2.2.2 j (by rw [← HL.out]; exact hj))).mono ?_
  rintro e w2 ⟨rfl, rfl⟩
  rw [List.take_of_length_le (by rw [HL.out]; exact Nat.le_refl _), HD.out]
  go_wp2
  go_ret2
  exact ⟨rfl, hb⟩
theorem idx_in (f : Nat) (p : Int) (m : Nat) (hm : m < (st f f 0).length) (hmp : (st f f 0).getD m 0 = p) (hmj : ∀ j, j < m → (st f f 0).getD j 0 ≠ p) : Lib.idxOf (st f f 0) p = (m : Int) := by
  have := Lib.idxOf_hit (st f f 0) (st f f 0).length m p hm (Nat.le_refl _) hmp hmj
  rw [List.take_length] at this
  exact this
theorem idx_out (f : Nat) (h : f ≤ 7) (p : Int) (hp : ¬ 1 ≤ p ∨ ¬ p ≤ (2 : Int) ^ f) : Lib.idxOf (st f f 0) p = -1 := by
  have := Lib.idxOf_miss (st f f 0) (st f f 0).length p (fun j hj he => by
    have := st_bd f (by omega) _ (at_mem (st f f 0) j hj)
    rw [he] at this
    omega)
  rw [List.take_length] at this
  exact this
theorem ip_in (f : Nat) (h : f ≤ 7) (p : Int) (m : Nat) (hm : m < (st f f 0).length) (hmp : (st f f 0).getD m 0 = p) (hmj : ∀ j, j < m → (st f f 0).getD j 0 ≠ p) (w : World) :
    Calls Try.prog 17 #[.int .i64 f, .int .i64 p] w fun e w' => e = .returned (.tuple #[.int .i64 ((m : Int) + 1), .bool true]) ∧ Below w.heap.size w w' := by
  have hl : (st f f 0).length ≤ 128 := by rw [st_length]; exact pow_le f h
  refine (ip_any f h p m (idx_in f p m hm hmp hmj) (by omega) (by omega) w).mono ?_
  rintro e w' ⟨rfl, hb⟩
  have hd : decide (0 < (m : Int) + 1) = true := decide_eq_true (by omega)
  rw [hd]
  exact ⟨rfl, hb⟩
theorem ip_out (f : Nat) (h : f ≤ 7) (p : Int) (hp : ¬ 1 ≤ p ∨ ¬ p ≤ (2 : Int) ^ f) (w : World) :
    Calls Try.prog 17 #[.int .i64 f, .int .i64 p] w fun e w' => e = .returned (.tuple #[.int .i64 0, .bool false]) ∧ Below w.heap.size w w' := by
  refine (ip_any f h p (-1) (idx_out f h p hp) (by omega) (by omega) w).mono ?_
  rintro e w' ⟨rfl, hb⟩
  exact ⟨rfl, hb⟩
/-- the labels when the first k parts have theirs -/
def lab (zs : List Int) (n : Nat) : Nat → List Int
  | 0 => List.replicate n 0
  | k + 1 => (lab zs n k).set ((zs.getD k 0) - 1).toNat ((k : Int) + 1)
theorem lab_length (zs : List Int) (n k : Nat) : (lab zs n k).length = n := by
  induction k with
  | zero => simp [lab]
  | succ k ih => simp [lab, ih]
theorem lab_step (zs : List Int) (n k p : Nat) (hp : (zs.getD k 0) - 1 = (p : Int)) : (nums (lab zs n k)).set p (.int .i64 ((k : Int) + 1)) = nums (lab zs n (k + 1)) := by
  unfold nums
  rw [lab, hp, Int.toNat_natCast, List.map_set]
theorem made_ints (n : Nat) : (madeCells (Value.int .i64 0).cells (n * 1)).toList = nums (List.replicate n 0) := by
  rw [Nat.mul_one, show (Value.int .i64 0).cells = #[.int .i64 0] from rfl, toList_madeCells_one]
  unfold nums
  rw [List.map_replicate]
theorem sl_bad (n : Int) (h : ¬ 0 ≤ n ∨ ¬ n ≤ 7) (w : World) : Calls Try.prog 18 #[.int .i64 n] w (Gives false [] w) := by
  by_cases c0 : 0 ≤ n <;> by_cases c1 : n ≤ 7 <;> first | (exfalso; omega) | skip
  all_goals
    clear h
    go_enter Try.func18, Try.ntmps18
    go_wp2
    go_ret2
    exact Gives.none (Below.refl _ _)
theorem il_bad (n : Int) (h : ¬ 0 ≤ n ∨ ¬ n ≤ 7) (w : World) : Calls Try.prog 19 #[.int .i64 n] w (Gives false [] w) := by
  have H := Lib.hid (i_no n h w)
  clear h
  go_enter Try.func19, Try.ntmps19
  go_wp2_with fail
  refine H.out.mono ?_
  rintro e w1 ⟨v, rfl, _, hb⟩
  go_wp2
  go_ret2
  exact Gives.none hb
theorem part_at (f : Nat) (h : f ≤ 7) (N k : Nat) (hN : N = 2 ^ f) (hl : (st f f 0).length = N) (hk : k < N) : ∃ p : Nat, p < N ∧ (st f f 0).getD k 0 - 1 = (p : Int) := by
  obtain ⟨h1, h2⟩ := st_bd f (by omega) _ (at_mem (st f f 0) k (by omega))
  have hI : (2 : Int) ^ f = (N : Int) := by rw [hN]; simp
  rw [hI] at h2
  exact ⟨((st f f 0).getD k 0 - 1).toNat, by omega, by omega⟩
set_option maxRecDepth 100000 in
set_option maxHeartbeats 1000000 in
theorem sl_yes (f : Nat) (h : f ≤ 7) (w : World) : Calls Try.prog 18 #[.int .i64 f] w (Gives true (lab (st f f 0) (2 ^ f) (2 ^ f)) w) := by
  obtain ⟨i0, hi, hz0, hz1, hz2⟩ := info_parts info3
  obtain ⟨N, hN⟩ : ∃ N : Nat, N = 2 ^ f := ⟨_, rfl⟩
  have hI : (2 : Int) ^ f = (N : Int) := by rw [hN]; simp
  have hN2 : N ≤ 128 := by rw [hN]; exact pow_le f h
  have hN0 : 0 < N := by rw [hN]; exact Nat.pow_pos (by omega)
  have hl : (st f f 0).length = N := by rw [st_length, hN]
  have HP := Lib.hid (fun k hk => part_at f h N k hN hl hk)
  have HL := Lib.hid hl
  rw [← hN]
  have HN := Lib.hid hN
  clear hN hl
  have h7 : (f : Int) ≤ 7 := by omega
  have h0 : (0 : Int) ≤ f := by omega
  go_enter Try.func18, Try.ntmps18
  go_wp2_with fail
  refine (foFolds_yes _ h0 h7 _).mono ?_
  rintro e w' ⟨rfl, rfl⟩
  go_wp2_with (first | (at_make; refine wpList_make_full _ rfl _ _ 22 rfl w.heap.size 3 i0 (.int .i64 0) 1 Try.underlying22 hi hz0 hz1 _ _ _ _ N rfl rfl rfl rfl (by rw [hz2]; omega) (by unfold maxLen; omega) (Nat.le_refl _) ?_; intro w1 hm1 hg1))
  rw [made_ints] at hm1
  refine (foStrip_any f h _).mono ?_
  rintro e w2 ⟨v, rfl, ho, hb2⟩
  rw [HL.out] at ho
  have hm2 := own_on hm1 hb2
  have hb1 := below_of_grown hg1
  have hb := below_next hb1 hb2
  have hs1 := hb1.size
  have hFl : w.heap.size < w1.heap.size := (hm1.lt _ rfl).2
  obtain ⟨b, cap, rfl, hbv, _⟩ := ho.form hN0
  have HM := Lib.hid hm2
  have HB := Lib.hid hb
  have HO := Lib.hid ho
  clear hm1 hg1 hm2 hb1 hb2 hb ho
  go_wp2
  go_loopw [16] (fun i wr => ∃ k : Nat, k ≤ N ∧ i = .int .i64 (k : Int) ∧ wr.ownsRow w.heap.size 3 1 (.slice (some ⟨w.heap.size, 0, none⟩) N N) N (nums (lab (st f f 0) N k)) ∧ wr.ownsRow w1.heap.size 3 1 (.slice (some ⟨b, 0, none⟩) N cap) N (nums (st f f 0)) ∧ Below w.heap.size w wr) (fun i _ => N - (intOf i).toNat)
  case atStart => exact ⟨0, by omega, rfl, HM.out, HO.out, HB.out⟩
  case round =>
    clear HM HB HO
    obtain ⟨k, hk, rfl, hm, ho, hb⟩ := hrel
    by_cases hlt : k < N
    · obtain ⟨p, hp1, hp2⟩ := HP.out k hlt
      have hc := (row_own ho HL.out (by omega)).2.2.2 k hlt
      have HS := Lib.hid (lab_step (st f f 0) N k p hp2)
      obtain ⟨x, hx⟩ : ∃ x, x = (st f f 0).getD k 0 := ⟨_, rfl⟩
      rw [← hx] at hc hp2
      obtain ⟨s1, s2⟩ := hm.stored p (.int .i64 ((k : Int) + 1))
      have hfz := hm.frozenAt p
      obtain ⟨vv, hd⟩ : ∃ v, wr.cell? ⟨w.heap.size, p, none⟩ = some v := by
        rw [hm.cellAt p (by omega)]; exact ⟨_, List.getElem?_eq_getElem (by rw [hm.1]; omega)⟩
      have O1 := Lib.hid (show (wr.setCell ⟨w.heap.size, p, none⟩ (.int .i64 ((k : Int) + 1))).ownsRow w.heap.size 3 1 (.slice (some ⟨w.heap.size, 0, none⟩) N N) N (nums (lab (st f f 0) N (k + 1))) by rw [← HS.out]; exact s1)
      have O2 := Lib.hid (ho.kept s2 (Or.inr (by simp [Value.ownBlock]; omega)))
      have B := Lib.hid (hb.setCell (p := ⟨w.heap.size, p, none⟩) (Nat.le_refl _) (.int .i64 ((k : Int) + 1)))
      clear s1 s2 hm ho hb hx
      go_wp2
      go_roundw
      case rel => exact ⟨k + 1, by omega, by go_num, O1.out, O2.out, B.out⟩
      case measure => simp [intOf]; omega
    · have E := Lib.hid (show k = N by omega)
      have O := Lib.hid (show wr.ownsRow w.heap.size 3 1 (.slice (some ⟨w.heap.size, 0, none⟩) N N) (lab (st f f 0) N N).length (nums (lab (st f f 0) N N)) by rw [lab_length]; rw [E.out] at hm; exact hm)
      clear hm ho hk
      go_wp2
      go_ret2
      exact ⟨_, rfl, O.out, hb⟩
set_option maxRecDepth 100000 in
set_option maxHeartbeats 1000000 in
theorem il_yes (f : Nat) (h : f ≤ 7) (w : World) : Calls Try.prog 19 #[.int .i64 f] w (Gives true (lab (st f f 0) (2 ^ f) (2 ^ f)) w) := by
  obtain ⟨i0, hi, hz0, hz1, hz2⟩ := info_parts info3
  obtain ⟨N, hN⟩ : ∃ N : Nat, N = 2 ^ f := ⟨_, rfl⟩
  have hN2 : N ≤ 128 := by rw [hN]; exact pow_le f h
  have hN0 : 0 < N := by rw [hN]; exact Nat.pow_pos (by omega)
  have hl : (st f f 0).length = N := by rw [st_length, hN]
  have HP := Lib.hid (fun k hk => part_at f h N k hN hl hk)
  have HL := Lib.hid hl
  rw [← hN]
  have HN := Lib.hid hN
  have H := Lib.hid (i_yes f h w)
  clear hN hl
  go_enter Try.func19, Try.ntmps19
  go_wp2_with fail
  refine H.out.mono ?_
  rintro e w1 ⟨v, rfl, ho, hb0⟩
  rw [HL.out] at ho
  obtain ⟨b, cap, rfl, hbv, hbv2⟩ := ho.form hN0
  have hs1 := hb0.size
  go_wp2_with (first | (at_make; refine wpList_make_full _ rfl _ _ 22 rfl w1.heap.size 3 i0 (.int .i64 0) 1 Try.underlying22 hi hz0 hz1 _ _ _ _ N rfl rfl rfl rfl (by rw [hz2]; omega) (by unfold maxLen; omega) (Nat.le_refl _) ?_; intro w2 hm1 hg1))
  rw [made_ints] at hm1
  have HO := Lib.hid (own_on ho (below_of_grown hg1))
  have HB := Lib.hid (below_next hb0 (below_of_grown hg1))
  have HM := Lib.hid hm1
  clear hm1 hg1 ho hb0
  go_loopw [21] (fun i wr => ∃ k : Nat, k ≤ N ∧ i = .int .i64 (k : Int) ∧ wr.ownsRow w1.heap.size 3 1 (.slice (some ⟨w1.heap.size, 0, none⟩) N N) N (nums (lab (st f f 0) N k)) ∧ wr.ownsRow w.heap.size 3 1 (.slice (some ⟨b, 0, none⟩) N cap) N (nums (st f f 0)) ∧ Below w.heap.size w wr) (fun i _ => N - (intOf i).toNat)
  case atStart => exact ⟨0, by omega, rfl, HM.out, HO.out, HB.out⟩
  case round =>
    clear HM HB HO
    obtain ⟨k, hk, rfl, hm, ho, hb⟩ := hrel
    by_cases hlt : k < N
    · obtain ⟨p, hp1, hp2⟩ := HP.out k hlt
      have hc := (row_own ho HL.out (by omega)).2.2.2 k hlt
      have HS := Lib.hid (lab_step (st f f 0) N k p hp2)
      obtain ⟨x, hx⟩ : ∃ x, x = (st f f 0).getD k 0 := ⟨_, rfl⟩
      rw [← hx] at hc hp2
      obtain ⟨s1, s2⟩ := hm.stored p (.int .i64 ((k : Int) + 1))
      have hfz := hm.frozenAt p
      obtain ⟨vv, hd⟩ : ∃ v, wr.cell? ⟨w1.heap.size, p, none⟩ = some v := by
        rw [hm.cellAt p (by omega)]; exact ⟨_, List.getElem?_eq_getElem (by rw [hm.1]; omega)⟩
      have O1 := Lib.hid (show (wr.setCell ⟨w1.heap.size, p, none⟩ (.int .i64 ((k : Int) + 1))).ownsRow w1.heap.size 3 1 (.slice (some ⟨w1.heap.size, 0, none⟩) N N) N (nums (lab (st f f 0) N (k + 1))) by rw [← HS.out]; exact s1)
      have O2 := Lib.hid (ho.kept s2 (Or.inr (by simp [Value.ownBlock]; omega)))
      have B := Lib.hid (hb.setCell (p := ⟨w1.heap.size, p, none⟩) hs1 (.int .i64 ((k : Int) + 1)))
      clear s1 s2 hm ho hb hx
      go_wp2
      go_roundw
      case rel => exact ⟨k + 1, by omega, by go_num, O1.out, O2.out, B.out⟩
      case measure => simp [intOf]; omega
    · have E := Lib.hid (show k = N by omega)
      have O := Lib.hid (show wr.ownsRow w.heap.size 3 1 (.slice (some ⟨w1.heap.size, 0, none⟩) N N) (lab (st f f 0) N N).length (nums (lab (st f f 0) N N)) by rw [lab_length]; rw [E.out] at hm; exact own_le hm hs1)
      clear hm ho hk
      go_wp2
      go_ret2
      exact ⟨_, rfl, O.out, hb⟩
end St
end Go.Proofs.Ytjoapogkooblgab
