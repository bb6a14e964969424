/- The least first with which a rising plan has so many days: found by trying, and reckoned. -/
import Derived.Test.YtcaklokcajidiaaLs
import Derived.Deep.RegionWith
namespace Go.Proofs.Ytcaklokcajidiaa
open Go.RowKit Go.Joins
set_option linter.unusedVariables false
set_option linter.unusedSimpArgs false
namespace Rs
theorem tr_in (k : Nat) (h : k ≤ 3000) : 0 ≤ tr k ∧ tr k ≤ 3000 * k := by
  induction k with
  | zero => unfold tr; omega
  | succ k ih => have := ih (by omega); unfold tr; omega
/-- the least first -/
def ff (p q : Int) (n : Nat) : Int := max 1 ((p - q * tr n + n - 1).tdiv n)
theorem ff_iff {p q f : Int} {n : Nat} (hn : 1 ≤ n) (hf : 1 ≤ f) : p ≤ su f q n ↔ ff p q n ≤ f := by
  rw [su_eq]
  unfold ff
  generalize q * tr n = A
  have hn' : (0 : Int) < n := by omega
  by_cases h : 0 ≤ p - A + n - 1
  · rw [Int.tdiv_eq_ediv_of_nonneg h]
    have := @Int.ediv_lt_iff_lt_mul (p - A + n - 1) (f + 1) n hn'
    rw [Int.add_mul, Int.one_mul] at this
    generalize f * (n : Int) = B at *
    omega
  · have h1 : (p - A + n - 1).tdiv n ≤ 0 := by
      have : (p - A + n - 1).tdiv n = - ((-(p - A + n - 1)).tdiv n) := by rw [Int.neg_tdiv]; omega
      rw [this, Int.tdiv_eq_ediv_of_nonneg (by omega)]
      have := Int.ediv_nonneg (a := -(p - A + n - 1)) (b := n) (by omega) (by omega)
      omega
    have h2 := Int.mul_nonneg (show 0 ≤ f by omega) (show (0 : Int) ≤ n by omega)
    omega
end Rs
namespace Ls
theorem bpBook_yes (p : Int) (h1 : 1 ≤ p) (h2 : p ≤ 2000) (w : World) : Calls Try.prog 61 #[.int .i64 p] w fun e w' => e = .returned (.bool true) ∧ w = w' := by
  go_enter Try.func61, Try.ntmps61
  go_wp2
  go_ret
  exact ⟨rfl, rfl⟩
theorem l1In_yes (a b c : Int) (h1 : b ≤ a) (h2 : a ≤ c) (w : World) :
    Calls Try.prog 55 #[.int .i64 a, .int .i64 b, .int .i64 c] w fun e w' => e = .returned (.bool true) ∧ w = w' := by
  go_enter Try.func55, Try.ntmps55
  go_wp2
  go_ret
  exact ⟨rfl, rfl⟩
theorem dividedUp_any (N D : Int) (h1 : -10000000000 ≤ N) (h2 : N ≤ 10000000000) (h3 : 1 ≤ D) (h4 : D ≤ 3000) (w : World) :
    Calls Try.prog 60 #[.int .i64 N, .int .i64 D] w fun e w' => e = .returned (.int .i64 ((N + D - 1).tdiv D)) ∧ w = w' := by
  go_enter Try.func60, Try.ntmps60
  go_wp2
  go_ret
  exact ⟨rfl, rfl⟩
theorem sumUpTo_any (n : Nat) (h : n ≤ 2999) (w : World) :
    Calls Try.prog 64 #[.int .i64 (n : Int)] w fun e w' => e = .returned (.int .i64 (Rs.tr (n + 1))) ∧ w = w' := by
  go_enter Try.func64, Try.ntmps64
  go_wp2
  go_ret
  have h1 := Rs.tr_eq n
  have h2 := Rs.tr_in (n + 1) (by omega)
  have e : wrap64 ((wrap64 ((n : Int) * (n + 1))).tdiv 2) = Rs.tr (n + 1) := by
    rw [← h1, IntWalk.wrap64_in (2 * Rs.tr (n + 1)) (by omega), Int.tdiv_eq_ediv_of_nonneg (by omega), show 2 * Rs.tr (n + 1) / 2 = Rs.tr (n + 1) by omega, IntWalk.wrap64_in _ (by omega)]
  exact ⟨congrArg (fun x => Ending.returned (.int .i64 x)) e, rfl⟩
theorem qtr_in {q : Int} {n : Nat} (h0 : 0 ≤ q) (h1 : q ≤ 200) (h2 : n ≤ 3000) : 0 ≤ q * Rs.tr n ∧ q * Rs.tr n ≤ 4000000000 := by
  have h := Rs.tr_in n h2
  have a := Int.mul_nonneg h0 h.1
  have b := Int.mul_le_mul h1 (show Rs.tr n ≤ 9000000 by omega) h.1 (by omega)
  omega
/-- a first that is told, or none -/
def fa (p q : Int) (n : Nat) : Value := if Rs.ff p q n ≤ 200 then .tuple #[.int .i64 (Rs.ff p q n), .bool true] else .tuple #[.int .i64 0, .bool false]
theorem fa_yes {p q : Int} {n : Nat} (h : Rs.ff p q n ≤ 200) : fa p q n = .tuple #[.int .i64 (Rs.ff p q n), .bool true] := if_pos h
theorem fa_no {p q : Int} {n : Nat} (h : ¬ Rs.ff p q n ≤ 200) : fa p q n = .tuple #[.int .i64 0, .bool false] := if_neg h
theorem ret_eq {x y : Value} (h : x = y) : Ending.returned y = Ending.returned x := by rw [h]
set_option maxRecDepth 100000 in
set_option maxHeartbeats 1000000 in
theorem iFirst_yes (p q : Int) (n : Nat) (hp1 : 1 ≤ p) (hp2 : p ≤ 2000) (hn1 : 1 ≤ n) (hn2 : n ≤ 3000) (hq : 0 ≤ q) (hq2 : q ≤ 200) (w : World) :
    Calls Try.prog 33 #[.int .i64 p, .int .i64 (n : Int), .int .i64 q] w fun e w' => e = .returned (fa p q n) ∧ w = w' := by
  obtain ⟨j, rfl⟩ : ∃ j, n = j + 1 := ⟨n - 1, by omega⟩
  have hA := qtr_in hq hq2 hn2
  have D1 := Lib.hid (fun W => isBook_yes p hp1 hp2 W)
  have D2 := Lib.hid (fun W => isDay_yes ((j + 1 : Nat) : Int) (by omega) (by omega) W)
  have D3 := Lib.hid (fun W => isMore_yes q hq hq2 W)
  have D4 := Lib.hid (fun W => sumUpTo_any j (by omega) W)
  have D5 := Lib.hid (fun W => dividedUp_any (p - q * Rs.tr (j + 1)) ((j + 1 : Nat) : Int) (by omega) (by omega) (by omega) (by omega) W)
  have EF := Lib.hid (show Rs.ff p q (j + 1) = max 1 ((p - q * Rs.tr (j + 1) + ((j + 1 : Nat) : Int) - 1).tdiv ((j + 1 : Nat) : Int)) from rfl)
  have EY := Lib.hid (fun h => @fa_yes p q (j + 1) h)
  have EN := Lib.hid (fun h => @fa_no p q (j + 1) h)
  have hj : (((j + 1 : Nat) : Int)) - 1 = (j : Int) := by omega
  have hj2 : 1 ≤ ((j + 1 : Nat) : Int) ∧ ((j + 1 : Nat) : Int) ≤ 3000 := by omega
  generalize ((p - q * Rs.tr (j + 1) + ((j + 1 : Nat) : Int) - 1).tdiv ((j + 1 : Nat) : Int)) = Q at *
  generalize Rs.tr (j + 1) = T at *
  generalize hA0 : q * T = A at *
  generalize ((j + 1 : Nat) : Int) = D at *
  by_cases c : 1 < Q
  · by_cases c2 : Q ≤ 200
    · have EV := Lib.hid (show fa p q (j + 1) = .tuple #[.int .i64 Q, .bool true] by rw [EY.out (by rw [EF.out]; omega), EF.out, show max 1 Q = Q by omega])
      have t1 : decide (1 < Q) = true := by simpa using c
      have n1 : decide (Q < 1) = false := by simp; omega
      have n2 : (if Q < 1 then 1 else Q) = Q := by split <;> omega
      have n3 : (if 1 < Q then Q else 1) = Q := by split <;> omega
      have t2 : decide (Q ≤ 200) = true := by simpa using c2
      have t3 : decide (1 ≤ Q) = true := by simp; omega
      clear c c2
      go_enter Try.func33, Try.ntmps33
      go_wp2_with (first | (go_at_call 59; refine (D1.out _).mono ?_; rintro e w' ⟨rfl, rfl⟩) | (go_at_call 56; refine (D2.out _).mono ?_; rintro e w' ⟨rfl, rfl⟩) | (go_at_call 63; refine (D3.out _).mono ?_; rintro e w' ⟨rfl, rfl⟩) | (go_at_call 64; refine (D4.out _).mono ?_; rintro e w' ⟨rfl, rfl⟩) | (go_at_call 60; refine (D5.out _).mono ?_; rintro e w' ⟨rfl, rfl⟩) | go_in)
      all_goals go_ret2
      all_goals exact ⟨ret_eq EV.out, rfl⟩
    · have EV := Lib.hid (show fa p q (j + 1) = .tuple #[.int .i64 0, .bool false] by rw [EN.out (by rw [EF.out]; omega)])
      have t1 : decide (1 < Q) = true := by simpa using c
      have n1 : decide (Q < 1) = false := by simp; omega
      have n2 : (if Q < 1 then 1 else Q) = Q := by split <;> omega
      have n3 : (if 1 < Q then Q else 1) = Q := by split <;> omega
      have t2 : decide (Q ≤ 200) = false := by simpa using c2
      have t3 : decide (1 ≤ Q) = true := by simp; omega
      clear c c2
      go_enter Try.func33, Try.ntmps33
      go_wp2_with (first | (go_at_call 59; refine (D1.out _).mono ?_; rintro e w' ⟨rfl, rfl⟩) | (go_at_call 56; refine (D2.out _).mono ?_; rintro e w' ⟨rfl, rfl⟩) | (go_at_call 63; refine (D3.out _).mono ?_; rintro e w' ⟨rfl, rfl⟩) | (go_at_call 64; refine (D4.out _).mono ?_; rintro e w' ⟨rfl, rfl⟩) | (go_at_call 60; refine (D5.out _).mono ?_; rintro e w' ⟨rfl, rfl⟩) | go_in)
      all_goals go_ret2
      all_goals exact ⟨ret_eq EV.out, rfl⟩
  · have EV := Lib.hid (show fa p q (j + 1) = .tuple #[.int .i64 1, .bool true] by rw [EY.out (by rw [EF.out]; omega), EF.out, show max 1 Q = 1 by omega])
    have t1 : decide (1 < Q) = false := by simpa using c
    have n2 : (if Q < 1 then 1 else Q) = 1 := by split <;> omega
    have n3 : (if 1 < Q then Q else 1) = 1 := by split <;> omega
    clear c
    go_enter Try.func33, Try.ntmps33
    go_wp2_with (first | (go_at_call 59; refine (D1.out _).mono ?_; rintro e w' ⟨rfl, rfl⟩) | (go_at_call 56; refine (D2.out _).mono ?_; rintro e w' ⟨rfl, rfl⟩) | (go_at_call 63; refine (D3.out _).mono ?_; rintro e w' ⟨rfl, rfl⟩) | (go_at_call 64; refine (D4.out _).mono ?_; rintro e w' ⟨rfl, rfl⟩) | (go_at_call 60; refine (D5.out _).mono ?_; rintro e w' ⟨rfl, rfl⟩) | go_in)
    all_goals go_ret2
    all_goals exact ⟨ret_eq EV.out, rfl⟩
set_option maxRecDepth 100000 in
set_option maxHeartbeats 1000000 in
theorem sFirst_yes (p q : Int) (n : Nat) (hp1 : 1 ≤ p) (hp2 : p ≤ 2000) (hn1 : 1 ≤ n) (hn2 : n ≤ 3000) (hq : 0 ≤ q) (hq2 : q ≤ 200) (w : World) :
    Calls Try.prog 32 #[.int .i64 p, .int .i64 (n : Int), .int .i64 q] w fun e w' => e = .returned (fa p q n) ∧ Below w.heap.size w w' := by
  have HI := Lib.hid (fun f (hf : 1 ≤ f) => @Rs.ff_iff p q f n hn1 hf)
  have EY := Lib.hid (fun h => @fa_yes p q n h)
  have EN := Lib.hid (fun h => @fa_no p q n h)
  have h1 := show 1 ≤ Rs.ff p q n by unfold Rs.ff; omega
  generalize Rs.ff p q n = F at *
  have u1 : decide (1 ≤ (n : Int)) = true := by simp; omega
  have u2 : decide ((n : Int) ≤ 3000) = true := by simp; omega
  have HN := Lib.hid hn1
  have HN2 := Lib.hid hn2
  clear hn1 hn2
  go_enter Try.func32, Try.ntmps32
  go_wp2_with (first | (go_at_call 61; refine (bpBook_yes p hp1 hp2 _).mono ?_; rintro e w' ⟨rfl, rfl⟩) | (go_at_call_of 55 (n : Int); refine (l1In_yes (n : Int) 1 3000 (by have := HN.out; omega) (by have := HN2.out; omega) _).mono ?_; rintro e w' ⟨rfl, rfl⟩) | (go_at_call_of 55 q; refine (l1In_yes q 0 200 hq hq2 _).mono ?_; rintro e w' ⟨rfl, rfl⟩))
  go_loopw [8] (fun i wr => ∃ k : Nat, 1 ≤ k ∧ (k : Int) ≤ F ∧ k ≤ 201 ∧ i = .int .i64 (k : Int) ∧ Below w.heap.size w wr) (fun i _ => ((201 : Int) - intOf i).toNat)
  case atStart => exact ⟨1, by omega, by omega, by omega, rfl, Below.refl _ _⟩
  case round =>
    obtain ⟨k, hk1, hkF, hk2, rfl, hb⟩ := hrel
    by_cases hlt : k ≤ 200
    · obtain ⟨K, hK, h0, hl⟩ := Rs.ends (p := p) (f := (k : Int)) (q := q) (by omega) hp2 (by omega) (by omega) hq hq2
      have hlen := Rs.li_len p (k : Int) q K
      have hiff := Rs.end_iff (p := p) (f := (k : Int)) (q := q) (by omega) (by omega) (by omega) hq hq2 h0 hl n
      rw [HI.out (k : Int) (by omega)] at hiff
      have C := Lib.hid (rdRising_any p (k : Int) q K (by omega) hp2 (by omega) (by omega) hq hq2 hK h0 hl wr)
      have t1 : decide ((k : Int) ≤ 200) = true := by simp; omega
      clear h0 hl
      by_cases hs : (k : Int) = F
      · have EV := Lib.hid (show fa p q n = .tuple #[.int .i64 (k : Int), .bool true] by rw [EY.out (by omega), hs])
        have t2 : decide ((K : Int) ≤ (n : Int)) = true := by simp; omega
        have t5 : (K ≤ n) = True := eq_true (by omega)
        clear hiff hs hlt hk2
        go_wp2_with fail
        refine C.out.mono ?_
        rintro e w1 ⟨v, rfl, ho, hb1⟩
        have HB := Lib.hid (hb.trans (below_le hb1 hb.size))
        clear hb hb1
        rw [hlen] at ho
        rcases Li.own_forms ho with ⟨rfl, hz⟩ | ⟨g, cap, rfl⟩
        · have t3 : decide ((0 : Int) ≤ (n : Int)) = true := by simp
          clear ho
          go_wp2
          go_ret2
          exact ⟨ret_eq EV.out, HB.out⟩
        · clear ho
          go_wp2
          go_ret2
          exact ⟨ret_eq EV.out, HB.out⟩
      · have t2 : decide ((K : Int) ≤ (n : Int)) = false := by simp; omega
        have t5 : (K ≤ n) = False := eq_false (by omega)
        have hKn : ¬ K ≤ n := by omega
        have HF := Lib.hid (show ((k + 1 : Nat) : Int) ≤ F by omega)
        have hK0 : K ≠ 0 := by omega
        clear hiff hs
        go_wp2_with fail
        refine C.out.mono ?_
        rintro e w1 ⟨v, rfl, ho, hb1⟩
        have HB := Lib.hid (hb.trans (below_le hb1 hb.size))
        clear hb hb1
        rw [hlen] at ho
        rcases Li.own_forms ho with ⟨rfl, hz⟩ | ⟨g, cap, rfl⟩
        · exact absurd hz hK0
        · clear ho hK0 hKn
          go_wp2
          go_roundw
          case rel => exact ⟨k + 1, by omega, HF.out, by omega, by go_num, HB.out⟩
          case measure => simp [intOf]; omega
    · have t1 : decide ((k : Int) ≤ 200) = false := by simp; omega
      have EV := Lib.hid (show fa p q n = .tuple #[.int .i64 0, .bool false] from EN.out (by omega))
      clear hlt hk2
      go_wp2
      go_ret2
      exact ⟨ret_eq EV.out, hb⟩
set_option maxRecDepth 100000 in
set_option maxHeartbeats 1000000 in
theorem sFirst_no (p n q : Int) (h : ¬ 1 ≤ p ∨ ¬ p ≤ 2000 ∨ ¬ 1 ≤ n ∨ ¬ n ≤ 3000 ∨ ¬ 0 ≤ q ∨ ¬ q ≤ 200) (w : World) : Calls Try.prog 32 #[.int .i64 p, .int .i64 n, .int .i64 q] w (fun e w' => e = .returned (.tuple #[.int .i64 0, .bool false]) ∧ Below w.heap.size w w') := by
  by_cases c0 : 1 ≤ p
  · skip
    by_cases c1 : p ≤ 2000
    · skip
      by_cases c2 : 1 ≤ n
      · skip
        by_cases c3 : n ≤ 3000
        · skip
          by_cases c4 : 0 ≤ q
          · skip
            by_cases c5 : q ≤ 200
            · exfalso; omega
            · clear h
              have t5 : (q == 0) = false := by simp; omega
              have t6 : decide (1 ≤ q) = true := by simp; omega
              have u5 : decide (q ≤ 200) = false := by simpa using c5
              clear c5
              go_enter Try.func32, Try.ntmps32
              go_wp2
              go_ret2
              exact ⟨rfl, Below.refl _ _⟩
          · clear h
            have t5 : (q == 0) = false := by simp; omega
            have t6 : decide (1 ≤ q) = false := by simp; omega
            have u4 : decide (0 ≤ q) = false := by simpa using c4
            clear c4
            go_enter Try.func32, Try.ntmps32
            go_wp2
            go_ret2
            exact ⟨rfl, Below.refl _ _⟩
        · clear h
          have u3 : decide (n ≤ 3000) = false := by simpa using c3
          clear c3
          go_enter Try.func32, Try.ntmps32
          go_wp2
          go_ret2
          exact ⟨rfl, Below.refl _ _⟩
      · clear h
        have u2 : decide (1 ≤ n) = false := by simpa using c2
        clear c2
        go_enter Try.func32, Try.ntmps32
        go_wp2
        go_ret2
        exact ⟨rfl, Below.refl _ _⟩
    · clear h
      have u1 : decide (p ≤ 2000) = false := by simpa using c1
      clear c1
      go_enter Try.func32, Try.ntmps32
      go_wp2
      go_ret2
      exact ⟨rfl, Below.refl _ _⟩
  · clear h
    have u0 : decide (1 ≤ p) = false := by simpa using c0
    clear c0
    go_enter Try.func32, Try.ntmps32
    go_wp2
    go_ret2
    exact ⟨rfl, Below.refl _ _⟩
set_option maxRecDepth 100000 in
set_option maxHeartbeats 1000000 in
theorem iFirst_no (p n q : Int) (h : ¬ 1 ≤ p ∨ ¬ p ≤ 2000 ∨ ¬ 1 ≤ n ∨ ¬ n ≤ 3000 ∨ ¬ 0 ≤ q ∨ ¬ q ≤ 200) (w : World) : Calls Try.prog 33 #[.int .i64 p, .int .i64 n, .int .i64 q] w (fun e w' => e = .returned (.tuple #[.int .i64 0, .bool false]) ∧ Below w.heap.size w w') := by
  by_cases c0 : 1 ≤ p
  · skip
    by_cases c1 : p ≤ 2000
    · skip
      by_cases c2 : 1 ≤ n
      · skip
        by_cases c3 : n ≤ 3000
        · skip
          by_cases c4 : 0 ≤ q
          · skip
            by_cases c5 : q ≤ 200
            · exfalso; omega
            · clear h
              have t5 : (q == 0) = false := by simp; omega
              have t6 : decide (1 ≤ q) = true := by simp; omega
              have u5 : decide (q ≤ 200) = false := by simpa using c5
              clear c5
              go_enter Try.func33, Try.ntmps33
              go_wp2
              go_ret2
              exact ⟨rfl, Below.refl _ _⟩
          · clear h
            have t5 : (q == 0) = false := by simp; omega
            have t6 : decide (1 ≤ q) = false := by simp; omega
            have u4 : decide (0 ≤ q) = false := by simpa using c4
            clear c4
            go_enter Try.func33, Try.ntmps33
            go_wp2
            go_ret2
            exact ⟨rfl, Below.refl _ _⟩
        · clear h
          have u3 : decide (n ≤ 3000) = false := by simpa using c3
          clear c3
          go_enter Try.func33, Try.ntmps33
          go_wp2
          go_ret2
          exact ⟨rfl, Below.refl _ _⟩
      · clear h
        have u2 : decide (1 ≤ n) = false := by simpa using c2
        clear c2
        go_enter Try.func33, Try.ntmps33
        go_wp2
        go_ret2
        exact ⟨rfl, Below.refl _ _⟩
    · clear h
      have u1 : decide (p ≤ 2000) = false := by simpa using c1
      clear c1
      go_enter Try.func33, Try.ntmps33
      go_wp2
      go_ret2
      exact ⟨rfl, Below.refl _ _⟩
  · clear h
    have u0 : decide (1 ≤ p) = false := by simpa using c0
    clear c0
    go_enter Try.func33, Try.ntmps33
    go_wp2
    go_ret2
    exact ⟨rfl, Below.refl _ _⟩
end Ls
end Go.Proofs.Ytcaklokcajidiaa
