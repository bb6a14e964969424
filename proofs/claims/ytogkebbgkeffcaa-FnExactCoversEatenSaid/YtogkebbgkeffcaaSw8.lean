/- CoversEaten from the model's side. -/
import Derived.Test.YtogkebbgkeffcaaSw7
namespace Go.Proofs.Ytogkebbgkeffcaa
open Go.RowKit Go.Joins Go.Deep Go.ChangeShapes Go.WideShapes
set_option linter.unusedVariables false
set_option linter.unusedSimpArgs false
namespace Sh
theorem odd_in (lo : Int) (k : Nat) : 0 ≤ odd lo k ∧ odd lo k ≤ 2 * k := by
  induction k with
  | zero => unfold odd; omega
  | succ k ih => unfold odd; split <;> omega
set_option maxRecDepth 100000 in
set_option maxHeartbeats 4000000 in
theorem sCovers {b1 g len cap : Nat} {zs : List Int} {c : Int} {w : World} (h : Ow w b1 g len cap zs) (hl : len ≤ 1048576) (a : Int) (la : Bool) (b : Int) (lb : Bool) :
    Calls Try.prog 28 #[V g len cap c, .int .i64 a, .bool la, .int .i64 b, .bool lb] w (Ret (.tuple #[.int .i64 (cv zs c a b), .bool (both zs c a && both zs c b)]) w) := by
  have HO := Lib.hid (bx_ow h c)
  have HB0 := Lib.hid (bx_below w g len cap c)
  have B := bx_b2 w g len cap c
  have hz := ow_len h
  obtain ⟨-, q0, q1⟩ := id B
  cases hg : both zs c a with
  | false =>
    have HG := Lib.hid hg
    have E0 := Lib.hid (show cv zs c a b = 0 by unfold cv; rw [hg]; rfl)
    clear h hg hz
    rw [E0.out]
    go_enter Try.func28, Try.ntmps28
    go_wp2_with fail
    refine (sBoth_any a HO.out hl false HG.out).mono ?_
    rintro e w1 ⟨rfl, hb⟩
    have HB := Lib.hid (HB0.out.trans (below_le hb HB0.out.size))
    clear hb B q0 q1
    go_wp2
    go_ret2
    exact ⟨rfl, HB.out⟩
  | true =>
    cases hg2 : both zs c b with
    | false =>
      have HG := Lib.hid hg
      have HG2 := Lib.hid hg2
      have E0 := Lib.hid (show cv zs c a b = 0 by unfold cv; rw [hg, hg2]; rfl)
      clear h hg hz hg2
      rw [E0.out]
      go_enter Try.func28, Try.ntmps28
      go_wp2_with fail
      refine (sBoth_any a HO.out hl true HG.out).mono ?_
      rintro e w1 ⟨rfl, hb⟩
      have HB := Lib.hid (HB0.out.trans (below_le hb HB0.out.size))
      have HO1 := Lib.hid (Li.own_on HO.out hb)
      replace B := B.on hb
      clear hb q0 q1
      obtain ⟨-, q0, q1⟩ := id B
      go_wp2_with fail
      refine (sBoth_any b HO1.out hl false HG2.out).mono ?_
      rintro e w2 ⟨rfl, hb⟩
      have HB2 := Lib.hid (HB.out.trans (below_le hb HB.out.size))
      clear hb B q0 q1
      go_wp2
      go_ret2
      exact ⟨rfl, HB2.out⟩
    | true =>
      obtain ⟨ho, d1, d2⟩ := (both_iff zs c a).1 hg
      obtain ⟨k, rfl⟩ := Int.eq_ofNat_of_zero_le d1
      obtain ⟨_, d3, d4⟩ := (both_iff zs c b).1 hg2
      obtain ⟨j, rfl⟩ := Int.eq_ofNat_of_zero_le d3
      have hk : (k : Int) < 8 := by have := ho.2.1; omega
      have hj : (j : Int) < 8 := by have := ho.2.1; omega
      have HG := Lib.hid hg
      have HG2 := Lib.hid hg2
      have E0 := Lib.hid (show cv zs c (k : Int) (j : Int) = max ((k : Int) - j) ((j : Int) - k) * 2 by unfold cv; rw [hg, hg2]; rfl)
      clear h hg hz hg2 ho d1 d2 d3 d4
      rw [E0.out]
      cases la <;> cases lb
      case false.false =>
        by_cases hc : 2 * (j : Int) + 1 < 2 * (k : Int) + 1
        · have ED := Lib.hid (show odd (2 * (j : Int) + 1) (2 * k + 1 - (2 * j + 1)) = max ((k : Int) - j) ((j : Int) - k) * 2 by have e := odd_odd (j : Int) (2 * k + 1 - (2 * j + 1)); omega)
          go_enter Try.func28, Try.ntmps28
          go_wp2_with fail
          refine (sBoth_any (k : Int) HO.out hl true HG.out).mono ?_
          rintro e w1 ⟨rfl, hb⟩
          have HB := Lib.hid (HB0.out.trans (below_le hb HB0.out.size))
          have HO1 := Lib.hid (Li.own_on HO.out hb)
          replace B := B.on hb
          clear hb q0 q1
          obtain ⟨-, q0, q1⟩ := id B
          go_wp2_with fail
          refine (sBoth_any (j : Int) HO1.out hl true HG2.out).mono ?_
          rintro e w2 ⟨rfl, hb⟩
          have HB2 := Lib.hid (HB.out.trans (below_le hb HB.out.size))
          clear hb B q0 q1 HB HO1
          go_wp2
          go_loop [14, 15] (fun n s => ∃ i : Nat, i ≤ (2 * k + 1 - (2 * j + 1)) ∧ s = .int .i64 ((2 * (j : Int) + 1) + (i : Int)) ∧ n = .int .i64 (odd (2 * (j : Int) + 1) i)) (fun _ s => ((2 * (k : Int) + 1) - intOf s).toNat)
          case atStart => exact ⟨0, by omega, (by first | rfl | (congr 1; omega)), rfl⟩
          case round =>
            obtain ⟨i, hi, rfl, rfl⟩ := hrel
            have o1 := (odd_in (2 * (j : Int) + 1) i).1
            have o2 : odd (2 * (j : Int) + 1) i ≤ 100 := by have := (odd_in (2 * (j : Int) + 1) i).2; omega
            have ES := Lib.hid (show odd (2 * (j : Int) + 1) (i + 1) = odd (2 * (j : Int) + 1) i + (if ((2 * (j : Int) + 1) + (i : Int)) % 2 = 1 then 2 else 0) from rfl)
            obtain ⟨O, hO⟩ : ∃ O, odd (2 * (j : Int) + 1) i = O := ⟨_, rfl⟩
            rw [hO] at o1 o2 ⊢
            have HOO := Lib.hid hO
            clear hO
            by_cases hlt : (2 * (j : Int) + 1) + (i : Int) < (2 * (k : Int) + 1)
            · by_cases hm : ((2 * (j : Int) + 1) + (i : Int)) % 2 = 1
              · have HM := Lib.hid hm
                have hm2 : (((2 * (j : Int) + 1) + (i : Int)) % 2 == 1) = true := by simpa using hm
                have hs0 : 0 ≤ (2 * (j : Int) + 1) + (i : Int) := by omega
                clear hm
                go_wp2
                go_round
                case rel => exact ⟨i + 1, by omega, (by first | rfl | (congr 1; omega)), by rw [ES.out, if_pos HM.out, HOO.out]⟩
                case measure => simp [intOf]; omega
              · have HM := Lib.hid hm
                have hm2 : (((2 * (j : Int) + 1) + (i : Int)) % 2 == 1) = false := by simpa using hm
                have hs0 : 0 ≤ (2 * (j : Int) + 1) + (i : Int) := by omega
                clear hm
                go_wp2
                go_round
                case rel => exact ⟨i + 1, by omega, (by first | rfl | (congr 1; omega)), by rw [ES.out, if_neg HM.out, HOO.out]; first | rfl | (congr 1; omega)⟩
                case measure => simp [intOf]; omega
            · have E := Lib.hid (show i = (2 * k + 1 - (2 * j + 1)) by omega)
              go_wp2
              go_ret2
              exact ⟨by rw [← ED.out, ← E.out, HOO.out]; rfl, HB2.out⟩
        · have ED := Lib.hid (show odd (2 * (k : Int) + 1) (2 * j + 1 - (2 * k + 1)) = max ((k : Int) - j) ((j : Int) - k) * 2 by have e := odd_odd (k : Int) (2 * j + 1 - (2 * k + 1)); omega)
          go_enter Try.func28, Try.ntmps28
          go_wp2_with fail
          refine (sBoth_any (k : Int) HO.out hl true HG.out).mono ?_
          rintro e w1 ⟨rfl, hb⟩
          have HB := Lib.hid (HB0.out.trans (below_le hb HB0.out.size))
          have HO1 := Lib.hid (Li.own_on HO.out hb)
          replace B := B.on hb
          clear hb q0 q1
          obtain ⟨-, q0, q1⟩ := id B
          go_wp2_with fail
          refine (sBoth_any (j : Int) HO1.out hl true HG2.out).mono ?_
          rintro e w2 ⟨rfl, hb⟩
          have HB2 := Lib.hid (HB.out.trans (below_le hb HB.out.size))
          clear hb B q0 q1 HB HO1
          go_wp2
          go_loop [14, 15] (fun n s => ∃ i : Nat, i ≤ (2 * j + 1 - (2 * k + 1)) ∧ s = .int .i64 ((2 * (k : Int) + 1) + (i : Int)) ∧ n = .int .i64 (odd (2 * (k : Int) + 1) i)) (fun _ s => ((2 * (j : Int) + 1) - intOf s).toNat)
          case atStart => exact ⟨0, by omega, (by first | rfl | (congr 1; omega)), rfl⟩
          case round =>
            obtain ⟨i, hi, rfl, rfl⟩ := hrel
            have o1 := (odd_in (2 * (k : Int) + 1) i).1
            have o2 : odd (2 * (k : Int) + 1) i ≤ 100 := by have := (odd_in (2 * (k : Int) + 1) i).2; omega
            have ES := Lib.hid (show odd (2 * (k : Int) + 1) (i + 1) = odd (2 * (k : Int) + 1) i + (if ((2 * (k : Int) + 1) + (i : Int)) % 2 = 1 then 2 else 0) from rfl)
            obtain ⟨O, hO⟩ : ∃ O, odd (2 * (k : Int) + 1) i = O := ⟨_, rfl⟩
            rw [hO] at o1 o2 ⊢
            have HOO := Lib.hid hO
            clear hO
            by_cases hlt : (2 * (k : Int) + 1) + (i : Int) < (2 * (j : Int) + 1)
            · by_cases hm : ((2 * (k : Int) + 1) + (i : Int)) % 2 = 1
              · have HM := Lib.hid hm
                have hm2 : (((2 * (k : Int) + 1) + (i : Int)) % 2 == 1) = true := by simpa using hm
                have hs0 : 0 ≤ (2 * (k : Int) + 1) + (i : Int) := by omega
                clear hm
                go_wp2
                go_round
                case rel => exact ⟨i + 1, by omega, (by first | rfl | (congr 1; omega)), by rw [ES.out, if_pos HM.out, HOO.out]⟩
                case measure => simp [intOf]; omega
              · have HM := Lib.hid hm
                have hm2 : (((2 * (k : Int) + 1) + (i : Int)) % 2 == 1) = false := by simpa using hm
                have hs0 : 0 ≤ (2 * (k : Int) + 1) + (i : Int) := by omega
                clear hm
                go_wp2
                go_round
                case rel => exact ⟨i + 1, by omega, (by first | rfl | (congr 1; omega)), by rw [ES.out, if_neg HM.out, HOO.out]; first | rfl | (congr 1; omega)⟩
                case measure => simp [intOf]; omega
            · have E := Lib.hid (show i = (2 * j + 1 - (2 * k + 1)) by omega)
              go_wp2
              go_ret2
              exact ⟨by rw [← ED.out, ← E.out, HOO.out]; rfl, HB2.out⟩
      case false.true =>
        by_cases hc : 2 * (j : Int) < 2 * (k : Int) + 1
        · have ED := Lib.hid (show odd (2 * (j : Int)) (2 * k + 1 - (2 * j)) = max ((k : Int) - j) ((j : Int) - k) * 2 by have e := odd_even (j : Int) (2 * k + 1 - (2 * j)); omega)
          go_enter Try.func28, Try.ntmps28
          go_wp2_with fail
          refine (sBoth_any (k : Int) HO.out hl true HG.out).mono ?_
          rintro e w1 ⟨rfl, hb⟩
          have HB := Lib.hid (HB0.out.trans (below_le hb HB0.out.size))
          have HO1 := Lib.hid (Li.own_on HO.out hb)
          replace B := B.on hb
          clear hb q0 q1
          obtain ⟨-, q0, q1⟩ := id B
          go_wp2_with fail
          refine (sBoth_any (j : Int) HO1.out hl true HG2.out).mono ?_
          rintro e w2 ⟨rfl, hb⟩
          have HB2 := Lib.hid (HB.out.trans (below_le hb HB.out.size))
          clear hb B q0 q1 HB HO1
          go_wp2
          go_loop [14, 15] (fun n s => ∃ i : Nat, i ≤ (2 * k + 1 - (2 * j)) ∧ s = .int .i64 ((2 * (j : Int)) + (i : Int)) ∧ n = .int .i64 (odd (2 * (j : Int)) i)) (fun _ s => ((2 * (k : Int) + 1) - intOf s).toNat)
          case atStart => exact ⟨0, by omega, (by first | rfl | (congr 1; omega)), rfl⟩
          case round =>
            obtain ⟨i, hi, rfl, rfl⟩ := hrel
            have o1 := (odd_in (2 * (j : Int)) i).1
            have o2 : odd (2 * (j : Int)) i ≤ 100 := by have := (odd_in (2 * (j : Int)) i).2; omega
            have ES := Lib.hid (show odd (2 * (j : Int)) (i + 1) = odd (2 * (j : Int)) i + (if ((2 * (j : Int)) + (i : Int)) % 2 = 1 then 2 else 0) from rfl)
            obtain ⟨O, hO⟩ : ∃ O, odd (2 * (j : Int)) i = O := ⟨_, rfl⟩
            rw [hO] at o1 o2 ⊢
            have HOO := Lib.hid hO
            clear hO
            by_cases hlt : (2 * (j : Int)) + (i : Int) < (2 * (k : Int) + 1)
            · by_cases hm : ((2 * (j : Int)) + (i : Int)) % 2 = 1
              · have HM := Lib.hid hm
                have hm2 : (((2 * (j : Int)) + (i : Int)) % 2 == 1) = true := by simpa using hm
                have hs0 : 0 ≤ (2 * (j : Int)) + (i : Int) := by omega
                clear hm
                go_wp2
                go_round
                case rel => exact ⟨i + 1, by omega, (by first | rfl | (congr 1; omega)), by rw [ES.out, if_pos HM.out, HOO.out]⟩
                case measure => simp [intOf]; omega
              · have HM := Lib.hid hm
                have hm2 : (((2 * (j : Int)) + (i : Int)) % 2 == 1) = false := by simpa using hm
                have hs0 : 0 ≤ (2 * (j : Int)) + (i : Int) := by omega
                clear hm
                go_wp2
                go_round
                case rel => exact ⟨i + 1, by omega, (by first | rfl | (congr 1; omega)), by rw [ES.out, if_neg HM.out, HOO.out]; first | rfl | (congr 1; omega)⟩
                case measure => simp [intOf]; omega
            · have E := Lib.hid (show i = (2 * k + 1 - (2 * j)) by omega)
              go_wp2
              go_ret2
              exact ⟨by rw [← ED.out, ← E.out, HOO.out]; rfl, HB2.out⟩
        · have ED := Lib.hid (show odd (2 * (k : Int) + 1) (2 * j - (2 * k + 1)) = max ((k : Int) - j) ((j : Int) - k) * 2 by have e := odd_odd (k : Int) (2 * j - (2 * k + 1)); omega)
          go_enter Try.func28, Try.ntmps28
          go_wp2_with fail
          refine (sBoth_any (k : Int) HO.out hl true HG.out).mono ?_
          rintro e w1 ⟨rfl, hb⟩
          have HB := Lib.hid (HB0.out.trans (below_le hb HB0.out.size))
          have HO1 := Lib.hid (Li.own_on HO.out hb)
          replace B := B.on hb
          clear hb q0 q1
          obtain ⟨-, q0, q1⟩ := id B
          go_wp2_with fail
          refine (sBoth_any (j : Int) HO1.out hl true HG2.out).mono ?_
          rintro e w2 ⟨rfl, hb⟩
          have HB2 := Lib.hid (HB.out.trans (below_le hb HB.out.size))
          clear hb B q0 q1 HB HO1
          go_wp2
          go_loop [14, 15] (fun n s => ∃ i : Nat, i ≤ (2 * j - (2 * k + 1)) ∧ s = .int .i64 ((2 * (k : Int) + 1) + (i : Int)) ∧ n = .int .i64 (odd (2 * (k : Int) + 1) i)) (fun _ s => ((2 * (j : Int)) - intOf s).toNat)
          case atStart => exact ⟨0, by omega, (by first | rfl | (congr 1; omega)), rfl⟩
          case round =>
            obtain ⟨i, hi, rfl, rfl⟩ := hrel
            have o1 := (odd_in (2 * (k : Int) + 1) i).1
            have o2 : odd (2 * (k : Int) + 1) i ≤ 100 := by have := (odd_in (2 * (k : Int) + 1) i).2; omega
            have ES := Lib.hid (show odd (2 * (k : Int) + 1) (i + 1) = odd (2 * (k : Int) + 1) i + (if ((2 * (k : Int) + 1) + (i : Int)) % 2 = 1 then 2 else 0) from rfl)
            obtain ⟨O, hO⟩ : ∃ O, odd (2 * (k : Int) + 1) i = O := ⟨_, rfl⟩
            rw [hO] at o1 o2 ⊢
            have HOO := Lib.hid hO
            clear hO
            by_cases hlt : (2 * (k : Int) + 1) + (i : Int) < (2 * (j : Int))
            · by_cases hm : ((2 * (k : Int) + 1) + (i : Int)) % 2 = 1
              · have HM := Lib.hid hm
                have hm2 : (((2 * (k : Int) + 1) + (i : Int)) % 2 == 1) = true := by simpa using hm
                have hs0 : 0 ≤ (2 * (k : Int) + 1) + (i : Int) := by omega
                clear hm
                go_wp2
                go_round
                case rel => exact ⟨i + 1, by omega, (by first | rfl | (congr 1; omega)), by rw [ES.out, if_pos HM.out, HOO.out]⟩
                case measure => simp [intOf]; omega
              · have HM := Lib.hid hm
                have hm2 : (((2 * (k : Int) + 1) + (i : Int)) % 2 == 1) = false := by simpa using hm
                have hs0 : 0 ≤ (2 * (k : Int) + 1) + (i : Int) := by omega
                clear hm
                go_wp2
                go_round
                case rel => exact ⟨i + 1, by omega, (by first | rfl | (congr 1; omega)), by rw [ES.out, if_neg HM.out, HOO.out]; first | rfl | (congr 1; omega)⟩
                case measure => simp [intOf]; omega
            · have E := Lib.hid (show i = (2 * j - (2 * k + 1)) by omega)
              go_wp2
              go_ret2
              exact ⟨by rw [← ED.out, ← E.out, HOO.out]; rfl, HB2.out⟩
      case true.false =>
        by_cases hc : 2 * (j : Int) + 1 < 2 * (k : Int)
        · have ED := Lib.hid (show odd (2 * (j : Int) + 1) (2 * k - (2 * j + 1)) = max ((k : Int) - j) ((j : Int) - k) * 2 by have e := odd_odd (j : Int) (2 * k - (2 * j + 1)); omega)
          go_enter Try.func28, Try.ntmps28
          go_wp2_with fail
          refine (sBoth_any (k : Int) HO.out hl true HG.out).mono ?_
          rintro e w1 ⟨rfl, hb⟩
          have HB := Lib.hid (HB0.out.trans (below_le hb HB0.out.size))
          have HO1 := Lib.hid (Li.own_on HO.out hb)
          replace B := B.on hb
          clear hb q0 q1
          obtain ⟨-, q0, q1⟩ := id B
          go_wp2_with fail
          refine (sBoth_any (j : Int) HO1.out hl true HG2.out).mono ?_
          rintro e w2 ⟨rfl, hb⟩
          have HB2 := Lib.hid (HB.out.trans (below_le hb HB.out.size))
          clear hb B q0 q1 HB HO1
          go_wp2
          go_loop [14, 15] (fun n s => ∃ i : Nat, i ≤ (2 * k - (2 * j + 1)) ∧ s = .int .i64 ((2 * (j : Int) + 1) + (i : Int)) ∧ n = .int .i64 (odd (2 * (j : Int) + 1) i)) (fun _ s => ((2 * (k : Int)) - intOf s).toNat)
          case atStart => exact ⟨0, by omega, (by first | rfl | (congr 1; omega)), rfl⟩
          case round =>
            obtain ⟨i, hi, rfl, rfl⟩ := hrel
            have o1 := (odd_in (2 * (j : Int) + 1) i).1
            have o2 : odd (2 * (j : Int) + 1) i ≤ 100 := by have := (odd_in (2 * (j : Int) + 1) i).2; omega
            have ES := Lib.hid (show odd (2 * (j : Int) + 1) (i + 1) = odd (2 * (j : Int) + 1) i + (if ((2 * (j : Int) + 1) + (i : Int)) % 2 = 1 then 2 else 0) from rfl)
            obtain ⟨O, hO⟩ : ∃ O, odd (2 * (j : Int) + 1) i = O := ⟨_, rfl⟩
            rw [hO] at o1 o2 ⊢
            have HOO := Lib.hid hO
            clear hO
            by_cases hlt : (2 * (j : Int) + 1) + (i : Int) < (2 * (k : Int))
            · by_cases hm : ((2 * (j : Int) + 1) + (i : Int)) % 2 = 1
              · have HM := Lib.hid hm
                have hm2 : (((2 * (j : Int) + 1) + (i : Int)) % 2 == 1) = true := by simpa using hm
                have hs0 : 0 ≤ (2 * (j : Int) + 1) + (i : Int) := by omega
                clear hm
                go_wp2
                go_round
                case rel => exact ⟨i + 1, by omega, (by first | rfl | (congr 1; omega)), by rw [ES.out, if_pos HM.out, HOO.out]⟩
                case measure => simp [intOf]; omega
              · have HM := Lib.hid hm
                have hm2 : (((2 * (j : Int) + 1) + (i : Int)) % 2 == 1) = false := by simpa using hm
                have hs0 : 0 ≤ (2 * (j : Int) + 1) + (i : Int) := by omega
                clear hm
                go_wp2
                go_round
                case rel => exact ⟨i + 1, by omega, (by first | rfl | (congr 1; omega)), by rw [ES.out, if_neg HM.out, HOO.out]; first | rfl | (congr 1; omega)⟩
                case measure => simp [intOf]; omega
            · have E := Lib.hid (show i = (2 * k - (2 * j + 1)) by omega)
              go_wp2
              go_ret2
              exact ⟨by rw [← ED.out, ← E.out, HOO.out]; rfl, HB2.out⟩
        · have ED := Lib.hid (show odd (2 * (k : Int)) (2 * j + 1 - (2 * k)) = max ((k : Int) - j) ((j : Int) - k) * 2 by have e := odd_even (k : Int) (2 * j + 1 - (2 * k)); omega)
          go_enter Try.func28, Try.ntmps28
          go_wp2_with fail
          refine (sBoth_any (k : Int) HO.out hl true HG.out).mono ?_
          rintro e w1 ⟨rfl, hb⟩
          have HB := Lib.hid (HB0.out.trans (below_le hb HB0.out.size))
          have HO1 := Lib.hid (Li.own_on HO.out hb)
          replace B := B.on hb
          clear hb q0 q1
          obtain ⟨-, q0, q1⟩ := id B
          go_wp2_with fail
          refine (sBoth_any (j : Int) HO1.out hl true HG2.out).mono ?_
          rintro e w2 ⟨rfl, hb⟩
          have HB2 := Lib.hid (HB.out.trans (below_le hb HB.out.size))
          clear hb B q0 q1 HB HO1
          go_wp2
          go_loop [14, 15] (fun n s => ∃ i : Nat, i ≤ (2 * j + 1 - (2 * k)) ∧ s = .int .i64 ((2 * (k : Int)) + (i : Int)) ∧ n = .int .i64 (odd (2 * (k : Int)) i)) (fun _ s => ((2 * (j : Int) + 1) - intOf s).toNat)
          case atStart => exact ⟨0, by omega, (by first | rfl | (congr 1; omega)), rfl⟩
          case round =>
            obtain ⟨i, hi, rfl, rfl⟩ := hrel
            have o1 := (odd_in (2 * (k : Int)) i).1
            have o2 : odd (2 * (k : Int)) i ≤ 100 := by have := (odd_in (2 * (k : Int)) i).2; omega
            have ES := Lib.hid (show odd (2 * (k : Int)) (i + 1) = odd (2 * (k : Int)) i + (if ((2 * (k : Int)) + (i : Int)) % 2 = 1 then 2 else 0) from rfl)
            obtain ⟨O, hO⟩ : ∃ O, odd (2 * (k : Int)) i = O := ⟨_, rfl⟩
            rw [hO] at o1 o2 ⊢
            have HOO := Lib.hid hO
            clear hO
            by_cases hlt : (2 * (k : Int)) + (i : Int) < (2 * (j : Int) + 1)
            · by_cases hm : ((2 * (k : Int)) + (i : Int)) % 2 = 1
              · have HM := Lib.hid hm
                have hm2 : (((2 * (k : Int)) + (i : Int)) % 2 == 1) = true := by simpa using hm
                have hs0 : 0 ≤ (2 * (k : Int)) + (i : Int) := by omega
                clear hm
                go_wp2
                go_round
                case rel => exact ⟨i + 1, by omega, (by first | rfl | (congr 1; omega)), by rw [ES.out, if_pos HM.out, HOO.out]⟩
                case measure => simp [intOf]; omega
              · have HM := Lib.hid hm
                have hm2 : (((2 * (k : Int)) + (i : Int)) % 2 == 1) = false := by simpa using hm
                have hs0 : 0 ≤ (2 * (k : Int)) + (i : Int) := by omega
                clear hm
                go_wp2
                go_round
                case rel => exact ⟨i + 1, by omega, (by first | rfl | (congr 1; omega)), by rw [ES.out, if_neg HM.out, HOO.out]; first | rfl | (congr 1; omega)⟩
                case measure => simp [intOf]; omega
            · have E := Lib.hid (show i = (2 * j + 1 - (2 * k)) by omega)
              go_wp2
              go_ret2
              exact ⟨by rw [← ED.out, ← E.out, HOO.out]; rfl, HB2.out⟩
      case true.true =>
        by_cases hc : 2 * (j : Int) < 2 * (k : Int)
        · have ED := Lib.hid (show odd (2 * (j : Int)) (2 * k - (2 * j)) = max ((k : Int) - j) ((j : Int) - k) * 2 by have e := odd_even (j : Int) (2 * k - (2 * j)); omega)
          go_enter Try.func28, Try.ntmps28
          go_wp2_with fail
          refine (sBoth_any (k : Int) HO.out hl true HG.out).mono ?_
          rintro e w1 ⟨rfl, hb⟩
          have HB := Lib.hid (HB0.out.trans (below_le hb HB0.out.size))
          have HO1 := Lib.hid (Li.own_on HO.out hb)
          replace B := B.on hb
          clear hb q0 q1
          obtain ⟨-, q0, q1⟩ := id B
          go_wp2_with fail
          refine (sBoth_any (j : Int) HO1.out hl true HG2.out).mono ?_
          rintro e w2 ⟨rfl, hb⟩
          have HB2 := Lib.hid (HB.out.trans (below_le hb HB.out.size))
          clear hb B q0 q1 HB HO1
          go_wp2
          go_loop [14, 15] (fun n s => ∃ i : Nat, i ≤ (2 * k - (2 * j)) ∧ s = .int .i64 ((2 * (j : Int)) + (i : Int)) ∧ n = .int .i64 (odd (2 * (j : Int)) i)) (fun _ s => ((2 * (k : Int)) - intOf s).toNat)
          case atStart => exact ⟨0, by omega, (by first | rfl | (congr 1; omega)), rfl⟩
          case round =>
            obtain ⟨i, hi, rfl, rfl⟩ := hrel
            have o1 := (odd_in (2 * (j : Int)) i).1
            have o2 : odd (2 * (j : Int)) i ≤ 100 := by have := (odd_in (2 * (j : Int)) i).2; omega
            have ES := Lib.hid (show odd (2 * (j : Int)) (i + 1) = odd (2 * (j : Int)) i + (if ((2 * (j : Int)) + (i : Int)) % 2 = 1 then 2 else 0) from rfl)
            obtain ⟨O, hO⟩ : ∃ O, odd (2 * (j : Int)) i = O := ⟨_, rfl⟩
            rw [hO] at o1 o2 ⊢
            have HOO := Lib.hid hO
            clear hO
            by_cases hlt : (2 * (j : Int)) + (i : Int) < (2 * (k : Int))
            · by_cases hm : ((2 * (j : Int)) + (i : Int)) % 2 = 1
              · have HM := Lib.hid hm
                have hm2 : (((2 * (j : Int)) + (i : Int)) % 2 == 1) = true := by simpa using hm
                have hs0 : 0 ≤ (2 * (j : Int)) + (i : Int) := by omega
                clear hm
                go_wp2
                go_round
                case rel => exact ⟨i + 1, by omega, (by first | rfl | (congr 1; omega)), by rw [ES.out, if_pos HM.out, HOO.out]⟩
                case measure => simp [intOf]; omega
              · have HM := Lib.hid hm
                have hm2 : (((2 * (j : Int)) + (i : Int)) % 2 == 1) = false := by simpa using hm
                have hs0 : 0 ≤ (2 * (j : Int)) + (i : Int) := by omega
                clear hm
                go_wp2
                go_round
                case rel => exact ⟨i + 1, by omega, (by first | rfl | (congr 1; omega)), by rw [ES.out, if_neg HM.out, HOO.out]; first | rfl | (congr 1; omega)⟩
                case measure => simp [intOf]; omega
            · have E := Lib.hid (show i = (2 * k - (2 * j)) by omega)
              go_wp2
              go_ret2
              exact ⟨by rw [← ED.out, ← E.out, HOO.out]; rfl, HB2.out⟩
        · have ED := Lib.hid (show odd (2 * (k : Int)) (2 * j - (2 * k)) = max ((k : Int) - j) ((j : Int) - k) * 2 by have e := odd_even (k : Int) (2 * j - (2 * k)); omega)
          go_enter Try.func28, Try.ntmps28
          go_wp2_with fail
          refine (sBoth_any (k : Int) HO.out hl true HG.out).mono ?_
          rintro e w1 ⟨rfl, hb⟩
          have HB := Lib.hid (HB0.out.trans (below_le hb HB0.out.size))
          have HO1 := Lib.hid (Li.own_on HO.out hb)
          replace B := B.on hb
          clear hb q0 q1
          obtain ⟨-, q0, q1⟩ := id B
          go_wp2_with fail
          refine (sBoth_any (j : Int) HO1.out hl true HG2.out).mono ?_
          rintro e w2 ⟨rfl, hb⟩
          have HB2 := Lib.hid (HB.out.trans (below_le hb HB.out.size))
          clear hb B q0 q1 HB HO1
          go_wp2
          go_loop [14, 15] (fun n s => ∃ i : Nat, i ≤ (2 * j - (2 * k)) ∧ s = .int .i64 ((2 * (k : Int)) + (i : Int)) ∧ n = .int .i64 (odd (2 * (k : Int)) i)) (fun _ s => ((2 * (j : Int)) - intOf s).toNat)
          case atStart => exact ⟨0, by omega, (by first | rfl | (congr 1; omega)), rfl⟩
          case round =>
            obtain ⟨i, hi, rfl, rfl⟩ := hrel
            have o1 := (odd_in (2 * (k : Int)) i).1
            have o2 : odd (2 * (k : Int)) i ≤ 100 := by have := (odd_in (2 * (k : Int)) i).2; omega
            have ES := Lib.hid (show odd (2 * (k : Int)) (i + 1) = odd (2 * (k : Int)) i + (if ((2 * (k : Int)) + (i : Int)) % 2 = 1 then 2 else 0) from rfl)
            obtain ⟨O, hO⟩ : ∃ O, odd (2 * (k : Int)) i = O := ⟨_, rfl⟩
            rw [hO] at o1 o2 ⊢
            have HOO := Lib.hid hO
            clear hO
            by_cases hlt : (2 * (k : Int)) + (i : Int) < (2 * (j : Int))
            · by_cases hm : ((2 * (k : Int)) + (i : Int)) % 2 = 1
              · have HM := Lib.hid hm
                have hm2 : (((2 * (k : Int)) + (i : Int)) % 2 == 1) = true := by simpa using hm
                have hs0 : 0 ≤ (2 * (k : Int)) + (i : Int) := by omega
                clear hm
                go_wp2
                go_round
                case rel => exact ⟨i + 1, by omega, (by first | rfl | (congr 1; omega)), by rw [ES.out, if_pos HM.out, HOO.out]⟩
                case measure => simp [intOf]; omega
              · have HM := Lib.hid hm
                have hm2 : (((2 * (k : Int)) + (i : Int)) % 2 == 1) = false := by simpa using hm
                have hs0 : 0 ≤ (2 * (k : Int)) + (i : Int) := by omega
                clear hm
                go_wp2
                go_round
                case rel => exact ⟨i + 1, by omega, (by first | rfl | (congr 1; omega)), by rw [ES.out, if_neg HM.out, HOO.out]; first | rfl | (congr 1; omega)⟩
                case measure => simp [intOf]; omega
            · have E := Lib.hid (show i = (2 * j - (2 * k)) by omega)
              go_wp2
              go_ret2
              exact ⟨by rw [← ED.out, ← E.out, HOO.out]; rfl, HB2.out⟩
end Sh
end Go.Proofs.Ytogkebbgkeffcaa
