/- The cost of lines: the model. -/
import Derived.Test.YtdpblijmagcgiaaPf0
namespace Go.Proofs.Ytdpblijmagcgiaa
open Go.RowKit Go.Joins Go.Deep Go.ChangeShapes Go.WideShapes
set_option linter.unusedVariables false
set_option linter.unusedSimpArgs false
namespace Ln
theorem sqs_min {us : List Int} {wide : Int} {p k : Nat} (hk : k ≤ p) : sqs us wide (min k p) = sqs us wide k := by rw [Nat.min_eq_left hk]
set_option maxRecDepth 100000 in
set_option maxHeartbeats 4000000 in
theorem sRagged {b1 b2 g g' len len' cap cap' : Nat} {zs ls : List Int} {wide : Int} {w : World} (h : Ow w b1 g len cap zs) (h' : Ow w b2 g' len' cap' ls) (hl : len ≤ 1048576) (hl' : len' ≤ 1048576) :
    Calls Try.prog 25 #[.slice (some ⟨g, 0, none⟩) len cap, .int .i64 wide, .slice (some ⟨g', 0, none⟩) len' cap'] w (Ret (.tuple #[.int .i64 (rgN zs ls wide), .bool (rgB zs ls wide)]) w) := by
  have hz' := ow_len h'
  obtain ⟨x1, hx1⟩ : ∃ x, lines zs ls = x := ⟨_, rfl⟩
  have C1 := Lib.hid (lnLines_any h h' hl hl' x1 hx1)
  cases x1
  · have hv : rgB zs ls wide = false := by unfold rgB; rw [hx1]; rfl
    have HN := Lib.hid (show (0 : Int) = rgN zs ls wide by unfold rgN; rw [hv]; rfl)
    rw [hv]
    clear h h' hv hx1
    go_enter Try.func25, Try.ntmps25
    go_wp2_with fail
    refine C1.out.mono ?_
    rintro e w1 ⟨rfl, rfl⟩
    go_wp2
    go_ret2
    exact ⟨rnb HN.out, Below.refl _ _⟩
  · obtain ⟨x2, hx2⟩ : ∃ x, wideB wide = x := ⟨_, rfl⟩
    have C2 := Lib.hid (fun W => lnWide_any wide x2 hx2 W)
    have hrb : rgB zs ls wide = (x2 && allB (usd zs ls len') 1 wide) := by unfold rgB; rw [hx1, hx2, hz']; rfl
    cases x2
    · have hv : rgB zs ls wide = false := by rw [hrb]; rfl
      have HN := Lib.hid (show (0 : Int) = rgN zs ls wide by unfold rgN; rw [hv]; rfl)
      rw [hv]
      clear h h' hv hx1 hrb
      go_enter Try.func25, Try.ntmps25
      go_wp2_with fail
      refine C1.out.mono ?_
      rintro e w1 ⟨rfl, rfl⟩
      go_wp2_with fail
      refine (C2.out _).mono ?_
      rintro e w1 ⟨rfl, rfl⟩
      go_wp2
      go_ret2
      exact ⟨rnb HN.out, Below.refl _ _⟩
    · have C3 := Lib.hid (lnUsed_any h h' hx1)
      have hul := usd_len zs ls len'
      have hpos := usd_pos hx1
      have hone := lines_one hx1
      rw [hz'] at hpos hone
      have h30 : len' ≤ 30 := by have := (lines_ok hx1).2.1; have := (lines_ok hx1).1.2.1; omega
      have hw : wide ≤ 80 := by unfold wideB at hx2; simp at hx2; omega
      have hw1 : 1 ≤ wide := by unfold wideB at hx2; simp at hx2; omega
      have hrn : rgN zs ls wide = if rgB zs ls wide = true then sqs (usd zs ls len') wide (len' - 1) else 0 := by unfold rgN; rw [hz']
      obtain ⟨us, hue⟩ : ∃ us, usd zs ls len' = us := ⟨_, rfl⟩
      rw [hue] at C3 hul hpos hrb hrn
      obtain ⟨x3, hx3⟩ : ∃ x, allB us 1 wide = x := ⟨_, rfl⟩
      rw [hx3, Bool.true_and] at hrb
      rw [hrb] at hrn ⊢
      have HX := Lib.hid hx3
      have HN := Lib.hid hrn
      have HP := Lib.hid hpos
      have HU := Lib.hid hul
      clear h h' hx1 hue hrb hrn hx3 hpos hul
      obtain ⟨p, rfl⟩ : ∃ p, len' = p + 1 := ⟨len' - 1, by omega⟩
      go_enter Try.func25, Try.ntmps25
      go_wp2_with fail
      refine C1.out.mono ?_
      rintro e w1 ⟨rfl, rfl⟩
      go_wp2_with fail
      refine (C2.out _).mono ?_
      rintro e w1 ⟨rfl, rfl⟩
      go_wp2_with fail
      refine C3.out.mono ?_
      rintro e w1 ⟨v, rfl, ho, hb⟩
      have HB := Lib.hid hb
      obtain ⟨gq, cp, rfl⟩ : ∃ gq cp, v = .slice (some ⟨gq, 0, none⟩) (p + 1) cp := by
        rcases Li.own_forms ho with ⟨_, h0⟩ | h1
        · omega
        · exact h1
      have HO := Lib.hid ho
      have r2 : ((p + 1 : Nat) : Int) - 1 = (p : Int) := by omega
      clear ho hb
      go_wp2
      go_loop [8, 26] (fun s i => ∃ (k : Nat) (S : Int), k ≤ p + 1 ∧ i = .int .i64 (k : Int) ∧ s = .int .i64 S ∧ Hid (S = sqs us wide (min k p)) ∧ Hid (∀ j, j < k → us.getD j 0 ≤ wide) ∧ 0 ≤ S ∧ S ≤ 6400 * (k : Int)) (fun _ i => ((p : Int) + 1 - intOf i).toNat)
      case atStart => exact ⟨0, 0, by omega, rfl, rfl, Lib.hid (by simp [sqs]), Lib.hid (fun j hj => by omega), by omega, by omega⟩
      case round =>
        obtain ⟨k, S, hk, rfl, rfl, HS, HA, s1, s2⟩ := hrel
        by_cases hlt : (k : Int) < ((p + 1 : Nat) : Int)
        · obtain ⟨z, HZK, hcz⟩ := ow_at HO.out (k := k) (by omega)
          have hz := HP.out k (by omega)
          rw [HZK.out] at hz
          have z1 := hz.1
          have z2 := hz.2
          clear hz
          by_cases c1 : wide < z
          · have E := Lib.hid (show x3 = false by
              rw [← HX.out]
              cases h2 : allB us 1 wide with
              | false => rfl
              | true =>
                have h3 := ((allB_iff us 1 wide).1 h2 k (by rw [HU.out]; omega)).2
                rw [HZK.out] at h3
                omega)
            have HN2 := Lib.hid (show rgN zs ls wide = 0 by rw [HN.out, E.out]; rfl)
            go_wp2
            go_ret2
            exact ⟨by rw [HN2.out, E.out]; rfl, HB.out⟩
          · have t1 : decide (wide < z) = false := decide_eq_false c1
            have HA2 := Lib.hid (show ∀ j, j < k + 1 → us.getD j 0 ≤ wide from fun j hj => by
              by_cases e : j = k
              · subst e; rw [HZK.out]; omega
              · exact HA.out j (by omega))
            by_cases c2 : k < p
            · have t2 : (k : Int) < (p : Int) := by omega
              have hq := sq_bd (d := wide - z) (by omega) (by omega)
              have HS2 := Lib.hid (show S + (wide - z) * (wide - z) = sqs us wide (min (k + 1) p) by rw [sqs_min (by omega), sqs_step, HZK.out, HS.out, sqs_min (by omega)])
              obtain ⟨D, hD⟩ : ∃ D, (wide - z) * (wide - z) = D := ⟨_, rfl⟩
              rw [hD] at hq HS2
              have q1 := hq.1
              have q2 := hq.2
              have s3 : S + D ≤ 6400 * ((k + 1 : Nat) : Int) := by omega
              have s4 : S ≤ 192000 := by omega
              clear hq
              go_wp2
              go_round
              case rel => exact ⟨k + 1, S + D, by omega, by go_num, by first | rfl | go_num, HS2, HA2, by omega, s3⟩
              case measure => simp [intOf]; omega
            · have t2 : ¬ (k : Int) < (p : Int) := by omega
              have HS2 := Lib.hid (show S = sqs us wide (min (k + 1) p) by rw [HS.out, Nat.min_eq_right (by omega), Nat.min_eq_right (by omega)])
              go_wp2
              go_round
              case rel => exact ⟨k + 1, S, by omega, by go_num, rfl, HS2, HA2, by omega, by omega⟩
              case measure => simp [intOf]; omega
        · have E := Lib.hid (show x3 = true by
            rw [← HX.out]
            exact (allB_iff us 1 wide).2 fun j hj => ⟨(HP.out j (by have := HU.out; omega)).1, HA.out j (by have := HU.out; omega)⟩)
          have HN2 := Lib.hid (show rgN zs ls wide = S by rw [HN.out, E.out, HS.out, Nat.min_eq_right (by omega)]; rfl)
          go_wp2
          go_ret2
          exact ⟨by rw [HN2.out, E.out]; rfl, HB.out⟩
end Ln
end Go.Proofs.Ytdpblijmagcgiaa
