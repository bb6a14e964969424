/- Stretched spaces: both sides. -/
import Derived.Test.YtbebojahjfnkiaaPk0a
namespace Go.Proofs.Ytbebojahjfnkiaa
open Go.RowKit Go.Joins Go.Deep Go.ChangeShapes Go.WideShapes
set_option linter.unusedVariables false
set_option linter.unusedSimpArgs false
namespace Ln
theorem wide80 {zs : List Int} {wide : Int} (h : fits zs wide = true) : wide ≤ 80 := by
  unfold fits wideB at h
  simp only [Bool.and_eq_true, decide_eq_true_eq] at h
  exact h.1.2.2
theorem ss_no {zs : List Int} {wide : Int} (h : ssB zs wide = false) : ssZ zs wide = [] := by unfold ssZ; rw [h]; rfl
set_option maxRecDepth 100000 in
set_option maxHeartbeats 2000000 in
theorem iStretch {b1 g len cap : Nat} {zs : List Int} {wide : Int} {w : World} (h : Ow w b1 g len cap zs) (hl : len ≤ 1048576) :
    Calls Try.prog 24 #[.slice (some ⟨g, 0, none⟩) len cap, .int .i64 wide] w (Gives (ssB zs wide) (ssZ zs wide) w) := by
  have hz := ow_len h
  obtain ⟨x1, hx1⟩ : ∃ x, good zs = x := ⟨_, rfl⟩
  have C1 := Lib.hid (iAreWords h hl x1 hx1)
  cases x1
  · have hs : ssB zs wide = false := by unfold ssB fits; rw [hx1]; rfl
    rw [hs, ss_no hs]
    clear h hx1 hs
    go_enter Try.func24, Try.ntmps24
    go_wp2_with fail
    refine C1.out.mono ?_
    rintro e w' ⟨rfl, rfl⟩
    go_wp2
    go_ret2
    exact ⟨_, rfl, World.ownsRow_nil _ _ _ _, Below.refl _ _⟩
  · by_cases c1 : len = 1
    · have hs : ssB zs wide = false := by unfold ssB; rw [hz, c1]; simp
      rw [hs, ss_no hs]
      subst c1
      clear h hx1 hs
      go_enter Try.func24, Try.ntmps24
      go_wp2_with fail
      refine C1.out.mono ?_
      rintro e w' ⟨rfl, rfl⟩
      go_wp2
      go_ret2
      exact ⟨_, rfl, World.ownsRow_nil _ _ _ _, Below.refl _ _⟩
    · have ho := (good_iff zs).1 hx1
      have h1 : 1 ≤ len := by have := ho.1; omega
      have h30 : len ≤ 30 := by have := ho.2.1; omega
      have tq : ((len : Int) == 1) = false := by rw [beq_eq_false_iff_ne]; omega
      obtain ⟨x2, hx2⟩ : ∃ x, wideB wide = x := ⟨_, rfl⟩
      have C2 := Lib.hid (fun W => isWide_any wide x2 hx2 W)
      cases x2
      · have hs : ssB zs wide = false := by unfold ssB fits; rw [hx1, hx2]; rfl
        rw [hs, ss_no hs]
        clear h hx1 hs ho hx2 c1
        go_enter Try.func24, Try.ntmps24
        go_wp2_with fail
        refine C1.out.mono ?_
        rintro e w' ⟨rfl, rfl⟩
        go_wp2_with fail
        refine (C2.out _).mono ?_
        rintro e w' ⟨rfl, rfl⟩
        go_wp2
        go_ret2
        exact ⟨_, rfl, World.ownsRow_nil _ _ _ _, Below.refl _ _⟩
      · have hw1 : 1 ≤ wide ∧ wide ≤ 80 := by unfold wideB at hx2; simp only [Bool.and_eq_true, decide_eq_true_eq] at hx2; exact hx2
        have CN := Lib.hid (widthOfLine_any (cap := cap) (seg_of h 0 len (by omega)) ho h1 (by omega))
        rw [Nat.zero_add] at CN
        have hnb : 1 ≤ need zs 0 len ∧ need zs 0 len ≤ 2430 := by
          have := need_el ho 0 (by omega)
          have := (ho.2.2 0 (by omega)).1
          have := psum_ok ho 0 len (by omega) (by omega)
          rw [hz] at *
          unfold need at *
          omega
        have u1 := hw1.1
        have u2 := hw1.2
        by_cases c2 : need zs 0 len ≤ wide
        · have hf := fits_need hx1 hx2 (by rw [hz]; exact c2)
          have hs : ssB zs wide = true := by unfold ssB; rw [hf, hz, decide_eq_false c1, decide_eq_true c2]; rfl
          obtain ⟨k, hk⟩ : ∃ k, len = k + 1 := ⟨len - 1, by omega⟩
          have HE := Lib.hid (show ssZ zs wide = sht (wide - need zs 0 len + (len : Int) - 1) k by unfold ssZ; rw [hs, hz, show len - 1 = k by omega]; rfl)
          rw [hs]
          obtain ⟨N, hN⟩ : ∃ N, need zs 0 len = N := ⟨_, rfl⟩
          rw [hN] at CN c2 hnb HE
          have n1 := hnb.1
          have n2 := hnb.2
          have t2 : decide (wide - N < 0) = false := by simp; omega
          have e1 : (len : Int) - 1 = (k : Int) := by omega
          have C3 := Lib.hid (fun W => evenParts_any (l0 := (k : Int) + (wide - N)) (n := k) (w := W) (by omega) (by omega) (by omega))
          rw [show wide - N + (len : Int) - 1 = (k : Int) + (wide - N) by omega] at HE
          clear hk h hx1 hs ho hN c1 hx2 hf hnb hw1
          go_enter Try.func24, Try.ntmps24
          go_wp2_with fail
          refine C1.out.mono ?_
          rintro e w' ⟨rfl, rfl⟩
          go_wp2_with fail
          refine (C2.out _).mono ?_
          rintro e w' ⟨rfl, rfl⟩
          go_wp2_with fail
          refine CN.out.mono ?_
          rintro e w' ⟨rfl, rfl⟩
          go_wp2_with fail
          refine (C3.out _).mono ?_
          rintro e w1 ⟨v, rfl, ho, hb⟩
          have HO := Lib.hid ho
          clear ho
          go_wp2
          go_ret2
          exact ⟨_, rfl, by rw [HE.out, sht_len]; exact HO.out, hb⟩
        · have hs : ssB zs wide = false := by unfold ssB; rw [hz, decide_eq_false c2, Bool.and_false]
          rw [hs, ss_no hs]
          obtain ⟨N, hN⟩ : ∃ N, need zs 0 len = N := ⟨_, rfl⟩
          rw [hN] at CN c2 hnb
          have n1 := hnb.1
          have n2 := hnb.2
          have t2 : decide (wide - N < 0) = true := by simp; omega
          clear h hx1 hs ho hN c1 c2 hx2 hnb hw1
          go_enter Try.func24, Try.ntmps24
          go_wp2_with fail
          refine C1.out.mono ?_
          rintro e w' ⟨rfl, rfl⟩
          go_wp2_with fail
          refine (C2.out _).mono ?_
          rintro e w' ⟨rfl, rfl⟩
          go_wp2_with fail
          refine CN.out.mono ?_
          rintro e w' ⟨rfl, rfl⟩
          go_wp2
          go_ret2
          exact ⟨_, rfl, World.ownsRow_nil _ _ _ _, Below.refl _ _⟩
end Ln
end Go.Proofs.Ytbebojahjfnkiaa
