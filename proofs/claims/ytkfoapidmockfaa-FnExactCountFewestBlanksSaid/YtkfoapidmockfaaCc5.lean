/- CountFewestBlanks from both sides. -/
import Derived.Test.YtkfoapidmockfaaCo5
namespace Go.Proofs.Ytkfoapidmockfaa
open Go.RowKit Go.Joins Go.Deep Go.ChangeShapes Go.WideShapes
set_option linter.unusedVariables false
set_option linter.unusedSimpArgs false
namespace Ch
open Sh
set_option maxRecDepth 100000 in
set_option maxHeartbeats 1000000 in
theorem sCount {b1 g len cap : Nat} {zs : List Int} {w : World} (h : Ow w b1 g len cap zs) (hl : len ≤ 1048576) :
    Calls Try.prog 22 #[.slice (some ⟨g, 0, none⟩) len cap] w (Ret (.tuple #[.int .i64 (cfv zs), .bool (good zs)]) w) := by
  have HO := Lib.hid h
  have hz := ow_len h
  cases hg : good zs with
  | false =>
    have HG := Lib.hid hg
    have E := Lib.hid (cf_no hg)
    rw [E.out]
    clear h hz hg
    go_enter Try.func22, Try.ntmps22
    go_wp2_with fail
    refine (sGood_any HO.out hl false HG.out).mono ?_
    rintro e w' ⟨rfl, rfl⟩
    go_wp2
    go_ret2
    exact ⟨rfl, Below.refl _ _⟩
  | true =>
    have HG := Lib.hid hg
    have ho := Lib.hid ((good_iff zs).1 hg)
    have hl12 : len ≤ 12 := by have := ho.out.2.1; omega
    have hl1 : 1 ≤ len := by have := ho.out.1; omega
    obtain ⟨U, hU⟩ : ∃ U, od zs len = U := ⟨_, rfl⟩
    obtain ⟨c, hc⟩ : ∃ c, cf0 zs = c := ⟨_, rfl⟩
    have hc12 : c ≤ 12 := by have := cf0_le (zs := zs); omega
    have hcU : c = if U = 0 then len else U := by rw [← hc]; unfold cf0; rw [hz, hU]
    have hu := od_le zs len
    rw [hU] at hu
    have E := Lib.hid (show cfv zs = ((c * G (len - 2) : Nat) : Int) by rw [cf_yes hg, hz, hc])
    have C := Lib.hid (caOdd_any h ho.out)
    rw [hU] at C
    rw [E.out]
    have st : Hid (((c * G 0 : Nat) : Int) = (c : Int)) := Lib.hid (by simp [G])
    by_cases u0 : U = 0
    all_goals
      have ec : Hid ((c : Int) = if U = 0 then (len : Int) else (U : Int)) := Lib.hid (by rw [hcU]; split <;> rfl)
      first | (have t1 : ((U : Int) == 0) = true := by simp [u0]) | (have t1 : ((U : Int) == 0) = false := by simp [u0])
      have u1 := Lib.hid u0
      clear h hz hg hU hc hcU u0
      go_enter Try.func22, Try.ntmps22
      go_wp2_with fail
      refine (sGood_any HO.out hl true HG.out).mono ?_
      rintro e w' ⟨rfl, rfl⟩
      go_wp2_with fail
      refine C.out.mono ?_
      rintro e w' ⟨rfl, rfl⟩
      go_wp2
      go_loop [4, 5] (fun n i => ∃ j : Nat, j ≤ len - 2 ∧ i = .int .i64 ((j : Int) + 2) ∧ n = .int .i64 ((c * G j : Nat) : Int)) (fun _ i => ((len : Int) - intOf i).toNat)
      case atStart => exact ⟨0, by omega, rfl, by rw [st.out, ec.out]; first | rw [if_pos u1.out] | rw [if_neg u1.out]⟩
      case round =>
        obtain ⟨j, hj, rfl, rfl⟩ := hrel
        have hb := cf_big hc12 (show j ≤ 10 by omega)
        have S := Lib.hid (cf_step c j)
        by_cases hlt : (j : Int) + 2 < len
        · generalize c * G j = P at *
          have hp0 : (0 : Int) ≤ (P : Int) * ((j : Int) + 2) := Int.mul_nonneg (by omega) (by omega)
          have hp1 : (P : Int) * ((j : Int) + 2) ≤ 479001600 * 12 := Int.mul_le_mul (by omega) (by omega) (by omega) (by omega)
          go_wp2
          go_round
          case rel => exact ⟨j + 1, by omega, by first | rfl | go_num, by rw [S.out] <;> first | rfl | go_num⟩
          case measure => simp [intOf]; omega
        · have EJ := Lib.hid (show j = len - 2 by omega)
          go_wp2
          go_ret2
          exact ⟨by rw [← EJ.out]; rfl, Below.refl _ _⟩
set_option maxRecDepth 100000 in
set_option maxHeartbeats 1000000 in
theorem iCount {b1 g len cap : Nat} {zs : List Int} {w : World} (h : Ow w b1 g len cap zs) (hl : len ≤ 1048576) :
    Calls Try.prog 23 #[.slice (some ⟨g, 0, none⟩) len cap] w (Ret (.tuple #[.int .i64 (cfv zs), .bool (good zs)]) w) := by
  have HO := Lib.hid h
  have hz := ow_len h
  cases hg : good zs with
  | false =>
    have HG := Lib.hid hg
    have E := Lib.hid (cf_no hg)
    rw [E.out]
    clear h hz hg
    go_enter Try.func23, Try.ntmps23
    go_wp2_with fail
    refine (iGood_any HO.out hl false HG.out).mono ?_
    rintro e w' ⟨rfl, rfl⟩
    go_wp2
    go_ret2
    exact ⟨rfl, Below.refl _ _⟩
  | true =>
    have HG := Lib.hid hg
    have ho := Lib.hid ((good_iff zs).1 hg)
    have hl12 : len ≤ 12 := by have := ho.out.2.1; omega
    have hl1 : 1 ≤ len := by have := ho.out.1; omega
    obtain ⟨U, hU⟩ : ∃ U, od zs len = U := ⟨_, rfl⟩
    obtain ⟨c, hc⟩ : ∃ c, cf0 zs = c := ⟨_, rfl⟩
    have hc12 : c ≤ 12 := by have := cf0_le (zs := zs); omega
    have hcU : c = if U = 0 then len else U := by rw [← hc]; unfold cf0; rw [hz, hU]
    have hu := od_le zs len
    rw [hU] at hu
    have E := Lib.hid (show cfv zs = ((c * G (len - 2) : Nat) : Int) by rw [cf_yes hg, hz, hc])
    have C := Lib.hid (countOdd_any h ho.out)
    rw [hU] at C
    rw [E.out]
    have st : Hid (((c * G 0 : Nat) : Int) = (c : Int)) := Lib.hid (by simp [G])
    by_cases u0 : U = 0
    all_goals
      have ec : Hid ((c : Int) = if U = 0 then (len : Int) else (U : Int)) := Lib.hid (by rw [hcU]; split <;> rfl)
      first | (have t1 : ((U : Int) == 0) = true := by simp [u0]) | (have t1 : ((U : Int) == 0) = false := by simp [u0])
      have u1 := Lib.hid u0
      clear h hz hg hU hc hcU u0
      go_enter Try.func23, Try.ntmps23
      go_wp2_with fail
      refine (iGood_any HO.out hl true HG.out).mono ?_
      rintro e w' ⟨rfl, rfl⟩
      go_wp2_with fail
      refine C.out.mono ?_
      rintro e w' ⟨rfl, rfl⟩
      go_wp2
      go_loop [4, 5] (fun n i => ∃ j : Nat, j ≤ len - 2 ∧ i = .int .i64 ((j : Int) + 2) ∧ n = .int .i64 ((c * G j : Nat) : Int)) (fun _ i => ((len : Int) - intOf i).toNat)
      case atStart => exact ⟨0, by omega, rfl, by rw [st.out, ec.out]; first | rw [if_pos u1.out] | rw [if_neg u1.out]⟩
      case round =>
        obtain ⟨j, hj, rfl, rfl⟩ := hrel
        have hb := cf_big hc12 (show j ≤ 10 by omega)
        have S := Lib.hid (cf_step c j)
        by_cases hlt : (j : Int) + 2 < len
        · generalize c * G j = P at *
          have hp0 : (0 : Int) ≤ (P : Int) * ((j : Int) + 2) := Int.mul_nonneg (by omega) (by omega)
          have hp1 : (P : Int) * ((j : Int) + 2) ≤ 479001600 * 12 := Int.mul_le_mul (by omega) (by omega) (by omega) (by omega)
          go_wp2
          go_round
          case rel => exact ⟨j + 1, by omega, by first | rfl | go_num, by rw [S.out] <;> first | rfl | go_num⟩
          case measure => simp [intOf]; omega
        · have EJ := Lib.hid (show j = len - 2 by omega)
          go_wp2
          go_ret2
          exact ⟨by rw [← EJ.out]; rfl, Below.refl _ _⟩
end Ch
end Go.Proofs.Ytkfoapidmockfaa
