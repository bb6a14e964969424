/- How many bindings there are, by the program. -/
import Derived.Test.YtabnjoohojojnaaBm
namespace Go.Proofs.Ytabnjoohojojnaa
open Go.RowKit Go.Joins Go.Deep Go.ChangeShapes Go.WideShapes
set_option linter.unusedVariables false
set_option linter.unusedSimpArgs false
namespace Ln
set_option maxRecDepth 100000 in
set_option maxHeartbeats 1000000 in
theorem iCountBindings (n : Int) (w : World) : Calls Try.prog 40 #[.int .i64 n] w fun e w' => e = .returned (.tuple #[.int .i64 (cbN n), .bool (inN n)]) ∧ w = w' := by
  by_cases c1 : n < 1
  · have e : inN n = false := by unfold inN; rw [Bool.eq_false_iff]; intro h; simp at h; omega
    rw [show cbN n = 0 by unfold cbN; rw [e]; rfl, e]
    clear e
    go_enter Try.func40, Try.ntmps40
    go_wp2
    go_ret2
    exact ⟨rfl, rfl⟩
  · by_cases c2 : 8 < n
    · have e : inN n = false := by unfold inN; rw [Bool.eq_false_iff]; intro h; simp at h; omega
      rw [show cbN n = 0 by unfold cbN; rw [e]; rfl, e]
      clear e
      go_enter Try.func40, Try.ntmps40
      go_wp2
      go_ret2
      exact ⟨rfl, rfl⟩
    · have e : inN n = true := by unfold inN; simp; omega
      obtain ⟨m, rfl⟩ := Int.eq_ofNat_of_zero_le (show 0 ≤ n by omega)
      rw [show cbN (m : Int) = (al m : Int) by unfold cbN; rw [e]; simp, e]
      have h8 : m ≤ 8 := by omega
      have h1 : 1 ≤ m := by omega
      obtain ⟨R, hR⟩ : ∃ R, al m = R := ⟨_, rfl⟩
      have HR := Lib.hid hR
      rw [hR]
      clear hR e c1 c2
      go_enter Try.func40, Try.ntmps40
      go_wp2
      go_loop [4, 5] (fun a k => ∃ (j A : Nat), 1 ≤ j ∧ j ≤ m + 1 ∧ k = .int .i64 (j : Int) ∧ a = .int .i64 (A : Int) ∧ Hid (A = al (j - 1))) (fun _ k => ((m : Int) + 1 - intOf k).toNat)
      case atStart => exact ⟨1, 1, by omega, by omega, rfl, rfl, Lib.hid rfl⟩
      case round =>
        obtain ⟨j, A, hm1, hm2, rfl, rfl, HA⟩ := hrel
        by_cases hlt : j ≤ m
        · have hlt2 : (j : Int) ≤ (m : Int) := by omega
          obtain ⟨A2, hA2⟩ : ∃ A2, A * (2 * j) = A2 := ⟨_, rfl⟩
          have HN := Lib.hid (show A2 = al (j + 1 - 1) by rw [← hA2, HA.out]; obtain ⟨i, rfl⟩ : ∃ i, j = i + 1 := ⟨j - 1, by omega⟩; rfl)
          have hA3 : A2 ≤ 10321920 := by rw [HN.out]; exact al_8 (by omega)
          have hA4 : A ≤ 10321920 := by rw [HA.out]; exact al_8 (by omega)
          have x0 : (A : Int) * (2 * (j : Int)) = (A2 : Int) := by rw [← hA2]; push_cast; rfl
          have x1 : wrap64 ((A : Int) * (2 * (j : Int))) = (A2 : Int) := by rw [x0]; exact IntWalk.wrap64_in _ (by omega)
          have HX := Lib.hid x1
          clear hA2 x0 x1
          go_wp2
          go_round
          case rel => exact ⟨j + 1, A2, by omega, by omega, by go_num, by rw [HX.out], HN⟩
          case measure => simp [intOf]; omega
        · have HE := Lib.hid (show A = R by rw [HA.out, ← HR.out, show j - 1 = m by omega])
          have hlt2 : ¬ (j : Int) ≤ (m : Int) := by omega
          go_wp2
          go_ret2
          exact ⟨by rw [HE.out] <;> rfl, rfl⟩
end Ln
end Go.Proofs.Ytabnjoohojojnaa
