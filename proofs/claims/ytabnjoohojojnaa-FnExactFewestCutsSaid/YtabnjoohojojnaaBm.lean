/- How many bindings there are, and which one a rank tells, by the model. -/
import Derived.Test.YtabnjoohojojnaaBk
import Derived.Test.YtabnjoohojojnaaBf
namespace Go.Proofs.Ytabnjoohojojnaa
open Go.RowKit Go.Joins Go.Deep Go.ChangeShapes Go.WideShapes
set_option linter.unusedVariables false
set_option linter.unusedSimpArgs false
namespace Ln
theorem al_mono {a b : Nat} (h : a ≤ b) : al a ≤ al b := by
  induction b with
  | zero => rw [show a = 0 by omega]; exact Nat.le_refl _
  | succ b ih =>
    by_cases e : a = b + 1
    · rw [e]; exact Nat.le_refl _
    · have := ih (by omega)
      rw [al_step]
      exact Nat.le_trans this (Nat.le_mul_of_pos_right _ (by omega))
theorem al_8 {n : Nat} (h : n ≤ 8) : al n ≤ 10321920 := by
  have h1 := al_mono h
  have e : al 8 = 10321920 := by decide
  omega
set_option maxRecDepth 100000 in
set_option maxHeartbeats 1000000 in
theorem biAll_any (n : Nat) (h8 : n ≤ 8) (w : World) : Calls Try.prog 66 #[.int .i64 (n : Int)] w fun e w' => e = .returned (.int .i64 (al n : Int)) ∧ w = w' := by
  obtain ⟨R, hR⟩ : ∃ R, al n = R := ⟨_, rfl⟩
  have HR := Lib.hid hR
  rw [hR]
  clear hR
  go_enter Try.func66, Try.ntmps66
  go_wp2
  go_loop [3, 4] (fun a k => ∃ (m A : Nat), 1 ≤ m ∧ m ≤ n + 1 ∧ k = .int .i64 (m : Int) ∧ a = .int .i64 (A : Int) ∧ Hid (A = al (m - 1))) (fun _ k => ((n : Int) + 1 - intOf k).toNat)
  case atStart => exact ⟨1, 1, by omega, by omega, rfl, rfl, Lib.hid rfl⟩
  case round =>
    obtain ⟨m, A, hm1, hm2, rfl, rfl, HA⟩ := hrel
    by_cases hlt : m ≤ n
    · have hlt2 : (m : Int) ≤ (n : Int) := by omega
      obtain ⟨A2, hA2⟩ : ∃ A2, A * (2 * m) = A2 := ⟨_, rfl⟩
      have HN := Lib.hid (show A2 = al (m + 1 - 1) by rw [← hA2, HA.out]; obtain ⟨j, rfl⟩ : ∃ j, m = j + 1 := ⟨m - 1, by omega⟩; rfl)
      have hA3 : A2 ≤ 10321920 := by rw [HN.out]; exact al_8 (by omega)
      have hA4 : A ≤ 10321920 := by rw [HA.out]; exact al_8 (by omega)
      have x0 : (A : Int) * (2 * (m : Int)) = (A2 : Int) := by rw [← hA2]; push_cast; rfl
      have x1 : wrap64 ((A : Int) * (2 * (m : Int))) = (A2 : Int) := by rw [x0]; exact IntWalk.wrap64_in _ (by omega)
      have HX := Lib.hid x1
      clear hA2 x0 x1
      go_wp2
      go_round
      case rel => exact ⟨m + 1, A2, by omega, by omega, by go_num, by rw [HX.out], HN⟩
      case measure => simp [intOf]; omega
    · have HE := Lib.hid (show A = R by rw [HA.out, ← HR.out, show m - 1 = n by omega])
      have hlt2 : ¬ (m : Int) ≤ (n : Int) := by omega
      go_wp2
      go_ret
      exact ⟨by rw [HE.out] <;> rfl, rfl⟩
def inN (n : Int) : Bool := decide (1 ≤ n) && decide (n ≤ 8)
def cbN (n : Int) : Int := if inN n = true then (al n.toNat : Int) else 0
set_option maxRecDepth 100000 in
theorem biLeaves_any (n : Int) (v : Bool) (hv : inN n = v) (w : World) : Calls Try.prog 65 #[.int .i64 n] w fun e w' => e = .returned (.bool v) ∧ w = w' := by
  have C := Lib.hid (fun w => l1In_any n 1 8 v hv w)
  clear hv
  go_enter Try.func65, Try.ntmps65
  go_wp2_with fail
  refine (C.out _).mono ?_
  rintro e w' ⟨rfl, rfl⟩
  go_wp2
  go_ret
  exact ⟨rfl, rfl⟩
set_option maxRecDepth 100000 in
theorem sCountBindings (n : Int) (w : World) : Calls Try.prog 39 #[.int .i64 n] w (Ret (.tuple #[.int .i64 (cbN n), .bool (inN n)]) w) := by
  obtain ⟨v, hv⟩ : ∃ v, inN n = v := ⟨_, rfl⟩
  have C := Lib.hid (fun w => biLeaves_any n v hv w)
  cases v
  · rw [show cbN n = 0 by unfold cbN; rw [hv]; rfl, hv]
    clear hv
    go_enter Try.func39, Try.ntmps39
    go_wp2_with fail
    refine (C.out _).mono ?_
    rintro e w' ⟨rfl, rfl⟩
    go_wp2
    go_ret2
    exact ⟨rfl, Below.refl _ _⟩
  · have h18 : 1 ≤ n ∧ n ≤ 8 := by unfold inN at hv; simpa using hv
    obtain ⟨m, rfl⟩ := Int.eq_ofNat_of_zero_le (show 0 ≤ n by omega)
    rw [show cbN (m : Int) = (al m : Int) by unfold cbN; rw [hv]; simp, hv]
    have C2 := Lib.hid (fun w => biAll_any m (by omega) w)
    obtain ⟨R, hR⟩ : ∃ R, al m = R := ⟨_, rfl⟩
    rw [hR] at C2 ⊢
    clear hv h18 hR
    go_enter Try.func39, Try.ntmps39
    go_wp2_with fail
    refine (C.out _).mono ?_
    rintro e w' ⟨rfl, rfl⟩
    go_wp2_with fail
    refine (C2.out _).mono ?_
    rintro e w' ⟨rfl, rfl⟩
    go_wp2
    go_ret2
    exact ⟨rfl, Below.refl _ _⟩
theorem fr_of (zs : List Int) (n i d : Nat) (x : Int) (hx : x = (d : Int) - (n : Int)) : fr zs n i d = (!(decide (x = 0)) && (!(hasTo zs x i) && !(hasTo zs (-x) i))) := by subst hx; rfl
theorem rk_8 {zs : List Int} {n i : Nat} (h8 : n ≤ 8) (hi : i ≤ n) (h : Pre zs n i) : rk zs n i ≤ 10321920 := by
  have h1 := rk_bd i hi h
  have h2 := al_8 h8
  have h3 := al_pos (n - i)
  have h4 : (rk zs n i + 1) * 1 ≤ (rk zs n i + 1) * al (n - i) := Nat.mul_le_mul_left _ h3
  omega
set_option maxRecDepth 100000 in
set_option maxHeartbeats 4000000 in
theorem biRank_any {b1 g len cap : Nat} {zs : List Int} {w : World} (h : Ow w b1 g len cap zs) (hB : Bnd zs) :
    Calls Try.prog 63 #[.slice (some ⟨g, 0, none⟩) len cap] w fun e w' => e = .returned (.int .i64 (rk zs len len : Int)) ∧ w = w' := by
  have hz := ow_len h
  have h8 : len ≤ 8 := by have := hB.2.1; omega
  have hcap := (ow_cap h).1
  have hcap2 := (ow_cap h).2
  unfold maxLen at hcap2
  have HO := Lib.hid h
  have HP := Lib.hid (show Pre zs len len by have := pre_of hB; rw [hz] at this; exact this)
  obtain ⟨R, hR⟩ : ∃ R, rk zs len len = R := ⟨_, rfl⟩
  have HR := Lib.hid hR
  rw [hR]
  clear h hB hz hR
  go_enter Try.func63, Try.ntmps63
  go_wp2
  go_loop [3, 10] (fun r i => ∃ (k K : Nat), k ≤ len ∧ i = .int .i64 (k : Int) ∧ r = .int .i64 (K : Int) ∧ Hid (K = rk zs len k)) (fun _ i => ((len : Int) - intOf i).toNat)
  case atStart => exact ⟨0, 0, by omega, rfl, rfl, Lib.hid rfl⟩
  case round =>
    obtain ⟨k, K, hk, rfl, rfl, HK⟩ := hrel
    by_cases hlt : (k : Int) < len
    · obtain ⟨z, HZK, hc⟩ := ow_at HO.out (k := k) (by omega)
      have hkc : k ≤ cap := by omega
      have hzb := HP.out k (by omega)
      rw [HZK.out] at hzb
      have z1 : -8 ≤ z := by omega
      have z2 : z ≤ 8 := by omega
      have z3 : -(len : Int) ≤ z := hzb.1
      have z4 : z ≤ (len : Int) := hzb.2.1
      have hK : K ≤ 10321920 := by rw [HK.out]; exact rk_8 h8 (by omega) (pre_le HP.out (by omega))
      have h8I : (len : Int) ≤ 8 := by omega
      obtain ⟨P, hP⟩ : ∃ P, K * 2 * (len - k) = P := ⟨_, rfl⟩
      have hP2 : P ≤ 10321920 * 2 * 8 := by rw [← hP]; exact Nat.mul_le_mul (Nat.mul_le_mul_right 2 hK) (by omega)
      have hlk : (len : Int) - (k : Int) = ((len - k : Nat) : Int) := by omega
      have x1 : wrap64 ((K : Int) * 2 * ((len : Int) - (k : Int))) = (P : Int) := by
        rw [hlk, show (K : Int) * 2 * ((len - k : Nat) : Int) = ((K * 2 * (len - k) : Nat) : Int) by push_cast; rfl, hP]
        exact IntWalk.wrap64_in _ (by omega)
      have HS := Lib.hid (show rk zs len (k + 1) = P + cn (fr zs len k) (z + len).toNat by rw [rk_step, ← HK.out, hP]; unfold bef; rw [HZK.out])
      clear hzb hP hlk
      go_wp2
      go_loop [6, 7] (fun b x => ∃ (d C : Nat) (y : Int), (y ≤ z ∧ -(len : Int) ≤ y) ∧ C ≤ d ∧ d ≤ 16 ∧ x = .int .i64 y ∧ b = .int .i64 (C : Int) ∧ Hid (y = (d : Int) - (len : Int) ∧ C = cn (fr zs len k) d)) (fun _ x => (z - intOf x).toNat)
      case atStart => exact ⟨0, 0, -(len : Int), ⟨by omega, by omega⟩, by omega, by omega, rfl, rfl, Lib.hid ⟨by omega, rfl⟩⟩
      case round =>
        obtain ⟨d, C, y, ⟨hy1, hy2⟩, hC, hd, rfl, rfl, HY⟩ := hrel
        by_cases hyz : y < z
        · have HD := Lib.hid (show d + 1 ≤ 16 by have := HY.out.1; omega)
          have HN := Lib.hid (show cn (fr zs len k) (d + 1) = C + (if fr zs len k d = true then 1 else 0) by rw [cn_step, ← HY.out.2])
          obtain ⟨x3, hx3⟩ : ∃ x, hasTo zs y k = x := ⟨_, rfl⟩
          obtain ⟨x4, hx4⟩ : ∃ x, hasTo zs (-y) k = x := ⟨_, rfl⟩
          have HF := Lib.hid (fr_of zs len k d y HY.out.1)
          rw [hx3, hx4] at HF
          have C3 := Lib.hid (l1Has_any (w := w) (cp := cap) y HO.out (by omega) k (by omega) x3 hx3)
          have C4 := Lib.hid (l1Has_any (w := w) (cp := cap) (-y) HO.out (by omega) k (by omega) x4 hx4)
          have y1 : -8 ≤ y := by omega
          have y2 : y ≤ 8 := by omega
          clear hx3 hx4
          by_cases c0 : y = 0
          · have HE := Lib.hid (show C = cn (fr zs len k) (d + 1) by rw [HN.out, HF.out]; simp [c0])
            have t0 : (y == 0) = true := by simpa using c0
            have t1 : (y != 0) = false := by simp [c0]
            clear c0
            go_wp2
            go_round
            case rel => exact ⟨d + 1, C, y + 1, ⟨by omega, by omega⟩, by omega, HD.out, rfl, rfl, Lib.hid ⟨by have := HY.out.1; omega, HE.out⟩⟩
            case measure => simp [intOf]; omega
          · have HF2 := Lib.hid (show fr zs len k d = (!x3 && !x4) by rw [HF.out]; simp [c0])
            have t0 : (y == 0) = false := by simpa using c0
            have t1 : (y != 0) = true := by simpa using c0
            clear c0
            cases x3
            · cases x4
              · have HE := Lib.hid (show C + 1 = cn (fr zs len k) (d + 1) by rw [HN.out, HF2.out]; rfl)
                go_wp2_with fail
                refine C3.out.mono ?_
                rintro e w' ⟨rfl, rfl⟩
                go_wp2_with fail
                refine C4.out.mono ?_
                rintro e w' ⟨rfl, rfl⟩
                go_wp2
                go_round
                case rel => exact ⟨d + 1, C + 1, y + 1, ⟨by omega, by omega⟩, by omega, HD.out, rfl, by go_num, Lib.hid ⟨by have := HY.out.1; omega, HE.out⟩⟩
                case measure => simp [intOf]; omega
              · have HE := Lib.hid (show C = cn (fr zs len k) (d + 1) by rw [HN.out, HF2.out]; rfl)
                go_wp2_with fail
                refine C3.out.mono ?_
                rintro e w' ⟨rfl, rfl⟩
                go_wp2_with fail
                refine C4.out.mono ?_
                rintro e w' ⟨rfl, rfl⟩
                go_wp2
                go_round
                case rel => exact ⟨d + 1, C, y + 1, ⟨by omega, by omega⟩, by omega, HD.out, rfl, rfl, Lib.hid ⟨by have := HY.out.1; omega, HE.out⟩⟩
                case measure => simp [intOf]; omega
            · have HE := Lib.hid (show C = cn (fr zs len k) (d + 1) by rw [HN.out, HF2.out]; rfl)
              go_wp2_with fail
              refine C3.out.mono ?_
              rintro e w' ⟨rfl, rfl⟩
              go_wp2
              go_round
              case rel => exact ⟨d + 1, C, y + 1, ⟨by omega, by omega⟩, by omega, HD.out, rfl, rfl, Lib.hid ⟨by have := HY.out.1; omega, HE.out⟩⟩
              case measure => simp [intOf]; omega
        · have HE := Lib.hid (show P + C = rk zs len (k + 1) by
            have h1 := HY.out.1
            rw [HS.out, HY.out.2, show (z + (len : Int)).toNat = d by omega])
          have hyz2 : ¬ y < z := hyz
          go_wp2
          go_round
          case rel => exact ⟨k + 1, P + C, by omega, by go_num, by go_num, Lib.hid HE.out⟩
          case measure => simp [intOf]; omega
    · have HE := Lib.hid (show K = R by rw [HK.out, ← HR.out, show k = len by omega])
      go_wp2
      go_ret
      exact ⟨by rw [HE.out] <;> rfl, rfl⟩
def rnN (zs : List Int) : Int := if bnd zs = true then (rk zs zs.length zs.length : Int) else 0
set_option maxRecDepth 100000 in
theorem sRankOfBinding {b1 g len cap : Nat} {zs : List Int} {w : World} (h : Ow w b1 g len cap zs) (hl : len ≤ 1048576) :
    Calls Try.prog 35 #[.slice (some ⟨g, 0, none⟩) len cap] w (Ret (.tuple #[.int .i64 (rnN zs), .bool (bnd zs)]) w) := by
  obtain ⟨v, hv⟩ : ∃ v, bnd zs = v := ⟨_, rfl⟩
  have C1 := Lib.hid (biGood_any h hl v hv)
  rw [hv]
  cases v
  · rw [show rnN zs = 0 by unfold rnN; rw [hv]; rfl]
    clear h hv
    go_enter Try.func35, Try.ntmps35
    go_wp2_with fail
    refine C1.out.mono ?_
    rintro e w' ⟨rfl, rfl⟩
    go_wp2
    go_ret2
    exact ⟨rfl, Below.refl _ _⟩
  · rw [show rnN zs = (rk zs len len : Int) by unfold rnN; rw [hv, ow_len h]; rfl]
    have C2 := Lib.hid (biRank_any h ((bnd_iff zs).1 hv))
    obtain ⟨R, hR⟩ : ∃ R, rk zs len len = R := ⟨_, rfl⟩
    rw [hR] at C2 ⊢
    clear h hv hR
    go_enter Try.func35, Try.ntmps35
    go_wp2_with fail
    refine C1.out.mono ?_
    rintro e w' ⟨rfl, rfl⟩
    go_wp2_with fail
    refine C2.out.mono ?_
    rintro e w' ⟨rfl, rfl⟩
    go_wp2
    go_ret2
    exact ⟨rfl, Below.refl _ _⟩
end Ln
end Go.Proofs.Ytabnjoohojojnaa
