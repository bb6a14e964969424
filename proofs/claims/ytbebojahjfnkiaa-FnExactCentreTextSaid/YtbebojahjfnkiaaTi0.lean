/- CentreText of the model. -/
import Derived.Test.YtbebojahjfnkiaaTh0
namespace Go.Proofs.Ytbebojahjfnkiaa
open Go.RowKit Go.Joins Go.Deep Go.ChangeShapes Go.WideShapes Go.Lib
set_option linter.unusedVariables false
set_option linter.unusedSimpArgs false
namespace Ln
set_option maxRecDepth 100000 in
set_option maxHeartbeats 4000000 in
theorem sCentre (l : List UInt8) (wide : Int) (hl : l.length ≤ 1048576) (w : World) :
    Calls Try.prog 13 #[.string ⟨l.toArray⟩, .int .i64 wide] w (Ret (.tuple #[.string (ctT l wide), .bool (ctB l wide)]) w) := by
  have C1 := Lib.hid (fun W => lnText_any l hl W)
  have hsz := ba_size l
  obtain ⟨x1, hx1⟩ : ∃ x, txtB l = x := ⟨_, rfl⟩
  rw [hx1] at C1
  obtain ⟨T, hT⟩ : ∃ T, ctT l wide = T := ⟨_, rfl⟩
  obtain ⟨v, hv⟩ : ∃ v, ctB l wide = v := ⟨_, rfl⟩
  rw [hT, hv]
  cases x1
  · have hf : v = false := by rw [← hv]; unfold ctB; rw [hx1]; rfl
    subst hf
    have HT := Lib.hid (show (⟨#[]⟩ : ByteArray) = T by rw [← hT, ct_no hv])
    clear hx1 hv hT
    go_enter Try.func13, Try.ntmps13
    go_wp2_with fail
    refine (C1.out _).mono ?_
    rintro e w1 ⟨rfl, rfl⟩
    go_wp2
    go_ret2
    exact ⟨rsb HT.out rfl, Below.refl _ _⟩
  · obtain ⟨x2, hx2⟩ : ∃ x, wideB wide = x := ⟨_, rfl⟩
    have C2 := Lib.hid (fun W => lnWide_any wide x2 hx2 W)
    cases x2
    · have hf : v = false := by rw [← hv]; unfold ctB; rw [hx2, Bool.and_false]; rfl
      subst hf
      have HT := Lib.hid (show (⟨#[]⟩ : ByteArray) = T by rw [← hT, ct_no hv])
      clear hx1 hv hT hx2
      go_enter Try.func13, Try.ntmps13
      go_wp2_with fail
      refine (C1.out _).mono ?_
      rintro e w1 ⟨rfl, rfl⟩
      go_wp2_with fail
      refine (C2.out _).mono ?_
      rintro e w1 ⟨rfl, rfl⟩
      go_wp2
      go_ret2
      exact ⟨rsb HT.out rfl, Below.refl _ _⟩
    · have hw : 1 ≤ wide ∧ wide ≤ 80 := by unfold wideB at hx2; simp only [Bool.and_eq_true, decide_eq_true_eq] at hx2; exact hx2
      have w1' := hw.1
      have w2' := hw.2
      obtain ⟨n, hn⟩ : ∃ n, l.length = n := ⟨_, rfl⟩
      by_cases c : wide < (n : Int)
      · have hf : v = false := by rw [← hv]; unfold ctB; rw [hn, show decide ((n : Int) ≤ wide) = false by simp; omega, Bool.and_false]
        subst hf
        have HT := Lib.hid (show (⟨#[]⟩ : ByteArray) = T by rw [← hT, ct_no hv])
        rw [hn] at hsz
        clear hx1 hv hT hx2 hn hw
        go_enter Try.func13, Try.ntmps13
        go_wp2_with fail
        refine (C1.out _).mono ?_
        rintro e w1 ⟨rfl, rfl⟩
        go_wp2_with fail
        refine (C2.out _).mono ?_
        rintro e w1 ⟨rfl, rfl⟩
        go_wp2
        go_ret2
        exact ⟨rsb HT.out rfl, Below.refl _ _⟩
      · have hf : v = true := by rw [← hv]; unfold ctB; rw [hn, hx1, hx2, show decide ((n : Int) ≤ wide) = true by simp; omega]; rfl
        subst hf
        have tc : decide (wide < (n : Int)) = false := decide_eq_false c
        obtain ⟨R, hR⟩ : ∃ R : Nat, wide - (n : Int) = (R : Int) := ⟨(wide - (n : Int)).toNat, by omega⟩
        have HT := Lib.hid (show (⟨(cen l R).toArray⟩ : ByteArray) = T by rw [← hT]; unfold ctT; rw [hv, hn, hR, Int.toNat_natCast]; rfl)
        have R1 : R ≤ 80 := by omega
        have HC0 := Lib.hid (show cen l 0 = l by unfold cen bl; simp)
        have HCL := Lib.hid (fun j => (ba_size (cen l j)).trans (cen_len l j))
        have HE := Lib.hid (fun j (hj : j % 2 = 0) => show (⟨(cen l j).toArray⟩ : ByteArray) ++ ⟨#[32]⟩ = ⟨(cen l (j + 1)).toArray⟩ by rw [show (⟨#[32]⟩ : ByteArray) = ⟨[32].toArray⟩ from rfl, mk_append, cen_even hj])
        have HO := Lib.hid (fun j (hj : ¬ j % 2 = 0) => show (⟨#[32]⟩ : ByteArray) ++ ⟨(cen l j).toArray⟩ = ⟨(cen l (j + 1)).toArray⟩ by rw [show (⟨#[32]⟩ : ByteArray) = ⟨[32].toArray⟩ from rfl, mk_append, cen_odd hj])
        rw [hn] at HCL hsz
        have b3 : n ≤ 80 := by omega
        clear hx1 hv hT hx2 hn hw c
        go_enter Try.func13, Try.ntmps13
        go_wp2_with fail
        refine (C1.out _).mono ?_
        rintro e w1 ⟨rfl, rfl⟩
        go_wp2_with fail
        refine (C2.out _).mono ?_
        rintro e w1 ⟨rfl, rfl⟩
        go_wp2
        go_loop [6, 7] (fun s x => ∃ (j : Nat) (K : Int), j ≤ R ∧ s = .string ⟨(cen l j).toArray⟩ ∧ x = .int .i64 K ∧ Hid (K = (R : Int) - (j : Int))) (fun _ x => (RowKit.intOf x).toNat)
        case atStart => exact ⟨0, (R : Int), by omega, by rw [HC0.out], rfl, Lib.hid (by simp)⟩
        case round =>
          obtain ⟨j, K, hj, rfl, rfl, HK⟩ := hrel
          have k0 : 0 ≤ K := by have := HK.out; omega
          have k1 : K ≤ 80 := by have := HK.out; omega
          have hcl := HCL.out j
          obtain ⟨S, hS⟩ : ∃ S, (⟨(cen l j).toArray⟩ : ByteArray) = S := ⟨_, rfl⟩
          have HE2 := Lib.hid (HE.out j)
          have HO2 := Lib.hid (HO.out j)
          rw [hS] at hcl HE2 HO2 ⊢
          have hsb : S.size ≤ 160 := by omega
          by_cases hlt : 0 < K
          · have hjk : (R : Int) - K = (j : Int) := by have := HK.out; omega
            have HK2 := Lib.hid (show K - 1 = (R : Int) - ((j + 1 : Nat) : Int) by have := HK.out; omega)
            have HJ := Lib.hid (show j + 1 ≤ R by have := HK.out; omega)
            by_cases he : j % 2 = 0
            · have t1 : ((j : Int).tmod 2 == 0) = true := by rw [Int.tmod_eq_emod_of_nonneg (by omega), beq_iff_eq]; omega
              have t2 : ((j : Int) % 2 == 0) = true := by rw [beq_iff_eq]; omega
              have HS := Lib.hid (HE2.out he)
              clear he hS hcl
              go_wp2
              go_round
              case rel => exact ⟨j + 1, K - 1, HJ.out, by rw [← HS.out], by first | rfl | go_num, HK2⟩
              case measure => simp [RowKit.intOf] <;> omega
            · have t1 : ((j : Int).tmod 2 == 0) = false := by rw [Int.tmod_eq_emod_of_nonneg (by omega), beq_eq_false_iff_ne]; omega
              have t2 : ((j : Int) % 2 == 0) = false := by rw [beq_eq_false_iff_ne]; omega
              have HS := Lib.hid (HO2.out he)
              clear he hS hcl
              go_wp2
              go_round
              case rel => exact ⟨j + 1, K - 1, HJ.out, by rw [← HS.out], by first | rfl | go_num, HK2⟩
              case measure => simp [RowKit.intOf] <;> omega
          · have HF := Lib.hid (show S = T by rw [← hS, ← HT.out, show j = R by have := HK.out; omega])
            clear hS hcl
            go_wp2
            go_ret2
            exact ⟨rsb HF.out rfl, Below.refl _ _⟩
theorem iCentreB (a : ByteArray) (h : a.size ≤ 1048576) (n : Int) (W : World) : Calls Try.prog 14 #[.string a, .int .i64 n] W (Ret (.tuple #[.string (ctT a.data.toList n), .bool (ctB a.data.toList n)]) W) := by
  have := iCentre a.data.toList n (by rw [mk_len]; exact h) W
  rwa [mk_self] at this
theorem sCentreB (a : ByteArray) (h : a.size ≤ 1048576) (n : Int) (W : World) : Calls Try.prog 13 #[.string a, .int .i64 n] W (Ret (.tuple #[.string (ctT a.data.toList n), .bool (ctB a.data.toList n)]) W) := by
  have := sCentre a.data.toList n (by rw [mk_len]; exact h) W
  rwa [mk_self] at this
end Ln
end Go.Proofs.Ytbebojahjfnkiaa
