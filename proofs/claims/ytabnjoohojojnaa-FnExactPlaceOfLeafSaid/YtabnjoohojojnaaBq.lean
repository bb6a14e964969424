/- Places of leaves, and an open book, by the model. -/
import Derived.Test.YtabnjoohojojnaaBf
namespace Go.Proofs.Ytabnjoohojojnaa
open Go.RowKit Go.Joins Go.Deep Go.ChangeShapes Go.WideShapes
set_option linter.unusedVariables false
set_option linter.unusedSimpArgs false
namespace Ln
set_option maxRecDepth 100000 in
set_option maxHeartbeats 2000000 in
theorem sPlaceOfLeaf {b1 g len cap : Nat} {zs : List Int} {a : Int} {w : World} (h : Ow w b1 g len cap zs) (hl : len ≤ 1048576) :
    Calls Try.prog 25 #[.slice (some ⟨g, 0, none⟩) len cap, .int .i64 a] w (Ret (.tuple #[.int .i64 (plN zs a), .bool (plT zs a), .bool (plOk zs a)]) w) := by
  have hz := ow_len h
  obtain ⟨x1, hx1⟩ : ∃ x, bnd zs = x := ⟨_, rfl⟩
  obtain ⟨x2, hx2⟩ : ∃ x, (decide (1 ≤ a) && decide (a ≤ (len : Int))) = x := ⟨_, rfl⟩
  have C1 := Lib.hid (biGood_any h hl x1 hx1)
  have C2 := Lib.hid (fun w => l1In_any a 1 (len : Int) x2 hx2 w)
  have hOk : plOk zs a = ((x1 && x2) && decide (at1 zs a < zs.length)) := by unfold plOk; rw [hx1, hz, hx2]
  by_cases hx : (x1 && x2) = false
  · have e : plOk zs a = false := by rw [hOk, hx]; rfl
    rw [e, show plN zs a = 0 by unfold plN; rw [e]; rfl, show plT zs a = false by unfold plT; rw [e]; rfl]
    cases x1
    · clear h hOk e hx1 hx2 hz hx
      go_enter Try.func25, Try.ntmps25
      go_wp2_with fail
      refine C1.out.mono ?_
      rintro e w' ⟨rfl, rfl⟩
      go_wp2
      go_ret3
      exact ⟨rfl, Below.refl _ _⟩
    · cases x2
      · clear h hOk e hx1 hx2 hz hx
        go_enter Try.func25, Try.ntmps25
        go_wp2_with fail
        refine C1.out.mono ?_
        rintro e w' ⟨rfl, rfl⟩
        go_wp2_with fail
        refine (C2.out _).mono ?_
        rintro e w' ⟨rfl, rfl⟩
        go_wp2
        go_ret3
        exact ⟨rfl, Below.refl _ _⟩
      · simp at hx
  · have hxt : (x1 && x2) = true := by simpa using hx
    obtain ⟨rfl, rfl⟩ : x1 = true ∧ x2 = true := by simpa using hxt
    have B := (bnd_iff zs).1 hx1
    have HO := Lib.hid h
    have HL := Lib.hid hz
    have HK := Lib.hid (bnd_8 B)
    have h8 : len ≤ 8 := by have := B.2.1; omega
    have HOK := Lib.hid (show plOk zs a = decide (at1 zs a < zs.length) by rw [hOk, hxt]; rfl)
    obtain ⟨rN, hrN⟩ : ∃ x, plN zs a = x := ⟨_, rfl⟩
    obtain ⟨rT, hrT⟩ : ∃ x, plT zs a = x := ⟨_, rfl⟩
    obtain ⟨rO, hrO⟩ : ∃ x, plOk zs a = x := ⟨_, rfl⟩
    have HR := Lib.hid (show plN zs a = rN ∧ plT zs a = rT ∧ plOk zs a = rO from ⟨hrN, hrT, hrO⟩)
    rw [hrN, hrT, hrO]
    clear h hz hOk hx hxt B hx1 hx2 hrN hrT hrO
    go_enter Try.func25, Try.ntmps25
    go_wp2_with fail
    refine C1.out.mono ?_
    rintro e w' ⟨rfl, rfl⟩
    go_wp2_with fail
    refine (C2.out _).mono ?_
    rintro e w' ⟨rfl, rfl⟩
    go_wp2
    go_loop [21] (fun i => ∃ k : Nat, k ≤ len ∧ i = .int .i64 (k : Int) ∧ Hid (∀ j, j < k → ab (zs.getD j 0) ≠ a)) (fun i => ((len : Int) - intOf i).toNat)
    case atStart => exact ⟨0, by omega, rfl, Lib.hid fun j hj => by omega⟩
    case round =>
      obtain ⟨k, hk, rfl, HA⟩ := hrel
      by_cases hlt : (k : Int) < len
      · obtain ⟨z, HZK, hc⟩ := ow_at HO.out (k := k) (by omega)
        have hzb := HK.out k (by rw [HL.out]; omega)
        rw [HZK.out] at hzb
        have C3 := Lib.hid (fun w => l1Abs_any z (by omega) (by omega) w)
        have z1 := hzb.1
        have z2 := hzb.2
        obtain ⟨q, hq⟩ : ∃ q, ab z = q := ⟨_, rfl⟩
        rw [hq] at C3
        clear hzb
        by_cases c : q = a
        · have e1 : at1 zs a = k := at1_eq (by rw [HL.out]; omega) (by rw [HZK.out, hq]; exact c) HA.out
          have e2 : plOk zs a = true := by rw [HOK.out, e1, HL.out]; simpa using hlt
          have HE := Lib.hid (show rN = (k : Int) ∧ rT = decide (z < 0) ∧ rO = true by
            obtain ⟨r1, r2, r3⟩ := HR.out
            refine ⟨?_, ?_, ?_⟩
            · rw [← r1]; unfold plN; rw [if_pos e2, e1]
            · rw [← r2]; unfold plT; rw [e2, e1, HZK.out]; rfl
            · rw [← r3]; exact e2)
          have t0 : (q == a) = true := by simpa using c
          clear e1 e2 c hq
          by_cases hn : z < 0
          · go_wp2_with fail
            refine (C3.out _).mono ?_
            rintro e w' ⟨rfl, rfl⟩
            go_wp2
            go_ret3
            exact ⟨by rw [HE.out.1, HE.out.2.1, HE.out.2.2]; simp [hn], Below.refl _ _⟩
          · go_wp2_with fail
            refine (C3.out _).mono ?_
            rintro e w' ⟨rfl, rfl⟩
            go_wp2
            go_ret3
            exact ⟨by rw [HE.out.1, HE.out.2.1, HE.out.2.2]; simp [hn], Below.refl _ _⟩
        · have HS := Lib.hid (show ab (zs.getD k 0) ≠ a by rw [HZK.out, hq]; exact c)
          have t0 : (q == a) = false := by simpa using c
          clear c hq
          go_wp2_with fail
          refine (C3.out _).mono ?_
          rintro e w' ⟨rfl, rfl⟩
          go_wp2
          go_round
          case rel => exact ⟨k + 1, by omega, by go_num, Lib.hid fun j hj => by
            by_cases e : j = k
            · subst e; exact HS.out
            · exact HA.out j (by omega)⟩
          case measure => simp [intOf]; omega
      · have HE := Lib.hid (show rN = 0 ∧ rT = false ∧ rO = false by
          have e1 : at1 zs a = zs.length := at1_none fun j hj => HA.out j (by rw [HL.out] at hj; omega)
          have e2 : plOk zs a = false := by rw [HOK.out, e1]; simp
          obtain ⟨r1, r2, r3⟩ := HR.out
          refine ⟨?_, ?_, ?_⟩
          · rw [← r1]; unfold plN; rw [e2]; rfl
          · rw [← r2]; unfold plT; rw [e2]; rfl
          · rw [← r3]; exact e2)
        go_wp2
        go_ret3
        exact ⟨by rw [HE.out.1, HE.out.2.1, HE.out.2.2] <;> rfl, Below.refl _ _⟩
def opB (zs : List Int) (p : Int) : Bool := bnd zs && (decide (0 ≤ p) && decide (p ≤ (zs.length : Int) - 1))
def opL (zs : List Int) (p : Int) : Int := if opB zs p = true then p2 (zs.getD p.toNat 0) else 0
def opR (zs : List Int) (p : Int) : Int := if opB zs p = true then (if p = (zs.length : Int) - 1 then 0 else p1 (zs.getD (p.toNat + 1) 0)) else 0
theorem opB_ok {zs : List Int} {p : Int} (h : opB zs p = true) : Bnd zs ∧ ∃ P : Nat, p = P ∧ P < zs.length := by
  unfold opB at h
  simp only [Bool.and_eq_true, decide_eq_true_eq] at h
  exact ⟨(bnd_iff zs).1 h.1, p.toNat, by omega, by omega⟩
theorem p_bd {z : Int} (h1 : -8 ≤ z) (h2 : z ≤ 8) : -20 ≤ p1 z ∧ p1 z ≤ 20 ∧ -20 ≤ p2 z ∧ p2 z ≤ 20 := by
  unfold p1 p2
  split <;> omega
set_option maxRecDepth 100000 in
set_option maxHeartbeats 2000000 in
theorem sOpenAt {b1 g len cap : Nat} {zs : List Int} {p : Int} {w : World} (h : Ow w b1 g len cap zs) (hl : len ≤ 1048576) :
    Calls Try.prog 41 #[.slice (some ⟨g, 0, none⟩) len cap, .int .i64 p] w (Ret (.tuple #[.int .i64 (opL zs p), .int .i64 (opR zs p), .bool (opB zs p)]) w) := by
  have hz := ow_len h
  obtain ⟨x1, hx1⟩ : ∃ x, bnd zs = x := ⟨_, rfl⟩
  obtain ⟨x2, hx2⟩ : ∃ x, (decide (0 ≤ p) && decide (p ≤ (len : Int) - 1)) = x := ⟨_, rfl⟩
  have C1 := Lib.hid (biGood_any h hl x1 hx1)
  have C2 := Lib.hid (fun w => l1In_any p 0 ((len : Int) - 1) x2 hx2 w)
  have hOk : opB zs p = (x1 && x2) := by unfold opB; rw [hx1, hz, hx2]
  by_cases hx : (x1 && x2) = false
  · have e : opB zs p = false := by rw [hOk, hx]
    rw [e, show opL zs p = 0 by unfold opL; rw [e]; rfl, show opR zs p = 0 by unfold opR; rw [e]; rfl]
    cases x1
    · clear h hOk e hx1 hx2 hz hx
      go_enter Try.func41, Try.ntmps41
      go_wp2_with fail
      refine C1.out.mono ?_
      rintro e w' ⟨rfl, rfl⟩
      go_wp2
      go_ret3
      exact ⟨rfl, Below.refl _ _⟩
    · cases x2
      · clear h hOk e hx1 hx2 hz hx
        go_enter Try.func41, Try.ntmps41
        go_wp2_with fail
        refine C1.out.mono ?_
        rintro e w' ⟨rfl, rfl⟩
        go_wp2_with fail
        refine (C2.out _).mono ?_
        rintro e w' ⟨rfl, rfl⟩
        go_wp2
        go_ret3
        exact ⟨rfl, Below.refl _ _⟩
      · simp at hx
  · have hxt : (x1 && x2) = true := by simpa using hx
    obtain ⟨rfl, rfl⟩ : x1 = true ∧ x2 = true := by simpa using hxt
    have B := (bnd_iff zs).1 hx1
    have e : opB zs p = true := by rw [hOk]; rfl
    obtain ⟨_, P, rfl, hP⟩ := opB_ok e
    rw [e, show opL zs (P : Int) = p2 (zs.getD P 0) by unfold opL; rw [e]; simp]
    have h8 := bnd_8 B
    have HB := h8 P (by omega)
    have hc := ow_cell h (k := P) (by omega)
    have hPl : P < len := by omega
    have hl8 : len ≤ 8 := by have := B.2.1; omega
    by_cases c : P + 1 = len
    · rw [show opR zs (P : Int) = 0 by unfold opR; rw [e, hz, if_pos rfl, if_pos (by omega)]]
      obtain ⟨z, hzz⟩ : ∃ z, zs.getD P 0 = z := ⟨_, rfl⟩
      rw [hzz] at hc HB ⊢
      have C3 := Lib.hid (fun w => biPages_any z HB.1 HB.2 w)
      have t0 : ((P : Int) == (len : Int) - 1) = true := by simp; omega
      obtain ⟨q1, hq1⟩ : ∃ q, p1 z = q := ⟨_, rfl⟩
      obtain ⟨q2, hq2⟩ : ∃ q, p2 z = q := ⟨_, rfl⟩
      rw [hq1, hq2] at C3
      rw [hq2]
      clear h hz hOk hx hxt B hx1 hx2 h8 HB e hP hzz hq1 hq2 c
      go_enter Try.func41, Try.ntmps41
      go_wp2_with fail
      refine C1.out.mono ?_
      rintro e w' ⟨rfl, rfl⟩
      go_wp2_with fail
      refine (C2.out _).mono ?_
      rintro e w' ⟨rfl, rfl⟩
      go_wp2_with fail
      refine (C3.out _).mono ?_
      rintro e w' ⟨rfl, rfl⟩
      go_wp2
      go_ret3
      exact ⟨rfl, Below.refl _ _⟩
    · rw [show opR zs (P : Int) = p1 (zs.getD (P + 1) 0) by unfold opR; rw [e, hz, if_pos rfl, if_neg (by omega)]; simp]
      have hc' := ow_cell h (k := P + 1) (by omega)
      have HB' := h8 (P + 1) (by omega)
      obtain ⟨z, hzz⟩ : ∃ z, zs.getD P 0 = z := ⟨_, rfl⟩
      obtain ⟨y, hyy⟩ : ∃ y, zs.getD (P + 1) 0 = y := ⟨_, rfl⟩
      rw [hzz] at hc HB ⊢
      rw [hyy] at hc' HB' ⊢
      have C3 := Lib.hid (fun w => biPages_any z HB.1 HB.2 w)
      have C4 := Lib.hid (fun w => biPages_any y HB'.1 HB'.2 w)
      have t0 : ((P : Int) == (len : Int) - 1) = false := by simp; omega
      obtain ⟨q1, hq1⟩ : ∃ q, p1 z = q := ⟨_, rfl⟩
      obtain ⟨q2, hq2⟩ : ∃ q, p2 z = q := ⟨_, rfl⟩
      obtain ⟨r1, hr1⟩ : ∃ q, p1 y = q := ⟨_, rfl⟩
      obtain ⟨r2, hr2⟩ : ∃ q, p2 y = q := ⟨_, rfl⟩
      rw [hq1, hq2] at C3
      rw [hr1, hr2] at C4
      rw [hq2, hr1]
      have hPl2 : (P : Int) + 1 < (len : Int) := by omega
      clear h hz hOk hx hxt B hx1 hx2 h8 HB HB' e hP hzz hyy hq1 hq2 hr1 hr2 c
      go_enter Try.func41, Try.ntmps41
      go_wp2_with fail
      refine C1.out.mono ?_
      rintro e w' ⟨rfl, rfl⟩
      go_wp2_with fail
      refine (C2.out _).mono ?_
      rintro e w' ⟨rfl, rfl⟩
      go_wp2_with fail
      refine (C3.out _).mono ?_
      rintro e w' ⟨rfl, rfl⟩
      go_wp2_with fail
      refine (C4.out _).mono ?_
      rintro e w' ⟨rfl, rfl⟩
      go_wp2
      go_ret3
      exact ⟨rfl, Below.refl _ _⟩
end Ln
end Go.Proofs.Ytabnjoohojojnaa
