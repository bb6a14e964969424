/- How many lists of lines fit: both sides. -/
import Derived.Test.YtdpblijmagcgiaaPi0
namespace Go.Proofs.Ytdpblijmagcgiaa
open Go.RowKit Go.Joins Go.Deep Go.ChangeShapes Go.WideShapes
set_option linter.unusedVariables false
set_option linter.unusedSimpArgs false
namespace Ln
def pT (_ _ : Nat) : Bool := true
/-- how many lists of lines fit, none where the words don't -/
def cbN (zs : List Int) (wide : Int) : Int := if fits zs wide = true then (wl (cD zs wide) pT zs.length).getD 0 0 else 0
theorem need_pos {zs : List Int} (ho : Ok zs) {a b : Nat} (hab : a < b) (hb : b ≤ zs.length) : 1 ≤ need zs a b := by
  have h7 := (psum_bd ho.2.2 a (b - a) (by omega)).1
  rw [show a + (b - a) = b by omega] at h7
  unfold need
  omega
theorem can_all {zs : List Int} {wide : Int} (ho : Ok zs) : canW zs wide wide = (wl (cD zs wide) pT zs.length).getD 0 0 := by
  unfold canW
  rw [wl_congr (c := cD zs wide) (c' := cD zs wide) (q := pT) zs.length (fun _ _ _ => rfl) (fun d j h1 h2 hj => ?_) zs.length (Nat.le_refl _)]
  have hb := cnt_bd zs wide (zs.length - d) (by omega)
  unfold cD at hj
  have hn := need_pos ho (a := zs.length - d) (b := zs.length - d + 1 + j) (by omega) (by omega)
  unfold pD pT
  rw [show decide (wide - need zs (zs.length - d) (zs.length - d + 1 + j) ≤ wide) = true by simp; omega, Bool.or_true]
theorem wide_le {zs : List Int} {wide : Int} (h : fits zs wide = true) : wide ≤ 80 := by
  unfold fits wideB at h
  simp only [Bool.and_eq_true, decide_eq_true_eq] at h
  exact h.1.2.2
theorem sBreaks {b1 g len cap : Nat} {zs : List Int} {wide : Int} {w : World} (h : Ow w b1 g len cap zs) (hl : len ≤ 1048576) :
    Calls Try.prog 29 #[.slice (some ⟨g, 0, none⟩) len cap, .int .i64 wide] w (Ret (.tuple #[.int .i64 (cbN zs wide), .bool (fits zs wide)]) w) := by
  obtain ⟨v, hv⟩ : ∃ v, fits zs wide = v := ⟨_, rfl⟩
  have C1 := Lib.hid (lnFits_any h hl v hv)
  rw [hv]
  cases v
  · have HE := Lib.hid (show (0 : Int) = cbN zs wide by unfold cbN; rw [hv]; rfl)
    clear h hv
    go_enter Try.func29, Try.ntmps29
    go_wp2_with fail
    refine C1.out.mono ?_
    rintro e w' ⟨rfl, rfl⟩
    go_wp2
    go_ret2
    exact ⟨rnb HE.out, Below.refl _ _⟩
  · have C2 := Lib.hid (lnCan_any (most := wide) h (fits_ok hv) (fits_all hv) (wide_le hv))
    have HE := Lib.hid (show canW zs wide wide = cbN zs wide by unfold cbN; rw [hv]; exact can_all (fits_ok hv))
    clear h hv
    go_enter Try.func29, Try.ntmps29
    go_wp2_with fail
    refine C1.out.mono ?_
    rintro e w' ⟨rfl, rfl⟩
    go_wp2_with fail
    refine C2.out.mono ?_
    rintro e w' ⟨rfl, hb⟩
    go_wp2
    go_ret2
    exact ⟨rnb HE.out, hb⟩
set_option maxRecDepth 100000 in
set_option maxHeartbeats 8000000 in
theorem iBreaks {b1 g len cap : Nat} {zs : List Int} {wide : Int} {w : World} (h : Ow w b1 g len cap zs) (hl : len ≤ 1048576) :
    Calls Try.prog 30 #[.slice (some ⟨g, 0, none⟩) len cap, .int .i64 wide] w (Ret (.tuple #[.int .i64 (cbN zs wide), .bool (fits zs wide)]) w) := by
  obtain ⟨v, hv⟩ : ∃ v, fits zs wide = v := ⟨_, rfl⟩
  have C1 := Lib.hid (canBeSet_any h hl v hv)
  rw [hv]
  cases v
  · have HE := Lib.hid (show (0 : Int) = cbN zs wide by unfold cbN; rw [hv]; rfl)
    clear h hv
    go_enter Try.func30, Try.ntmps30
    go_wp2_with fail
    refine C1.out.mono ?_
    rintro e w' ⟨rfl, rfl⟩
    go_wp2
    go_ret2
    exact ⟨rnb HE.out, Below.refl _ _⟩
  · have ho := fits_ok hv
    have hz := ow_len h
    have HO := Lib.hid h
    have HK := Lib.hid ho
    have HZ := Lib.hid hz
    have HW := Lib.hid (fits_all hv)
    have HE := Lib.hid (show (wl (cD zs wide) pT zs.length).getD 0 0 = cbN zs wide by unfold cbN; rw [hv]; rfl)
    have h30 : len ≤ 30 := by have := ho.2.1; omega
    have h1 : 1 ≤ len := by have := ho.1; omega
    have hcap := (ow_cap h).1
    have HBD := Lib.hid (fun q d k (hd : d ≤ len) (hk : k ≤ d) => wl_bd wide pT q (zs := zs) (by omega) d k (by omega) hk (fun _ => trivial))
    have HEL := Lib.hid (fun d j (hd : d ≤ len) (hj : j ≤ d) => wl_el wide pT (zs := zs) (by omega) d j (by omega) hj)
    obtain ⟨i0, hi, hz0, hz1, hz2⟩ := info_parts Li.info3
    clear h ho hz hv
    go_enter Try.func30, Try.ntmps30
    go_wp2_with fail
    refine C1.out.mono ?_
    rintro e w' ⟨rfl, rfl⟩
    go_wp2_with (first | (at_make; refine wpList_make_full _ rfl _ _ 22 rfl w.heap.size 3 i0 (.int .i64 0) 1 Try.underlying22 hi hz0 hz1 _ _ _ _ (len + 1) rfl rfl rfl rfl (by rw [hz2]; omega) (by unfold maxLen; omega) (Nat.le_refl _) ?_; intro w1 hown hg1; obtain ⟨⟨v0, hd0⟩, hf0, hst0⟩ := made_one hown; have HST := Lib.hid hst0; have HB0 := Lib.hid (Li.below_of_grown hg1); clear hown hg1 hst0))
    have HA0 := Lib.hid (show Ow (w1.setCell ⟨w.heap.size, len, none⟩ (.int .i64 1)) w.heap.size w.heap.size (len + 1) (len + 1) (arr zs wide pT 0) by
      have := HST.out
      unfold arr
      rw [HZ.out, Nat.sub_zero]
      exact this)
    have HB1 := Lib.hid (HB0.out.setCell (p := ⟨w.heap.size, len, none⟩) (Nat.le_refl _) (.int .i64 1))
    clear HST hd0 hf0 HB0
    go_loopw [7] (fun x wr => ∃ (d : Nat) (X : Int), d ≤ len ∧ x = .int .i64 X ∧ Hid (X = (len : Int) - 1 - (d : Int)) ∧ Hid (Ow wr w.heap.size w.heap.size (len + 1) (len + 1) (arr zs wide pT d)) ∧ Hid (Below w.heap.size w wr)) (fun x _ => (intOf x + 1).toNat)
    case atStart => exact ⟨0, (len : Int) - 1, by omega, by first | rfl | go_num, Lib.hid (by simp), HA0, HB1⟩
    case round =>
      obtain ⟨wo, rfl⟩ : ∃ wo : World, wo = wr := ⟨_, rfl⟩
      obtain ⟨d, X, hd, rfl, HX, HA, HB⟩ := hrel
      by_cases hlt : d < len
      · obtain ⟨m, hm⟩ : ∃ m, m + 1 = len - d := ⟨len - d - 1, by omega⟩
        have HXM := Lib.hid (show X = (m : Int) by have := HX.out; omega)
        have hml : m < len := by omega
        have hml2 : (m : Int) < (len : Int) := by omega
        have HMM := Lib.hid hm
        have eX : X = (m : Int) := HXM.out
        subst eX
        clear hm HXM HX
        have HI0 := Lib.hid (show Ow wo w.heap.size w.heap.size (len + 1) (len + 1) (tab m (sumI (pT (d + 1)) (wl (cD zs wide) pT d) 0) (wl (cD zs wide) pT d)) by
          have := HA.out
          rw [arr_tab zs wide pT d m (by have := HMM.out; rw [HZ.out]; exact this)] at this
          exact this)
        have sg := seg_of (Li.own_on HO.out HB.out) m (len - m) (by omega)
        have CM := Lib.hid (mostInLine_any (cap := cap - m) (wide := wide) sg HK.out (by rw [HZ.out]; omega) (by omega) (by omega) (HW.out m (by rw [HZ.out]; exact hml)))
        have hcb := cnt_bd zs wide m (by rw [HZ.out]; exact hml)
        rw [HZ.out] at hcb
        have HNX := Lib.hid (arr_next zs wide pT d m (by have := HMM.out; rw [HZ.out]; exact this))
        obtain ⟨C, hC⟩ : ∃ C, cnt zs wide m = C := ⟨_, rfl⟩
        rw [hC] at CM hcb HNX
        have hc1 := hcb.1
        have hc2 := hcb.2
        have r7 : ∀ W : World, (Instr.slice 22 (.slice (some ⟨g, 0, none⟩) len cap) (some (.int .i64 (m : Int))) none none).run Try.prog W = .ok (.slice (some ⟨g, m, none⟩) (len - m) (cap - m)) W := fun W => by
          obtain ⟨o2, r, ho2⟩ := cut_run g 0 len cap m (m : Int) rfl (by omega) (by omega)
          obtain rfl : o2 = m := by omega
          exact r W
        have r8 : ∀ W : World, (Instr.slice 22 (.slice (some ⟨w.heap.size, 0, none⟩) (len + 1) (len + 1)) (some (.int .i64 ((m : Int) + 1))) (some (.int .i64 ((m : Int) + 1 + (C : Int)))) none).run Try.prog W = .ok (.slice (some ⟨w.heap.size, m + 1, none⟩) C (len + 1 - (m + 1))) W := fun W => by
          have := lh_run w.heap.size (len + 1) (len + 1) (m + 1) (m + 1 + C) ((m : Int) + 1) ((m : Int) + 1 + (C : Int)) (by simp) (by simp) (by omega) (by omega) W
          rwa [show m + 1 + C - (m + 1) = C by omega] at this
        clear HA hC hcb sg
        go_wp2_with fail
        refine CM.out.mono ?_
        rintro e w' ⟨rfl, rfl⟩
        go_wp2
        go_loopw [44] (fun y wi => ∃ (j : Nat), j ≤ C ∧ y = .int .i64 (j : Int) ∧ Hid (Ow wi w.heap.size w.heap.size (len + 1) (len + 1) (tab m (sumI (pT (d + 1)) (wl (cD zs wide) pT d) j) (wl (cD zs wide) pT d))) ∧ Hid (Below w.heap.size w wi)) (fun y _ => ((C : Int) - intOf y).toNat)
        case atStart => exact ⟨0, by omega, rfl, HI0, HB⟩
        case round =>
          obtain ⟨j, hj, rfl, HT, HB2⟩ := hrel
          clear HI0 HB
          by_cases hje : j < C
          · have hje2 : (j : Int) < (C : Int) := by omega
            have HSS := Lib.hid (sumI_step (pT (d + 1)) (wl (cD zs wide) pT d) j)
            have hbs := HBD.out (pT (d + 1)) d j (by omega) (by have := HMM.out; omega)
            have hbe := HEL.out d j (by omega) (by have := HMM.out; omega)
            have tcb := tab_cell_behind HT.out (j := j) (by omega)
            obtain ⟨S, hS⟩ : ∃ S, sumI (pT (d + 1)) (wl (cD zs wide) pT d) j = S := ⟨_, rfl⟩
            obtain ⟨z, hz⟩ : ∃ z, (wl (cD zs wide) pT d).getD j 0 = z := ⟨_, rfl⟩
            rw [hS, hz] at HSS
            rw [hS] at hbs HT
            rw [hz] at hbe tcb
            have HST2 := Lib.hid (show sumI (pT (d + 1)) (wl (cD zs wide) pT d) (j + 1) = S + z by rw [HSS.out]; rfl)
            obtain ⟨tc1, tc2, tc3⟩ := tab_cells HT.out (show m < len + 1 by omega) (S + z)
            have HTC := Lib.hid tc3
            have s1 := hbs.1
            have s2 := hbs.2
            have z1 := hbe.1
            have z2 := hbe.2
            have bm1 : (m : Int) < ((len + 1 : Nat) : Int) := by omega
            have bm2 : (m : Int) < (len : Int) + 1 := by omega
            have HB3 := Lib.hid (HB2.out.setCell (p := ⟨w.heap.size, m, none⟩) (Nat.le_refl _) (.int .i64 (S + z)))
            clear hbs hbe hS hz tc3
            go_wp2
            go_roundw
            case rel => exact ⟨j + 1, by omega, by first | rfl | go_num, Lib.hid (by rw [HST2.out]; exact HTC.out), HB3⟩
            case measure => simp [intOf] <;> omega
          · have HJ := Lib.hid (show j = C by omega)
            have hje2 : ¬ (j : Int) < (C : Int) := by omega
            have HA2 := Lib.hid (show Ow wr w.heap.size w.heap.size (len + 1) (len + 1) (arr zs wide pT (d + 1)) by
              rw [HNX.out, ← HJ.out]
              exact HT.out)
            have HXN := Lib.hid (show (m : Int) - 1 = (len : Int) - 1 - ((d + 1 : Nat) : Int) by have := HMM.out; omega)
            go_wp2
            go_roundw
            case rel => exact ⟨d + 1, (m : Int) - 1, by omega, by first | rfl | go_num, HXN, HA2, HB2⟩
            case measure => simp [intOf] <;> omega
      · have eX : X = -1 := by have := HX.out; omega
        subst eX
        have HD := Lib.hid (show d = zs.length by rw [HZ.out]; omega)
        have c0 := ow_cell HA.out (k := 0) (by omega)
        rw [HD.out, arr_at0] at c0
        clear HX
        go_wp2
        go_ret2
        exact ⟨rnb HE.out, HB.out⟩
end Ln
end Go.Proofs.Ytdpblijmagcgiaa
