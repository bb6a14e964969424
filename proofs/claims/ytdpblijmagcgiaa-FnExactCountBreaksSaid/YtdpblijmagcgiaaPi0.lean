/- In how many ways words fit in lines: the model. -/
import Derived.Test.YtdpblijmagcgiaaAr
import Derived.StillTailTactics
namespace Go.Proofs.Ytdpblijmagcgiaa
open Go.RowKit Go.Joins Go.Deep Go.ChangeShapes Go.WideShapes
set_option linter.unusedVariables false
set_option linter.unusedSimpArgs false
namespace Ln
/-- how many words a line from the d-th last on takes -/
def cD (zs : List Int) (wide : Int) (d : Nat) : Nat := cnt zs wide (zs.length - d)
/-- a line from the d-th last word on, of j + 1 words, is meant: the last one, or its rest is not great -/
def pD (zs : List Int) (wide most : Int) (d j : Nat) : Bool := decide (zs.length - d + 1 + j = zs.length) || decide (wide - need zs (zs.length - d) (zs.length - d + 1 + j) ≤ most)
theorem cD_bd {zs : List Int} (wide : Int) (d : Nat) (h : d ≤ zs.length) : cD zs wide d ≤ d ∨ d = 0 := by
  by_cases e : d = 0
  · exact _root_.Or.inr e
  · have := cnt_bd zs wide (zs.length - d) (by omega)
    unfold cD
    omega
theorem wl_step (c : Nat → Nat) (p : Nat → Nat → Bool) (d : Nat) : wl c p (d + 1) = sumI (p (d + 1)) (wl c p d) (c (d + 1)) :: wl c p d := rfl
/-- the ways of all words -/
def canW (zs : List Int) (wide most : Int) : Int := (wl (cD zs wide) (pD zs wide most) zs.length).getD 0 0
theorem wl_bd {zs : List Int} (wide : Int) (p : Nat → Nat → Bool) (q : Nat → Bool) (hn : zs.length ≤ 30) (d k : Nat) (hd : d ≤ zs.length) (hk : k ≤ d) (hk2 : d < zs.length ∨ k = 0 → True) : 0 ≤ sumI q (wl (cD zs wide) p d) k ∧ sumI q (wl (cD zs wide) p d) k ≤ 1073741824 := by
  have e : wl (cD zs wide) p d = wl (fun d => min (cD zs wide d) d) p d := by
    refine wl_congr zs.length (fun d h1 h2 => ?_) (fun _ _ _ _ _ => rfl) d hd
    rcases cD_bd wide d h2 with h | h
    · exact (Nat.min_eq_left h).symm
    · omega
  rw [e]
  exact wl_cell p q zs.length hn (fun d _ => Nat.min_le_right _ _) d k hd (by omega)
theorem wl_el {zs : List Int} (wide : Int) (p : Nat → Nat → Bool) (hn : zs.length ≤ 30) (d j : Nat) (hd : d ≤ zs.length) (hj : j ≤ d) : 0 ≤ (wl (cD zs wide) p d).getD j 0 ∧ (wl (cD zs wide) p d).getD j 0 ≤ 1073741824 := by
  have e : wl (cD zs wide) p d = wl (fun d => min (cD zs wide d) d) p d := by
    refine wl_congr zs.length (fun d h1 h2 => ?_) (fun _ _ _ _ _ => rfl) d hd
    rcases cD_bd wide d h2 with h | h
    · exact (Nat.min_eq_left h).symm
    · omega
  rw [e]
  have h := wl_cell p (fun i => decide (i = j)) zs.length hn (fun d _ => Nat.min_le_right (cD zs wide d) d) d (j + 1) hd (by omega)
  rw [sumI_step, if_pos (by simp)] at h
  have h2 : ∀ k, k ≤ j → sumI (fun i => decide (i = j)) (wl (fun d => min (cD zs wide d) d) p d) k = 0 := by
    intro k
    induction k with
    | zero => intro _; rfl
    | succ k ih =>
      intro hk
      rw [sumI_step, ih (by omega), if_neg (by simp; omega)]
      rfl
  rw [h2 j (Nat.le_refl _)] at h
  omega
theorem arr_start (len : Nat) : tab len 1 [] = List.replicate len 0 ++ [1] := rfl
theorem made_set (len : Nat) : (List.replicate (len + 1) (Value.int .i64 0)).set len (.int .i64 1) = Li.nums (tab len 1 []) := by
  have e := tab_set len 0 1 []
  rw [← e]
  congr 1
  unfold tab Li.nums
  rw [List.map_append, List.map_replicate]
  rw [List.replicate_succ']
  rfl
theorem tab_zero (m : Nat) (l : List Int) : tab m 0 l = List.replicate (m + 1) 0 ++ l := by
  unfold tab
  rw [List.replicate_succ', List.append_assoc]
  rfl
/-- the table when the ways from the d-th last word on are known -/
def arr (zs : List Int) (wide : Int) (p : Nat → Nat → Bool) (d : Nat) : List Int := List.replicate (zs.length - d) 0 ++ wl (cD zs wide) p d
theorem arr_len (zs : List Int) (wide : Int) (p : Nat → Nat → Bool) (d : Nat) (hd : d ≤ zs.length) : (arr zs wide p d).length = zs.length + 1 := by unfold arr; simp [wl_len]; omega
theorem arr_tab (zs : List Int) (wide : Int) (p : Nat → Nat → Bool) (d m : Nat) (h : m + 1 = zs.length - d) : arr zs wide p d = tab m 0 (wl (cD zs wide) p d) := by unfold arr; rw [tab_zero, h]
theorem arr_next (zs : List Int) (wide : Int) (p : Nat → Nat → Bool) (d m : Nat) (h : m + 1 = zs.length - d) : arr zs wide p (d + 1) = tab m (sumI (p (d + 1)) (wl (cD zs wide) p d) (cnt zs wide m)) (wl (cD zs wide) p d) := by
  unfold arr tab
  rw [wl_step, show zs.length - (d + 1) = m by omega]
  unfold cD
  rw [show zs.length - (d + 1) = m by omega]
theorem arr_at0 (zs : List Int) (wide : Int) (p : Nat → Nat → Bool) : (arr zs wide p zs.length).getD 0 0 = (wl (cD zs wide) p zs.length).getD 0 0 := by unfold arr; rw [Nat.sub_self]; rfl
/-- the table as it is made, the one behind all words set -/
theorem made_one {w : World} {base g len : Nat} (h : w.ownsRow base 3 1 (.slice (some ⟨g, 0, none⟩) (len + 1) (len + 1)) (len + 1) (madeCells (Value.int .i64 0).cells ((len + 1) * 1)).toList) :
    (∃ v, w.cell? ⟨g, len, none⟩ = some v) ∧ w.frozen? ⟨g, len, none⟩ = false ∧ Ow (w.setCell ⟨g, len, none⟩ (.int .i64 1)) base g (len + 1) (len + 1) (tab len 1 []) := by
  have e : (madeCells (Value.int .i64 0).cells ((len + 1) * 1)).toList = List.replicate (len + 1) (.int .i64 0) := by rw [Nat.mul_one]; exact toList_madeCells_one _ _
  rw [e] at h
  refine ⟨?_, h.frozenAt len, ?_⟩
  · rw [h.cellAt len (by omega)]
    exact ⟨_, List.getElem?_eq_getElem (by simp)⟩
  · have := (h.stored len (.int .i64 1)).1
    rw [made_set] at this
    exact this
/-- the table's cell at the word, and a store there -/
theorem tab_cells {W : World} {base g n m : Nat} {s : Int} {l : List Int} (h : Ow W base g n n (tab m s l)) (hm : m < n) (s' : Int) :
    W.cell? ⟨g, m, none⟩ = some (.int .i64 s) ∧ W.frozen? ⟨g, m, none⟩ = false ∧ Ow (W.setCell ⟨g, m, none⟩ (.int .i64 s')) base g n n (tab m s' l) := by
  refine ⟨?_, h.frozenAt m, ?_⟩
  · rw [ow_cell h hm, tab_at]
  · have := (h.stored m (.int .i64 s')).1
    rw [tab_set] at this
    exact this
theorem tab_cell_behind {W : World} {base g n m j : Nat} {s : Int} {l : List Int} (h : Ow W base g n n (tab m s l)) (hj : m + 1 + j < n) : W.cell? ⟨g, m + 1 + j, none⟩ = some (.int .i64 (l.getD j 0)) := by
  rw [ow_cell h hj, tab_behind]
set_option maxRecDepth 100000 in
set_option maxHeartbeats 8000000 in
theorem lnCan_any {b1 g len cap : Nat} {zs : List Int} {wide most : Int} {w : World} (h : Ow w b1 g len cap zs) (ho : Ok zs) (hall : ∀ k, k < zs.length → zs.getD k 0 ≤ wide) (hw : wide ≤ 80) :
    Calls Try.prog 58 #[.slice (some ⟨g, 0, none⟩) len cap, .int .i64 wide, .int .i64 most] w (Ret (.int .i64 (canW zs wide most)) w) := by
  have hz := ow_len h
  have HO := Lib.hid h
  have HK := Lib.hid ho
  have HZ := Lib.hid hz
  have HW := Lib.hid hall
  have h30 : len ≤ 30 := by have := ho.2.1; omega
  have h1 : 1 ≤ len := by have := ho.1; omega
  have hcap := (ow_cap h).1
  have HBD := Lib.hid (fun q d k (hd : d ≤ len) (hk : k ≤ d) => wl_bd wide (pD zs wide most) q (zs := zs) (by omega) d k (by omega) hk (fun _ => trivial))
  have HEL := Lib.hid (fun d j (hd : d ≤ len) (hj : j ≤ d) => wl_el wide (pD zs wide most) (zs := zs) (by omega) d j (by omega) hj)
  obtain ⟨i0, hi, hz0, hz1, hz2⟩ := info_parts Li.info3
  clear h ho hall hz
  go_enter Try.func58, Try.ntmps58
  go_wp2_with (first | (at_make; refine wpList_make_full _ rfl _ _ 22 rfl w.heap.size 3 i0 (.int .i64 0) 1 Try.underlying22 hi hz0 hz1 _ _ _ _ (len + 1) rfl rfl rfl rfl (by rw [hz2]; omega) (by unfold maxLen; omega) (Nat.le_refl _) ?_; intro w1 hown hg1; obtain ⟨⟨v0, hd0⟩, hf0, hst0⟩ := made_one hown; have HST := Lib.hid hst0; have HB0 := Lib.hid (Li.below_of_grown hg1); clear hown hg1 hst0))
  have HA0 := Lib.hid (show Ow (w1.setCell ⟨w.heap.size, len, none⟩ (.int .i64 1)) w.heap.size w.heap.size (len + 1) (len + 1) (arr zs wide (pD zs wide most) 0) by
    have := HST.out
    unfold arr
    rw [HZ.out, Nat.sub_zero]
    exact this)
  have HB1 := Lib.hid (HB0.out.setCell (p := ⟨w.heap.size, len, none⟩) (Nat.le_refl _) (.int .i64 1))
  clear HST hd0 hf0 HB0
  go_loopw [8] (fun x wr => ∃ (d : Nat) (X : Int), d ≤ len ∧ x = .int .i64 X ∧ Hid (X = (len : Int) - 1 - (d : Int)) ∧ Hid (Ow wr w.heap.size w.heap.size (len + 1) (len + 1) (arr zs wide (pD zs wide most) d)) ∧ Hid (Below w.heap.size w wr)) (fun x _ => (intOf x + 1).toNat)
  case atStart => exact ⟨0, (len : Int) - 1, by omega, by first | rfl | go_num, Lib.hid (by simp), HA0, HB1⟩
  case round =>
    obtain ⟨wo, rfl⟩ : ∃ wo : World, wo = wr := ⟨_, rfl⟩
    obtain ⟨d, X, hd, rfl, HX, HA, HB⟩ := hrel
    by_cases hlt : d < len
    · obtain ⟨m, hm⟩ : ∃ m, m + 1 = len - d := ⟨len - d - 1, by omega⟩
      have HXM := Lib.hid (show X = (m : Int) by have := HX.out; omega)
      have hml : m < len := by omega
      have hml2 : (m : Int) < (len : Int) := by omega
      have hdm : d = len - 1 - m := by omega
      have HDM := Lib.hid hdm
      have HMM := Lib.hid hm
      have eX : X = (m : Int) := HXM.out
      subst eX
      clear hm hdm HXM HX
      have HI0 := Lib.hid (show Ow wo w.heap.size w.heap.size (len + 1) (len + 1) (tab m (sumI (pD zs wide most (d + 1)) (wl (cD zs wide) (pD zs wide most) d) 0) (wl (cD zs wide) (pD zs wide most) d)) by
        have := HA.out
        rw [arr_tab zs wide (pD zs wide most) d m (by have := HMM.out; rw [HZ.out]; exact this)] at this
        exact this)
      have HCZ := Lib.hid (cnt_zero (zs := zs) (wide := wide) (a := m) (by rw [HZ.out]; exact hml) (HW.out m (by rw [HZ.out]; exact hml)))
      clear HA
      go_wp2
      go_loopw [9] (fun y wi => ∃ (j e : Nat), j ≤ len - m ∧ y = .int .i64 (e : Int) ∧ Hid (e = m + 1 + j) ∧ Hid (Ow wi w.heap.size w.heap.size (len + 1) (len + 1) (tab m (sumI (pD zs wide most (d + 1)) (wl (cD zs wide) (pD zs wide most) d) j) (wl (cD zs wide) (pD zs wide most) d))) ∧ Hid (Below w.heap.size w wi) ∧ Hid (cntF zs wide m (len - m - j) j = cnt zs wide m)) (fun y _ => ((len : Int) + 2 - intOf y).toNat)
      case atStart => exact ⟨0, m + 1, by omega, by first | rfl | go_num, Lib.hid (by omega), HI0, HB, Lib.hid (by have := HCZ.out; rw [HZ.out] at this; exact this)⟩
      case round =>
        obtain ⟨j, e, hj, rfl, HY, HT, HB2, HC⟩ := hrel
        clear HI0 HB
        by_cases hje : j < len - m
        · have hle : e ≤ len := by have := HY.out; omega
          have hle2 : (e : Int) ≤ (len : Int) := by omega
          have hme : m < e := by have := HY.out; omega
          have sg := seg_of (Li.own_on HO.out HB2.out) m (j + 1) (by omega)
          have CN := Lib.hid (fun W (hW : Below wr.heap.size wr W) => lnNeed_any (cap := cap - m) (sg.on hW) HK.out (by omega) (by rw [HZ.out]; omega))
          have r1 : ∀ W : World, (Instr.slice 22 (.slice (some ⟨g, 0, none⟩) len cap) (some (.int .i64 (m : Int))) (some (.int .i64 (e : Int))) none).run Try.prog W = .ok (.slice (some ⟨g, m, none⟩) (j + 1) (cap - m)) W := fun W => by
            have := lh_run g len cap m e (m : Int) (e : Int) rfl rfl (by omega) (by omega) W
            rwa [show e - m = j + 1 by have := HY.out; omega] at this
          rw [show m + (j + 1) = e by have := HY.out; omega] at CN
          have HXX := Lib.hid (@cntF_more zs wide m j len (by omega))
          have HYY := Lib.hid (@cntF_stop zs wide m j len (by omega))
          rw [show m + j + 1 = e by have := HY.out; omega] at HXX HYY
          have HPD := Lib.hid (show pD zs wide most (d + 1) j = (decide (e = len) || decide (wide - need zs m e ≤ most)) by
            unfold pD
            rw [HZ.out, show len - (d + 1) = m by have := HMM.out; omega, ← HY.out])
          have hnb : 0 ≤ need zs m e ∧ need zs m e ≤ 2430 := by
            have := psum_ok HK.out m e (by omega) (by rw [HZ.out]; omega)
            unfold need
            omega
          obtain ⟨N, hN⟩ : ∃ N, need zs m e = N := ⟨_, rfl⟩
          rw [hN] at CN HXX HYY HPD hnb
          have hn1 := hnb.1
          have hn2 := hnb.2
          clear hN sg hnb
          by_cases hfit : N ≤ wide
          · have HC2 := Lib.hid (show cntF zs wide m (len - m - (j + 1)) (j + 1) = cnt zs wide m by rw [← HXX.out hfit]; exact HC.out)
            have HSS := Lib.hid (sumI_step (pD zs wide most (d + 1)) (wl (cD zs wide) (pD zs wide most) d) j)
            have hbs := HBD.out (pD zs wide most (d + 1)) d j (by omega) (by have := HMM.out; omega)
            have hbe := HEL.out d j (by omega) (by have := HMM.out; omega)
            have tcb := tab_cell_behind HT.out (j := j) (by have := HY.out; omega)
            rw [← HY.out] at tcb
            obtain ⟨x, hx⟩ : ∃ x, pD zs wide most (d + 1) j = x := ⟨_, rfl⟩
            rw [hx] at HPD HSS
            obtain ⟨S, hS⟩ : ∃ S, sumI (pD zs wide most (d + 1)) (wl (cD zs wide) (pD zs wide most) d) j = S := ⟨_, rfl⟩
            obtain ⟨z, hz⟩ : ∃ z, (wl (cD zs wide) (pD zs wide most) d).getD j 0 = z := ⟨_, rfl⟩
            rw [hS, hz] at HSS
            rw [hS] at hbs HT
            rw [hz] at hbe tcb
            obtain ⟨tc1, tc2, tc3⟩ := tab_cells HT.out (show m < len + 1 by omega) (S + z)
            have HTC := Lib.hid tc3
            have s1 := hbs.1
            have s2 := hbs.2
            have z1 := hbe.1
            have z2 := hbe.2
            have wadd : IntKind.i64.wrap (S + z) = S + z := by rw [IntKind.wrap_i64]; omega
            have bm1 : (m : Int) < ((len + 1 : Nat) : Int) := by omega
            have bm2 : (m : Int) < (len : Int) + 1 := by omega
            have be1 : (e : Int) < ((len + 1 : Nat) : Int) := by omega
            have be2 : (e : Int) < (len : Int) + 1 := by omega
            clear hbs hbe hx hS hz tc3 HXX HYY
            by_cases hend : e = len
            · have tq : ((e : Int) == (len : Int)) = true := by rw [beq_iff_eq]; omega
              have HST2 := Lib.hid (show sumI (pD zs wide most (d + 1)) (wl (cD zs wide) (pD zs wide most) d) (j + 1) = S + z by rw [HSS.out, HPD.out, decide_eq_true hend]; rfl)
              clear hend
              go_wp2_with fail
              refine (CN.out _ (Below.refl _ _)).mono ?_
              rintro e w' ⟨rfl, rfl⟩
              go_wp2_with fail
              go_still_tail 10, (by kernel_rfl)
              change wpList _ _ _ _ _ wr.drew
              obtain ⟨w2, hw2⟩ : ∃ w2, wr.drew = w2 := ⟨_, rfl⟩
              have HO2' := Li.own_on HT.out (Below.refl wr.heap.size wr).drew
              have HB2' := HB2.out.drew
              rw [hw2] at HO2' HB2'
              rw [hw2]
              obtain ⟨uc1, uc2, uc3⟩ := tab_cells HO2' (show m < len + 1 by omega) (S + z)
              have HUC := Lib.hid uc3
              have HB3 := Lib.hid (HB2'.setCell (p := ⟨w.heap.size, m, none⟩) (Nat.le_refl _) (.int .i64 (S + z)))
              clear uc3 HO2' HB2' tc1 tc2 tcb hw2
              go_wp2
              go_roundw
              case rel => exact ⟨j + 1, e + 1, by omega, by first | rfl | go_num, Lib.hid (by have := HY.out; omega), Lib.hid (by rw [HST2.out]; exact HUC.out), HB3, HC2⟩
              case measure => simp [intOf] <;> omega
            · have tq : ((e : Int) == (len : Int)) = false := by rw [beq_eq_false_iff_ne]; omega
              by_cases hmo : wide - N ≤ most
              · have HST2 := Lib.hid (show sumI (pD zs wide most (d + 1)) (wl (cD zs wide) (pD zs wide most) d) (j + 1) = S + z by rw [HSS.out, HPD.out, decide_eq_true hmo, Bool.or_true]; rfl)
                have tm : decide (wide - N ≤ most) = true := decide_eq_true hmo
                go_wp2_with fail
                refine (CN.out _ (Below.refl _ _)).mono ?_
                rintro e w' ⟨rfl, rfl⟩
                go_wp2_with fail
                refine (CN.out _ (Below.refl _ _)).mono ?_
                rintro e w' ⟨rfl, rfl⟩
                go_wp2_with fail
                go_still_tail 10, (by kernel_rfl)
                change wpList _ _ _ _ _ wr.drew
                obtain ⟨w2, hw2⟩ : ∃ w2, wr.drew = w2 := ⟨_, rfl⟩
                have HO2' := Li.own_on HT.out (Below.refl wr.heap.size wr).drew
                have HB2' := HB2.out.drew
                rw [hw2] at HO2' HB2'
                rw [hw2]
                obtain ⟨uc1, uc2, uc3⟩ := tab_cells HO2' (show m < len + 1 by omega) (S + z)
                have HUC := Lib.hid uc3
                have HB3 := Lib.hid (HB2'.setCell (p := ⟨w.heap.size, m, none⟩) (Nat.le_refl _) (.int .i64 (S + z)))
                clear uc3 HO2' HB2' tc1 tc2 tcb hw2
                go_wp2
                go_roundw
                case rel => exact ⟨j + 1, e + 1, by omega, by first | rfl | go_num, Lib.hid (by have := HY.out; omega), Lib.hid (by rw [HST2.out]; exact HUC.out), HB3, HC2⟩
                case measure => simp [intOf] <;> omega
              · have HST2 := Lib.hid (show sumI (pD zs wide most (d + 1)) (wl (cD zs wide) (pD zs wide most) d) (j + 1) = S by rw [HSS.out, HPD.out, decide_eq_false hmo, decide_eq_false hend]; simp)
                have tm : decide (wide - N ≤ most) = false := decide_eq_false hmo
                go_wp2_with fail
                refine (CN.out _ (Below.refl _ _)).mono ?_
                rintro e w' ⟨rfl, rfl⟩
                go_wp2_with fail
                refine (CN.out _ (Below.refl _ _)).mono ?_
                rintro e w' ⟨rfl, rfl⟩
                go_wp2
                go_roundw
                case rel => exact ⟨j + 1, e + 1, by omega, by first | rfl | go_num, Lib.hid (by have := HY.out; omega), Lib.hid (by rw [HST2.out]; exact HT.out), HB2, HC2⟩
                case measure => simp [intOf] <;> omega
          · have HJ := Lib.hid (show j = cnt zs wide m by rw [← HC.out, HYY.out hfit])
            have tf : decide (N ≤ wide) = false := decide_eq_false hfit
            clear HXX HYY HPD
            have HA2 := Lib.hid (show Ow wr w.heap.size w.heap.size (len + 1) (len + 1) (arr zs wide (pD zs wide most) (d + 1)) by
              rw [arr_next zs wide (pD zs wide most) d m (by have := HMM.out; rw [HZ.out]; exact this), ← HJ.out]
              exact HT.out)
            have HXN := Lib.hid (show (m : Int) - 1 = (len : Int) - 1 - ((d + 1 : Nat) : Int) by have := HMM.out; omega)
            go_wp2_with fail
            refine (CN.out _ (Below.refl _ _)).mono ?_
            rintro e w' ⟨rfl, rfl⟩
            go_wp2
            go_roundw
            case rel => exact ⟨d + 1, (m : Int) - 1, by omega, by first | rfl | go_num, HXN, HA2, HB2⟩
            case measure => simp [intOf] <;> omega
        · have HJ := Lib.hid (show j = cnt zs wide m by rw [← HC.out, cntF_all (by omega)])
          have hjl : len < e := by have := HY.out; omega
          have tle : decide ((e : Int) ≤ (len : Int)) = false := by simp; omega
          have HA2 := Lib.hid (show Ow wr w.heap.size w.heap.size (len + 1) (len + 1) (arr zs wide (pD zs wide most) (d + 1)) by
            rw [arr_next zs wide (pD zs wide most) d m (by have := HMM.out; rw [HZ.out]; exact this), ← HJ.out]
            exact HT.out)
          have HXN := Lib.hid (show (m : Int) - 1 = (len : Int) - 1 - ((d + 1 : Nat) : Int) by have := HMM.out; omega)
          go_wp2
          go_roundw
          case rel => exact ⟨d + 1, (m : Int) - 1, by omega, by first | rfl | go_num, HXN, HA2, HB2⟩
          case measure => simp [intOf] <;> omega
    · have eX : X = -1 := by have := HX.out; omega
      subst eX
      have HE := Lib.hid (show d = zs.length by rw [HZ.out]; omega)
      have c0 := ow_cell HA.out (k := 0) (by omega)
      rw [HE.out, arr_at0] at c0
      have HR := Lib.hid (show (wl (cD zs wide) (pD zs wide most) zs.length).getD 0 0 = canW zs wide most from rfl)
      clear HX
      go_wp2
      go_ret
      exact ⟨ret_n HR.out, HB.out⟩
end Ln
end Go.Proofs.Ytdpblijmagcgiaa
