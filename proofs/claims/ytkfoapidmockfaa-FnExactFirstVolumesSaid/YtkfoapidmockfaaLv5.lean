/- LeastVolume from both sides: counted up, and searched. -/
import Derived.Test.YtkfoapidmockfaaVo5
import Derived.Deep.LoopGhost
import Derived.Deep.RegionHeld3
namespace Go.Proofs.Ytkfoapidmockfaa
open Go.RowKit Go.Joins Go.Deep Go.ChangeShapes Go.WideShapes
set_option linter.unusedVariables false
set_option linter.unusedSimpArgs false
namespace Ch
open Sh
def vin (n : Nat) (v : Int) : Bool := decide (1 ≤ v) && decide (v ≤ min 5 (n : Int))
def ask (zs : List Int) (v : Int) : Bool := good zs && vin zs.length v
def lva (zs : List Int) (v : Int) : Int := if ask zs v = true then ((lv zs v : Nat) : Int) else 0
theorem lva_no {zs : List Int} {v : Int} (h : ask zs v = false) : lva zs v = 0 := by unfold lva; rw [h]; rfl
theorem lva_yes {zs : List Int} {v : Int} (h : ask zs v = true) : lva zs v = ((lv zs v : Nat) : Int) := by unfold lva; rw [if_pos h]
theorem vin_iff (n : Nat) (v : Int) : vin n v = true ↔ 1 ≤ v ∧ v ≤ 5 ∧ v ≤ n := by unfold vin; simp only [Bool.and_eq_true, decide_eq_true_eq]; omega
theorem ask_parts {zs : List Int} {v : Int} (h : ask zs v = true) : good zs = true ∧ 1 ≤ v ∧ v ≤ 5 ∧ v ≤ zs.length := by
  unfold ask at h
  rw [Bool.and_eq_true, vin_iff] at h
  exact h
theorem l1Least_any (a b : Int) (w : World) : Calls Try.prog 58 #[.int .i64 a, .int .i64 b] w fun e w' => e = .returned (.int .i64 (min a b)) ∧ w = w' := by
  by_cases h : a < b
  · have E := Lib.hid (show min a b = a by omega)
    rw [E.out]
    go_enter Try.func58, Try.ntmps58
    go_wp2
    go_ret
    exact ⟨rfl, rfl⟩
  · have E := Lib.hid (show min a b = b by omega)
    rw [E.out]
    go_enter Try.func58, Try.ntmps58
    go_wp2
    go_ret
    exact ⟨rfl, rfl⟩
set_option maxRecDepth 100000 in
theorem sAsk_any {b1 g len cap : Nat} {zs : List Int} {w : World} (h : Ow w b1 g len cap zs) (hl : len ≤ 1048576) (v : Int) (x : Bool) (hx : ask zs v = x) :
    Calls Try.prog 45 #[.slice (some ⟨g, 0, none⟩) len cap, .int .i64 v] w fun e w' => e = .returned (.bool x) ∧ w = w' := by
  have HO := Lib.hid h
  have hz := ow_len h
  unfold ask at hx
  rw [hz] at hx
  cases hg : good zs with
  | false =>
    have HG := Lib.hid hg
    rw [hg] at hx
    subst hx
    clear h hz hg
    go_enter Try.func45, Try.ntmps45
    go_wp2_with (first | (go_at_call 34; refine (sGood_any HO.out hl false HG.out).mono ?_; rintro e w' ⟨rfl, rfl⟩))
    go_ret
    exact ⟨rfl, rfl⟩
  | true =>
    have HG := Lib.hid hg
    rw [hg, Bool.true_and] at hx
    have HX := Lib.hid (show (decide ((1 : Int) ≤ v) && decide (v ≤ min 5 (len : Int))) = x from hx)
    clear h hz hg hx
    go_enter Try.func45, Try.ntmps45
    go_wp2_with (first | (go_at_call 34; refine (sGood_any HO.out hl true HG.out).mono ?_; rintro e w' ⟨rfl, rfl⟩) | (go_at_call 58; refine (l1Least_any _ _ _).mono ?_; rintro e w' ⟨rfl, rfl⟩) | (go_at_call 42; refine (l1In_any _ _ _ x HX.out _).mono ?_; rintro e w' ⟨rfl, rfl⟩))
    go_ret
    exact ⟨rfl, rfl⟩
set_option maxRecDepth 100000 in
theorem areVol_any (a : Option Addr) (len cap : Nat) (hl : len ≤ 1048576) (v : Int) (x : Bool) (hx : vin len v = x) (w : World) :
    Calls Try.prog 47 #[.slice a len cap, .int .i64 v] w fun e w' => e = .returned (.bool x) ∧ w = w' := by
  by_cases c1 : 1 ≤ v
  · by_cases c2 : (len : Int) < 5
    · have E := Lib.hid (show decide (v ≤ (len : Int)) = x by rw [← hx]; unfold vin; rw [show min 5 (len : Int) = (len : Int) by omega]; simp [c1])
      have hif : (if (len : Int) < 5 then (len : Int) else 5) = (len : Int) := by rw [if_pos c2]
      clear hx
      go_enter Try.func47, Try.ntmps47
      go_wp2
      all_goals
        go_ret
        exact ⟨rb E.out.symm rfl, rfl⟩
    · have E := Lib.hid (show decide (v ≤ 5) = x by rw [← hx]; unfold vin; rw [show min 5 (len : Int) = 5 by omega]; simp [c1])
      have hif : (if (len : Int) < 5 then (len : Int) else 5) = 5 := by rw [if_neg c2]
      clear hx
      go_enter Try.func47, Try.ntmps47
      go_wp2
      all_goals
        go_ret
        exact ⟨rb E.out.symm rfl, rfl⟩
  · have t1 : decide (1 ≤ v) = false := by simpa using c1
    have E := Lib.hid (show x = false by rw [← hx]; unfold vin; rw [t1]; rfl)
    clear hx c1
    go_enter Try.func47, Try.ntmps47
    go_wp2
    go_ret
    exact ⟨rb E.out rfl, rfl⟩
set_option maxRecDepth 100000 in
set_option maxHeartbeats 1000000 in
theorem caLeast_any {b1 g len cap : Nat} {zs : List Int} {w : World} (h : Ow w b1 g len cap zs) (hl : len ≤ 1048576) (v : Int) (ha : ask zs v = true) :
    Calls Try.prog 46 #[.slice (some ⟨g, 0, none⟩) len cap, .int .i64 v] w fun e w' => e = .returned (.int .i64 ((lv zs v : Nat) : Int)) ∧ w = w' := by
  obtain ⟨hg, hv1, hv5, hvn⟩ := ask_parts ha
  have ho := (good_iff zs).1 hg
  have AT := Lib.hid (ow_off h hl)
  have GD := Lib.hid (good_of ho)
  have H1 := Lib.hid ho.1
  clear h ha hg ho
  have C := Lib.hid (fun (m : Nat) (hm : m ≤ 2000) => cv_any (cap := cap) (m := (m : Int)) (w := w) AT.out GD.out (by omega) (by omega))
  go_enter Try.func46, Try.ntmps46
  go_wp2_with fail
  refine (C.out 1 (by omega)).mono ?_
  rintro e w' ⟨rfl, rfl⟩
  go_wp2
  go_loop [5, 6] (fun i n => ∃ m : Nat, 1 ≤ m ∧ m ≤ 1440 ∧ i = .int .i64 (m : Int) ∧ n = .int .i64 ((cv (m : Int) zs : Nat) : Int) ∧ ∀ u, 1 ≤ u → u < m → fit zs v u = false) (fun i _ => (2000 - intOf i).toNat)
  case atStart => exact ⟨1, by omega, by omega, rfl, rfl, fun u u1 u2 => by omega⟩
  case round =>
    obtain ⟨m, hm1, hm2, rfl, rfl, hall⟩ := hrel
    have HAL := Lib.hid hall
    clear hall
    have hc12 := Nat.le_trans (cv_le (m : Int) zs) GD.out.1
    cases hf : fit zs v m with
    | false =>
      have HF := Lib.hid hf
      have hlt : m < 1440 := by
        rcases Nat.lt_or_ge m 1440 with h1 | h1
        · exact h1
        · rw [fit_great GD.out H1.out hv1 h1] at hf
          cases hf
      have HAN := Lib.hid (show ∀ u, 1 ≤ u → u < m + 1 → fit zs v u = false from fun u u1 u2 => by
        by_cases e : u = m
        · subst e; exact HF.out
        · exact HAL.out u u1 (by omega))
      have hx : cv (m : Int) zs = 0 ∨ (cv (m : Int) zs ≠ 0 ∧ v < ((cv (m : Int) zs : Nat) : Int)) := by
        unfold fit at hf
        rw [Bool.and_eq_false_iff, decide_eq_false_iff_not, decide_eq_false_iff_not] at hf
        omega
      have e1 : ((m + 1 : Nat) : Int) = (m : Int) + 1 := by omega
      have C1 := Lib.hid (show Calls Try.prog 51 #[.slice (some ⟨g, 0, none⟩) len cap, .int .i64 ((m : Int) + 1)] w fun e w' => e = .returned (.int .i64 ((cv (((m + 1 : Nat)) : Int) zs : Nat) : Int)) ∧ w = w' from by rw [← e1]; exact C.out (m + 1) (by omega))
      clear hf e1
      obtain ⟨V, hV⟩ : ∃ V, cv (m : Int) zs = V := ⟨_, rfl⟩
      obtain ⟨V2, hV2⟩ : ∃ V2, cv ((m + 1 : Nat) : Int) zs = V2 := ⟨_, rfl⟩
      rw [hV2] at C1
      rw [hV] at hx hc12 ⊢
      have HV2 := Lib.hid hV2
      clear hV hV2
      rcases hx with hx | ⟨hx1, hx2⟩
      · have t1 : ((V : Int) == 0) = true := by simp [hx]
        clear hx
        go_wp2_with fail
        refine C1.out.mono ?_
        rintro e w' ⟨rfl, rfl⟩
        go_wp2
        go_round
        case rel => exact ⟨m + 1, by omega, by omega, by go_num, by rw [HV2.out], HAN.out⟩
        case measure => simp [intOf]; omega
      · have t1 : ((V : Int) == 0) = false := by simp [hx1]
        clear hx1
        go_wp2_with fail
        refine C1.out.mono ?_
        rintro e w' ⟨rfl, rfl⟩
        go_wp2
        go_round
        case rel => exact ⟨m + 1, by omega, by omega, by go_num, by rw [HV2.out], HAN.out⟩
        case measure => simp [intOf]; omega
    | true =>
      have E := Lib.hid (show lv zs v = m from lv_is hm1 (by omega) hf HAL.out)
      have hx : cv (m : Int) zs ≠ 0 ∧ ¬ v < ((cv (m : Int) zs : Nat) : Int) := by
        unfold fit at hf
        rw [Bool.and_eq_true, decide_eq_true_eq, decide_eq_true_eq] at hf
        omega
      obtain ⟨hx1, hx2⟩ := hx
      have t1 : (((cv (m : Int) zs : Nat) : Int) == 0) = false := by simp [hx1]
      clear hf hx1
      generalize cv (m : Int) zs = V at *
      go_wp2
      go_ret
      exact ⟨Li.ret_int (by rw [E.out]), rfl⟩
set_option maxRecDepth 100000 in
theorem sLeast {b1 g len cap : Nat} {zs : List Int} {w : World} (h : Ow w b1 g len cap zs) (hl : len ≤ 1048576) (v : Int) :
    Calls Try.prog 28 #[.slice (some ⟨g, 0, none⟩) len cap, .int .i64 v] w (Ret (.tuple #[.int .i64 (lva zs v), .bool (ask zs v)]) w) := by
  have HO := Lib.hid h
  cases hg : ask zs v with
  | false =>
    have HG := Lib.hid hg
    have E := Lib.hid (lva_no hg)
    rw [E.out]
    clear h hg
    go_enter Try.func28, Try.ntmps28
    go_wp2_with fail
    refine (sAsk_any HO.out hl v false HG.out).mono ?_
    rintro e w' ⟨rfl, rfl⟩
    go_wp2
    go_ret2
    exact ⟨rfl, Below.refl _ _⟩
  | true =>
    have HG := Lib.hid hg
    have E := Lib.hid (lva_yes hg)
    rw [E.out]
    clear h hg
    go_enter Try.func28, Try.ntmps28
    go_wp2_with fail
    refine (sAsk_any HO.out hl v true HG.out).mono ?_
    rintro e w' ⟨rfl, rfl⟩
    go_wp2_with fail
    refine (caLeast_any HO.out hl v HG.out).mono ?_
    rintro e w' ⟨rfl, rfl⟩
    go_wp2
    go_ret2
    exact ⟨rfl, Below.refl _ _⟩
/-! searched -/
def pv (zs : List Int) (M : Int) (v : Int) (k : Nat) : Bool := decide (((vn (M + (k : Int)) zs : Nat) : Int) ≤ v)
theorem pv_mono {zs : List Int} (hg : Good zs) {M v : Int} (h0 : 0 ≤ M) {j k : Nat} (hjk : j ≤ k) (h : pv zs M v j = true) : pv zs M v k = true := by
  unfold pv at h ⊢
  rw [decide_eq_true_eq] at h ⊢
  have := vn_wider (show M + (j : Int) ≤ M + (k : Int) by omega) (by omega) zs (fun z hz => by have := (hg.2 z hz).1; omega)
  omega
/-- what the closure reads -/
def Asks (zs : List Int) (M v : Int) (bc bm bv g len cap b1 : Nat) (W : World) : Prop :=
  (W.cell? ⟨bc, 0, none⟩ = some (.slice (some ⟨g, 0, none⟩) len cap) ∧ W.cell? ⟨bm, 0, none⟩ = some (.int .i64 M) ∧ W.cell? ⟨bv, 0, none⟩ = some (.int .i64 v)) ∧ (bc < W.heap.size ∧ bm < W.heap.size ∧ bv < W.heap.size) ∧ Ow W b1 g len cap zs
theorem Asks.on {zs : List Int} {M v : Int} {bc bm bv g len cap b1 : Nat} {W W' : World} (h : Asks zs M v bc bm bv g len cap b1 W) (hb : Below W.heap.size W W') : Asks zs M v bc bm bv g len cap b1 W' :=
  ⟨⟨(hb.cell (p := ⟨bc, 0, none⟩) h.2.1.1).trans h.1.1, (hb.cell (p := ⟨bm, 0, none⟩) h.2.1.2.1).trans h.1.2.1, (hb.cell (p := ⟨bv, 0, none⟩) h.2.1.2.2).trans h.1.2.2⟩,
    ⟨Nat.lt_of_lt_of_le h.2.1.1 hb.size, Nat.lt_of_lt_of_le h.2.1.2.1 hb.size, Nat.lt_of_lt_of_le h.2.1.2.2 hb.size⟩, Li.own_on h.2.2 hb⟩
set_option maxRecDepth 100000 in
theorem ask_any {zs : List Int} {M v : Int} {bc bm bv g len cap b1 : Nat} {w : World} (h : Asks zs M v bc bm bv g len cap b1 w) (hl : len ≤ 1048576) (hg : Good zs) (hM : ∀ j, j < len → zs.getD j 0 ≤ M) (h1 : 1 ≤ M) (h2 : M ≤ 120) (k : Nat) (hk : k ≤ 1440) :
    Calls Try.prog 49 #[.int .i64 (k : Int), .pointer (some ⟨bc, 0, none⟩), .pointer (some ⟨bm, 0, none⟩), .pointer (some ⟨bv, 0, none⟩)] w (Ret (.bool (pv zs M v k)) w) := by
  obtain ⟨q0, q1, q2⟩ := h.1
  have C := Lib.hid (fun (W : World) (hW : Below w.heap.size w W) => vn_any (cap := cap) (m := M + (k : Int)) (ow_off (Li.own_on h.2.2 hW) hl) hg (fun j hj => by have := hM j hj; omega) (by omega) (by omega))
  have hn := Nat.le_trans (vn_le (M + (k : Int)) zs) hg.1
  have E := Lib.hid (show pv zs M v k = decide (((vn (M + (k : Int)) zs : Nat) : Int) ≤ v) from rfl)
  rw [E.out]
  generalize vn (M + (k : Int)) zs = V at *
  have s1 : IntKind.i64.wrap (M + (k : Int)) = M + (k : Int) := IntWalk.i64_in _ (by omega)
  have HM := Lib.hid hM
  have HGD := Lib.hid hg
  have HH := Lib.hid h
  clear h hg hM
  go_enter Try.func49, Try.ntmps49
  go_wp2
  go_quiet ((go_at_call 50; exact Calls.quiet_of_same ((C.out _ (by first | exact Below.refl _ _ | exact Li.below_draws (Below.refl _ _) _)).mono fun _ _ ⟨h1, h2⟩ => ⟨h1, h2.symm⟩)))
  go_wp2
  go_ret
  exact ⟨rfl, Li.below_draws (Below.refl _ _) _⟩
def SPost (zs : List Int) (M v : Int) (T : Nat) (w : World) (e : Ending) (w' : World) : Prop := ∃ K : Nat, e = .returned (.int .i64 (K : Int)) ∧ K ≤ T ∧ (∀ u, u < K → pv zs M v u = false) ∧ (K < T → pv zs M v K = true) ∧ Below w.heap.size w w'
set_option maxRecDepth 100000 in
set_option maxHeartbeats 1000000 in
theorem search_any {zs : List Int} {M v : Int} {bc bm bv g len cap b1 : Nat} {w : World} (h : Asks zs M v bc bm bv g len cap b1 w) (hl : len ≤ 1048576) (hg : Good zs) (hM : ∀ j, j < len → zs.getD j 0 ≤ M) (h1 : 1 ≤ M) (h2 : M ≤ 120) (T : Nat) (hT : T ≤ 1440) :
    Calls Try.prog 48 #[.int .i64 (T : Int), .func (.func 49) #[] #[.pointer (some ⟨bc, 0, none⟩), .pointer (some ⟨bm, 0, none⟩), .pointer (some ⟨bv, 0, none⟩)]] w (SPost zs M v T w) := by
  have HA := Lib.hid h
  have HGD := Lib.hid hg
  have HM := Lib.hid hM
  have eg : ∀ args w, (callFunc 49 args).run Try.prog w = .ok (.enter 49 args) w := enters_of Try.func49 (by kernel_rfl) rfl
  clear h hg hM
  go_enter Try.func48, Try.ntmps48
  go_wp2
  go_loopg [5, 6] T (fun gk x y wr => ∃ i j : Nat, gk = j - i ∧ i ≤ j ∧ j ≤ T ∧ x = .int .i64 (i : Int) ∧ y = .int .i64 (j : Int) ∧ (∀ u, u < i → pv zs M v u = false) ∧ (j < T → pv zs M v j = true) ∧ Below w.heap.size w wr)
  case atStart => exact ⟨0, T, rfl, Nat.zero_le _, Nat.le_refl _, rfl, rfl, fun u hu => by omega, fun hh => by omega, Below.refl _ _⟩
  case round =>
    obtain ⟨i, j, hgk, hij, hjT, rfl, rfl, h1', h2', hb⟩ := hrel
    have GK := Lib.hid hgk
    have H1 := Lib.hid h1'
    have H2 := Lib.hid h2'
    have HB := Lib.hid hb
    clear hgk h1' h2' hb
    by_cases hlt : i < j
    · obtain ⟨k, hk⟩ : ∃ k : Nat, ((i : Int) + (j : Int)) / 2 = (k : Int) := ⟨(i + j) / 2, by omega⟩
      have k1 : i ≤ k := by omega
      have k2 : k < j := by omega
      have C := ask_any (HA.out.on HB.out) hl HGD.out HM.out h1 h2 k (by omega)
      cases hp : pv zs M v k with
      | false =>
        rw [hp] at C
        have HC := Lib.hid C
        have N := Lib.hid (show ∀ u, u < k + 1 → pv zs M v u = false from fun u hu => by
          cases h3 : pv zs M v u with
          | false => rfl
          | true =>
            have := pv_mono HGD.out (show 0 ≤ M by omega) (j := u) (k := k) (by omega) h3
            rw [hp] at this
            cases this)
        clear C hp
        go_wp2_with fail
        refine HC.out.mono ?_
        rintro e w2 ⟨rfl, hb⟩
        have HB2 := Lib.hid (HB.out.trans (Sh.below_le hb HB.out.size))
        clear hb
        go_wp2
        go_roundg (j - (k + 1))
        case measure => have := GK.out; omega
        case rel => exact ⟨k + 1, j, rfl, by omega, hjT, by go_num, rfl, N.out, H2.out, HB2.out⟩
      | true =>
        rw [hp] at C
        have HC := Lib.hid C
        have HP := Lib.hid hp
        clear C hp
        go_wp2_with fail
        refine HC.out.mono ?_
        rintro e w2 ⟨rfl, hb⟩
        have HB2 := Lib.hid (HB.out.trans (Sh.below_le hb HB.out.size))
        clear hb
        go_wp2
        go_roundg (k - i)
        case measure => have := GK.out; omega
        case rel => exact ⟨i, k, rfl, k1, by omega, rfl, rfl, H1.out, fun _ => HP.out, HB2.out⟩
    · have e : i = j := by omega
      subst e
      go_wp2
      go_ret
      exact ⟨i, rfl, hjT, H1.out, H2.out, HB.out⟩
/-- what the search finds is the least -/
theorem lv_found {zs : List Int} {v M : Int} (ha : ask zs v = true) (hM1 : ∃ q, q < zs.length ∧ zs.getD q 0 = M) (hM2 : ∀ q, q < zs.length → zs.getD q 0 ≤ M) {K : Nat} (hK : K ≤ 1440) (hl : ∀ u, u < K → pv zs M v u = false) (hy : K < 1440 → pv zs M v K = true) : ((lv zs v : Nat) : Int) = M + (K : Int) := by
  obtain ⟨hg, hv1, hv5, hvn⟩ := ask_parts ha
  have ho := (good_iff zs).1 hg
  have GD := good_of ho
  obtain ⟨q, q1, q2⟩ := hM1
  have hq := ho.2.2 q q1
  rw [q2] at hq
  obtain ⟨m, hm⟩ := Int.eq_ofNat_of_zero_le (show 0 ≤ M by omega)
  have key : ∀ u : Nat, fit zs v (m + u) = pv zs M v u := fun u => by
    rw [fit_vn GD ho.1 (fun z hz => by obtain ⟨k, hk, e⟩ := at_mem hz; have := hM2 k hk; omega)]
    unfold pv
    rw [show ((m + u : Nat) : Int) = M + (u : Int) by omega]
  have e : lv zs v = m + K := by
    refine lv_is (by omega) (by omega) ?_ ?_
    · by_cases c : K < 1440
      · rw [key]; exact hy c
      · exact fit_great GD ho.1 hv1 (by omega)
    · intro u u1 u2
      by_cases c : u < m
      · exact fit_small (mem_at q1) (by rw [q2]; omega)
      · obtain ⟨d, rfl⟩ : ∃ d, u = m + d := ⟨u - m, by omega⟩
        rw [key]
        exact hl d (by omega)
  rw [e]
  omega
set_option maxRecDepth 100000 in
set_option maxHeartbeats 1000000 in
theorem iLeast {b1 g len cap : Nat} {zs : List Int} {w : World} (h : Ow w b1 g len cap zs) (hl : len ≤ 1048576) (v : Int) :
    Calls Try.prog 29 #[.slice (some ⟨g, 0, none⟩) len cap, .int .i64 v] w (Ret (.tuple #[.int .i64 (lva zs v), .bool (ask zs v)]) w) := by
  obtain ⟨W0, hW0⟩ : ∃ W0, W0 = (w.alloc (.cells #[.slice (some ⟨g, 0, none⟩) len cap] 22)).alloc (.cells #[.int .i64 v] 3) := ⟨_, rfl⟩
  have hB0 : Below w.heap.size w W0 := by rw [hW0]; exact (below_alloc1 w _).alloc (by simp) _
  have HB0 := Lib.hid hB0
  have HO := Lib.hid (Li.own_on h hB0)
  have q0 : W0.cell? ⟨w.heap.size, 0, none⟩ = some (.slice (some ⟨g, 0, none⟩) len cap) := by rw [hW0]; simp [go_sem]
  have q1 : W0.cell? ⟨w.heap.size + 1, 0, none⟩ = some (.int .i64 v) := by rw [hW0]; simp [go_sem]
  have SZ := Lib.hid (show W0.heap.size = w.heap.size + 2 by rw [hW0]; simp)
  have Q0 := Lib.hid q0
  have Q1 := Lib.hid q1
  have HW0 := Lib.hid hW0
  clear hW0
  have hz := ow_len h
  obtain ⟨x1, hx1⟩ : ∃ x, good zs = x := ⟨_, rfl⟩
  obtain ⟨x2, hx2⟩ : ∃ x, vin len v = x := ⟨_, rfl⟩
  have ea : ask zs v = (x1 && x2) := by unfold ask; rw [hx1, hz, hx2]
  have C1 := Lib.hid (iGood_any HO.out hl x1 hx1)
  have C2 := Lib.hid (fun W => areVol_any (some ⟨g, 0, none⟩) len cap hl v x2 hx2 W)
  cases x1 with
  | false =>
    have EA := Lib.hid (show ask zs v = false from ea)
    have E := Lib.hid (lva_no EA.out)
    rw [E.out, EA.out]
    clear h hz hx1 hx2 ea hB0
    go_enter Try.func29, Try.ntmps29
    go_wp2_with fail
    rw [← HW0.out]
    refine C1.out.mono ?_
    rintro e w' ⟨rfl, rfl⟩
    go_wp2
    go_ret2
    exact ⟨rfl, HB0.out⟩
  | true =>
    cases x2 with
    | false =>
      have EA := Lib.hid (show ask zs v = false from ea)
      have E := Lib.hid (lva_no EA.out)
      rw [E.out, EA.out]
      clear h hz hx1 hx2 ea hB0
      go_enter Try.func29, Try.ntmps29
      go_wp2_with fail
      rw [← HW0.out]
      refine C1.out.mono ?_
      rintro e w' ⟨rfl, rfl⟩
      go_wp2_with fail
      refine (C2.out _).mono ?_
      rintro e w' ⟨rfl, rfl⟩
      go_wp2
      go_ret2
      exact ⟨rfl, HB0.out⟩
    | true =>
      have EA := Lib.hid (show ask zs v = true from ea)
      have E := Lib.hid (lva_yes EA.out)
      have ho := (good_iff zs).1 hx1
      have hl1 : 1 ≤ len := by have := ho.1; omega
      have HK := Lib.hid ho
      have HZ := Lib.hid hz
      rw [E.out, EA.out]
      clear h hz hx1 hx2 ea hB0 ho
      go_enter Try.func29, Try.ntmps29
      go_wp2_with fail
      rw [← HW0.out]
      refine C1.out.mono ?_
      rintro e w' ⟨rfl, rfl⟩
      go_wp2_with fail
      refine (C2.out _).mono ?_
      rintro e w' ⟨rfl, rfl⟩
      go_wp2_with fail
      refine (max_any HO.out hl hl1).mono ?_
      rintro e w' ⟨M, rfl, hM1, hM2, rfl⟩
      have hq : 1 ≤ M ∧ M ≤ 120 := by
        obtain ⟨q, q1, q2⟩ := hM1
        have := HK.out.2.2 q (by rw [HZ.out]; exact q1)
        rw [q2] at this
        exact this
      have hq1 := hq.1
      have hq2 := hq.2
      have HM1 := Lib.hid hM1
      have HM2 := Lib.hid hM2
      clear hM1 hM2 hq
      go_wp2
      have hb1 : Below w.heap.size w (W0.alloc (.cells #[.int .i64 M] 3)) := HB0.out.alloc HB0.out.size _
      have c1 : (W0.alloc (.cells #[.int .i64 M] 3)).cell? ⟨W0.heap.size, 0, none⟩ = some (.int .i64 M) := by simp [go_sem]
      have b01 : Below W0.heap.size W0 (W0.alloc (.cells #[.int .i64 M] 3)) := below_alloc1 W0 _
      have asx : Asks zs M v w.heap.size W0.heap.size (w.heap.size + 1) g len cap b1 (W0.alloc (.cells #[.int .i64 M] 3)) :=
        ⟨⟨(b01.cell (p := ⟨w.heap.size, 0, none⟩) (by rw [SZ.out]; show w.heap.size < _; omega)).trans Q0.out, c1, (b01.cell (p := ⟨w.heap.size + 1, 0, none⟩) (by rw [SZ.out]; show w.heap.size + 1 < _; omega)).trans Q1.out⟩,
          ⟨by have := SZ.out; simp; omega, by simp, by have := SZ.out; simp; omega⟩, Li.own_on HO.out b01⟩
      obtain ⟨bm, hbm⟩ : ∃ bm, W0.heap.size = bm := ⟨_, rfl⟩
      rw [hbm] at c1 asx ⊢
      obtain ⟨W1, hW1⟩ : ∃ W1, W0.alloc (.cells #[.int .i64 M] 3) = W1 := ⟨_, rfl⟩
      rw [hW1] at hb1 c1 asx ⊢
      have HB1 := Lib.hid hb1
      have AS := Lib.hid asx
      have HLT := Lib.hid asx.2.1.2.1
      have CS := Lib.hid (fun (W : World) (hw : Below W1.heap.size W1 W) => search_any (AS.out.on hw) hl (good_of HK.out) HM2.out hq1 hq2 1440 (Nat.le_refl _))
      clear hb1 asx b01 hbm hW1 q0 q1
      have eg : ∀ args w, (callFunc 49 args).run Try.prog w = .ok (.enter 49 args) w := enters_of Try.func49 (by kernel_rfl) rfl
      go_region_held3 (fun w' => w'.cell? ⟨bm, 0, none⟩ = some (.int .i64 M))
        (first | exact c1 | exact c2 | go_keep)
        (first
          | (go_at_call 48; refine (CS.out _ (Below.refl W1.heap.size W1).drew).mono ?_; rintro e w3 ⟨K, rfl, k1, k2, k3, hb⟩; have BB := Lib.hid ((Below.refl W1.heap.size W1).drew.trans (Sh.below_le hb (Nat.le_refl _))); have c2 := (BB.out.cell (p := ⟨bm, 0, none⟩) HLT.out).trans c1))
      have EK := Lib.hid (lv_found EA.out (by rw [HZ.out]; exact HM1.out) (by rw [HZ.out]; exact HM2.out) k1 k2 k3)
      have HE := Lib.hid (HB1.out.trans (Sh.below_le BB.out HB1.out.size))
      clear k2 k3 hb c2 c1
      go_wp2
      go_ret2
      exact ⟨rib (by rw [EK.out]; first | rfl | exact IntWalk.i64_in _ (by omega)), HE.out⟩
end Ch
end Go.Proofs.Ytkfoapidmockfaa
