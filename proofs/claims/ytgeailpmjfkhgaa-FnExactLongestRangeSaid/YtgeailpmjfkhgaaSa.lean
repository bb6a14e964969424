/- Ranges that are counted, from both sides. -/
import Derived.Test.YtgeailpmjfkhgaaIa
import Derived.Test.YtgeailpmjfkhgaaGm4
import Derived.Shelf.Abstract
namespace Go.Proofs.Ytgeailpmjfkhgaa
open Go.RowKit Go.Joins Go.Deep Go.ChangeShapes Go.WideShapes
set_option linter.unusedVariables false
set_option linter.unusedSimpArgs false
namespace Gw
open Rg Gm
theorem sAre {b1 g len cap : Nat} {zs : List Int} {w : World} (h : Own w b1 (.slice (some ⟨g, 0, none⟩) len cap) len zs) (hl : len ≤ 1048576) (v : Bool) (hv : good zs len = v) :
    Calls Try.prog 11 #[.slice (some ⟨g, 0, none⟩) len cap] w (Ret (.bool v) w) := by
  have C := Lib.hid (ixGood_some h hl v hv)
  clear h hv
  go_enter Try.func11, Try.ntmps11
  go_wp2_with fail
  refine C.out.mono ?_
  rintro e w' ⟨rfl, hb⟩
  go_wp2
  go_ret
  exact ⟨rfl, hb⟩
theorem good_all {zs : List Int} {n : Nat} (h : good zs n = true) : n ≤ 20 ∧ ∀ k, k < n → okk zs k = true := (good_iff zs n).1 h
set_option maxRecDepth 100000 in
set_option maxHeartbeats 1000000 in
theorem ixCount_some {b1 g len cap : Nat} {zs : List Int} {w : World} (h : Own w b1 (.slice (some ⟨g, 0, none⟩) len cap) len zs) (hg : good zs len = true) :
    Calls Try.prog 36 #[.slice (some ⟨g, 0, none⟩) len cap] w (Ret (.int .i64 (cnt zs len)) w) := by
  have HO := Lib.hid h
  have HG := Lib.hid (good_all hg)
  have h20 := (good_all hg).1
  clear h hg
  go_enter Try.func36, Try.ntmps36
  go_wp2
  go_loopw [3, 8] (fun s i wr => ∃ k : Nat, k ≤ len ∧ i = .int .i64 (k : Int) ∧ s = .int .i64 (cnt zs k) ∧ Below w.heap.size w wr) (fun _ i _ => ((len : Int) - intOf i).toNat)
  case atStart => exact ⟨0, by omega, rfl, rfl, Below.refl _ _⟩
  case round =>
    obtain ⟨k, hk, rfl, rfl, hb⟩ := hrel
    have hc := cnt_le HG.out.2 k hk
    by_cases hlt : (k : Int) < len
    · obtain ⟨q0, q1⟩ := cells2 (Li.own_on HO.out hb) (k := k) (by omega)
      have hk1 := ((okk_iff zs k).1 (HG.out.2 k (by omega))).1
      have EN := Lib.hid (show cnt zs (k + 1) = cnt zs k + (zs.getD (k * 2 + 1) 0 - zs.getD (k * 2) 0 + 1) from rfl)
      generalize zs.getD (k * 2) 0 = f at *
      generalize zs.getD (k * 2 + 1) 0 = t at *
      obtain ⟨C, hC⟩ : ∃ C, cnt zs k = C := ⟨_, rfl⟩
      rw [hC] at EN hc ⊢
      clear hC
      have r1 := hk1.1
      have r2 := hk1.2.1
      have r3 := hk1.2.2
      have c1 := hc.1
      have c2 := hc.2
      have x1 : wrap64 (t - f) = t - f := IntWalk.wrap64_in _ (by omega)
      have x2 : wrap64 (t - f + 1) = t - f + 1 := IntWalk.wrap64_in _ (by omega)
      have x3 : wrap64 (C + (t - f + 1)) = C + (t - f + 1) := IntWalk.wrap64_in _ (by omega)
      clear hk1 hc
      have HB := Lib.hid (hb.alloc hb.size (.cells #[.int .i64 f, .int .i64 t] 43))
      clear hb
      go_wp2
      go_roundw
      case rel => exact ⟨k + 1, by omega, by go_num, by rw [EN.out] <;> first | rfl | go_num, HB.out⟩
      case measure => simp [intOf]; omega
    · have E := Lib.hid (show k = len by omega)
      go_wp2
      go_ret
      exact ⟨by rw [E.out]; rfl, hb⟩
/-- how many pages, or none -/
def cntV (zs : List Int) (n : Nat) : Int := if good zs n = true then cnt zs n else 0
theorem cntV_yes {zs : List Int} {n : Nat} (h : good zs n = true) : cntV zs n = cnt zs n := by unfold cntV; rw [if_pos h]
theorem cntV_no {zs : List Int} {n : Nat} (h : good zs n = false) : cntV zs n = 0 := by unfold cntV; rw [if_neg (by rw [h]; simp)]
theorem sCount {b1 g len cap : Nat} {zs : List Int} {w : World} (h : Own w b1 (.slice (some ⟨g, 0, none⟩) len cap) len zs) (hl : len ≤ 1048576) :
    Calls Try.prog 15 #[.slice (some ⟨g, 0, none⟩) len cap] w (Ret (.tuple #[.int .i64 (cntV zs len), .bool (good zs len)]) w) := by
  obtain ⟨v, hv⟩ : ∃ v, good zs len = v := ⟨_, rfl⟩
  have C := Lib.hid (ixGood_some h hl v hv)
  have HO := Lib.hid h
  rw [hv]
  have HV := Lib.hid hv
  clear h hv
  cases v
  · rw [cntV_no HV.out]
    go_enter Try.func15, Try.ntmps15
    go_wp2_with fail
    refine C.out.mono ?_
    rintro e w' ⟨rfl, hb⟩
    go_wp2
    go_ret2
    exact ⟨rfl, hb⟩
  · rw [cntV_yes HV.out]
    go_enter Try.func15, Try.ntmps15
    go_wp2_with fail
    refine C.out.mono ?_
    rintro e w1 ⟨rfl, hb⟩
    have HB := Lib.hid hb
    have D := Lib.hid (ixCount_some (Li.own_on HO.out hb) HV.out)
    clear hb
    go_wp2_with fail
    refine D.out.mono ?_
    rintro e w2 ⟨rfl, hb2⟩
    have HE := Lib.hid (HB.out.trans (Rg.below_le hb2 HB.out.size))
    clear hb2
    go_wp2
    go_ret2
    exact ⟨rfl, HE.out⟩
theorem pages_any (f t : Int) (r1 : 1 ≤ f) (r2 : f ≤ t) (r3 : t ≤ 2000) (w : World) : Calls Try.prog 38 #[.agg #[.int .i64 f, .int .i64 t]] w (Ret (.int .i64 (t - f + 1)) w) := by
  have x1 : wrap64 (t - f) = t - f := IntWalk.wrap64_in _ (by omega)
  have x2 : wrap64 (t - f + 1) = t - f + 1 := IntWalk.wrap64_in _ (by omega)
  go_enter Try.func38, Try.ntmps38
  go_wp2
  go_ret
  exact ⟨rfl, below_alloc1 _ _⟩
set_option maxRecDepth 100000 in
set_option maxHeartbeats 1000000 in
theorem sumOf_some {b1 g len cap : Nat} {zs : List Int} {w : World} (h : Own w b1 (.slice (some ⟨g, 0, none⟩) len cap) len zs) (hg : good zs len = true) :
    Calls Try.prog 37 #[.slice (some ⟨g, 0, none⟩) len cap, .func (.func 38) #[] #[]] w (Ret (.int .i64 (cnt zs len)) w) := by
  have HO := Lib.hid h
  have HG := Lib.hid (good_all hg)
  have h20 := (good_all hg).1
  have eg : ∀ args w, (callFunc 38 args).run Try.prog w = .ok (.enter 38 args) w := enters_of Try.func38 (by kernel_rfl) rfl
  clear h hg
  go_enter Try.func37, Try.ntmps37
  go_wp2
  go_loopw [5, 10] (fun s i wr => ∃ k : Nat, k ≤ len ∧ i = .int .i64 (k : Int) ∧ s = .int .i64 (cnt zs k) ∧ Below w.heap.size w wr) (fun _ i _ => ((len : Int) - intOf i).toNat)
  case atStart => exact ⟨0, by omega, rfl, rfl, Below.refl _ _⟩
  case round =>
    obtain ⟨k, hk, rfl, rfl, hb⟩ := hrel
    have hc := cnt_le HG.out.2 k hk
    by_cases hlt : (k : Int) < len
    · obtain ⟨q0, q1⟩ := cells2 (Li.own_on HO.out hb) (k := k) (by omega)
      have hk1 := ((okk_iff zs k).1 (HG.out.2 k (by omega))).1
      have EN := Lib.hid (show cnt zs (k + 1) = cnt zs k + (zs.getD (k * 2 + 1) 0 - zs.getD (k * 2) 0 + 1) from rfl)
      generalize zs.getD (k * 2) 0 = f at *
      generalize zs.getD (k * 2 + 1) 0 = t at *
      obtain ⟨C, hC⟩ : ∃ C, cnt zs k = C := ⟨_, rfl⟩
      rw [hC] at EN hc ⊢
      clear hC
      have HP := Lib.hid (fun W => pages_any f t hk1.1 hk1.2.1 hk1.2.2 W)
      have r1 := hk1.1
      have r2 := hk1.2.1
      have r3 := hk1.2.2
      have c1 := hc.1
      have c2 := hc.2
      have x3 : wrap64 (C + (t - f + 1)) = C + (t - f + 1) := IntWalk.wrap64_in _ (by omega)
      clear hk1 hc
      have HB := Lib.hid hb
      clear hb
      go_wp2_with fail
      first | (go_at_call 38) | (go_at_fn 38) | skip
      refine (HP.out _).mono ?_
      rintro e w4 ⟨rfl, hb4⟩
      have HE := Lib.hid (below_r HB.out hb4)
      clear hb4 q0 q1
      go_wp2
      go_roundw
      case rel => exact ⟨k + 1, by omega, by go_num, by rw [EN.out] <;> first | rfl | go_num, HE.out⟩
      case measure => simp [intOf]; omega
    · have E := Lib.hid (show k = len by omega)
      go_wp2
      go_ret
      exact ⟨by rw [E.out]; rfl, hb⟩
theorem iCount {b1 g len cap : Nat} {zs : List Int} {w : World} (h : Own w b1 (.slice (some ⟨g, 0, none⟩) len cap) len zs) (hl : len ≤ 1048576) :
    Calls Try.prog 16 #[.slice (some ⟨g, 0, none⟩) len cap] w (Ret (.tuple #[.int .i64 (cntV zs len), .bool (good zs len)]) w) := by
  obtain ⟨v, hv⟩ : ∃ v, good zs len = v := ⟨_, rfl⟩
  have C := Lib.hid (areRanges_some h hl v hv)
  have HO := Lib.hid h
  rw [hv]
  have HV := Lib.hid hv
  clear h hv
  cases v
  · rw [cntV_no HV.out]
    go_enter Try.func16, Try.ntmps16
    go_wp2_with fail
    refine C.out.mono ?_
    rintro e w' ⟨rfl, hb⟩
    go_wp2
    go_ret2
    exact ⟨rfl, hb⟩
  · rw [cntV_yes HV.out]
    go_enter Try.func16, Try.ntmps16
    go_wp2_with fail
    refine C.out.mono ?_
    rintro e w1 ⟨rfl, hb⟩
    have HB := Lib.hid hb
    have D := Lib.hid (sumOf_some (Li.own_on HO.out hb) HV.out)
    clear hb
    go_wp2_with fail
    refine D.out.mono ?_
    rintro e w2 ⟨rfl, hb2⟩
    have HE := Lib.hid (HB.out.trans (Rg.below_le hb2 HB.out.size))
    clear hb2
    go_wp2
    go_ret2
    exact ⟨rfl, HE.out⟩
theorem sAre2 {b1 g len cap : Nat} {zs : List Int} {w : World} (h : Own w b1 (.slice (some ⟨g, 0, none⟩) len cap) len zs) (hl : len ≤ 1048576) :
    Calls Try.prog 11 #[.slice (some ⟨g, 0, none⟩) len cap] w (Ret (.bool (good zs len)) w) := sAre h hl _ rfl
theorem iAre2 {b1 g len cap : Nat} {zs : List Int} {w : World} (h : Own w b1 (.slice (some ⟨g, 0, none⟩) len cap) len zs) (hl : len ≤ 1048576) :
    Calls Try.prog 13 #[.slice (some ⟨g, 0, none⟩) len cap] w (Ret (.bool (good zs len)) w) := areRanges_some h hl _ rfl
end Gw
end Go.Proofs.Ytgeailpmjfkhgaa
