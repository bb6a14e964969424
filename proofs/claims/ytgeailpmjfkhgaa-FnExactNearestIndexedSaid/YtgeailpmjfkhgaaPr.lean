/- All pages of ranges, from both sides. -/
import Derived.Test.YtgeailpmjfkhgaaHi
import Derived.Deep.AppendLies
namespace Go.Proofs.Ytgeailpmjfkhgaa
open Go.RowKit Go.Joins Go.Deep Go.ChangeShapes Go.WideShapes
set_option linter.unusedVariables false
set_option linter.unusedSimpArgs false
namespace Gw
open Rg Gm
abbrev OwnI (W : World) (base : Nat) (v : Value) (ys : List Int) : Prop := W.ownsRow base 3 1 v ys.length (Li.nums ys)
theorem ownI_snoc {W : World} {base : Nat} {v : Value} {ys : List Int} {z : Int} (h : W.ownsRow base 3 1 v (ys.length + 1) (Li.nums ys ++ [Value.int .i64 z])) : OwnI W base v (ys ++ [z]) := by
  have e : Li.nums (ys ++ [z]) = Li.nums ys ++ [Value.int .i64 z] := by simp [Li.nums]
  unfold OwnI
  rw [e, List.length_append]
  exact h
theorem ownI_eq {W : World} {base : Nat} {v : Value} {ys ys' : List Int} (h : OwnI W base v ys) (e : ys = ys') : OwnI W base v ys' := e ▸ h
/-- all pages, or none -/
def pgV (zs : List Int) (n : Nat) : List Int := if good zs n = true then pg (prs zs) else []
theorem ok_of {zs : List Int} {n : Nat} (h : good zs n = true) (hz : zs.length = 2 * n) : Ok (prs zs) := (good_ok zs n hz).1 h
theorem pgV_len {zs : List Int} {n : Nat} (hz : zs.length = 2 * n) : (pgV zs n).length ≤ 1048576 := by
  unfold pgV
  split
  · rename_i h
    have ho := ok_of h hz
    have := pg_len (prs zs) (fun q hq => ⟨(ok_in ho q hq).1, (ok_in ho q hq).2.2⟩)
    have := ho.1
    omega
  · simp
theorem pg_take_len {zs : List Int} {n : Nat} (h : good zs n = true) (hz : zs.length = 2 * n) (k : Nat) : (pg ((prs zs).take k)).length ≤ 40000 := by
  have ho := ok_of h hz
  have := pg_len ((prs zs).take k) (fun q hq => ⟨(ok_in ho q (mem_take hq)).1, (ok_in ho q (mem_take hq)).2.2⟩)
  have h20 := ho.1
  rw [List.length_take] at this
  omega
theorem grown_box {w w' : World} {row : Option Nat} {b : Nat} {x y : Value} (h : B2 w b x y) (hg : w.grownBy w' row) (hne : row ≠ some b) : B2 w' b x y := by
  have hk := hg.block b h.1 (fun e => hne e.symm)
  refine ⟨Nat.lt_of_lt_of_le h.1 hg.size, ?_, ?_⟩
  · rw [← h.2.1]; unfold World.cell?; simp only [hk]
  · rw [← h.2.2]; unfold World.cell?; simp only [hk]
set_option maxRecDepth 100000 in
set_option maxHeartbeats 1000000 in
theorem sPages {b1 g len cap : Nat} {zs : List Int} {w : World} (h : Own w b1 (.slice (some ⟨g, 0, none⟩) len cap) len zs) (hl : len ≤ 1048576) :
    Calls Try.prog 23 #[.slice (some ⟨g, 0, none⟩) len cap] w (Rg.GivesL (good zs len) (pgV zs len).length (pgV zs len) w) := by
  obtain ⟨v, hv⟩ : ∃ v, good zs len = v := ⟨_, rfl⟩
  have C := Lib.hid (ixGood_some h hl v hv)
  have HO := Lib.hid h
  have HZ := Lib.hid (own_size h)
  unfold pgV
  rw [hv]
  have HV := Lib.hid hv
  clear h hv
  cases v
  · go_enter Try.func23, Try.ntmps23
    go_wp2_with fail
    refine C.out.mono ?_
    rintro e w' ⟨rfl, hb⟩
    go_wp2
    go_ret2
    exact Rg.GivesL.none hb
  · have HA := Lib.hid (all_rng HV.out)
    obtain ⟨i0, hi, hz0, hz1, hz2⟩ := info_parts Li.info3
    go_enter Try.func23, Try.ntmps23
    go_wp2_with fail
    refine C.out.mono ?_
    rintro e w1 ⟨rfl, hb⟩
    have HB1 := Lib.hid hb
    clear hb
    go_wp2
    go_loopw [4, 13] (fun v i wr => ∃ (k : Nat) (vv : Value), vv = v ∧ k ≤ len ∧ i = .int .i64 (k : Int) ∧ OwnI wr w.heap.size vv (pg ((prs zs).take k)) ∧ Below w.heap.size w wr) (fun _ i _ => ((len : Int) - intOf i).toNat)
    case atStart => exact ⟨0, _, rfl, by omega, rfl, World.ownsRow_nil _ _ _ _, HB1.out⟩
    case round =>
      obtain ⟨wo, rfl⟩ : ∃ wo : World, wo = wr := ⟨_, rfl⟩
      obtain ⟨k, vv, rfl, hk, rfl, hown, hb⟩ := hrel
      have HW := Lib.hid hown
      have HB := Lib.hid hb
      clear hown hb HB1
      by_cases hlt : (k : Int) < len
      · obtain ⟨q0, q1⟩ := cells2 (Li.own_on HO.out HB.out) (k := k) (by omega)
        have hr := (rng_iff _ _).1 (HA.out.2 k (by omega))
        have HT := Lib.hid (pg_at zs len k HZ.out (by omega))
        have hL := pg_take_len HV.out HZ.out k
        obtain ⟨f, hf⟩ : ∃ f, zs.getD (k * 2) 0 = f := ⟨_, rfl⟩
        obtain ⟨t, ht⟩ : ∃ t, zs.getD (k * 2 + 1) 0 = t := ⟨_, rfl⟩
        rw [hf, ht] at hr HT
        rw [hf] at q0
        rw [ht] at q1
        clear hf ht
        obtain ⟨F, rfl⟩ : ∃ F : Nat, f = (F : Int) := ⟨f.toNat, by omega⟩
        obtain ⟨T, rfl⟩ : ∃ T : Nat, t = (T : Int) := ⟨t.toNat, by omega⟩
        have r1 : 1 ≤ F := by omega
        have r2 : F ≤ T := by omega
        have r3 : T ≤ 2000 := by omega
        clear hr
        obtain ⟨ys, hys⟩ : ∃ ys, pg ((prs zs).take k) = ys := ⟨_, rfl⟩
        rw [hys] at HW HT hL
        clear hys
        have X := Lib.hid (B2.new wo (.int .i64 (F : Int)) (.int .i64 (T : Int)) 43)
        have HWa := Lib.hid (World.ownsRow.alloc HW.out (.cells #[.int .i64 (F : Int), .int .i64 (T : Int)] 43))
        have HBa := Lib.hid (HB.out.alloc HB.out.size (.cells #[.int .i64 (F : Int), .int .i64 (T : Int)] 43))
        have hso := HB.out.size
        have HNb := Lib.hid (show vv.ownBlock ≠ some wo.heap.size from fun e => by have := (HW.out.lt _ e).2; omega)
        go_wp2
        clear q0 q1
        go_loopw [4, 7] (fun v i wr => ∃ (p : Nat) (v2 : Value), v2 = v ∧ F ≤ p ∧ p ≤ T + 1 ∧ i = .int .i64 (p : Int) ∧ OwnI wr w.heap.size v2 (ys ++ span (F : Int) (p - F)) ∧ Below w.heap.size w wr ∧ B2 wr wo.heap.size (.int .i64 (F : Int)) (.int .i64 (T : Int)) ∧ v2.ownBlock ≠ some wo.heap.size) (fun _ i _ => ((T : Int) + 1 - intOf i).toNat)
        case atStart => exact ⟨F, _, rfl, Nat.le_refl _, by omega, rfl, ownI_eq HWa.out (by rw [Nat.sub_self]; simp [span]), HBa.out, X.out, HNb.out⟩
        case round =>
          obtain ⟨p, v2, rfl, hp1, hp2, rfl, hown, hb, hx, hne⟩ := hrel
          obtain ⟨_, x0, x1⟩ := id hx
          by_cases hlp : (p : Int) ≤ (T : Int)
          · have hN : (ys ++ span (F : Int) (p - F)).length ≤ 42000 := by rw [List.length_append, span_len]; omega
            have EN := Lib.hid (show (ys ++ span (F : Int) (p - F)) ++ [(p : Int)] = ys ++ span (F : Int) (p + 1 - F) from by
              rw [show p + 1 - F = (p - F) + 1 by omega, span_succ, List.append_assoc, show (F : Int) + ((p - F : Nat) : Int) = (p : Int) by omega])
            obtain ⟨us, hus⟩ : ∃ us, ys ++ span (F : Int) (p - F) = us := ⟨_, rfl⟩
            rw [hus] at hown EN hN
            clear hus
            have hsz := hb.size
            have hxl := hx.1
            have HX := Lib.hid (hx.alloc (.cells #[.int .i64 (p : Int)] 3))
            have HBx := Lib.hid (hb.alloc hb.size (.cells #[.int .i64 (p : Int)] 3))
            have HNE := Lib.hid hne
            have HLT := Lib.hid (fun j hj => (hown.lt j hj).1)
            have HOX := Lib.hid (World.ownsRow.alloc hown (.cells #[.int .i64 (p : Int)] 3))
            clear hown hb hx hne
            go_wp2_with (first | (at_builtin; refine wpList_append_lies _ rfl _ _ 37 rfl w.heap.size 3 i0 (.int .i64 0) 1 8 Try.underlying37 hi hz0 hz1 hz2 rfl (by decide) _ us.length (Li.nums us) rfl HOX.out ⟨wr.heap.size, 0, none⟩ 1 1 [.int .i64 (p : Int)] rfl rfl (cell_one_new _ _ _) (fun u hu => by simp at hu; subst hu; rfl) (by omega) (by unfold maxLen; omega) (by omega) (by simp; omega) (wr.heap.size + 1) (by simp) ?_; intro g' cp' w' ho' hg' hor' hlt'))
            have H2 := Lib.hid (ownI_eq (ownI_snoc ho') EN.out)
            have HB2 := Lib.hid (HBx.out.grown hg' HBx.out.size (fun j hj => HLT.out j hj))
            have HX2 := Lib.hid (grown_box HX.out hg' HNE.out)
            have HN2 := Lib.hid (show (Value.slice (some ⟨g', 0, none⟩) (us.length + 1) cp').ownBlock ≠ some wo.heap.size from fun e => by
              rcases hor' with h | h
              · exact HNE.out (h.trans e)
              · have e2 : g' = wo.heap.size := by simpa [Value.ownBlock] using e
                omega)
            clear ho' hg' hor'
            go_roundw
            case rel => exact ⟨p + 1, _, rfl, by omega, by omega, by go_num, H2.out, HB2.out, HX2.out, HN2.out⟩
            case measure => simp [intOf]; omega
          · have e : p = T + 1 := by omega
            have HE := Lib.hid (show OwnI wr w.heap.size v2 (pg ((prs zs).take (k + 1))) from ownI_eq hown (by
              rw [HT.out, e]
              unfold wide
              rw [show T + 1 - F = ((T : Int) - (F : Int) + 1).toNat by omega]))
            have HB2 := Lib.hid hb
            clear hown hb e hne
            go_wp2
            go_roundw
            case rel => exact ⟨k + 1, _, rfl, by omega, by go_num, HE.out, HB2.out⟩
            case measure => simp [intOf]; omega
      · have HE := Lib.hid (show OwnI wo w.heap.size vv (pg (prs zs)) from ownI_eq HW.out (by rw [show k = len by omega, take_all zs len HZ.out]))
        go_wp2
        go_ret2
        exact ⟨_, rfl, HE.out, HB.out⟩
set_option maxRecDepth 100000 in
set_option maxHeartbeats 1000000 in
theorem iPages {b1 g len cap : Nat} {zs : List Int} {w : World} (h : Own w b1 (.slice (some ⟨g, 0, none⟩) len cap) len zs) (hl : len ≤ 1048576) :
    Calls Try.prog 24 #[.slice (some ⟨g, 0, none⟩) len cap] w (Rg.GivesL (good zs len) (pgV zs len).length (pgV zs len) w) := by
  obtain ⟨v, hv⟩ : ∃ v, good zs len = v := ⟨_, rfl⟩
  have C := Lib.hid (areRanges_some h hl v hv)
  have HO := Lib.hid h
  have HZ := Lib.hid (own_size h)
  unfold pgV
  rw [hv]
  have HV := Lib.hid hv
  clear h hv
  cases v
  · go_enter Try.func24, Try.ntmps24
    go_wp2_with fail
    refine C.out.mono ?_
    rintro e w' ⟨rfl, hb⟩
    go_wp2
    go_ret2
    exact Rg.GivesL.none hb
  · have HA := Lib.hid (all_rng HV.out)
    obtain ⟨i0, hi, hz0, hz1, hz2⟩ := info_parts Li.info3
    go_enter Try.func24, Try.ntmps24
    go_wp2_with fail
    refine C.out.mono ?_
    rintro e w1 ⟨rfl, hb⟩
    have HB1 := Lib.hid hb
    clear hb
    go_wp2
    go_loopw [4, 13] (fun v i wr => ∃ (k : Nat) (vv : Value), vv = v ∧ k ≤ len ∧ i = .int .i64 (k : Int) ∧ OwnI wr w.heap.size vv (pg ((prs zs).take k)) ∧ Below w.heap.size w wr) (fun _ i _ => ((len : Int) - intOf i).toNat)
    case atStart => exact ⟨0, _, rfl, by omega, rfl, World.ownsRow_nil _ _ _ _, HB1.out⟩
    case round =>
      obtain ⟨wo, rfl⟩ : ∃ wo : World, wo = wr := ⟨_, rfl⟩
      obtain ⟨k, vv, rfl, hk, rfl, hown, hb⟩ := hrel
      have HW := Lib.hid hown
      have HB := Lib.hid hb
      clear hown hb HB1
      by_cases hlt : (k : Int) < len
      · obtain ⟨q0, q1⟩ := cells2 (Li.own_on HO.out HB.out) (k := k) (by omega)
        have hr := (rng_iff _ _).1 (HA.out.2 k (by omega))
        have HT := Lib.hid (pg_at zs len k HZ.out (by omega))
        have hL := pg_take_len HV.out HZ.out k
        obtain ⟨f, hf⟩ : ∃ f, zs.getD (k * 2) 0 = f := ⟨_, rfl⟩
        obtain ⟨t, ht⟩ : ∃ t, zs.getD (k * 2 + 1) 0 = t := ⟨_, rfl⟩
        rw [hf, ht] at hr HT
        rw [hf] at q0
        rw [ht] at q1
        clear hf ht
        obtain ⟨F, rfl⟩ : ∃ F : Nat, f = (F : Int) := ⟨f.toNat, by omega⟩
        obtain ⟨T, rfl⟩ : ∃ T : Nat, t = (T : Int) := ⟨t.toNat, by omega⟩
        have r1 : 1 ≤ F := by omega
        have r2 : F ≤ T := by omega
        have r3 : T ≤ 2000 := by omega
        clear hr
        obtain ⟨ys, hys⟩ : ∃ ys, pg ((prs zs).take k) = ys := ⟨_, rfl⟩
        rw [hys] at HW HT hL
        clear hys
        have X := Lib.hid (B2.new wo (.int .i64 (F : Int)) (.int .i64 (T : Int)) 43)
        have HWa := Lib.hid (World.ownsRow.alloc HW.out (.cells #[.int .i64 (F : Int), .int .i64 (T : Int)] 43))
        have HBa := Lib.hid (HB.out.alloc HB.out.size (.cells #[.int .i64 (F : Int), .int .i64 (T : Int)] 43))
        have hso := HB.out.size
        have HNb := Lib.hid (show vv.ownBlock ≠ some wo.heap.size from fun e => by have := (HW.out.lt _ e).2; omega)
        go_wp2
        clear q0 q1
        go_loopw [4, 7] (fun v i wr => ∃ (p : Nat) (v2 : Value), v2 = v ∧ F ≤ p ∧ p ≤ T + 1 ∧ i = .int .i64 (p : Int) ∧ OwnI wr w.heap.size v2 (ys ++ span (F : Int) (p - F)) ∧ Below w.heap.size w wr ∧ B2 wr wo.heap.size (.int .i64 (F : Int)) (.int .i64 (T : Int)) ∧ v2.ownBlock ≠ some wo.heap.size) (fun _ i _ => ((T : Int) + 1 - intOf i).toNat)
        case atStart => exact ⟨F, _, rfl, Nat.le_refl _, by omega, rfl, ownI_eq HWa.out (by rw [Nat.sub_self]; simp [span]), HBa.out, X.out, HNb.out⟩
        case round =>
          obtain ⟨p, v2, rfl, hp1, hp2, rfl, hown, hb, hx, hne⟩ := hrel
          obtain ⟨_, x0, x1⟩ := id hx
          by_cases hlp : (p : Int) ≤ (T : Int)
          · have hN : (ys ++ span (F : Int) (p - F)).length ≤ 42000 := by rw [List.length_append, span_len]; omega
            have EN := Lib.hid (show (ys ++ span (F : Int) (p - F)) ++ [(p : Int)] = ys ++ span (F : Int) (p + 1 - F) from by
              rw [show p + 1 - F = (p - F) + 1 by omega, span_succ, List.append_assoc, show (F : Int) + ((p - F : Nat) : Int) = (p : Int) by omega])
            obtain ⟨us, hus⟩ : ∃ us, ys ++ span (F : Int) (p - F) = us := ⟨_, rfl⟩
            rw [hus] at hown EN hN
            clear hus
            have hsz := hb.size
            have hxl := hx.1
            have HX := Lib.hid (hx.alloc (.cells #[.int .i64 (p : Int)] 3))
            have HBx := Lib.hid (hb.alloc hb.size (.cells #[.int .i64 (p : Int)] 3))
            have HNE := Lib.hid hne
            have HLT := Lib.hid (fun j hj => (hown.lt j hj).1)
            have HOX := Lib.hid (World.ownsRow.alloc hown (.cells #[.int .i64 (p : Int)] 3))
            clear hown hb hx hne
            go_wp2_with (first | (at_builtin; refine wpList_append_lies _ rfl _ _ 37 rfl w.heap.size 3 i0 (.int .i64 0) 1 8 Try.underlying37 hi hz0 hz1 hz2 rfl (by decide) _ us.length (Li.nums us) rfl HOX.out ⟨wr.heap.size, 0, none⟩ 1 1 [.int .i64 (p : Int)] rfl rfl (cell_one_new _ _ _) (fun u hu => by simp at hu; subst hu; rfl) (by omega) (by unfold maxLen; omega) (by omega) (by simp; omega) (wr.heap.size + 1) (by simp) ?_; intro g' cp' w' ho' hg' hor' hlt'))
            have H2 := Lib.hid (ownI_eq (ownI_snoc ho') EN.out)
            have HB2 := Lib.hid (HBx.out.grown hg' HBx.out.size (fun j hj => HLT.out j hj))
            have HX2 := Lib.hid (grown_box HX.out hg' HNE.out)
            have HN2 := Lib.hid (show (Value.slice (some ⟨g', 0, none⟩) (us.length + 1) cp').ownBlock ≠ some wo.heap.size from fun e => by
              rcases hor' with h | h
              · exact HNE.out (h.trans e)
              · have e2 : g' = wo.heap.size := by simpa [Value.ownBlock] using e
                omega)
            clear ho' hg' hor'
            go_roundw
            case rel => exact ⟨p + 1, _, rfl, by omega, by omega, by go_num, H2.out, HB2.out, HX2.out, HN2.out⟩
            case measure => simp [intOf]; omega
          · have e : p = T + 1 := by omega
            have HE := Lib.hid (show OwnI wr w.heap.size v2 (pg ((prs zs).take (k + 1))) from ownI_eq hown (by
              rw [HT.out, e]
              unfold wide
              rw [show T + 1 - F = ((T : Int) - (F : Int) + 1).toNat by omega]))
            have HB2 := Lib.hid hb
            clear hown hb e hne
            go_wp2
            go_roundw
            case rel => exact ⟨k + 1, _, rfl, by omega, by go_num, HE.out, HB2.out⟩
            case measure => simp [intOf]; omega
      · have HE := Lib.hid (show OwnI wo w.heap.size vv (pg (prs zs)) from ownI_eq HW.out (by rw [show k = len by omega, take_all zs len HZ.out]))
        go_wp2
        go_ret2
        exact ⟨_, rfl, HE.out, HB.out⟩
end Gw
end Go.Proofs.Ytgeailpmjfkhgaa
