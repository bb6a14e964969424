/- ShelfOf and ShelvesFor from both sides. -/
import Derived.Test.YtogkebbgkeffcabOf
namespace Go.Proofs.Ytogkebbgkeffcab
open Go.RowKit Go.Joins Go.Deep Go.ChangeShapes Go.WideShapes
set_option linter.unusedVariables false
set_option linter.unusedSimpArgs false
namespace Sh
theorem fit_bad {zs : List Int} {c wide : Int} (h : good zs c = false) : fit zs c wide = false := by unfold fit; rw [h]; rfl
theorem fit_wide {zs : List Int} {c wide : Int} (h : (decide (1 ≤ wide) && decide (wide ≤ 2000)) = false) : fit zs c wide = false := by unfold fit; rw [h, Bool.and_false, Bool.false_and]
theorem fit_in {zs : List Int} {c wide : Int} (h : good zs c = true) (h2 : (decide (1 ≤ wide) && decide (wide ≤ 2000)) = true) : fit zs c wide = fitB zs c wide := by unfold fit; rw [h, h2]; rfl
theorem sfo_no {zs : List Int} {c wide : Int} (h : fit zs c wide = false) : sfo zs c wide = [] := by unfold sfo; rw [h]; rfl
theorem gives_no {W w' : World} {zs : List Int} {c wide : Int} (h : fit zs c wide = false) (hb : Below W.heap.size W w') : Li.Gives (fit zs c wide) (sfo zs c wide) W (.returned (.tuple #[.slice none 0 0, .bool false])) w' := by
  rw [h]
  exact gives_none (sfo_no h) hb
set_option maxRecDepth 100000 in
set_option maxHeartbeats 1000000 in
theorem iOf {b1 g len cap : Nat} {zs : List Int} {c : Int} {w : World} (h : Ow w b1 g len cap zs) (hl : len ≤ 1048576) (wide : Int) :
    Calls Try.prog 25 #[V g len cap c, .int .i64 wide] w (Li.Gives (fit zs c wide) (sfo zs c wide) w) := by
  cases hg : good zs c with
  | false =>
    have HO := Lib.hid (bx_ow h c)
    have HB0 := Lib.hid (bx_below w g len cap c)
    have B := bx_b2 w g len cap c
    obtain ⟨-, q0, q1⟩ := id B
    have HG := Lib.hid hg
    have HF := Lib.hid (fit_bad (wide := wide) hg)
    clear h hg
    go_enter Try.func25, Try.ntmps25
    go_wp2_with fail
    refine (iGood_any HO.out hl false HG.out).mono ?_
    rintro e w1 ⟨rfl, hb⟩
    have HB := Lib.hid (HB0.out.trans (below_le hb HB0.out.size))
    clear hb B q0 q1
    go_wp2
    go_ret2
    exact gives_no HF.out HB.out
  | true =>
    cases hw : (decide (1 ≤ wide) && decide (wide ≤ 2000)) with
    | true =>
      have hw' : 1 ≤ wide ∧ wide ≤ 2000 := by simpa using hw
      have e := fit_in hg hw
      rw [e]
      exact iOf_yes h hl hg wide hw'.1 hw'.2 _ rfl _ (by unfold sfo; rw [e])
    | false =>
      have HO := Lib.hid (bx_ow h c)
      have HB0 := Lib.hid (bx_below w g len cap c)
      have B := bx_b2 w g len cap c
      obtain ⟨-, q0, q1⟩ := id B
      have HG := Lib.hid hg
      have HF := Lib.hid (fit_wide (zs := zs) (c := c) hw)
      have hd : wide < 1 ∨ 2000 < wide := by
        rw [Bool.and_eq_false_iff] at hw
        simp only [decide_eq_false_iff_not] at hw
        omega
      clear h hg hw
      by_cases h1 : wide < 1
      · clear hd
        go_enter Try.func25, Try.ntmps25
        go_wp2_with fail
        refine (iGood_any HO.out hl true HG.out).mono ?_
        rintro e w1 ⟨rfl, hb⟩
        have HB := Lib.hid (HB0.out.trans (below_le hb HB0.out.size))
        clear hb B q0 q1
        go_wp2
        go_ret2
        exact gives_no HF.out HB.out
      · have h2 : 2000 < wide := by omega
        have t1 : decide (wide < 1) = false := by simpa using h1
        clear hd h1
        go_enter Try.func25, Try.ntmps25
        go_wp2_with fail
        refine (iGood_any HO.out hl true HG.out).mono ?_
        rintro e w1 ⟨rfl, hb⟩
        have HB := Lib.hid (HB0.out.trans (below_le hb HB0.out.size))
        clear hb B q0 q1
        go_wp2
        go_ret2
        exact gives_no HF.out HB.out
set_option maxRecDepth 100000 in
set_option maxHeartbeats 1000000 in
theorem sOf {b1 g len cap : Nat} {zs : List Int} {c : Int} {w : World} (h : Ow w b1 g len cap zs) (hl : len ≤ 1048576) (wide : Int) :
    Calls Try.prog 24 #[V g len cap c, .int .i64 wide] w (Li.Gives (fit zs c wide) (sfo zs c wide) w) := by
  have HO := Lib.hid (bx_ow h c)
  have HB0 := Lib.hid (bx_below w g len cap c)
  have B := bx_b2 w g len cap c
  obtain ⟨-, q0, q1⟩ := id B
  cases hg : good zs c with
  | false =>
    have HG := Lib.hid hg
    have HF := Lib.hid (fit_bad (wide := wide) hg)
    clear h hg
    go_enter Try.func24, Try.ntmps24
    go_wp2_with fail
    refine (sGood_any HO.out hl false HG.out).mono ?_
    rintro e w1 ⟨rfl, hb⟩
    have HB := Lib.hid (HB0.out.trans (below_le hb HB0.out.size))
    clear hb B q0 q1
    go_wp2
    go_ret2
    exact gives_no HF.out HB.out
  | true =>
    have HG := Lib.hid hg
    cases hw : (decide (1 ≤ wide) && decide (wide ≤ 2000)) with
    | false =>
      have HF := Lib.hid (fit_wide (zs := zs) (c := c) hw)
      have HW := Lib.hid hw
      clear h hg hw
      go_enter Try.func24, Try.ntmps24
      go_wp2_with fail
      refine (sGood_any HO.out hl true HG.out).mono ?_
      rintro e w1 ⟨rfl, hb⟩
      have HB := Lib.hid (HB0.out.trans (below_le hb HB0.out.size))
      clear hb B q0 q1
      go_wp2_with fail
      refine (l1In_any _ _ _ false HW.out _).mono ?_
      rintro e w' ⟨rfl, rfl⟩
      go_wp2
      go_ret2
      exact gives_no HF.out HB.out
    | true =>
      have hw' : 1 ≤ wide ∧ wide ≤ 2000 := by simpa using hw
      have HK := Lib.hid ((good_iff zs c).1 hg)
      have HE := Lib.hid (fit_in hg hw)
      have HW := Lib.hid hw
      have w1' := hw'.1
      have w2' := hw'.2
      clear h hg hw hw'
      go_enter Try.func24, Try.ntmps24
      go_wp2_with fail
      refine (sGood_any HO.out hl true HG.out).mono ?_
      rintro e w1 ⟨rfl, hb⟩
      have HB := Lib.hid (HB0.out.trans (below_le hb HB0.out.size))
      have HO1 := Lib.hid (Li.own_on HO.out hb)
      replace B := B.on hb
      clear hb q0 q1
      obtain ⟨-, q0, q1⟩ := id B
      go_wp2_with fail
      refine (l1In_any _ _ _ true HW.out _).mono ?_
      rintro e w' ⟨rfl, rfl⟩
      go_wp2_with fail
      refine (shOn_any HO1.out HK.out wide w1' w2' _ rfl _ rfl).mono ?_
      rintro e w2 ⟨v, rfl, o, hb⟩
      have HB2 := Lib.hid (HB.out.trans (below_le hb HB.out.size))
      have O := Lib.hid (own_eq (ys := sfo zs c wide) (Li.own_le o HB.out.size) (by unfold sfo; rw [HE.out]))
      clear hb B q0 q1 o
      go_wp2
      go_ret2
      rw [HE.out]
      exact ⟨_, rfl, O.out, HB2.out⟩
/-- how many shelves are needed -/
def sfn (zs : List Int) (c wide : Int) : Int := if fit zs c wide = true then (Sf.st zs c wide zs.length).1 + 1 else 0
theorem sfn_no {zs : List Int} {c wide : Int} (h : fit zs c wide = false) : sfn zs c wide = 0 := by unfold sfn; rw [h]; rfl
theorem sfn_last {zs : List Int} {c wide : Int} (h : fit zs c wide = true) {len : Nat} (hz : zs.length = len) (h1 : 1 ≤ len) : (sfo zs c wide).length = len ∧ (sfo zs c wide).getD (len - 1) 0 + 1 = sfn zs c wide := by
  unfold sfo sfn
  rw [if_pos h, if_pos h, hz]
  refine ⟨Sf.list_len _ _ _ _, ?_⟩
  rw [Sf.list_at _ _ _ _ _ (by omega)]
  unfold Sf.on
  rw [show len - 1 + 1 = len by omega]
theorem fit_good {zs : List Int} {c wide : Int} (h : fit zs c wide = true) : good zs c = true ∧ (decide (1 ≤ wide) && decide (wide ≤ 2000)) = true ∧ fitB zs c wide = true := by
  unfold fit at h
  rw [Bool.and_eq_true, Bool.and_eq_true] at h
  exact ⟨h.1.1, h.1.2, h.2⟩
theorem sfo_in {zs : List Int} {c wide : Int} (h : fit zs c wide = true) {len k : Nat} (hz : zs.length = len) (hk : k < len) : 0 ≤ (sfo zs c wide).getD k 0 ∧ (sfo zs c wide).getD k 0 ≤ 8 := by
  obtain ⟨h1, h2, h3⟩ := fit_good h
  have ho := (good_iff zs c).1 h1
  have hf := (fitB_iff zs c wide).1 h3
  have hw : 1 ≤ wide ∧ wide ≤ 2000 := by simpa using h2
  unfold sfo
  rw [if_pos h, hz, Sf.list_at _ _ _ _ _ hk]
  have := Sf.st_in zs c wide (by omega) (k + 1) (by omega) (fun j hj => ⟨by have := own_in ho j (by omega); omega, hf j (by omega)⟩)
  have := ho.2.1
  unfold Sf.on
  omega
set_option maxRecDepth 100000 in
set_option maxHeartbeats 1000000 in
theorem iFor {b1 g len cap : Nat} {zs : List Int} {c : Int} {w : World} (h : Ow w b1 g len cap zs) (hl : len ≤ 1048576) (wide : Int) :
    Calls Try.prog 22 #[V g len cap c, .int .i64 wide] w (Ret (.tuple #[.int .i64 (sfn zs c wide), .bool (fit zs c wide)]) w) := by
  have HO := Lib.hid (bx_ow h c)
  have HB0 := Lib.hid (bx_below w g len cap c)
  have B := bx_b2 w g len cap c
  have hz := ow_len h
  obtain ⟨-, q0, q1⟩ := id B
  have C := iOf (c := c) HO.out hl wide
  cases hf : fit zs c wide with
  | false =>
    have E := Lib.hid (sfn_no hf)
    rw [hf] at C
    have HC := Lib.hid C
    rw [E.out]
    clear h hf C hz
    go_enter Try.func22, Try.ntmps22
    go_wp2_with fail
    refine HC.out.mono ?_
    rintro e w2 ⟨v, rfl, o, hb⟩
    have HB2 := Lib.hid (HB0.out.trans (below_le hb HB0.out.size))
    clear hb B q0 q1 o
    go_wp2
    go_ret2
    exact ⟨rfl, HB2.out⟩
  | true =>
    have ho := (good_iff zs c).1 (fit_good hf).1
    have h1 : 1 ≤ len := by have := ho.1; omega
    obtain ⟨e1, e2⟩ := sfn_last hf hz h1
    have hin := sfo_in hf hz (show len - 1 < len by omega)
    rw [hf] at C
    have HC := Lib.hid C
    have E2 := Lib.hid e2
    have E1 := Lib.hid e1
    obtain ⟨x, hx⟩ : ∃ x, (sfo zs c wide).getD (len - 1) 0 = x := ⟨_, rfl⟩
    rw [hx] at hin
    have x1 := hin.1
    have x2 := hin.2
    have HX := Lib.hid hx
    have hl8 : len ≤ 8 := by have := ho.2.1; omega
    have tn : ((len : Int) - 1).toNat = len - 1 := by omega
    rw [← E2.out, HX.out]
    clear h hf C hz ho e1 e2 hx hin
    go_enter Try.func22, Try.ntmps22
    go_wp2_with fail
    refine HC.out.mono ?_
    rintro e w2 ⟨v, rfl, o, hb⟩
    have HB2 := Lib.hid (HB0.out.trans (below_le hb HB0.out.size))
    rw [E1.out] at o
    rcases Li.own_forms o with ⟨_, h0⟩ | ⟨go, cp, rfl⟩
    · omega
    have hc := ow_cell o (show len - 1 < len by omega)
    rw [HX.out] at hc
    clear hb B q0 q1 o
    go_wp2
    go_ret2
    exact ⟨rfl, HB2.out⟩
set_option maxRecDepth 100000 in
set_option maxHeartbeats 1000000 in
theorem sFor {b1 g len cap : Nat} {zs : List Int} {c : Int} {w : World} (h : Ow w b1 g len cap zs) (hl : len ≤ 1048576) (wide : Int) :
    Calls Try.prog 20 #[V g len cap c, .int .i64 wide] w (Ret (.tuple #[.int .i64 (sfn zs c wide), .bool (fit zs c wide)]) w) := by
  have HO := Lib.hid (bx_ow h c)
  have HB0 := Lib.hid (bx_below w g len cap c)
  have B := bx_b2 w g len cap c
  have hz := ow_len h
  obtain ⟨-, q0, q1⟩ := id B
  cases hg : good zs c with
  | false =>
    have HG := Lib.hid hg
    have HF := Lib.hid (fit_bad (wide := wide) hg)
    clear h hg hz
    rw [HF.out, sfn_no HF.out]
    go_enter Try.func20, Try.ntmps20
    go_wp2_with fail
    refine (sGood_any HO.out hl false HG.out).mono ?_
    rintro e w1 ⟨rfl, hb⟩
    have HB := Lib.hid (HB0.out.trans (below_le hb HB0.out.size))
    clear hb B q0 q1
    go_wp2
    go_ret2
    exact ⟨rfl, HB.out⟩
  | true =>
    have HG := Lib.hid hg
    cases hw : (decide (1 ≤ wide) && decide (wide ≤ 2000)) with
    | false =>
      have HF := Lib.hid (fit_wide (zs := zs) (c := c) hw)
      have HW := Lib.hid hw
      clear h hg hw hz
      rw [HF.out, sfn_no HF.out]
      go_enter Try.func20, Try.ntmps20
      go_wp2_with fail
      refine (sGood_any HO.out hl true HG.out).mono ?_
      rintro e w1 ⟨rfl, hb⟩
      have HB := Lib.hid (HB0.out.trans (below_le hb HB0.out.size))
      clear hb B q0 q1
      go_wp2_with fail
      refine (l1In_any _ _ _ false HW.out _).mono ?_
      rintro e w' ⟨rfl, rfl⟩
      go_wp2
      go_ret2
      exact ⟨rfl, HB.out⟩
    | true =>
      have hw' : 1 ≤ wide ∧ wide ≤ 2000 := by simpa using hw
      have ho := (good_iff zs c).1 hg
      have HK := Lib.hid ho
      have HE := fit_in hg hw
      have HW := Lib.hid hw
      have w1' := hw'.1
      have w2' := hw'.2
      have h1 : 1 ≤ len := by have := ho.1; omega
      have hl8 : len ≤ 8 := by have := ho.2.1; omega
      have tn : ((len : Int) - 1).toNat = len - 1 := by omega
      have HZ := Lib.hid hz
      cases hf : fitB zs c wide with
      | false =>
        have HF := Lib.hid (HE.trans hf)
        have HFB := Lib.hid hf
        clear h hg hw hw' hz ho hf HE
        rw [HF.out, sfn_no HF.out]
        go_enter Try.func20, Try.ntmps20
        go_wp2_with fail
        refine (sGood_any HO.out hl true HG.out).mono ?_
        rintro e w1 ⟨rfl, hb⟩
        have HB := Lib.hid (HB0.out.trans (below_le hb HB0.out.size))
        have HO1 := Lib.hid (Li.own_on HO.out hb)
        replace B := B.on hb
        clear hb q0 q1
        obtain ⟨-, q0, q1⟩ := id B
        go_wp2_with fail
        refine (l1In_any _ _ _ true HW.out _).mono ?_
        rintro e w' ⟨rfl, rfl⟩
        go_wp2_with fail
        refine (shOn_any HO1.out HK.out wide w1' w2' false HFB.out [] rfl).mono ?_
        rintro e w2 ⟨v, rfl, o, hb⟩
        have HB2 := Lib.hid (HB.out.trans (below_le hb HB.out.size))
        clear hb B q0 q1 o
        go_wp2
        go_ret2
        exact ⟨rfl, HB2.out⟩
      | true =>
        have HF := Lib.hid (HE.trans hf)
        have HFB := Lib.hid hf
        obtain ⟨e1, e2⟩ := sfn_last HF.out hz h1
        have hin := sfo_in HF.out hz (show len - 1 < len by omega)
        have E2 := Lib.hid e2
        have E1 := Lib.hid e1
        have E3 := Lib.hid (show sfo zs c wide = Sf.list zs c wide zs.length by unfold sfo; rw [HF.out]; rfl)
        obtain ⟨x, hx⟩ : ∃ x, (sfo zs c wide).getD (len - 1) 0 = x := ⟨_, rfl⟩
        rw [hx] at hin
        have x1 := hin.1
        have x2 := hin.2
        have HX := Lib.hid hx
        rw [HF.out, ← E2.out, HX.out]
        clear h hg hw hw' hz ho hf HE e1 e2 hx hin
        go_enter Try.func20, Try.ntmps20
        go_wp2_with fail
        refine (sGood_any HO.out hl true HG.out).mono ?_
        rintro e w1 ⟨rfl, hb⟩
        have HB := Lib.hid (HB0.out.trans (below_le hb HB0.out.size))
        have HO1 := Lib.hid (Li.own_on HO.out hb)
        replace B := B.on hb
        clear hb q0 q1
        obtain ⟨-, q0, q1⟩ := id B
        go_wp2_with fail
        refine (l1In_any _ _ _ true HW.out _).mono ?_
        rintro e w' ⟨rfl, rfl⟩
        go_wp2_with fail
        refine (shOn_any HO1.out HK.out wide w1' w2' true HFB.out (Sf.list zs c wide zs.length) rfl).mono ?_
        rintro e w2 ⟨v, rfl, o, hb⟩
        have HB2 := Lib.hid (HB.out.trans (below_le hb HB.out.size))
        rw [← E3.out, E1.out] at o
        rcases Li.own_forms o with ⟨_, h0⟩ | ⟨go, cp, rfl⟩
        · omega
        have hc := ow_cell o (show len - 1 < len by omega)
        rw [HX.out] at hc
        clear hb B q0 q1 o
        go_wp2
        go_ret2
        exact ⟨rfl, HB2.out⟩
end Sh
end Go.Proofs.Ytogkebbgkeffcab
