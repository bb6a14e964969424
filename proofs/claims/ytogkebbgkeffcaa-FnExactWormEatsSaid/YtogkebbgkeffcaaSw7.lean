/- The way of a worm, from the program's side. -/
import Derived.Test.YtogkebbgkeffcaaSw6
namespace Go.Proofs.Ytogkebbgkeffcaa
open Go.RowKit Go.Joins Go.Deep Go.ChangeShapes Go.WideShapes
set_option linter.unusedVariables false
set_option linter.unusedSimpArgs false
namespace Sh
def wl (zs : List Int) (c a : Int) (la : Bool) (b : Int) (lb : Bool) : Int := if (both zs c a && both zs c b) = true then min (fv zs c a la) (fv zs c b lb) else 0
def wh (zs : List Int) (c a : Int) (la : Bool) (b : Int) (lb : Bool) : Int := if (both zs c a && both zs c b) = true then max (fv zs c a la) (fv zs c b lb) else 0
theorem wl_in (zs : List Int) (c a : Int) (la : Bool) (b : Int) (lb : Bool) : 0 ≤ wl zs c a la b lb ∧ wl zs c a la b lb ≤ 960 := by
  have := fv_in zs c a la
  have := fv_in zs c b lb
  unfold wl
  split <;> omega
theorem wh_in (zs : List Int) (c a : Int) (la : Bool) (b : Int) (lb : Bool) : 0 ≤ wh zs c a la b lb ∧ wh zs c a la b lb ≤ 960 := by
  have := fv_in zs c a la
  have := fv_in zs c b lb
  unfold wh
  split <;> omega
theorem wv_way (zs : List Int) (c a : Int) (la : Bool) (b : Int) (lb : Bool) : wh zs c a la b lb - wl zs c a la b lb = wv zs c a la b lb := by
  unfold wh wl wv
  split <;> omega
set_option maxRecDepth 100000 in
set_option maxHeartbeats 1000000 in
theorem wormWay_any {b1 g len cap : Nat} {zs : List Int} {c : Int} {w : World} (h : Ow w b1 g len cap zs) (hl : len ≤ 1048576) (a : Int) (la : Bool) (b : Int) (lb : Bool) :
    Calls Try.prog 56 #[V g len cap c, .int .i64 a, .bool la, .int .i64 b, .bool lb] w (Ret (.tuple #[.int .i64 (wl zs c a la b lb), .int .i64 (wh zs c a la b lb), .bool (both zs c a && both zs c b)]) w) := by
  have HO := Lib.hid (bx_ow h c)
  have HB0 := Lib.hid (bx_below w g len cap c)
  have B := bx_b2 w g len cap c
  obtain ⟨-, q0, q1⟩ := id B
  have CA := fun (W : World) (hw : Below (bx w g len cap c).heap.size (bx w g len cap c) W) => iFace (c := c) (Li.own_on HO.out hw) hl a la
  have CB := fun (W : World) (hw : Below (bx w g len cap c).heap.size (bx w g len cap c) W) => iFace (c := c) (Li.own_on HO.out hw) hl b lb
  have fx := fv_in zs c a la
  have fy := fv_in zs c b lb
  have E1 : wl zs c a la b lb = if (both zs c a && both zs c b) = true then min (fv zs c a la) (fv zs c b lb) else 0 := rfl
  have E2 : wh zs c a la b lb = if (both zs c a && both zs c b) = true then max (fv zs c a la) (fv zs c b lb) else 0 := rfl
  rw [E1, E2]
  generalize fv zs c a la = x at *
  generalize fv zs c b lb = y at *
  generalize both zs c a = ba at *
  generalize both zs c b = bb at *
  have HCA := Lib.hid CA
  have HCB := Lib.hid CB
  have x1 := fx.1
  have x2 := fx.2
  have y1 := fy.1
  have y2 := fy.2
  have main : ∀ (lo hi : Int) (ok : Bool), (ba && bb) = ok → (if ok = true then min x y else 0) = lo → (if ok = true then max x y else 0) = hi →
      Calls Try.prog 56 #[V g len cap c, .int .i64 a, .bool la, .int .i64 b, .bool lb] w (Ret (.tuple #[.int .i64 lo, .int .i64 hi, .bool ok]) w) := by
    intro lo hi ok h1 h2 h3
    have H1 := Lib.hid h1
    have H2 := Lib.hid h2
    have H3 := Lib.hid h3
    clear h1 h2 h3 E1 E2 CA CB fx fy h
    have fin : ∀ (l h : Int) (o : Bool), (ba && bb) = o → (if o = true then min x y else 0) = l → (if o = true then max x y else 0) = h → Ending.returned (Value.tuple #[.int .i64 l, .int .i64 h, .bool o]) = .returned (.tuple #[.int .i64 lo, .int .i64 hi, .bool ok]) := by
      intro l h o k1 k2 k3
      have e := k1.symm.trans H1.out
      subst e
      have e2 := k2.symm.trans H2.out
      have e3 := k3.symm.trans H3.out
      rw [e2, e3]
    have HF := Lib.hid fin
    clear fin
    cases ba <;> cases bb
    case true.true =>
      by_cases cc : x < y
      · have F := Lib.hid (HF.out x y true rfl (by simp; omega) (by simp; omega))
        have i1 : (if y < x then y else x) = x := by split <;> omega
        have i2 : (if x < y then y else x) = y := by split <;> omega
        go_enter Try.func56, Try.ntmps56
        go_wp2_with fail
        refine (HCA.out _ (Below.refl _ _)).mono ?_
        rintro e w1 ⟨rfl, hb⟩
        have HB := Lib.hid (HB0.out.trans (below_le hb HB0.out.size))
        replace B := B.on hb
        have HC2 := Lib.hid (HCB.out w1 hb)
        clear hb q0 q1
        obtain ⟨-, q0, q1⟩ := id B
        go_wp2_with fail
        refine HC2.out.mono ?_
        rintro e w2 ⟨rfl, hb⟩
        have HB2 := Lib.hid (HB.out.trans (below_le hb HB.out.size))
        clear hb B q0 q1
        go_wp2
        go_ret3
        exact ⟨F.out, HB2.out⟩
      · have F := Lib.hid (HF.out y x true rfl (by simp; omega) (by simp; omega))
        have i1 : (if y < x then y else x) = y := by split <;> omega
        have i2 : (if x < y then y else x) = x := by split <;> omega
        go_enter Try.func56, Try.ntmps56
        go_wp2_with fail
        refine (HCA.out _ (Below.refl _ _)).mono ?_
        rintro e w1 ⟨rfl, hb⟩
        have HB := Lib.hid (HB0.out.trans (below_le hb HB0.out.size))
        replace B := B.on hb
        have HC2 := Lib.hid (HCB.out w1 hb)
        clear hb q0 q1
        obtain ⟨-, q0, q1⟩ := id B
        go_wp2_with fail
        refine HC2.out.mono ?_
        rintro e w2 ⟨rfl, hb⟩
        have HB2 := Lib.hid (HB.out.trans (below_le hb HB.out.size))
        clear hb B q0 q1
        go_wp2
        go_ret3
        exact ⟨F.out, HB2.out⟩
    all_goals
      have F := Lib.hid (HF.out 0 0 false rfl rfl rfl)
      go_enter Try.func56, Try.ntmps56
      go_wp2_with fail
      refine (HCA.out _ (Below.refl _ _)).mono ?_
      rintro e w1 ⟨rfl, hb⟩
      have HB := Lib.hid (HB0.out.trans (below_le hb HB0.out.size))
      replace B := B.on hb
      have HC2 := Lib.hid (HCB.out w1 hb)
      clear hb q0 q1
      obtain ⟨-, q0, q1⟩ := id B
      go_wp2_with fail
      refine HC2.out.mono ?_
      rintro e w2 ⟨rfl, hb⟩
      have HB2 := Lib.hid (HB.out.trans (below_le hb HB.out.size))
      clear hb B q0 q1
      go_wp2
      go_ret3
      exact ⟨F.out, HB2.out⟩
  exact main _ _ _ rfl rfl rfl
set_option maxRecDepth 100000 in
theorem iWorm {b1 g len cap : Nat} {zs : List Int} {c : Int} {w : World} (h : Ow w b1 g len cap zs) (hl : len ≤ 1048576) (a : Int) (la : Bool) (b : Int) (lb : Bool) :
    Calls Try.prog 27 #[V g len cap c, .int .i64 a, .bool la, .int .i64 b, .bool lb] w (Ret (.tuple #[.int .i64 (wv zs c a la b lb), .bool (both zs c a && both zs c b)]) w) := by
  have HB0 := Lib.hid (bx_below w g len cap c)
  have HC := Lib.hid (wormWay_any (c := c) (bx_ow h c) hl a la b lb)
  have E := Lib.hid (wv_way zs c a la b lb)
  have l1 := wl_in zs c a la b lb
  have h1 := wh_in zs c a la b lb
  have B := bx_b2 w g len cap c
  obtain ⟨-, q0, q1⟩ := id B
  generalize wl zs c a la b lb = lo at *
  generalize wh zs c a la b lb = hi at *
  have l1a := l1.1
  have l1b := l1.2
  have h1a := h1.1
  have h1b := h1.2
  rw [← E.out]
  clear h l1 h1 E
  go_enter Try.func27, Try.ntmps27
  go_wp2_with fail
  refine HC.out.mono ?_
  rintro e w1 ⟨rfl, hb⟩
  have HB := Lib.hid (HB0.out.trans (below_le hb HB0.out.size))
  clear hb B q0 q1
  go_wp2
  go_ret2
  exact ⟨rfl, HB.out⟩
/-- how many covers a worm eats -/
def cv (zs : List Int) (c a : Int) (b : Int) : Int := if (both zs c a && both zs c b) = true then max (a - b) (b - a) * 2 else 0
set_option maxRecDepth 100000 in
set_option maxHeartbeats 1000000 in
theorem iCovers {b1 g len cap : Nat} {zs : List Int} {c : Int} {w : World} (h : Ow w b1 g len cap zs) (hl : len ≤ 1048576) (a : Int) (la : Bool) (b : Int) (lb : Bool) :
    Calls Try.prog 29 #[V g len cap c, .int .i64 a, .bool la, .int .i64 b, .bool lb] w (Ret (.tuple #[.int .i64 (cv zs c a b), .bool (both zs c a && both zs c b)]) w) := by
  have HB0 := Lib.hid (bx_below w g len cap c)
  have C := wormWay_any (c := c) (bx_ow h c) hl a la b lb
  have l1 := wl_in zs c a la b lb
  have h1 := wh_in zs c a la b lb
  have B := bx_b2 w g len cap c
  have hz := ow_len h
  obtain ⟨-, q0, q1⟩ := id B
  generalize wl zs c a la b lb = lo at *
  generalize wh zs c a la b lb = hi at *
  cases hg : (both zs c a && both zs c b) with
  | false =>
    rw [hg] at C
    have HC := Lib.hid C
    have E := Lib.hid (show cv zs c a b = 0 by unfold cv; rw [hg]; rfl)
    rw [E.out]
    clear h l1 h1 E C hg hz
    go_enter Try.func29, Try.ntmps29
    go_wp2_with fail
    refine HC.out.mono ?_
    rintro e w1 ⟨rfl, hb⟩
    have HB := Lib.hid (HB0.out.trans (below_le hb HB0.out.size))
    clear hb B q0 q1
    go_wp2
    go_ret2
    exact ⟨rfl, HB.out⟩
  | true =>
    rw [hg] at C
    have HC := Lib.hid C
    have E := Lib.hid (show cv zs c a b = max (a - b) (b - a) * 2 by unfold cv; rw [hg]; rfl)
    have hg' := hg
    simp only [Bool.and_eq_true] at hg'
    obtain ⟨_, d1, d2⟩ := (both_iff zs c a).1 hg'.1
    obtain ⟨_, d3, d4⟩ := (both_iff zs c b).1 hg'.2
    rw [E.out]
    have d5 : a < 1048576 := by omega
    have d6 : b < 1048576 := by omega
    clear h l1 h1 E C hg hg' hz d2 d4
    by_cases cc : a - b < b - a
    · have e1 : (if a - b < b - a then b - a else a - b) = b - a := by split <;> omega
      have e2 := Lib.hid (show max (a - b) (b - a) = b - a by omega)
      go_enter Try.func29, Try.ntmps29
      go_wp2_with fail
      refine HC.out.mono ?_
      rintro e w1 ⟨rfl, hb⟩
      have HB := Lib.hid (HB0.out.trans (below_le hb HB0.out.size))
      clear hb B q0 q1
      go_wp2
      go_ret2
      exact ⟨by rw [e2.out]; rfl, HB.out⟩
    · have e1 : (if a - b < b - a then b - a else a - b) = a - b := by split <;> omega
      have e2 := Lib.hid (show max (a - b) (b - a) = a - b by omega)
      go_enter Try.func29, Try.ntmps29
      go_wp2_with fail
      refine HC.out.mono ?_
      rintro e w1 ⟨rfl, hb⟩
      have HB := Lib.hid (HB0.out.trans (below_le hb HB0.out.size))
      clear hb B q0 q1
      go_wp2
      go_ret2
      exact ⟨by rw [e2.out]; rfl, HB.out⟩
end Sh
end Go.Proofs.Ytogkebbgkeffcaa
