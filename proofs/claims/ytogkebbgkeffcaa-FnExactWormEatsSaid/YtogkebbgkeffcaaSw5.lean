/- FaceOf from both sides, and the way of a worm. -/
import Derived.Test.YtogkebbgkeffcaaSw4
namespace Go.Proofs.Ytogkebbgkeffcaa
open Go.RowKit Go.Joins Go.Deep Go.ChangeShapes Go.WideShapes
set_option linter.unusedVariables false
set_option linter.unusedSimpArgs false
namespace Sh
def fv (zs : List Int) (c v : Int) (b : Bool) : Int := if both zs c v = true then face c zs v.toNat b else 0
theorem fv_yes {zs : List Int} {c : Int} {k : Nat} (h : both zs c (k : Int) = true) (b : Bool) : fv zs c (k : Int) b = face c zs k b := by unfold fv; rw [h]; rfl
theorem fv_no {zs : List Int} {c v : Int} (h : both zs c v = false) (b : Bool) : fv zs c v b = 0 := by unfold fv; rw [h]; rfl
theorem fv_in (zs : List Int) (c v : Int) (b : Bool) : 0 ≤ fv zs c v b ∧ fv zs c v b ≤ 960 := by
  cases h : both zs c v with
  | false => rw [fv_no h]; omega
  | true =>
    obtain ⟨ho, d1, d2⟩ := (both_iff zs c v).1 h
    obtain ⟨k, rfl⟩ := Int.eq_ofNat_of_zero_le d1
    rw [fv_yes h]
    exact face_in ho k (by omega) b
set_option maxRecDepth 100000 in
set_option maxHeartbeats 1000000 in
theorem sFace {b1 g len cap : Nat} {zs : List Int} {c : Int} {w : World} (h : Ow w b1 g len cap zs) (hl : len ≤ 1048576) (v : Int) (b : Bool) :
    Calls Try.prog 24 #[V g len cap c, .int .i64 v, .bool b] w (Ret (.tuple #[.int .i64 (fv zs c v b), .bool (both zs c v)]) w) := by
  have HO := Lib.hid (bx_ow h c)
  have HB0 := Lib.hid (bx_below w g len cap c)
  have B := bx_b2 w g len cap c
  have hz := ow_len h
  obtain ⟨-, q0, q1⟩ := id B
  cases hg : both zs c v with
  | false =>
    have HG := Lib.hid hg
    have E0 := Lib.hid (fv_no hg b)
    clear h hg hz
    rw [E0.out]
    go_enter Try.func24, Try.ntmps24
    go_wp2_with fail
    refine (sBoth_any v HO.out hl false HG.out).mono ?_
    rintro e w1 ⟨rfl, hb⟩
    have HB := Lib.hid (HB0.out.trans (below_le hb HB0.out.size))
    clear hb B q0 q1
    go_wp2
    go_ret2
    exact ⟨rfl, HB.out⟩
  | true =>
    obtain ⟨ho, d1, d2⟩ := (both_iff zs c v).1 hg
    obtain ⟨k, rfl⟩ := Int.eq_ofNat_of_zero_le d1
    have hk : k < len := by omega
    have HG := Lib.hid hg
    have HK := Lib.hid ho
    have E0 := Lib.hid (fv_yes hg b)
    clear h hg hz ho d1 d2
    rw [E0.out]
    go_enter Try.func24, Try.ntmps24
    go_wp2_with fail
    refine (sBoth_any (k : Int) HO.out hl true HG.out).mono ?_
    rintro e w1 ⟨rfl, hb⟩
    have HB := Lib.hid (HB0.out.trans (below_le hb HB0.out.size))
    have HO1 := Lib.hid (Li.own_on HO.out hb)
    replace B := B.on hb
    clear hb q0 q1
    obtain ⟨-, q0, q1⟩ := id B
    go_wp2_with fail
    refine (shFace_any HO1.out HK.out k hk b).mono ?_
    rintro e w2 ⟨rfl, hb⟩
    have HB2 := Lib.hid (HB.out.trans (below_le hb HB.out.size))
    clear hb B q0 q1 HB
    go_wp2
    go_ret2
    exact ⟨rfl, HB2.out⟩
set_option maxRecDepth 100000 in
set_option maxHeartbeats 1000000 in
theorem iFace {b1 g len cap : Nat} {zs : List Int} {c : Int} {w : World} (h : Ow w b1 g len cap zs) (hl : len ≤ 1048576) (v : Int) (b : Bool) :
    Calls Try.prog 25 #[V g len cap c, .int .i64 v, .bool b] w (Ret (.tuple #[.int .i64 (fv zs c v b), .bool (both zs c v)]) w) := by
  have HO := Lib.hid (bx_ow h c)
  have HB0 := Lib.hid (bx_below w g len cap c)
  have B := bx_b2 w g len cap c
  have hz := ow_len h
  obtain ⟨-, q0, q1⟩ := id B
  have C := iPlace (c := c) HO.out hl v
  cases hg : both zs c v with
  | false =>
    have E0 := Lib.hid (fv_no hg b)
    rw [show p0 zs c v = 0 by unfold p0; rw [hg]; rfl, show p1 zs c v = 0 by unfold p1; rw [hg]; rfl, hg] at C
    have HC := Lib.hid C
    clear h hg hz C
    rw [E0.out]
    go_enter Try.func25, Try.ntmps25
    go_wp2_with fail
    refine HC.out.mono ?_
    rintro e w1 ⟨rfl, hb⟩
    have HB := Lib.hid (HB0.out.trans (below_le hb HB0.out.size))
    clear hb B q0 q1
    go_wp2
    go_ret2
    exact ⟨rfl, HB.out⟩
  | true =>
    obtain ⟨ho, d1, d2⟩ := (both_iff zs c v).1 hg
    obtain ⟨k, rfl⟩ := Int.eq_ofNat_of_zero_le d1
    have hk : k < len := by omega
    have e1 : p1 zs c (k : Int) = lf c zs k + (zs.getD k 0 + 2 * c) := by unfold p1; rw [hg]; rfl
    have e0 : p0 zs c (k : Int) = lf c zs k := by unfold p0; rw [hg]; rfl
    have hs1 := ho.2.2.1 k (by omega)
    have c1 := ho.2.2.2.1
    have c2 := ho.2.2.2.2
    have l1 := lf_big ho k (by omega)
    have e2 := fv_yes hg b
    unfold face at e2
    generalize zs.getD k 0 = z at *
    generalize lf c zs k = L at *
    rw [e0, e1, hg] at C
    have HC := Lib.hid C
    have E := Lib.hid e2
    have t1 := hs1.1
    have t2 := hs1.2
    have l1a := l1.1
    have l1b := l1.2
    rw [E.out]
    clear h hg hz ho d1 d2 C e0 e1 e2 hs1 l1
    cases b
    all_goals
      go_enter Try.func25, Try.ntmps25
      go_wp2_with fail
      refine HC.out.mono ?_
      rintro e w1 ⟨rfl, hb⟩
      have HB := Lib.hid (HB0.out.trans (below_le hb HB0.out.size))
      replace B := B.on hb
      clear hb q0 q1
      obtain ⟨-, q0, q1⟩ := id B
      go_wp2
      go_ret2
      exact ⟨by first | rfl | (simp; done) | (congr 3; simp; omega), HB.out⟩
end Sh
end Go.Proofs.Ytogkebbgkeffcaa
