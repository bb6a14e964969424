/- WormEats from both sides. -/
import Derived.Test.YtogkebbgkeffcaaSw5
namespace Go.Proofs.Ytogkebbgkeffcaa
open Go.RowKit Go.Joins Go.Deep Go.ChangeShapes Go.WideShapes
set_option linter.unusedVariables false
set_option linter.unusedSimpArgs false
namespace Sh
theorem least_any (a b : Int) (w : World) : Calls Try.prog 70 #[.int .i64 a, .int .i64 b] w fun e w' => e = .returned (.int .i64 (min a b)) ∧ w = w' := by
  by_cases c : a < b
  · have e := Lib.hid (show min a b = a by omega)
    go_enter Try.func70, Try.ntmps70
    go_wp2
    go_ret
    exact ⟨by rw [e.out]; rfl, rfl⟩
  · have e := Lib.hid (show min a b = b by omega)
    go_enter Try.func70, Try.ntmps70
    go_wp2
    go_ret
    exact ⟨by rw [e.out]; rfl, rfl⟩
theorem most_any (a b : Int) (w : World) : Calls Try.prog 69 #[.int .i64 a, .int .i64 b] w fun e w' => e = .returned (.int .i64 (max a b)) ∧ w = w' := by
  by_cases c : b < a
  · have e := Lib.hid (show max a b = a by omega)
    go_enter Try.func69, Try.ntmps69
    go_wp2
    go_ret
    exact ⟨by rw [e.out]; rfl, rfl⟩
  · have e := Lib.hid (show max a b = b by omega)
    go_enter Try.func69, Try.ntmps69
    go_wp2
    go_ret
    exact ⟨by rw [e.out]; rfl, rfl⟩
theorem abs_any (n : Int) (h1 : -100000 ≤ n) (h2 : n ≤ 100000) (w : World) : Calls Try.prog 55 #[.int .i64 n] w fun e w' => e = .returned (.int .i64 (max n (-n))) ∧ w = w' := by
  go_enter Try.func55, Try.ntmps55
  go_wp2_with (first | (go_at_call 69; refine (most_any _ _ _).mono ?_; rintro e w' ⟨rfl, rfl⟩))
  go_ret
  exact ⟨rfl, rfl⟩
/-- how far a worm goes -/
def wv (zs : List Int) (c a : Int) (la : Bool) (b : Int) (lb : Bool) : Int := if (both zs c a && both zs c b) = true then max (fv zs c a la - fv zs c b lb) (fv zs c b lb - fv zs c a la) else 0
set_option maxRecDepth 100000 in
set_option maxHeartbeats 1000000 in
theorem sWorm {b1 g len cap : Nat} {zs : List Int} {c : Int} {w : World} (h : Ow w b1 g len cap zs) (hl : len ≤ 1048576) (a : Int) (la : Bool) (b : Int) (lb : Bool) :
    Calls Try.prog 26 #[V g len cap c, .int .i64 a, .bool la, .int .i64 b, .bool lb] w (Ret (.tuple #[.int .i64 (wv zs c a la b lb), .bool (both zs c a && both zs c b)]) w) := by
  have HO := Lib.hid (bx_ow h c)
  have HB0 := Lib.hid (bx_below w g len cap c)
  have B := bx_b2 w g len cap c
  have hz := ow_len h
  obtain ⟨-, q0, q1⟩ := id B
  cases hg : both zs c a with
  | false =>
    have HG := Lib.hid hg
    have E0 := Lib.hid (show wv zs c a la b lb = 0 by unfold wv; rw [hg]; rfl)
    clear h hg hz
    rw [E0.out]
    go_enter Try.func26, Try.ntmps26
    go_wp2_with fail
    refine (sBoth_any a HO.out hl false HG.out).mono ?_
    rintro e w1 ⟨rfl, hb⟩
    have HB := Lib.hid (HB0.out.trans (below_le hb HB0.out.size))
    clear hb B q0 q1
    go_wp2
    go_ret2
    exact ⟨rfl, HB.out⟩
  | true =>
    cases hg2 : both zs c b with
    | false =>
      have HG := Lib.hid hg
      have HG2 := Lib.hid hg2
      have E0 := Lib.hid (show wv zs c a la b lb = 0 by unfold wv; rw [hg, hg2]; rfl)
      clear h hg hz hg2
      rw [E0.out]
      go_enter Try.func26, Try.ntmps26
      go_wp2_with fail
      refine (sBoth_any a HO.out hl true HG.out).mono ?_
      rintro e w1 ⟨rfl, hb⟩
      have HB := Lib.hid (HB0.out.trans (below_le hb HB0.out.size))
      have HO1 := Lib.hid (Li.own_on HO.out hb)
      replace B := B.on hb
      clear hb q0 q1
      obtain ⟨-, q0, q1⟩ := id B
      go_wp2_with fail
      refine (sBoth_any b HO1.out hl false HG2.out).mono ?_
      rintro e w2 ⟨rfl, hb⟩
      have HB2 := Lib.hid (HB.out.trans (below_le hb HB.out.size))
      clear hb B q0 q1
      go_wp2
      go_ret2
      exact ⟨rfl, HB2.out⟩
    | true =>
      obtain ⟨ho, d1, d2⟩ := (both_iff zs c a).1 hg
      obtain ⟨k, rfl⟩ := Int.eq_ofNat_of_zero_le d1
      obtain ⟨_, d3, d4⟩ := (both_iff zs c b).1 hg2
      obtain ⟨j, rfl⟩ := Int.eq_ofNat_of_zero_le d3
      have hk : k < len := by omega
      have hj : j < len := by omega
      have HG := Lib.hid hg
      have HG2 := Lib.hid hg2
      have HK := Lib.hid ho
      obtain ⟨x, hx⟩ : ∃ x, face c zs k la = x := ⟨_, rfl⟩
      obtain ⟨y, hy⟩ : ∃ y, face c zs j lb = y := ⟨_, rfl⟩
      have fx := face_in ho k (by omega) la
      have fy := face_in ho j (by omega) lb
      rw [hx] at fx
      rw [hy] at fy
      have E0 := Lib.hid (show wv zs c (k : Int) la (j : Int) lb = max (x - y) (-(x - y)) by
        unfold wv
        rw [hg, hg2, fv_yes hg, fv_yes hg2, hx, hy]
        show max (x - y) (y - x) = _
        omega)
      have HX := Lib.hid hx
      have HY := Lib.hid hy
      have w1L : IntKind.i64.wrap (x - y) = x - y := by rw [IntKind.wrap_i64]; omega
      have HW := Lib.hid w1L
      have CA := Lib.hid (fun W => abs_any (x - y) (by omega) (by omega) W)
      clear h hg hz hg2 ho d1 d2 d3 d4 hx hy w1L fx fy
      rw [E0.out]
      go_enter Try.func26, Try.ntmps26
      go_wp2_with fail
      refine (sBoth_any (k : Int) HO.out hl true HG.out).mono ?_
      rintro e w1 ⟨rfl, hb⟩
      have HB := Lib.hid (HB0.out.trans (below_le hb HB0.out.size))
      have HO1 := Lib.hid (Li.own_on HO.out hb)
      replace B := B.on hb
      clear hb q0 q1
      obtain ⟨-, q0, q1⟩ := id B
      go_wp2_with fail
      refine (sBoth_any (j : Int) HO1.out hl true HG2.out).mono ?_
      rintro e w2 ⟨rfl, hb⟩
      have HB2 := Lib.hid (HB.out.trans (below_le hb HB.out.size))
      have HO2 := Lib.hid (Li.own_on HO1.out hb)
      replace B := B.on hb
      clear hb q0 q1 HB HO1
      obtain ⟨-, q0, q1⟩ := id B
      have CL := Lib.hid (fun (W : World) (hw : Below w2.heap.size w2 W) => HX.out ▸ shFace_any (Li.own_on HO2.out hw) HK.out k hk la)
      have CM := Lib.hid (fun (W : World) (hw : Below w2.heap.size w2 W) => HY.out ▸ shFace_any (Li.own_on HO2.out hw) HK.out j hj lb)
      go_wp2_with fail
      have w1L := HW.out
      go_region_held3 (fun w' => w'.cell? ⟨w.heap.size, 0, none⟩ = some (.slice (some ⟨g, 0, none⟩) len cap) ∧ w'.cell? ⟨w.heap.size, 1, none⟩ = some (.int .i64 c))
        (first | exact ⟨q0, q1⟩ | exact ⟨r0, r1⟩ | exact ⟨s0, s1⟩ | go_keep)
        (first
          | (go_at_call 55; refine (CA.out _).mono ?_; rintro e w' ⟨rfl, rfl⟩)
          | (go_at_call 54; ((with_reducible refine (CL.out _ (Below.refl w2.heap.size w2).drew).mono ?_)); rintro e w3 ⟨rfl, hb2⟩; have BB := B.drew.on hb2; obtain ⟨-, r0, r1⟩ := id BB)
          | (go_at_call 54; ((with_reducible refine (CM.out _ ((Below.refl w2.heap.size w2).drew.trans (below_le hb2 (Nat.le_refl _)))).mono ?_)); rintro e w4 ⟨rfl, hb3⟩; have BB3 := BB.on hb3; obtain ⟨-, s0, s1⟩ := id BB3))
      have HB3 := Lib.hid (below_drew_then HB2.out (hb2.trans (below_le hb3 hb2.size)))
      clear hb2 hb3 B BB BB3 r0 r1 s0 s1 q0 q1 w1L
      go_wp2
      go_ret2
      exact ⟨rfl, HB3.out⟩
end Sh
end Go.Proofs.Ytogkebbgkeffcaa
