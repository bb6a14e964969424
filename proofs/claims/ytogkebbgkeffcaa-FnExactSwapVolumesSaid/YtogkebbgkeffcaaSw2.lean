/- WidthOf, PlaceOfVolume and FaceOf from both sides. -/
import Derived.Test.YtogkebbgkeffcaaSw
import Derived.Deep.RegionHeld3
namespace Go.Proofs.Ytogkebbgkeffcaa
open Go.RowKit Go.Joins Go.Deep Go.ChangeShapes Go.WideShapes
set_option linter.unusedVariables false
set_option linter.unusedSimpArgs false
namespace Sh
def WidthR (g len cap : Nat) (c : Int) (w : World) (e : Ending) (w' : World) : Prop := ∃ b, e = .returned (F b) ∧ B2 w' b (.slice (some ⟨g, 0, none⟩) len cap) (.int .i64 c) ∧ Below w.heap.size w w'
theorem widthR (g len cap : Nat) (c : Int) (w : World) : Calls Try.prog 51 #[V g len cap c] w (WidthR g len cap c w) :=
  (width_any g len cap c w).mono fun e w' ⟨he, hw⟩ => ⟨_, he, by subst hw; exact B2.new _ _ _ _, by subst hw; exact below_alloc1 _ _⟩
theorem cells_of {W : World} {b1 g len cap : Nat} {zs : List Int} (h : Ow W b1 g len cap zs) {n : Nat} (hn : n ≤ len) : Cells W g n zs := fun j hj => ow_cell h (by omega)
/-- the box of a shelf in a new block -/
abbrev bx (w : World) (g len cap : Nat) (c : Int) : World := w.alloc (.cells #[.slice (some ⟨g, 0, none⟩) len cap, .int .i64 c] 27)
theorem bx_b2 (w : World) (g len cap : Nat) (c : Int) : B2 (bx w g len cap c) w.heap.size (.slice (some ⟨g, 0, none⟩) len cap) (.int .i64 c) := B2.new _ _ _ _
theorem bx_below (w : World) (g len cap : Nat) (c : Int) : Below w.heap.size w (bx w g len cap c) := below_alloc1 _ _
theorem bx_ow {w : World} {b1 g len cap : Nat} {zs : List Int} (h : Ow w b1 g len cap zs) (c : Int) : Ow (bx w g len cap c) b1 g len cap zs := Li.own_on h (bx_below _ _ _ _ _)
theorem below_drew_then {W w1 w2 : World} (hB : Below W.heap.size W w1) (hb : Below w1.drew.heap.size w1.drew w2) : Below W.heap.size W w2 :=
  hB.trans (below_le ((Below.refl w1.heap.size w1).drew.trans (below_le hb (Nat.le_refl _))) hB.size)
/-- how wide all volumes are -/
def wd (zs : List Int) (c : Int) : Int := if good zs c = true then lf c zs zs.length else 0
set_option maxRecDepth 100000 in
set_option maxHeartbeats 1000000 in
theorem sWidth {b1 g len cap : Nat} {zs : List Int} {c : Int} {w : World} (h : Ow w b1 g len cap zs) (hl : len ≤ 1048576) :
    Calls Try.prog 20 #[V g len cap c] w (Ret (.tuple #[.int .i64 (wd zs c), .bool (good zs c)]) w) := by
  have HO := Lib.hid (bx_ow h c)
  have HB0 := Lib.hid (bx_below w g len cap c)
  have B := bx_b2 w g len cap c
  have hz := ow_len h
  obtain ⟨_, q0, q1⟩ := id B
  cases hg : good zs c with
  | false =>
    have HG := Lib.hid hg
    have E := Lib.hid (show wd zs c = 0 by unfold wd; rw [hg]; rfl)
    clear h hg hz
    rw [E.out]
    go_enter Try.func20, Try.ntmps20
    go_wp2_with fail
    refine (sGood_any HO.out hl false HG.out).mono ?_
    rintro e w1 ⟨rfl, hb⟩
    have HB := Lib.hid (HB0.out.trans (below_le hb HB0.out.size))
    clear hb B q0 q1
    go_wp2
    go_ret2
    exact ⟨rfl, HB.out⟩
  | true =>
    have HG := Lib.hid hg
    have HK := Lib.hid ((good_iff zs c).1 hg)
    have E := Lib.hid (show wd zs c = lf c zs len by unfold wd; rw [hg, hz]; rfl)
    clear h hg hz
    rw [E.out]
    go_enter Try.func20, Try.ntmps20
    go_wp2_with fail
    refine (sGood_any HO.out hl true HG.out).mono ?_
    rintro e w1 ⟨rfl, hb⟩
    have HB := Lib.hid (HB0.out.trans (below_le hb HB0.out.size))
    have HO1 := Lib.hid (Li.own_on HO.out hb)
    replace B := B.on hb
    clear hb q0 q1
    obtain ⟨_, q0, q1⟩ := id B
    go_wp2_with fail
    refine (shLeft_any HO1.out HK.out len (Nat.le_refl _)).mono ?_
    rintro e w2 ⟨rfl, hb⟩
    have HB2 := Lib.hid (HB.out.trans (below_le hb HB.out.size))
    clear hb q0 q1 B
    go_wp2
    go_ret2
    exact ⟨rfl, HB2.out⟩
set_option maxRecDepth 100000 in
set_option maxHeartbeats 1000000 in
theorem iWidth {b1 g len cap : Nat} {zs : List Int} {c : Int} {w : World} (h : Ow w b1 g len cap zs) (hl : len ≤ 1048576) :
    Calls Try.prog 21 #[V g len cap c] w (Ret (.tuple #[.int .i64 (wd zs c), .bool (good zs c)]) w) := by
  have HO := Lib.hid (bx_ow h c)
  have HB0 := Lib.hid (bx_below w g len cap c)
  have B := bx_b2 w g len cap c
  have hz := ow_len h
  obtain ⟨_, q0, q1⟩ := id B
  cases hg : good zs c with
  | false =>
    have HG := Lib.hid hg
    have E := Lib.hid (show wd zs c = 0 by unfold wd; rw [hg]; rfl)
    clear h hg hz
    rw [E.out]
    go_enter Try.func21, Try.ntmps21
    go_wp2_with fail
    refine (iGood_any HO.out hl false HG.out).mono ?_
    rintro e w1 ⟨rfl, hb⟩
    have HB := Lib.hid (HB0.out.trans (below_le hb HB0.out.size))
    clear hb B q0 q1
    go_wp2
    go_ret2
    exact ⟨rfl, HB.out⟩
  | true =>
    have HG := Lib.hid hg
    have hk := (good_iff zs c).1 hg
    have HS := Lib.hid (show Small c zs len by rw [← hz]; exact small_ok hk (Nat.le_refl _))
    have E := Lib.hid (show wd zs c = lf c zs len by unfold wd; rw [hg, hz]; rfl)
    have eg : ∀ args w, (callFunc 66 args).run Try.prog w = .ok (.enter 66 args) w := enters_of Try.func66 (by kernel_rfl) rfl
    clear h hg hz hk
    rw [E.out]
    go_enter Try.func21, Try.ntmps21
    go_wp2_with fail
    refine (iGood_any HO.out hl true HG.out).mono ?_
    rintro e w1 ⟨rfl, hb⟩
    have HB := Lib.hid (HB0.out.trans (below_le hb HB0.out.size))
    have HO1 := Lib.hid (Li.own_on HO.out hb)
    replace B := B.on hb
    clear hb q0 q1
    obtain ⟨_, q0, q1⟩ := id B
    go_wp2_with fail
    go_region_held3 (fun w' => w'.cell? ⟨w.heap.size, 0, none⟩ = some (.slice (some ⟨g, 0, none⟩) len cap) ∧ w'.cell? ⟨w.heap.size, 1, none⟩ = some (.int .i64 c))
      (first | exact ⟨q0, q1⟩ | exact ⟨p0, p1⟩ | go_keep)
      (first
        | (go_at_call 51; refine (widthR g len cap c _).mono ?_; rintro e w2 ⟨b2, rfl, B2', hb2⟩; have BB := B.drew.on hb2; obtain ⟨-, p0, p1⟩ := id BB; have HO2 := Lib.hid (Li.own_on HO1.out ((Below.refl w1.heap.size w1).drew.trans (below_le hb2 (Nat.le_refl _)))); have HC2 := Lib.hid B2'.2.2)
        | (go_at_call 66; refine (width1_any HS.out (cells_of HO2.out (Nat.le_refl _)) HC2.out).mono ?_; rintro e w' ⟨rfl, rfl⟩))
    have HB3 := Lib.hid (below_drew_then HB.out hb2)
    clear hb2 B BB B2' p0 p1 q0 q1
    go_wp2
    go_ret2
    exact ⟨rfl, HB3.out⟩
/-! a shelf and a volume of it -/
set_option maxRecDepth 100000 in
set_option maxHeartbeats 1000000 in
theorem sBoth_any {b1 g len cap : Nat} {zs : List Int} {c : Int} {w : World} (v : Int) (h : Ow w b1 g len cap zs) (hl : len ≤ 1048576) (x : Bool) (hx : both zs c v = x) :
    Calls Try.prog 52 #[V g len cap c, .int .i64 v] w (Ret (.bool x) w) := by
  have HO := Lib.hid (bx_ow h c)
  have HB0 := Lib.hid (bx_below w g len cap c)
  have B := bx_b2 w g len cap c
  have hz := ow_len h
  obtain ⟨-, q0, q1⟩ := id B
  cases hg : good zs c with
  | false =>
    have HG := Lib.hid hg
    have e : x = false := by rw [← hx]; unfold both; rw [hg]; rfl
    subst e
    clear h hg hz hx
    go_enter Try.func52, Try.ntmps52
    go_wp2_with fail
    refine (sGood_any HO.out hl false HG.out).mono ?_
    rintro e w1 ⟨rfl, hb⟩
    have HB := Lib.hid (HB0.out.trans (below_le hb HB0.out.size))
    clear hb B q0 q1
    go_wp2
    go_ret
    exact ⟨rfl, HB.out⟩
  | true =>
    have HG := Lib.hid hg
    have HX := Lib.hid (show (decide (0 ≤ v) && decide (v ≤ (len : Int) - 1)) = x by
      rw [← hx]
      unfold both
      rw [hg, hz, Bool.true_and, Bool.eq_iff_iff]
      simp only [Bool.and_eq_true, decide_eq_true_eq]
      omega)
    clear h hg hz hx
    go_enter Try.func52, Try.ntmps52
    go_wp2_with fail
    refine (sGood_any HO.out hl true HG.out).mono ?_
    rintro e w1 ⟨rfl, hb⟩
    have HB := Lib.hid (HB0.out.trans (below_le hb HB0.out.size))
    replace B := B.on hb
    clear hb q0 q1
    obtain ⟨-, q0, q1⟩ := id B
    go_wp2_with fail
    refine (l1In_any _ _ _ x HX.out _).mono ?_
    rintro e w' ⟨rfl, rfl⟩
    clear B q0 q1
    go_wp2
    go_ret
    exact ⟨rfl, HB.out⟩
set_option maxRecDepth 100000 in
set_option maxHeartbeats 1000000 in
theorem iBoth_any {b1 g len cap : Nat} {zs : List Int} {c : Int} {w : World} (v : Int) (h : Ow w b1 g len cap zs) (hl : len ≤ 1048576) (x : Bool) (hx : both zs c v = x) :
    Calls Try.prog 53 #[V g len cap c, .int .i64 v] w (Ret (.bool x) w) := by
  have HO := Lib.hid (bx_ow h c)
  have HB0 := Lib.hid (bx_below w g len cap c)
  have B := bx_b2 w g len cap c
  have hz := ow_len h
  obtain ⟨-, q0, q1⟩ := id B
  cases hg : good zs c with
  | false =>
    have HG := Lib.hid hg
    have e : x = false := by rw [← hx]; unfold both; rw [hg]; rfl
    subst e
    clear h hg hz hx
    go_enter Try.func53, Try.ntmps53
    go_wp2_with fail
    refine (iGood_any HO.out hl false HG.out).mono ?_
    rintro e w1 ⟨rfl, hb⟩
    have HB := Lib.hid (HB0.out.trans (below_le hb HB0.out.size))
    clear hb B q0 q1
    go_wp2
    go_ret
    exact ⟨rfl, HB.out⟩
  | true =>
    have HG := Lib.hid hg
    by_cases d1 : 0 ≤ v
    · by_cases d2 : v < (len : Int)
      · have E := Lib.hid (show x = true by rw [← hx]; unfold both; rw [hg, hz]; simp [d1, d2])
        clear h hg hz hx
        go_enter Try.func53, Try.ntmps53
        go_wp2_with fail
        refine (iGood_any HO.out hl true HG.out).mono ?_
        rintro e w1 ⟨rfl, hb⟩
        have HB := Lib.hid (HB0.out.trans (below_le hb HB0.out.size))
        replace B := B.on hb
        clear hb q0 q1
        obtain ⟨-, q0, q1⟩ := id B
        go_wp2
        go_ret
        exact ⟨rb E.out rfl, HB.out⟩
      · have E := Lib.hid (show x = false by rw [← hx]; unfold both; rw [hg, hz]; simp [d2])
        have t2 : decide (v < (len : Int)) = false := by simpa using d2
        clear h hg hz hx d2
        go_enter Try.func53, Try.ntmps53
        go_wp2_with fail
        refine (iGood_any HO.out hl true HG.out).mono ?_
        rintro e w1 ⟨rfl, hb⟩
        have HB := Lib.hid (HB0.out.trans (below_le hb HB0.out.size))
        replace B := B.on hb
        clear hb q0 q1
        obtain ⟨-, q0, q1⟩ := id B
        go_wp2
        go_ret
        exact ⟨rb E.out rfl, HB.out⟩
    · have E := Lib.hid (show x = false by rw [← hx]; unfold both; rw [hg, hz]; simp [d1])
      have t2 : decide (0 ≤ v) = false := by simpa using d1
      clear h hg hz hx d1
      go_enter Try.func53, Try.ntmps53
      go_wp2_with fail
      refine (iGood_any HO.out hl true HG.out).mono ?_
      rintro e w1 ⟨rfl, hb⟩
      have HB := Lib.hid (HB0.out.trans (below_le hb HB0.out.size))
      replace B := B.on hb
      clear hb q0 q1
      obtain ⟨-, q0, q1⟩ := id B
      go_wp2
      go_ret
      exact ⟨rb E.out rfl, HB.out⟩
end Sh
end Go.Proofs.Ytogkebbgkeffcaa
