/- PlaceOfVolume and FaceOf from both sides. -/
import Derived.Test.YtogkebbgkeffcaaSw2
import Derived.Maps.AppendAt
namespace Go.Proofs.Ytogkebbgkeffcaa
open Go.RowKit Go.Joins Go.Deep Go.ChangeShapes Go.WideShapes
set_option linter.unusedVariables false
set_option linter.unusedSimpArgs false
namespace Sh
theorem small_one {c z : Int} (c1 : 0 ≤ c) (c2 : c ≤ 10) (h : 1 ≤ z ∧ z ≤ 100) : Small c [z] 1 := by
  refine ⟨c1, c2, by omega, fun j hj => ?_⟩
  have e : j = 0 := by omega
  subst e
  exact h
theorem lf_one (c z : Int) : lf c [z] 1 = z + 2 * c := by show 0 + (z + 2 * c) = _; omega
/-- the ends of a volume -/
def p0 (zs : List Int) (c v : Int) : Int := if both zs c v = true then lf c zs v.toNat else 0
def p1 (zs : List Int) (c v : Int) : Int := if both zs c v = true then lf c zs (v.toNat + 1) else 0
set_option maxRecDepth 100000 in
set_option maxHeartbeats 1000000 in
theorem sPlace {b1 g len cap : Nat} {zs : List Int} {c : Int} {w : World} (h : Ow w b1 g len cap zs) (hl : len ≤ 1048576) (v : Int) :
    Calls Try.prog 22 #[V g len cap c, .int .i64 v] w (Ret (.tuple #[.int .i64 (p0 zs c v), .int .i64 (p1 zs c v), .bool (both zs c v)]) w) := by
  have HO := Lib.hid (bx_ow h c)
  have HB0 := Lib.hid (bx_below w g len cap c)
  have B := bx_b2 w g len cap c
  have hz := ow_len h
  obtain ⟨-, q0, q1⟩ := id B
  cases hg : both zs c v with
  | false =>
    have HG := Lib.hid hg
    have E0 := Lib.hid (show p0 zs c v = 0 by unfold p0; rw [hg]; rfl)
    have E1 := Lib.hid (show p1 zs c v = 0 by unfold p1; rw [hg]; rfl)
    clear h hg hz
    rw [E0.out, E1.out]
    go_enter Try.func22, Try.ntmps22
    go_wp2_with fail
    refine (sBoth_any v HO.out hl false HG.out).mono ?_
    rintro e w1 ⟨rfl, hb⟩
    have HB := Lib.hid (HB0.out.trans (below_le hb HB0.out.size))
    clear hb B q0 q1
    go_wp2
    go_ret3
    exact ⟨rfl, HB.out⟩
  | true =>
    obtain ⟨ho, d1, d2⟩ := (both_iff zs c v).1 hg
    obtain ⟨k, rfl⟩ := Int.eq_ofNat_of_zero_le d1
    have hk : k + 1 ≤ len := by omega
    have HG := Lib.hid hg
    have HK := Lib.hid ho
    have E0 := Lib.hid (show p0 zs c (k : Int) = lf c zs k by unfold p0; rw [hg]; rfl)
    have E1 := Lib.hid (show p1 zs c (k : Int) = lf c zs (k + 1) by unfold p1; rw [hg]; rfl)
    obtain ⟨K1, hK1⟩ : ∃ K1, K1 = k + 1 := ⟨_, rfl⟩
    have hw1 : IntKind.i64.wrap ((k : Int) + 1) = (K1 : Int) := by rw [IntKind.wrap_i64]; omega
    have hK2 : K1 ≤ len := by omega
    rw [← hK1] at E1
    have HW := Lib.hid hw1
    clear h hg hz ho d1 d2 hw1 hK1
    rw [E0.out, E1.out]
    go_enter Try.func22, Try.ntmps22
    go_wp2_with fail
    refine (sBoth_any (k : Int) HO.out hl true HG.out).mono ?_
    rintro e w1 ⟨rfl, hb⟩
    have HB := Lib.hid (HB0.out.trans (below_le hb HB0.out.size))
    have HO1 := Lib.hid (Li.own_on HO.out hb)
    replace B := B.on hb
    clear hb q0 q1
    obtain ⟨-, q0, q1⟩ := id B
    have CL := Lib.hid (fun (W : World) (hw : Below w1.heap.size w1 W) (j : Nat) (hj : j ≤ len) => shLeft_any (Li.own_on HO1.out hw) HK.out j hj)
    go_wp2_with fail
    have hw1 := HW.out
    go_region_held3 (fun w' => w'.cell? ⟨w.heap.size, 0, none⟩ = some (.slice (some ⟨g, 0, none⟩) len cap) ∧ w'.cell? ⟨w.heap.size, 1, none⟩ = some (.int .i64 c))
      (first | exact ⟨q0, q1⟩ | exact ⟨r0, r1⟩ | exact ⟨s0, s1⟩ | go_keep)
      (first
        | (go_at_call_of 50 (k : Int); refine (CL.out _ (Below.refl w1.heap.size w1).drew k (by omega)).mono ?_; rintro e w2 ⟨rfl, hb2⟩; have BB := B.drew.on hb2; obtain ⟨-, r0, r1⟩ := id BB)
        | (go_at_call_of 50 (K1 : Int); refine (CL.out _ ((Below.refl w1.heap.size w1).drew.trans (below_le hb2 (Nat.le_refl _))) K1 hK2).mono ?_; rintro e w3 ⟨rfl, hb3⟩; have BB3 := BB.on hb3; obtain ⟨-, s0, s1⟩ := id BB3))
    have HB3 := Lib.hid (below_drew_then HB.out (hb2.trans (below_le hb3 hb2.size)))
    clear hb2 hb3 B BB BB3 r0 r1 s0 s1 q0 q1 hw1
    go_wp2
    go_ret3
    exact ⟨rfl, HB3.out⟩
set_option maxRecDepth 100000 in
set_option maxHeartbeats 1000000 in
theorem iPlace {b1 g len cap : Nat} {zs : List Int} {c : Int} {w : World} (h : Ow w b1 g len cap zs) (hl : len ≤ 1048576) (v : Int) :
    Calls Try.prog 23 #[V g len cap c, .int .i64 v] w (Ret (.tuple #[.int .i64 (p0 zs c v), .int .i64 (p1 zs c v), .bool (both zs c v)]) w) := by
  have HO := Lib.hid (bx_ow h c)
  have HB0 := Lib.hid (bx_below w g len cap c)
  have B := bx_b2 w g len cap c
  have hz := ow_len h
  have hcap := (ow_cap h).1
  have hcap2 := (ow_cap h).2
  unfold maxLen at hcap2
  obtain ⟨-, q0, q1⟩ := id B
  cases hg : both zs c v with
  | false =>
    have HG := Lib.hid hg
    have E0 := Lib.hid (show p0 zs c v = 0 by unfold p0; rw [hg]; rfl)
    have E1 := Lib.hid (show p1 zs c v = 0 by unfold p1; rw [hg]; rfl)
    clear h hg hz
    rw [E0.out, E1.out]
    go_enter Try.func23, Try.ntmps23
    go_wp2_with fail
    refine (iBoth_any v HO.out hl false HG.out).mono ?_
    rintro e w1 ⟨rfl, hb⟩
    have HB := Lib.hid (HB0.out.trans (below_le hb HB0.out.size))
    clear hb B q0 q1
    go_wp2
    go_ret3
    exact ⟨rfl, HB.out⟩
  | true =>
    obtain ⟨ho, d1, d2⟩ := (both_iff zs c v).1 hg
    obtain ⟨k, rfl⟩ := Int.eq_ofNat_of_zero_le d1
    have hk : k < len := by omega
    have HG := Lib.hid hg
    have HZ := Lib.hid hz
    have HS := Lib.hid (show Small c zs k from small_ok ho (by omega))
    have hs1 := ho.2.2.1 k (by omega)
    have c1 := ho.2.2.2.1
    have c2 := ho.2.2.2.2
    have l1 := lf_big ho k (by omega)
    have l1a := l1.1
    have l1b := l1.2
    have HZK := Lib.hid (show ∃ z, zs.getD k 0 = z from ⟨_, rfl⟩)
    obtain ⟨z, hzk⟩ := HZK.out
    rw [hzk] at hs1
    have t1 := hs1.1
    have t2 := hs1.2
    have HS1 := Lib.hid (small_one c1 c2 hs1)
    have EL1 := Lib.hid (lf_one c z)
    have E0 := Lib.hid (show p0 zs c (k : Int) = lf c zs k by unfold p0; rw [hg]; rfl)
    have E1 := Lib.hid (show p1 zs c (k : Int) = lf c zs k + (z + 2 * c) by unfold p1; rw [hg, ← hzk]; rfl)
    have eg : ∀ args w, (callFunc 66 args).run Try.prog w = .ok (.enter 66 args) w := enters_of Try.func66 (by kernel_rfl) rfl
    have HZ2 := Lib.hid hzk
    have hkc : k ≤ cap := by omega
    rw [E0.out, E1.out]
    obtain ⟨L, hL⟩ : ∃ L, lf c zs k = L := ⟨_, rfl⟩
    rw [hL] at l1a l1b ⊢
    have HL := Lib.hid hL
    clear h hg hz ho d1 d2 hs1 l1 HZK hzk E0 E1 hL hcap
    go_enter Try.func23, Try.ntmps23
    go_wp2_with fail
    refine (iBoth_any (k : Int) HO.out hl true HG.out).mono ?_
    rintro e w1 ⟨rfl, hb⟩
    have HB := Lib.hid (HB0.out.trans (below_le hb HB0.out.size))
    have HO1 := Lib.hid (Li.own_on HO.out hb)
    replace B := B.on hb
    clear hb q0 q1
    obtain ⟨-, q0, q1⟩ := id B
    go_wp2_with fail
    refine (widthR g len cap c _).mono ?_
    rintro e w2 ⟨b2, rfl, B2', hb⟩
    have HB2 := Lib.hid (HB.out.trans (below_le hb HB.out.size))
    have HO2 := Lib.hid (Li.own_on HO1.out hb)
    replace B := B.on hb
    clear hb q0 q1 HB
    obtain ⟨-, q0, q1⟩ := id B
    have HC2 := Lib.hid B2'.2.2
    have hz2 := ow_cell HO2.out hk
    rw [HZ2.out] at hz2
    have C1 := width1_any (cap := k) (b := b2) HS.out (cells_of HO2.out (show k ≤ len by omega)) HC2.out
    rw [HL.out] at C1
    have HC1 := Lib.hid C1
    clear C1 B2'
    go_wp2_with fail
    refine HC1.out.mono ?_
    rintro e w' ⟨rfl, rfl⟩
    go_wp2_with fail
    have hc2 : (w2.alloc (.cells #[.int .i64 z] 3)).cell? ⟨b2, 1, none⟩ = some (.int .i64 c) := ((below_alloc1 w2 _).cell (p := ⟨b2, 1, none⟩) (World.block_lt_of_cell? _ _ HC2.out)).trans HC2.out
    have hy2 : Cells (w2.alloc (.cells #[.int .i64 z] 3)) w2.heap.size 1 [z] := fun j hj => by
      have e : j = 0 := by omega
      subst e
      show _ = some (Value.int .i64 z)
      simp [go_sem]
    have C2 := width1_any (cap := 1) (b := b2) HS1.out hy2 hc2
    rw [EL1.out] at C2
    refine C2.mono ?_
    rintro e w' ⟨rfl, rfl⟩
    have HB3 := Lib.hid (HB2.out.alloc HB2.out.size (.cells #[.int .i64 z] 3))
    clear C2 hy2 hc2 hz2 B q0 q1
    go_wp2
    go_ret3
    exact ⟨rfl, HB3.out⟩
end Sh
end Go.Proofs.Ytogkebbgkeffcaa
