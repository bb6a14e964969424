/- PagesEaten from both sides. -/
import Derived.Test.YtogkebbgkeffcaaSw7
import Derived.Maps.AppendAt
namespace Go.Proofs.Ytogkebbgkeffcaa
open Go.RowKit Go.Joins Go.Deep Go.ChangeShapes Go.WideShapes
set_option linter.unusedVariables false
set_option linter.unusedSimpArgs false
namespace Sh
/-- the first n volumes that lie between two faces -/
def between (zs : List Int) (c lo hi : Int) : Nat → List Int
  | 0 => []
  | k + 1 => if lo ≤ face c zs k true ∧ face c zs k false ≤ hi then between zs c lo hi k ++ [(k : Int)] else between zs c lo hi k
theorem between_le (zs : List Int) (c lo hi : Int) (k : Nat) : (between zs c lo hi k).length ≤ k := by
  induction k with
  | zero => exact Nat.le_refl _
  | succ k ih =>
    unfold between
    split
    · rw [List.length_append]; simp only [List.length_cons, List.length_nil]; omega
    · omega
def ate (zs : List Int) (c a : Int) (la : Bool) (b : Int) (lb : Bool) : List Int := if (both zs c a && both zs c b) = true then between zs c (wl zs c a la b lb) (wh zs c a la b lb) zs.length else []
theorem ate_le (zs : List Int) (c a : Int) (la : Bool) (b : Int) (lb : Bool) (h : zs.length ≤ 1048576) : (ate zs c a la b lb).length ≤ 1048576 := by
  unfold ate
  split
  · exact Nat.le_trans (between_le _ _ _ _ _) h
  · simp
theorem own_more {W : World} {base : Nat} {v : Value} {zs ys : List Int} {x : Int} (h : W.ownsRow base 3 1 v (zs.length + 1) (Li.nums zs ++ [.int .i64 x])) (e : ys = zs ++ [x]) : W.ownsRow base 3 1 v ys.length (Li.nums ys) := by
  subst e; simpa [Li.nums] using h
theorem own_eq {W : World} {base : Nat} {v : Value} {zs ys : List Int} (h : W.ownsRow base 3 1 v zs.length (Li.nums zs)) (e : ys = zs) : W.ownsRow base 3 1 v ys.length (Li.nums ys) := by
  subst e; exact h
set_option maxRecDepth 100000 in
set_option maxHeartbeats 2000000 in
theorem shSpan_any {b1 g len cap : Nat} {zs : List Int} {c : Int} {w : World} (h : Ow w b1 g len cap zs) (ho : Ok zs c) (k : Nat) (hk : k < len) (la : Bool) (j : Nat) (hj : j < len) (lb : Bool) :
    Calls Try.prog 57 #[V g len cap c, .int .i64 (k : Int), .bool la, .int .i64 (j : Int), .bool lb] w (Ret (.tuple #[.int .i64 (min (face c zs k la) (face c zs j lb)), .int .i64 (max (face c zs k la) (face c zs j lb))]) w) := by
  have HO := Lib.hid (bx_ow h c)
  have HB0 := Lib.hid (bx_below w g len cap c)
  have B := bx_b2 w g len cap c
  have hz := ow_len h
  obtain ⟨-, q0, q1⟩ := id B
  have HK := Lib.hid ho
  obtain ⟨x, hx⟩ : ∃ x, face c zs k la = x := ⟨_, rfl⟩
  obtain ⟨y, hy⟩ : ∃ y, face c zs j lb = y := ⟨_, rfl⟩
  rw [hx, hy]
  have HX := Lib.hid hx
  have HY := Lib.hid hy
  clear h hz ho hx hy
  go_enter Try.func57, Try.ntmps57
  have CL := Lib.hid (fun (W : World) (hw : Below (bx w g len cap c).heap.size (bx w g len cap c) W) => HX.out ▸ shFace_any (Li.own_on HO.out hw) HK.out k hk la)
  have CM := Lib.hid (fun (W : World) (hw : Below (bx w g len cap c).heap.size (bx w g len cap c) W) => HY.out ▸ shFace_any (Li.own_on HO.out hw) HK.out j hj lb)
  go_wp2_with fail
  go_region_held3 (fun w' => w'.cell? ⟨w.heap.size, 0, none⟩ = some (.slice (some ⟨g, 0, none⟩) len cap) ∧ w'.cell? ⟨w.heap.size, 1, none⟩ = some (.int .i64 c))
    (first | exact ⟨q0, q1⟩ | exact ⟨r0, r1⟩ | exact ⟨s0, s1⟩ | go_keep)
    (first
      | (go_at_call 54; ((with_reducible refine (CL.out _ (Below.refl (bx w g len cap c).heap.size (bx w g len cap c)).drew).mono ?_)); rintro e w3 ⟨rfl, hb2⟩; have BB := B.drew.on hb2; obtain ⟨-, r0, r1⟩ := id BB)
      | (go_at_call 54; ((with_reducible refine (CM.out _ ((Below.refl (bx w g len cap c).heap.size (bx w g len cap c)).drew.trans (below_le hb2 (Nat.le_refl _)))).mono ?_)); rintro e w4 ⟨rfl, hb3⟩; have BB3 := BB.on hb3; obtain ⟨-, s0, s1⟩ := id BB3))
  have HB3 := Lib.hid (below_drew_then HB0.out (hb2.trans (below_le hb3 hb2.size)))
  clear hb2 hb3 B BB BB3 r0 r1 s0 s1 q0 q1
  go_wp2_with (first | (go_at_call 70; refine (least_any _ _ _).mono ?_; rintro e w' ⟨rfl, rfl⟩) | (go_at_call 69; refine (most_any _ _ _).mono ?_; rintro e w' ⟨rfl, rfl⟩))
  go_ret2
  exact ⟨rfl, HB3.out⟩
theorem gives_none {W w' : World} {zs : List Int} (e : zs = []) (hb : Below W.heap.size W w') : Li.Gives false zs W (.returned (.tuple #[.slice none 0 0, .bool false])) w' := by
  subst e
  exact Li.Gives.none hb
set_option maxRecDepth 100000 in
set_option maxHeartbeats 2000000 in
theorem sPages {b1 g len cap : Nat} {zs : List Int} {c : Int} {w : World} (h : Ow w b1 g len cap zs) (hl : len ≤ 1048576) (a : Int) (la : Bool) (b : Int) (lb : Bool) :
    Calls Try.prog 32 #[V g len cap c, .int .i64 a, .bool la, .int .i64 b, .bool lb] w (Li.Gives (both zs c a && both zs c b) (ate zs c a la b lb) w) := by
  obtain ⟨i0, hi, hz0, hz1, hz2⟩ := info_parts Li.info3
  have HO := Lib.hid (bx_ow h c)
  have HB0 := Lib.hid (bx_below w g len cap c)
  have B := bx_b2 w g len cap c
  have hz := ow_len h
  obtain ⟨-, q0, q1⟩ := id B
  cases hg : both zs c a with
  | false =>
    have HG := Lib.hid hg
    have E0 := Lib.hid (show ate zs c a la b lb = [] by unfold ate; rw [hg]; rfl)
    clear h hg hz
    go_enter Try.func32, Try.ntmps32
    go_wp2_with fail
    refine (sBoth_any a HO.out hl false HG.out).mono ?_
    rintro e w1 ⟨rfl, hb⟩
    have HB := Lib.hid (HB0.out.trans (below_le hb HB0.out.size))
    clear hb B q0 q1
    go_wp2
    go_ret2
    exact gives_none E0.out HB.out
  | true =>
    cases hg2 : both zs c b with
    | false =>
      have HG := Lib.hid hg
      have HG2 := Lib.hid hg2
      have E0 := Lib.hid (show ate zs c a la b lb = [] by unfold ate; rw [hg, hg2]; rfl)
      clear h hg hz hg2
      go_enter Try.func32, Try.ntmps32
      go_wp2_with fail
      refine (sBoth_any a HO.out hl true HG.out).mono ?_
      rintro e w1 ⟨rfl, hb⟩
      have HB := Lib.hid (HB0.out.trans (below_le hb HB0.out.size))
      have HO1 := Lib.hid (Li.own_on HO.out hb)
      replace B := B.on hb
      clear hb q0 q1
      obtain ⟨-, q0, q1⟩ := id B
      go_wp2_with fail
      refine (sBoth_any b HO1.out hl false HG2.out).mono ?_
      rintro e w2 ⟨rfl, hb⟩
      have HB2 := Lib.hid (HB.out.trans (below_le hb HB.out.size))
      clear hb B q0 q1
      go_wp2
      go_ret2
      exact gives_none E0.out HB2.out
    | true =>
      obtain ⟨ho, d1, d2⟩ := (both_iff zs c a).1 hg
      obtain ⟨k0, rfl⟩ := Int.eq_ofNat_of_zero_le d1
      obtain ⟨_, d3, d4⟩ := (both_iff zs c b).1 hg2
      obtain ⟨j0, rfl⟩ := Int.eq_ofNat_of_zero_le d3
      have hk0 : k0 < len := by omega
      have hj0 : j0 < len := by omega
      have hl8 : len ≤ 8 := by have := ho.2.1; omega
      have HG := Lib.hid hg
      have HG2 := Lib.hid hg2
      have HK := Lib.hid ho
      have HZ := Lib.hid hz
      obtain ⟨lo, hlo⟩ : ∃ lo, min (face c zs k0 la) (face c zs j0 lb) = lo := ⟨_, rfl⟩
      obtain ⟨hi', hhi⟩ : ∃ hi', max (face c zs k0 la) (face c zs j0 lb) = hi' := ⟨_, rfl⟩
      have E0 := Lib.hid (show ate zs c (k0 : Int) la (j0 : Int) lb = between zs c lo hi' len by
        unfold ate wl wh
        rw [hg, hg2, fv_yes hg, fv_yes hg2, hz]
        simp only [Bool.and_self, if_true, hlo, hhi])
      have HLO := Lib.hid hlo
      have HHI := Lib.hid hhi
      clear h hg hz hg2 ho d1 d2 d3 d4 hlo hhi
      go_enter Try.func32, Try.ntmps32
      go_wp2_with fail
      refine (sBoth_any (k0 : Int) HO.out hl true HG.out).mono ?_
      rintro e w1 ⟨rfl, hb⟩
      have HB := Lib.hid (HB0.out.trans (below_le hb HB0.out.size))
      have HO1 := Lib.hid (Li.own_on HO.out hb)
      replace B := B.on hb
      clear hb q0 q1
      obtain ⟨-, q0, q1⟩ := id B
      go_wp2_with fail
      refine (sBoth_any (j0 : Int) HO1.out hl true HG2.out).mono ?_
      rintro e w2 ⟨rfl, hb⟩
      have HB2 := Lib.hid (HB.out.trans (below_le hb HB.out.size))
      have HO2 := Lib.hid (Li.own_on HO1.out hb)
      replace B := B.on hb
      clear hb q0 q1 HB HO1
      obtain ⟨-, q0, q1⟩ := id B
      have CS := shSpan_any HO2.out HK.out k0 hk0 la j0 hj0 lb
      rw [HLO.out, HHI.out] at CS
      have HCS := Lib.hid CS
      clear CS
      go_wp2_with fail
      refine HCS.out.mono ?_
      rintro e w3 ⟨rfl, hb⟩
      have HB3 := Lib.hid (HB2.out.trans (below_le hb HB2.out.size))
      have HO3 := Lib.hid (Li.own_on HO2.out hb)
      replace B := B.on hb
      clear hb q0 q1 HB2 HCS HO2
      have HBX := Lib.hid B
      obtain ⟨-, q0, q1⟩ := id B
      go_wp2
      clear B q0 q1
      go_loopw [14, 38] (fun v i wr => ∃ k : Nat, k ≤ len ∧ i = .int .i64 (k : Int) ∧ wr.ownsRow w3.heap.size 3 1 v (between zs c lo hi' k).length (Li.nums (between zs c lo hi' k)) ∧ Below w3.heap.size w3 wr) (fun _ i _ => ((len : Int) - intOf i).toNat)
      case atStart => exact ⟨0, by omega, rfl, World.ownsRow_nil _ _ _ _, Below.refl _ _⟩
      case round =>
        obtain ⟨k, hk, rfl, hown, hb⟩ := hrel
        by_cases hlt : (k : Int) < len
        · have hk2 : k < len := by omega
          obtain ⟨x, hx⟩ : ∃ x, face c zs k true = x := ⟨_, rfl⟩
          obtain ⟨y, hy⟩ : ∃ y, face c zs k false = y := ⟨_, rfl⟩
          have ES : between zs c lo hi' (k + 1) = if lo ≤ face c zs k true ∧ face c zs k false ≤ hi' then between zs c lo hi' k ++ [(k : Int)] else between zs c lo hi' k := rfl
          rw [hx, hy] at ES
          have hlen := between_le zs c lo hi' k
          have HES := Lib.hid ES
          have HX := Lib.hid hx
          have HY := Lib.hid hy
          have HOW := Lib.hid (Li.own_on HO3.out hb)
          have B := HBX.out.on hb
          obtain ⟨-, q0, q1⟩ := id B
          have CX := Lib.hid (hx ▸ shFace_any HOW.out HK.out k hk2 true)
          generalize between zs c lo hi' k = L at *
          clear hx hy ES
          by_cases c1 : lo ≤ x
          · go_wp2_with fail
            refine CX.out.mono ?_
            rintro e w4 ⟨rfl, hb4⟩
            have HOW4 := Lib.hid (Li.own_on HOW.out hb4)
            have hown4 := Li.own_on hown hb4
            have hb34 := hb.trans (below_le hb4 hb.size)
            replace B := B.on hb4
            clear q0 q1 hown hb hb4
            obtain ⟨-, q0, q1⟩ := id B
            have CY := Lib.hid (HY.out ▸ shFace_any HOW4.out HK.out k hk2 false)
            by_cases c2 : y ≤ hi'
            · go_wp2_with fail
              refine CY.out.mono ?_
              rintro e w5 ⟨rfl, hb5⟩
              have hown5 := Li.own_on hown4 hb5
              have hb35 := hb34.trans (below_le hb5 hb34.size)
              have hsz3 := HB3.out.size
              have hsz := hb35.size
              clear q0 q1 B hown4 hb34 hb5
              go_wp2_with (first | (at_builtin; refine wpList_append_own _ rfl _ _ 22 rfl w3.heap.size 3 i0 (.int .i64 0) 1 8 Try.underlying22 hi hz0 hz1 hz2 rfl (by decide) _ _ _ rfl (hown5.alloc _) ⟨w5.heap.size, 0, none⟩ 1 1 [.int .i64 (k : Int)] rfl rfl (cell_one_new _ _ _) (fun x hx => by simp at hx; subst hx; rfl) (by unfold maxLen; omega) (by omega) (by simp; omega) ?_; intro v' w6 hown2 hgrow2 hnil2))
              have O := Lib.hid (own_more hown2 (HES.out.trans (if_pos ⟨c1, c2⟩)))
              have BB := Lib.hid ((hb35.alloc hb35.size _).grown hgrow2 (by simp; omega) (fun j hj => (hown5.lt j hj).1))
              clear hown2 hgrow2 hnil2 hown5 hb35
              go_roundw
              case rel => exact ⟨k + 1, by omega, by go_num, O.out, BB.out⟩
              case measure => simp [intOf]; omega
            · have e2 : decide (y ≤ hi') = false := by simpa using c2
              have N := Lib.hid (HES.out.trans (if_neg (fun hh => c2 hh.2)))
              clear c2
              go_wp2_with fail
              refine CY.out.mono ?_
              rintro e w5 ⟨rfl, hb5⟩
              have O := Lib.hid (own_eq (Li.own_on hown4 hb5) N.out)
              have BB := Lib.hid (hb34.trans (below_le hb5 hb34.size))
              clear q0 q1 B hown4 hb34 hb5
              go_wp2
              go_roundw
              case rel => exact ⟨k + 1, by omega, by go_num, O.out, BB.out⟩
              case measure => simp [intOf]; omega
          · have e2 : decide (lo ≤ x) = false := by simpa using c1
            have N := Lib.hid (HES.out.trans (if_neg (fun hh => c1 hh.1)))
            clear c1
            go_wp2_with fail
            refine CX.out.mono ?_
            rintro e w4 ⟨rfl, hb4⟩
            have O := Lib.hid (own_eq (Li.own_on hown hb4) N.out)
            have BB := Lib.hid (hb.trans (below_le hb4 hb.size))
            clear q0 q1 B hown hb hb4
            go_wp2
            go_roundw
            case rel => exact ⟨k + 1, by omega, by go_num, O.out, BB.out⟩
            case measure => simp [intOf]; omega
        · have E := Lib.hid (show k = len by omega)
          have O := Lib.hid (own_eq (Li.own_le hown HB3.out.size) (E0.out.trans (by rw [← E.out])))
          have BB := Lib.hid (HB3.out.trans (below_le hb HB3.out.size))
          clear hown hb
          go_wp2
          go_ret2
          exact ⟨_, rfl, O.out, BB.out⟩
set_option maxRecDepth 100000 in
set_option maxHeartbeats 2000000 in
theorem iPages {b1 g len cap : Nat} {zs : List Int} {c : Int} {w : World} (h : Ow w b1 g len cap zs) (hl : len ≤ 1048576) (a : Int) (la : Bool) (b : Int) (lb : Bool) :
    Calls Try.prog 33 #[V g len cap c, .int .i64 a, .bool la, .int .i64 b, .bool lb] w (Li.Gives (both zs c a && both zs c b) (ate zs c a la b lb) w) := by
  obtain ⟨i0, hi, hz0, hz1, hz2⟩ := info_parts Li.info3
  have HO := Lib.hid (bx_ow h c)
  have HB0 := Lib.hid (bx_below w g len cap c)
  have B := bx_b2 w g len cap c
  have hz := ow_len h
  obtain ⟨-, q0, q1⟩ := id B
  have CW := wormWay_any (c := c) HO.out hl a la b lb
  have wl1 := wl_in zs c a la b lb
  have wh1 := wh_in zs c a la b lb
  cases hg : (both zs c a && both zs c b) with
  | false =>
    have E0 := Lib.hid (show ate zs c a la b lb = [] by unfold ate; rw [hg]; rfl)
    rw [hg] at CW
    have HCW := Lib.hid CW
    clear h hg hz CW
    go_enter Try.func33, Try.ntmps33
    go_wp2_with fail
    refine HCW.out.mono ?_
    rintro e w1 ⟨rfl, hb⟩
    have HB := Lib.hid (HB0.out.trans (below_le hb HB0.out.size))
    clear hb B q0 q1
    go_wp2
    go_ret2
    exact gives_none E0.out HB.out
  | true =>
    have E0' : ate zs c a la b lb = between zs c (wl zs c a la b lb) (wh zs c a la b lb) zs.length := by unfold ate; rw [hg]; rfl
    rw [hg] at CW
    obtain ⟨ga, gb⟩ : both zs c a = true ∧ both zs c b = true := by simpa using hg
    obtain ⟨ho, d1, d2⟩ := (both_iff zs c a).1 ga
    have hl8 : len ≤ 8 := by have := ho.2.1; omega
    generalize wl zs c a la b lb = lo at *
    generalize wh zs c a la b lb = hi' at *
    have HCW := Lib.hid CW
    have E0 := Lib.hid (show ate zs c a la b lb = between zs c lo hi' len by rw [E0', hz])
    have HK := Lib.hid ho
    have HZ := Lib.hid hz
    have HG := Lib.hid ((good_iff zs c).2 ho)
    clear h hg hz CW ho E0' ga gb wl1 wh1 d1 d2
    go_enter Try.func33, Try.ntmps33
    go_wp2_with fail
    refine HCW.out.mono ?_
    rintro e w3 ⟨rfl, hb⟩
    have HB3 := Lib.hid (HB0.out.trans (below_le hb HB0.out.size))
    have HO3 := Lib.hid (Li.own_on HO.out hb)
    replace B := B.on hb
    clear hb q0 q1 HCW
    have HBX := Lib.hid B
    obtain ⟨-, q0, q1⟩ := id B
    go_wp2
    clear B q0 q1
    go_loopw [15, 36] (fun v i wr => ∃ k : Nat, k ≤ len ∧ i = .int .i64 (k : Int) ∧ wr.ownsRow w3.heap.size 3 1 v (between zs c lo hi' k).length (Li.nums (between zs c lo hi' k)) ∧ Below w3.heap.size w3 wr) (fun _ i _ => ((len : Int) - intOf i).toNat)
    case atStart => exact ⟨0, by omega, rfl, World.ownsRow_nil _ _ _ _, Below.refl _ _⟩
    case round =>
      obtain ⟨k, hk, rfl, hown, hb⟩ := hrel
      by_cases hlt : (k : Int) < len
      · have hk2 : k < len := by omega
        have hbk : both zs c (k : Int) = true := (both_iff zs c k).2 ⟨HK.out, by omega, by rw [HZ.out]; omega⟩
        obtain ⟨x, hx⟩ : ∃ x, face c zs k true = x := ⟨_, rfl⟩
        obtain ⟨y, hy⟩ : ∃ y, face c zs k false = y := ⟨_, rfl⟩
        have ES : between zs c lo hi' (k + 1) = if lo ≤ face c zs k true ∧ face c zs k false ≤ hi' then between zs c lo hi' k ++ [(k : Int)] else between zs c lo hi' k := rfl
        rw [hx, hy] at ES
        have hlen := between_le zs c lo hi' k
        have HES := Lib.hid ES
        have HOW := Lib.hid (Li.own_on HO3.out hb)
        have B := HBX.out.on hb
        obtain ⟨-, q0, q1⟩ := id B
        have CX' := iFace (c := c) HOW.out hl (k : Int) true
        rw [fv_yes hbk, hx, hbk] at CX'
        have CX := Lib.hid CX'
        have HBK := Lib.hid hbk
        have HY := Lib.hid hy
        generalize between zs c lo hi' k = L at *
        clear hx ES CX' hbk hy
        go_wp2_with fail
        refine CX.out.mono ?_
        rintro e w4 ⟨rfl, hb4⟩
        have HOW4 := Lib.hid (Li.own_on HOW.out hb4)
        have hown4 := Li.own_on hown hb4
        have hb34 := hb.trans (below_le hb4 hb.size)
        replace B := B.on hb4
        clear q0 q1 hown hb hb4
        obtain ⟨-, q0, q1⟩ := id B
        have CY' := iFace (c := c) HOW4.out hl (k : Int) false
        rw [fv_yes HBK.out, HY.out, HBK.out] at CY'
        have CY := Lib.hid CY'
        clear CY'
        go_wp2_with fail
        refine CY.out.mono ?_
        rintro e w5 ⟨rfl, hb5⟩
        have hown5 := Li.own_on hown4 hb5
        have hb35 := hb34.trans (below_le hb5 hb34.size)
        have hsz3 := HB3.out.size
        have hsz := hb35.size
        clear q0 q1 B hown4 hb34 hb5
        by_cases cc : lo ≤ x ∧ y ≤ hi'
        · obtain ⟨c1, c2⟩ := cc
          go_wp2_with (first | (at_builtin; refine wpList_append_own _ rfl _ _ 22 rfl w3.heap.size 3 i0 (.int .i64 0) 1 8 Try.underlying22 hi hz0 hz1 hz2 rfl (by decide) _ _ _ rfl (hown5.alloc _) ⟨w5.heap.size, 0, none⟩ 1 1 [.int .i64 (k : Int)] rfl rfl (cell_one_new _ _ _) (fun x hx => by simp at hx; subst hx; rfl) (by unfold maxLen; omega) (by omega) (by simp; omega) ?_; intro v' w6 hown2 hgrow2 hnil2))
          have O := Lib.hid (own_more hown2 (HES.out.trans (if_pos ⟨c1, c2⟩)))
          have BB := Lib.hid ((hb35.alloc hb35.size _).grown hgrow2 (by simp; omega) (fun j hj => (hown5.lt j hj).1))
          clear hown2 hgrow2 hnil2 hown5 hb35
          go_roundw
          case rel => exact ⟨k + 1, by omega, by go_num, O.out, BB.out⟩
          case measure => simp [intOf]; omega
        · have N := Lib.hid (HES.out.trans (if_neg cc))
          have O := Lib.hid (own_eq hown5 N.out)
          have BB := Lib.hid hb35
          clear hown5 hb35
          by_cases c1 : lo ≤ x
          · have c2 : decide (y ≤ hi') = false := by
              simp only [decide_eq_false_iff_not]
              exact fun h2 => cc ⟨c1, h2⟩
            clear cc
            go_wp2
            go_roundw
            case rel => exact ⟨k + 1, by omega, by go_num, O.out, BB.out⟩
            case measure => simp [intOf]; omega
          · have e2 : decide (lo ≤ x) = false := by simpa using c1
            clear c1 cc
            go_wp2
            go_roundw
            case rel => exact ⟨k + 1, by omega, by go_num, O.out, BB.out⟩
            case measure => simp [intOf]; omega
      · have E := Lib.hid (show k = len by omega)
        have O := Lib.hid (own_eq (Li.own_le hown HB3.out.size) (E0.out.trans (by rw [← E.out])))
        have BB := Lib.hid (HB3.out.trans (below_le hb HB3.out.size))
        clear hown hb
        go_wp2
        go_ret2
        exact ⟨_, rfl, O.out, BB.out⟩
end Sh
end Go.Proofs.Ytogkebbgkeffcaa
