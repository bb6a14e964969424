/- LongestWorm from both sides. -/
import Derived.Test.YtogkebbgkeffcaaSw6
namespace Go.Proofs.Ytogkebbgkeffcaa
open Go.RowKit Go.Joins Go.Deep Go.ChangeShapes Go.WideShapes
set_option linter.unusedVariables false
set_option linter.unusedSimpArgs false
namespace Sh
def lok (zs : List Int) (c : Int) : Bool := good zs c && decide (zs.length ≠ 1)
def lwa (zs : List Int) (c : Int) : Int := if lok zs c = true then (zs.length : Int) - 1 else 0
set_option maxRecDepth 100000 in
theorem iLongest {b1 g len cap : Nat} {zs : List Int} {c : Int} {w : World} (h : Ow w b1 g len cap zs) (hl : len ≤ 1048576) :
    Calls Try.prog 31 #[V g len cap c] w (Ret (.tuple #[.int .i64 (lwa zs c), .int .i64 0, .bool (lok zs c)]) w) := by
  have HO := Lib.hid (bx_ow h c)
  have HB0 := Lib.hid (bx_below w g len cap c)
  have B := bx_b2 w g len cap c
  have hz := ow_len h
  obtain ⟨-, q0, q1⟩ := id B
  cases hg : good zs c with
  | false =>
    have HG := Lib.hid hg
    have E0 := Lib.hid (show lok zs c = false by unfold lok; rw [hg]; rfl)
    have E1 := Lib.hid (show lwa zs c = 0 by unfold lwa; rw [E0.out]; rfl)
    clear h hg hz
    rw [E0.out, E1.out]
    go_enter Try.func31, Try.ntmps31
    go_wp2_with fail
    refine (iGood_any HO.out hl false HG.out).mono ?_
    rintro e w1 ⟨rfl, hb⟩
    have HB := Lib.hid (HB0.out.trans (below_le hb HB0.out.size))
    clear hb B q0 q1
    go_wp2
    go_ret3
    exact ⟨rfl, HB.out⟩
  | true =>
    have HG := Lib.hid hg
    by_cases h1 : len = 1
    · have E0 := Lib.hid (show lok zs c = false by unfold lok; rw [hg, hz, h1]; rfl)
      have E1 := Lib.hid (show lwa zs c = 0 by unfold lwa; rw [E0.out]; rfl)
      have t1 : ((len : Int) == 1) = true := by simp; omega
      have HL1 := Lib.hid h1
      clear h hg hz h1
      rw [E0.out, E1.out]
      go_enter Try.func31, Try.ntmps31
      go_wp2_with fail
      refine (iGood_any HO.out hl true HG.out).mono ?_
      rintro e w1 ⟨rfl, hb⟩
      have HB := Lib.hid (HB0.out.trans (below_le hb HB0.out.size))
      replace B := B.on hb
      clear hb q0 q1
      obtain ⟨-, q0, q1⟩ := id B
      go_wp2
      go_ret3
      exact ⟨rfl, HB.out⟩
    · have E0 := Lib.hid (show lok zs c = true by unfold lok; rw [hg, hz]; simp [h1])
      have E1 := Lib.hid (show lwa zs c = (len : Int) - 1 by unfold lwa; rw [E0.out, hz]; rfl)
      have t1 : ((len : Int) == 1) = false := by simp; omega
      clear h hg hz h1
      rw [E0.out, E1.out]
      go_enter Try.func31, Try.ntmps31
      go_wp2_with fail
      refine (iGood_any HO.out hl true HG.out).mono ?_
      rintro e w1 ⟨rfl, hb⟩
      have HB := Lib.hid (HB0.out.trans (below_le hb HB0.out.size))
      replace B := B.on hb
      clear hb q0 q1
      obtain ⟨-, q0, q1⟩ := id B
      go_wp2
      go_ret3
      exact ⟨rfl, HB.out⟩
/-- behind the pairs ahead of (A, B) -/
def LW (n : Nat) (F : Int) (A B : Nat) (ba bb fr : Int) : Prop := -1 ≤ fr ∧ fr ≤ 960 ∧ (A + 1 < n ∨ (A + 1 = n ∧ B = 0) → fr < F) ∧ (n < A + 1 ∨ (A + 1 = n ∧ 0 < B) → ba = (n : Int) - 1 ∧ bb = 0 ∧ fr = F)
theorem LW.step {n : Nat} {F : Int} {A B : Nat} {ba bb fr d : Int} (h : LW n F A B ba bb fr) (hA : A < n) (hB : B < n) (hn : 2 ≤ n) (d0 : 0 ≤ d) (d1 : d ≤ 960) (h1 : A ≠ B → ¬ (A + 1 = n ∧ B = 0) → d < F) (h2 : A + 1 = n → B = 0 → d = F) :
    (A ≠ B → fr < d → LW n F A (B + 1) (A : Int) (B : Int) d) ∧ ((A = B ∨ ¬ fr < d) → LW n F A (B + 1) ba bb fr) := by
  obtain ⟨k1, k2, k3, k4⟩ := h
  constructor
  · intro hne hlt
    refine ⟨by omega, d1, fun hh => ?_, fun hh => ?_⟩
    · exact h1 hne (by omega)
    · have e1 : A + 1 = n := by omega
      by_cases e2 : B = 0
      · subst e2
        exact ⟨by omega, by simp, h2 e1 rfl⟩
      · have := (k4 (_root_.Or.inr ⟨e1, by omega⟩)).2.2
        have := h1 hne (by omega)
        omega
  · intro hh
    refine ⟨k1, k2, fun hx => k3 (by omega), fun hx => ?_⟩
    have e1 : A + 1 = n := by omega
    by_cases e2 : B = 0
    · subst e2
      have := h2 e1 rfl
      have := k3 (_root_.Or.inr ⟨e1, rfl⟩)
      omega
    · exact k4 (_root_.Or.inr ⟨e1, by omega⟩)
def OuterR (n : Nat) (F : Int) (a x y z : Value) : Prop := ∃ (A : Nat) (ba bb fr : Int), A ≤ n ∧ a = .int .i64 (A : Int) ∧ x = .int .i64 ba ∧ y = .int .i64 bb ∧ z = .int .i64 fr ∧ LW n F A 0 ba bb fr
def InnerR (n : Nat) (F : Int) (A : Nat) (b x y z : Value) : Prop := ∃ (B : Nat) (ba bb fr : Int), B ≤ n ∧ b = .int .i64 (B : Int) ∧ x = .int .i64 ba ∧ y = .int .i64 bb ∧ z = .int .i64 fr ∧ LW n F A B ba bb fr
set_option maxRecDepth 100000 in
set_option maxHeartbeats 4000000 in
theorem sLongest {b1 g len cap : Nat} {zs : List Int} {c : Int} {w : World} (h : Ow w b1 g len cap zs) (hl : len ≤ 1048576) :
    Calls Try.prog 30 #[V g len cap c] w (Ret (.tuple #[.int .i64 (lwa zs c), .int .i64 0, .bool (lok zs c)]) w) := by
  have HO := Lib.hid (bx_ow h c)
  have HB0 := Lib.hid (bx_below w g len cap c)
  have B := bx_b2 w g len cap c
  have hz := ow_len h
  obtain ⟨-, q0, q1⟩ := id B
  cases hg : good zs c with
  | false =>
    have HG := Lib.hid hg
    have E0 := Lib.hid (show lok zs c = false by unfold lok; rw [hg]; rfl)
    have E1 := Lib.hid (show lwa zs c = 0 by unfold lwa; rw [E0.out]; rfl)
    clear h hg hz
    rw [E0.out, E1.out]
    go_enter Try.func30, Try.ntmps30
    go_wp2_with fail
    refine (sGood_any HO.out hl false HG.out).mono ?_
    rintro e w1 ⟨rfl, hb⟩
    have HB := Lib.hid (HB0.out.trans (below_le hb HB0.out.size))
    clear hb B q0 q1
    go_wp2
    go_ret3
    exact ⟨rfl, HB.out⟩
  | true =>
    have HG := Lib.hid hg
    by_cases h1 : len = 1
    · have E0 := Lib.hid (show lok zs c = false by unfold lok; rw [hg, hz, h1]; rfl)
      have E1 := Lib.hid (show lwa zs c = 0 by unfold lwa; rw [E0.out]; rfl)
      have t1 : ((len : Int) == 1) = true := by simp; omega
      have HL1 := Lib.hid h1
      clear h hg hz h1
      rw [E0.out, E1.out]
      go_enter Try.func30, Try.ntmps30
      go_wp2_with fail
      refine (sGood_any HO.out hl true HG.out).mono ?_
      rintro e w1 ⟨rfl, hb⟩
      have HB := Lib.hid (HB0.out.trans (below_le hb HB0.out.size))
      replace B := B.on hb
      clear hb q0 q1
      obtain ⟨-, q0, q1⟩ := id B
      go_wp2
      go_ret3
      exact ⟨rfl, HB.out⟩
    · have E0 := Lib.hid (show lok zs c = true by unfold lok; rw [hg, hz]; simp [h1])
      have E1 := Lib.hid (show lwa zs c = (len : Int) - 1 by unfold lwa; rw [E0.out, hz]; rfl)
      have t1 : ((len : Int) == 1) = false := by simp; omega
      have ho := (good_iff zs c).1 hg
      have HK := Lib.hid ho
      have HZ := Lib.hid hz
      have hl8 : len ≤ 8 := by have := ho.2.1; omega
      have hl2 : 2 ≤ len := by have := ho.1; omega
      obtain ⟨F, hF⟩ : ∃ F, face c zs (zs.length - 1) false - face c zs 0 true = F := ⟨_, rfl⟩
      have hfp := far_pos ho
      rw [hF] at hfp
      have HF := Lib.hid hF
      have HFP := Lib.hid hfp
      clear h hg hz h1 ho hF hfp
      rw [E0.out, E1.out]
      go_enter Try.func30, Try.ntmps30
      go_wp2_with fail
      refine (sGood_any HO.out hl true HG.out).mono ?_
      rintro e w1 ⟨rfl, hb⟩
      have HB := Lib.hid (HB0.out.trans (below_le hb HB0.out.size))
      have HO1 := Lib.hid (Li.own_on HO.out hb)
      replace B := B.on hb
      have HBX := Lib.hid B
      clear hb q0 q1
      obtain ⟨-, q0, q1⟩ := id B
      go_wp2
      clear q0 q1 B
      go_loopw [23, 5, 6, 7] (fun a x y z wr => OuterR len F a x y z ∧ Below w1.heap.size w1 wr) (fun a _ _ _ _ => ((len : Int) - intOf a).toNat)
      case atStart => exact ⟨⟨0, 0, 0, -1, by omega, rfl, rfl, rfl, rfl, by omega, by omega, fun _ => by have := HFP.out; omega, fun hh => by omega⟩, Below.refl _ _⟩
      case round =>
        obtain ⟨⟨A, ba, bb, fr, hA, rfl, rfl, rfl, rfl, hlw⟩, hb⟩ := hrel
        obtain ⟨wo, rfl⟩ : ∃ wo : World, wo = wr := ⟨_, rfl⟩
        have HLW := Lib.hid hlw
        have HBO := Lib.hid hb
        have B := HBX.out.on hb
        obtain ⟨-, q0, q1⟩ := id B
        clear hlw hb
        by_cases hlt : (A : Int) < len
        · go_wp2
          clear q0 q1 B
          go_loopw [29, 5, 6, 7] (fun b x y z wr => InnerR len F A b x y z ∧ Below w1.heap.size w1 wr) (fun b _ _ _ _ => ((len : Int) - intOf b).toNat)
          case atStart => exact ⟨⟨0, ba, bb, fr, by omega, rfl, rfl, rfl, rfl, HLW.out⟩, HBO.out⟩
          case round =>
            obtain ⟨⟨Bi, ba2, bb2, fr2, hBi, rfl, rfl, rfl, rfl, hlw2⟩, hb2⟩ := hrel
            have HLW2 := Lib.hid hlw2
            have HB2 := Lib.hid hb2
            have f1 := hlw2.1
            have f2 := hlw2.2.1
            clear hlw2 hb2
            by_cases hlt2 : (Bi : Int) < len
            · obtain ⟨x, hx⟩ : ∃ x, face c zs A false = x := ⟨_, rfl⟩
              obtain ⟨y, hy⟩ : ∃ y, face c zs Bi true = y := ⟨_, rfl⟩
              have fx := face_in HK.out A (by rw [HZ.out]; omega) false
              have fy := face_in HK.out Bi (by rw [HZ.out]; omega) true
              obtain ⟨d, hd⟩ : ∃ d, max (x - y) (-(x - y)) = d := ⟨_, rfl⟩
              have s1 : A ≠ Bi → ¬ (A + 1 = len ∧ Bi = 0) → d < F := fun hne hnn => by
                have := far_best HK.out (a := A) (b := Bi) (by rw [HZ.out]; omega) (by rw [HZ.out]; omega) hne (by rw [HZ.out]; omega)
                rw [HF.out, hx, hy] at this
                omega
              have s2 : A + 1 = len → Bi = 0 → d = F := fun e1 e2 => by
                subst e2
                have e3 := HF.out
                rw [HZ.out, show len - 1 = A by omega, hx, hy] at e3
                have := HFP.out
                omega
              rw [hx] at fx
              rw [hy] at fy
              obtain ⟨ST1, ST2⟩ := HLW2.out.step (d := d) (by omega) (by omega) hl2 (by omega) (by omega) s1 s2
              have HST1 := Lib.hid ST1
              have HST2 := Lib.hid ST2
              have HX := Lib.hid hx
              have HY := Lib.hid hy
              have HD := Lib.hid hd
              have HW := Lib.hid (show IntKind.i64.wrap (x - y) = x - y by rw [IntKind.wrap_i64]; omega)
              have CA := Lib.hid (fun W => hd ▸ abs_any (x - y) (by omega) (by omega) W)
              have hA2 : A < len := by omega
              have hB2 : Bi < len := by omega
              have d0 : 0 ≤ d := by omega
              have d1 : d ≤ 960 := by omega
              clear ST1 ST2 hx hy hd fx fy s1 s2
              have HOW := Lib.hid (Li.own_on HO1.out HB2.out)
              have B := HBX.out.on HB2.out
              obtain ⟨-, q0, q1⟩ := id B
              have CL := Lib.hid (fun (W : World) (hw : Below wr.heap.size wr W) => HX.out ▸ shFace_any (Li.own_on HOW.out hw) HK.out A hA2 false)
              have CM := Lib.hid (fun (W : World) (hw : Below wr.heap.size wr W) => HY.out ▸ shFace_any (Li.own_on HOW.out hw) HK.out Bi hB2 true)
              by_cases hAB : A = Bi
              · have e1 : ((A : Int) == (Bi : Int)) = true := by simp; omega
                have e1b : ((A : Int) != (Bi : Int)) = false := by simp; omega
                have N := Lib.hid (HST2.out (_root_.Or.inl hAB))
                clear hAB
                go_wp2_with fail
                have w1L := HW.out
                go_region_held3 (fun w' => w'.cell? ⟨w.heap.size, 0, none⟩ = some (.slice (some ⟨g, 0, none⟩) len cap) ∧ w'.cell? ⟨w.heap.size, 1, none⟩ = some (.int .i64 c))
                  (first | exact ⟨q0, q1⟩ | exact ⟨r0, r1⟩ | exact ⟨s0, s1⟩ | go_keep)
                  (first
                    | (go_at_call 55; refine (CA.out _).mono ?_; rintro e w' ⟨rfl, rfl⟩)
                    | (go_at_call 54; ((with_reducible refine (CL.out _ (Below.refl wr.heap.size wr).drew).mono ?_)); rintro e w3 ⟨rfl, hb2⟩; have BB := B.drew.on hb2; obtain ⟨-, r0, r1⟩ := id BB)
                    | (go_at_call 54; ((with_reducible refine (CM.out _ ((Below.refl wr.heap.size wr).drew.trans (below_le hb2 (Nat.le_refl _)))).mono ?_)); rintro e w4 ⟨rfl, hb3⟩; have BB3 := BB.on hb3; obtain ⟨-, s0, s1⟩ := id BB3))
                have HB3 := Lib.hid (below_drew_then HB2.out (hb2.trans (below_le hb3 hb2.size)))
                clear hb2 hb3 B BB BB3 r0 r1 s0 s1 q0 q1 w1L
                go_wp2
                go_roundw
                case rel => exact ⟨⟨Bi + 1, ba2, bb2, fr2, by omega, by go_num, rfl, rfl, rfl, N.out⟩, HB3.out⟩
                case measure => simp [intOf]; omega
              · have e1 : ((A : Int) == (Bi : Int)) = false := by simp; omega
                have e1b : ((A : Int) != (Bi : Int)) = true := by simp; omega
                by_cases hfd : fr2 < d
                · have N := Lib.hid (HST1.out hAB hfd)
                  clear hAB
                  go_wp2_with fail
                  have w1L := HW.out
                  go_region_held3 (fun w' => w'.cell? ⟨w.heap.size, 0, none⟩ = some (.slice (some ⟨g, 0, none⟩) len cap) ∧ w'.cell? ⟨w.heap.size, 1, none⟩ = some (.int .i64 c))
                    (first | exact ⟨q0, q1⟩ | exact ⟨r0, r1⟩ | exact ⟨s0, s1⟩ | go_keep)
                    (first
                      | (go_at_call 55; refine (CA.out _).mono ?_; rintro e w' ⟨rfl, rfl⟩)
                      | (go_at_call 54; ((with_reducible refine (CL.out _ (Below.refl wr.heap.size wr).drew).mono ?_)); rintro e w3 ⟨rfl, hb2⟩; have BB := B.drew.on hb2; obtain ⟨-, r0, r1⟩ := id BB)
                      | (go_at_call 54; ((with_reducible refine (CM.out _ ((Below.refl wr.heap.size wr).drew.trans (below_le hb2 (Nat.le_refl _)))).mono ?_)); rintro e w4 ⟨rfl, hb3⟩; have BB3 := BB.on hb3; obtain ⟨-, s0, s1⟩ := id BB3))
                  have HB3 := Lib.hid (below_drew_then HB2.out (hb2.trans (below_le hb3 hb2.size)))
                  clear hb2 hb3 B BB BB3 r0 r1 s0 s1 q0 q1 w1L
                  go_wp2
                  go_roundw
                  case rel => exact ⟨⟨Bi + 1, (A : Int), (Bi : Int), d, by omega, by go_num, rfl, rfl, rfl, N.out⟩, HB3.out⟩
                  case measure => simp [intOf]; omega
                · have N := Lib.hid (HST2.out (_root_.Or.inr hfd))
                  have e2 : decide (fr2 < d) = false := by simpa using hfd
                  clear hAB hfd
                  go_wp2_with fail
                  have w1L := HW.out
                  go_region_held3 (fun w' => w'.cell? ⟨w.heap.size, 0, none⟩ = some (.slice (some ⟨g, 0, none⟩) len cap) ∧ w'.cell? ⟨w.heap.size, 1, none⟩ = some (.int .i64 c))
                    (first | exact ⟨q0, q1⟩ | exact ⟨r0, r1⟩ | exact ⟨s0, s1⟩ | go_keep)
                    (first
                      | (go_at_call 55; refine (CA.out _).mono ?_; rintro e w' ⟨rfl, rfl⟩)
                      | (go_at_call 54; ((with_reducible refine (CL.out _ (Below.refl wr.heap.size wr).drew).mono ?_)); rintro e w3 ⟨rfl, hb2⟩; have BB := B.drew.on hb2; obtain ⟨-, r0, r1⟩ := id BB)
                      | (go_at_call 54; ((with_reducible refine (CM.out _ ((Below.refl wr.heap.size wr).drew.trans (below_le hb2 (Nat.le_refl _)))).mono ?_)); rintro e w4 ⟨rfl, hb3⟩; have BB3 := BB.on hb3; obtain ⟨-, s0, s1⟩ := id BB3))
                  have HB3 := Lib.hid (below_drew_then HB2.out (hb2.trans (below_le hb3 hb2.size)))
                  clear hb2 hb3 B BB BB3 r0 r1 s0 s1 q0 q1 w1L
                  go_wp2
                  go_roundw
                  case rel => exact ⟨⟨Bi + 1, ba2, bb2, fr2, by omega, by go_num, rfl, rfl, rfl, N.out⟩, HB3.out⟩
                  case measure => simp [intOf]; omega
            · have N := Lib.hid (show LW len F (A + 1) 0 ba2 bb2 fr2 from ⟨f1, f2, fun hh => HLW2.out.2.2.1 (by omega), fun hh => HLW2.out.2.2.2 (by omega)⟩)
              go_wp2
              go_roundw
              case rel => exact ⟨⟨A + 1, ba2, bb2, fr2, by omega, by go_num, rfl, rfl, rfl, N.out⟩, HB2.out⟩
              case measure => simp [intOf]; omega
        · obtain ⟨e1, e2, e3⟩ := HLW.out.2.2.2 (_root_.Or.inl (by omega))
          subst e1 e2 e3
          have HE := Lib.hid (HB.out.trans (below_le HBO.out HB.out.size))
          clear q0 q1 B
          go_wp2
          go_ret3
          exact ⟨rfl, HE.out⟩
end Sh
end Go.Proofs.Ytogkebbgkeffcaa
