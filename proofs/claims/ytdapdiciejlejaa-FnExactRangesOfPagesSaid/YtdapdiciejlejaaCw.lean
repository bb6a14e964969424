/- Pages of two lists of ranges, by the program: both, the first alone. -/
import Derived.Test.YtdapdiciejlejaaBo
namespace Go.Proofs.Ytdapdiciejlejaa
open Go.RowKit Go.Joins Go.Deep Go.ChangeShapes Go.WideShapes
set_option linter.unusedVariables false
set_option linter.unusedSimpArgs false
namespace Gw
open Rg Gm
theorem pages_in {zs : List Int} {n : Nat} (hz : zs.length = 2 * n) (h : good zs n = true) : ∀ p, has (prs zs) p = true → 1 ≤ p ∧ p ≤ 2000 := fun p hp =>
  has_within (fun q hq => ⟨(ok_in ((good_ok zs n hz).1 h) q hq).1, (ok_in ((good_ok zs n hz).1 h) q hq).2.2⟩) hp
set_option maxRecDepth 100000 in
set_option maxHeartbeats 4000000 in
theorem iCommon {b0 b1 g0 g1 len0 cap0 len1 cap1 : Nat} {z0 z1 : List Int} {w : World} (h0 : Own w b0 (.slice (some ⟨g0, 0, none⟩) len0 cap0) len0 z0) (h1 : Own w b1 (.slice (some ⟨g1, 0, none⟩) len1 cap1) len1 z1) (hl0 : len0 ≤ 1048576) (hl1 : len1 ≤ 1048576) :
    Calls Try.prog 21 #[.slice (some ⟨g0, 0, none⟩) len0 cap0, .slice (some ⟨g1, 0, none⟩) len1 cap1] w (Ans (boC z0 len0 z1 len1) (boR 1 z0 z1) w) := by
  obtain ⟨x0, hx0⟩ : ∃ x, good z0 len0 = x := ⟨_, rfl⟩
  obtain ⟨x1, hx1⟩ : ∃ x, good z1 len1 = x := ⟨_, rfl⟩
  have C0 := Lib.hid (areRanges_some h0 hl0 x0 hx0)
  have HO0 := Lib.hid h0
  have HO1 := Lib.hid h1
  have HX0 := Lib.hid hx0
  have HX1 := Lib.hid hx1
  have C1 := Lib.hid (fun (W : World) (hw : Below w.heap.size w W) => areRanges_some (Li.own_on HO1.out hw) hl1 x1 hx1)
  clear h0 h1 hx0 hx1
  cases x0
  · have EC := Lib.hid (show boC z0 len0 z1 len1 = false by unfold boC; rw [HX0.out]; rfl)
    go_enter Try.func21, Try.ntmps21
    go_wp2_with fail
    refine C0.out.mono ?_
    rintro e w1 ⟨rfl, hb⟩
    go_wp2
    go_ret2
    exact Ans.no EC.out hb
  · cases x1
    · have EC := Lib.hid (show boC z0 len0 z1 len1 = false by unfold boC; rw [HX0.out, HX1.out]; rfl)
      go_enter Try.func21, Try.ntmps21
      go_wp2_with fail
      refine C0.out.mono ?_
      rintro e w1 ⟨rfl, hb⟩
      have HB := Lib.hid hb
      clear hb
      go_wp2_with fail
      refine (C1.out _ HB.out).mono ?_
      rintro e w2 ⟨rfl, hb2⟩
      have HB2 := Lib.hid (below_t HB.out hb2)
      clear hb2
      go_wp2
      go_ret2
      exact Ans.no EC.out HB2.out
    · have EC := Lib.hid (show boC z0 len0 z1 len1 = true by unfold boC; rw [HX0.out, HX1.out]; rfl)
      have HA0 := Lib.hid (all_rng HX0.out)
      have HA1 := Lib.hid (all_rng HX1.out)
      have HI0 := Lib.hid (pages_in (own_size HO0.out) HX0.out)
      have D0 := Lib.hid (fun (W : World) (hw : Below w.heap.size w W) => pagesIn_some (Li.own_on HO0.out hw) (by have := HA0.out.1; omega) HA0.out.2)
      have D1 := Lib.hid (fun (W : World) (hw : Below w.heap.size w W) => pagesIn_some (Li.own_on HO1.out hw) (by have := HA1.out.1; omega) HA1.out.2)
      go_enter Try.func21, Try.ntmps21
      go_wp2_with fail
      refine C0.out.mono ?_
      rintro e w1 ⟨rfl, hb⟩
      have HB := Lib.hid hb
      clear hb
      go_wp2_with fail
      refine (C1.out _ HB.out).mono ?_
      rintro e w2 ⟨rfl, hb2⟩
      have HB2 := Lib.hid (below_t HB.out hb2)
      clear hb2
      go_wp2_with fail
      refine (D0.out _ HB2.out).mono ?_
      rintro e w3 ⟨bx, rfl, hbx, hset0, hb3⟩
      have HB3 := Lib.hid (below_t HB2.out hb3)
      have HS0 := Lib.hid hset0
      have hbx1 : w.heap.size ≤ bx := Nat.le_trans HB2.out.size hbx
      have hbx2 := hset0.lt
      clear hset0 hb3 hbx
      go_wp2_with fail
      refine (D1.out _ HB3.out).mono ?_
      rintro e w4 ⟨bY, rfl, hby, hset1, hb4⟩
      have HB4 := Lib.hid (below_t HB3.out hb4)
      have HS1 := Lib.hid hset1
      have hN0 := HS0.out.on hb4
      have hne : bY ≠ bx := by omega
      have hby1 : w.heap.size ≤ bY := by omega
      have hby2 := hset1.lt
      have hbx3 := hN0.lt
      clear hset1 hb4 hby HS0
      obtain ⟨S0, hS0⟩ : ∃ S0 : Int → Bool, S0 = has (prs z0) := ⟨_, rfl⟩
      obtain ⟨S1, hS1⟩ : ∃ S1 : Int → Bool, S1 = has (prs z1) := ⟨_, rfl⟩
      have HE0 := Lib.hid hS0
      have HE1 := Lib.hid hS1
      rw [← hS0] at hN0
      rw [← hS1] at HS1
      clear hS0 hS1
      go_wp2_with (first
        | (at_range; refine Mp.range _ rfl _ 52 rfl Try.underlying52 bx 200000 S0 rfl hN0 ?_; intro w5 cnt hrg0 hle hg0 hs0)
        | go_in)
      have HRG0 := Lib.hid (hrg0.same (m' := fun p => S0 p && (S1 p || S0 p)) (left' := S0) (fun p => by cases S0 p <;> simp) (fun p => rfl))
      have HS5 := Lib.hid (HS1.out.kept hg0 (by simp))
      have HB5 := Lib.hid (HB4.out.grown hg0 HB4.out.size (fun j hj => by cases hj))
      clear hrg0 hg0 HS1 hN0
      go_frame
      go_loopw [8] (fun _ wr => ∃ (left : Int → Bool) (cnt : Nat), Mp.Rg wr bx w4.heap.size 200000 (fun p => S0 p && (S1 p || left p)) left cnt ∧ Mp.HasSet wr bY 200000 S1 ∧ Below w.heap.size w wr) (fun _ wr => wr.rangeLeft bx w4.heap.size)
      case atStart => exact ⟨_, _, HRG0.out, HS5.out, HB5.out⟩
      case round =>
        obtain ⟨left, cnt, hrg, hset1, hb⟩ := hrel
        clear HRG0 HS5 HB5
        have HRG := Lib.hid hrg
        have HS := Lib.hid hset1
        have HBb := Lib.hid hb
        have hw4 := HB4.out.size
        clear hb
        go_wp2_with (first
          | (at_next; refine Mp.next _ rfl _ rfl bx w4.heap.size 200000 _ left cnt rfl hrg ?_ ?_)
          | go_in)
        · intro _ hl0
          have HSF := Lib.hid (HRG.out.set.same (m' := fun p => S0 p && S1 p) (fun p => by simp [hl0 p]))
          have RR := Lib.hid (set_runs (m := boM 1 z0 z1) (S := fun p => S0 p && S1 p) (N := 2002) (fun k _ => by rw [HE0.out, HE1.out]; rfl) (fun p hp => HI0.out p (by simp only [Bool.and_eq_true] at hp; rw [← HE0.out]; exact hp.1)) (by omega))
          have C5 := Lib.hid (takeRanges_some (HSF.out.same RR.out.2.2) RR.out.1 RR.out.2.1)
          clear hrg hset1 hl0
          go_wp2_with fail
          refine C5.out.mono ?_
          rintro e w6 ⟨v, rfl, ho, hg⟩
          have HH := Lib.hid (takeR_on HBb.out hbx1 ⟨v, rfl, ho, hg⟩)
          clear ho hg
          go_wp2
          go_ret2
          exact Ans.yes EC.out HH.out
        · intro x w6 cnt1 hxa hxb hlx hmx hmx1 hrg1 hlt hg1 hs1 hen
          have hset6 := HS.out.kept hg1 (fun e => by injection e with e; omega)
          have HS6 := Lib.hid hset6
          have HB6 := Lib.hid (HBb.out.grown hg1 HBb.out.size (fun j hj => by cases hj; exact hw4))
          have EL := Lib.hid HRG.out.left_eq
          clear hrg hset1 hg1
          obtain ⟨y, hy⟩ : ∃ y, S1 x = y := ⟨_, rfl⟩
          cases y
          · go_wp2_with (first
              | (at_lookup; refine Mp.look _ rfl _ _ 52 rfl Try.underlying52 bY 200000 S1 x rfl hset6 rfl ⟨hxa, hxb⟩ false hy ?_)
              | (at_delete; refine Mp.strikeR _ rfl _ _ 52 rfl Try.underlying52 bx w4.heap.size 200000 _ _ cnt1 x rfl hrg1 rfl ⟨hxa, hxb⟩ ?_; intro w7 cnt2 hrg2 hle2 hg2 hs2; go_frame)
              | go_in)
            have HR2 := Lib.hid (hrg2.same (m' := fun p => S0 p && (S1 p || (left p && !decide (p = x)))) (left' := fun p => left p && !decide (p = x)) (fun p => by
              by_cases e : p = x
              · subst e; simp [hy]
              · simp [e]) (fun p => by
              by_cases e : p = x
              · subst e; simp
              · simp [e]))
            have HS7 := Lib.hid (HS6.out.kept hg2 (fun e => by injection e with e; omega))
            have HB7 := Lib.hid (HB6.out.grown hg2 HB6.out.size (fun j hj => by cases hj; exact hbx1))
            clear hrg1 hrg2 hg2 hset6
            go_roundw
            case rel => exact ⟨_, cnt2, HR2.out, HS7.out, HB7.out⟩
            case measure => rw [HR2.out.left_eq, EL.out]; omega
          · have HR2 := Lib.hid (hrg1.same (m' := fun p => S0 p && (S1 p || (left p && !decide (p = x)))) (left' := fun p => left p && !decide (p = x)) (fun p => by
              by_cases e : p = x
              · subst e; simp [hy]
              · simp [e]) (fun p => rfl))
            go_wp2_with (first
              | (at_lookup; refine Mp.look _ rfl _ _ 52 rfl Try.underlying52 bY 200000 S1 x rfl hset6 rfl ⟨hxa, hxb⟩ true hy ?_)
              | go_in)
            clear hrg1 hset6
            go_wp2
            go_roundw
            case rel => exact ⟨_, cnt1, HR2.out, HS6.out, HB6.out⟩
            case measure => rw [HR2.out.left_eq, EL.out]; omega
set_option maxRecDepth 100000 in
set_option maxHeartbeats 4000000 in
theorem iWithout {b0 b1 g0 g1 len0 cap0 len1 cap1 : Nat} {z0 z1 : List Int} {w : World} (h0 : Own w b0 (.slice (some ⟨g0, 0, none⟩) len0 cap0) len0 z0) (h1 : Own w b1 (.slice (some ⟨g1, 0, none⟩) len1 cap1) len1 z1) (hl0 : len0 ≤ 1048576) (hl1 : len1 ≤ 1048576) :
    Calls Try.prog 23 #[.slice (some ⟨g0, 0, none⟩) len0 cap0, .slice (some ⟨g1, 0, none⟩) len1 cap1] w (Ans (boC z0 len0 z1 len1) (boR 2 z0 z1) w) := by
  obtain ⟨x0, hx0⟩ : ∃ x, good z0 len0 = x := ⟨_, rfl⟩
  obtain ⟨x1, hx1⟩ : ∃ x, good z1 len1 = x := ⟨_, rfl⟩
  have C0 := Lib.hid (areRanges_some h0 hl0 x0 hx0)
  have HO0 := Lib.hid h0
  have HO1 := Lib.hid h1
  have HX0 := Lib.hid hx0
  have HX1 := Lib.hid hx1
  have C1 := Lib.hid (fun (W : World) (hw : Below w.heap.size w W) => areRanges_some (Li.own_on HO1.out hw) hl1 x1 hx1)
  clear h0 h1 hx0 hx1
  cases x0
  · have EC := Lib.hid (show boC z0 len0 z1 len1 = false by unfold boC; rw [HX0.out]; rfl)
    go_enter Try.func23, Try.ntmps23
    go_wp2_with fail
    refine C0.out.mono ?_
    rintro e w1 ⟨rfl, hb⟩
    go_wp2
    go_ret2
    exact Ans.no EC.out hb
  · cases x1
    · have EC := Lib.hid (show boC z0 len0 z1 len1 = false by unfold boC; rw [HX0.out, HX1.out]; rfl)
      go_enter Try.func23, Try.ntmps23
      go_wp2_with fail
      refine C0.out.mono ?_
      rintro e w1 ⟨rfl, hb⟩
      have HB := Lib.hid hb
      clear hb
      go_wp2_with fail
      refine (C1.out _ HB.out).mono ?_
      rintro e w2 ⟨rfl, hb2⟩
      have HB2 := Lib.hid (below_t HB.out hb2)
      clear hb2
      go_wp2
      go_ret2
      exact Ans.no EC.out HB2.out
    · have EC := Lib.hid (show boC z0 len0 z1 len1 = true by unfold boC; rw [HX0.out, HX1.out]; rfl)
      have HA0 := Lib.hid (all_rng HX0.out)
      have HA1 := Lib.hid (all_rng HX1.out)
      have HI0 := Lib.hid (pages_in (own_size HO0.out) HX0.out)
      have D0 := Lib.hid (fun (W : World) (hw : Below w.heap.size w W) => pagesIn_some (Li.own_on HO0.out hw) (by have := HA0.out.1; omega) HA0.out.2)
      have D1 := Lib.hid (fun (W : World) (hw : Below w.heap.size w W) => pagesIn_some (Li.own_on HO1.out hw) (by have := HA1.out.1; omega) HA1.out.2)
      go_enter Try.func23, Try.ntmps23
      go_wp2_with fail
      refine C0.out.mono ?_
      rintro e w1 ⟨rfl, hb⟩
      have HB := Lib.hid hb
      clear hb
      go_wp2_with fail
      refine (C1.out _ HB.out).mono ?_
      rintro e w2 ⟨rfl, hb2⟩
      have HB2 := Lib.hid (below_t HB.out hb2)
      clear hb2
      go_wp2_with fail
      refine (D0.out _ HB2.out).mono ?_
      rintro e w3 ⟨bx, rfl, hbx, hset0, hb3⟩
      have HB3 := Lib.hid (below_t HB2.out hb3)
      have HS0 := Lib.hid hset0
      have hbx1 : w.heap.size ≤ bx := Nat.le_trans HB2.out.size hbx
      have hbx2 := hset0.lt
      clear hset0 hb3 hbx
      go_wp2_with fail
      refine (D1.out _ HB3.out).mono ?_
      rintro e w4 ⟨bY, rfl, hby, hset1, hb4⟩
      have HB4 := Lib.hid (below_t HB3.out hb4)
      have HS1 := Lib.hid hset1
      have hN0 := HS0.out.on hb4
      have hne : bY ≠ bx := by omega
      have hby1 : w.heap.size ≤ bY := by omega
      have hby2 := hset1.lt
      have hbx3 := hN0.lt
      clear hset1 hb4 hby HS0
      obtain ⟨S0, hS0⟩ : ∃ S0 : Int → Bool, S0 = has (prs z0) := ⟨_, rfl⟩
      obtain ⟨S1, hS1⟩ : ∃ S1 : Int → Bool, S1 = has (prs z1) := ⟨_, rfl⟩
      have HE0 := Lib.hid hS0
      have HE1 := Lib.hid hS1
      rw [← hS0] at hN0
      rw [← hS1] at HS1
      clear hS0 hS1
      have hN1 := HS1.out
      go_wp2_with (first
        | (at_range; refine Mp.range _ rfl _ 52 rfl Try.underlying52 bY 200000 S1 rfl hN1 ?_; intro w5 cnt hrg0 hle hg0 hs0)
        | go_in)
      have HRG0 := Lib.hid hrg0
      have HS5 := Lib.hid ((hN0.kept hg0 (by simp)).same (m' := fun p => S0 p && (!S1 p || S1 p)) (fun p => by cases S0 p <;> cases S1 p <;> rfl))
      have HB5 := Lib.hid (HB4.out.grown hg0 HB4.out.size (fun j hj => by cases hj))
      clear hrg0 hg0 HS1 hN0 hN1
      go_frame
      go_loopw [7] (fun _ wr => ∃ (left : Int → Bool) (cnt : Nat), Mp.Rg wr bY w4.heap.size 200000 S1 left cnt ∧ Mp.HasSet wr bx 200000 (fun p => S0 p && (!S1 p || left p)) ∧ Below w.heap.size w wr) (fun _ wr => wr.rangeLeft bY w4.heap.size)
      case atStart => exact ⟨_, _, HRG0.out, HS5.out, HB5.out⟩
      case round =>
        obtain ⟨left, cnt, hrg, hset1, hb⟩ := hrel
        clear HRG0 HS5 HB5
        have HRG := Lib.hid hrg
        have HS := Lib.hid hset1
        have HBb := Lib.hid hb
        have hw4 := HB4.out.size
        clear hb
        go_wp2_with (first
          | (at_next; refine Mp.next _ rfl _ rfl bY w4.heap.size 200000 _ left cnt rfl hrg ?_ ?_)
          | go_in)
        · intro _ hl0
          have HSF := Lib.hid (HS.out.same (m' := fun p => S0 p && !S1 p) (fun p => by simp [hl0 p]))
          have RR := Lib.hid (set_runs (m := boM 2 z0 z1) (S := fun p => S0 p && !S1 p) (N := 2002) (fun k _ => by rw [HE0.out, HE1.out]; rfl) (fun p hp => HI0.out p (by simp only [Bool.and_eq_true] at hp; rw [← HE0.out]; exact hp.1)) (by omega))
          have C5 := Lib.hid (takeRanges_some (HSF.out.same RR.out.2.2) RR.out.1 RR.out.2.1)
          clear hrg hset1 hl0
          go_wp2_with fail
          refine C5.out.mono ?_
          rintro e w6 ⟨v, rfl, ho, hg⟩
          have HH := Lib.hid (takeR_on HBb.out hbx1 ⟨v, rfl, ho, hg⟩)
          clear ho hg
          go_wp2
          go_ret2
          exact Ans.yes EC.out HH.out
        · intro x w6 cnt1 hxa hxb hlx hmx hrg1 hlt hg1 hs1 hen
          have hset6 := HS.out.kept hg1 (fun e => by injection e with e; omega)
          have HB6 := Lib.hid (HBb.out.grown hg1 HBb.out.size (fun j hj => by cases hj; exact hw4))
          have EL := Lib.hid HRG.out.left_eq
          have HR1 := Lib.hid hrg1
          clear hrg hset1 hg1 hrg1
          go_wp2_with (first
            | (at_delete; refine Mp.strike _ rfl _ _ 52 rfl Try.underlying52 bx 200000 _ x rfl hset6 rfl ⟨hxa, hxb⟩ ?_; intro w7 hset7 hg2 hs2; go_frame)
            | go_in)
          have HS7 := Lib.hid (hset7.same (m' := fun p => S0 p && (!S1 p || (left p && !decide (p = x)))) (fun p => by
            by_cases e : p = x
            · subst e; simp [hmx]
            · simp [e]))
          have HR7 := Lib.hid (HR1.out.kept hg2 (fun e => by injection e with e; omega) (fun e => by injection e with e; omega))
          have HB7 := Lib.hid (HB6.out.grown hg2 HB6.out.size (fun j hj => by cases hj; exact hbx1))
          clear hset6 hset7 hg2
          go_roundw
          case rel => exact ⟨_, cnt1, HR7.out, HS7.out, HB7.out⟩
          case measure => rw [HR7.out.left_eq, EL.out]; omega
end Gw
end Go.Proofs.Ytdapdiciejlejaa
