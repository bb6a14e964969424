/- Pages taken out, from both sides. -/
import Derived.Test.YtdapdiciejlejaaPs
namespace Go.Proofs.Ytdapdiciejlejaa
open Go.RowKit Go.Joins Go.Deep Go.ChangeShapes Go.WideShapes
set_option linter.unusedVariables false
set_option linter.unusedSimpArgs false
namespace Gw
open Rg Gm
def taC (zs : List Int) (n : Nat) (page many : Int) : Bool := (good zs n && isP page) && isM many
def taR (zs : List Int) (page many : Int) : PR := runs (fun q : Nat => tak (has (prs zs)) page many (q : Int)) 2002
/-- the pages ahead of k -/
def upto (zs : List Int) (k : Nat) (p : Int) : Bool := has (prs zs) p && decide (p < (k : Int))
theorem upto_zero {zs : List Int} {n : Nat} (hz : zs.length = 2 * n) (h : good zs n = true) (p : Int) : upto zs 0 p = false := by
  unfold upto
  cases e : has (prs zs) p with
  | false => rfl
  | true => rw [decide_eq_false (by have := pages_in hz h p e; omega)]; rfl
theorem upto_no {zs : List Int} {k : Nat} (h : has (prs zs) (k : Int) = false) (p : Int) : upto zs (k + 1) p = upto zs k p := by
  unfold upto; rw [beh, h]; simp
theorem upto_yes {zs : List Int} {k : Nat} (h : has (prs zs) (k : Int) = true) (p : Int) : upto zs (k + 1) p = (upto zs k p || decide (p = (k : Int))) := by
  unfold upto; rw [beh, h]; simp
theorem upto_all {zs : List Int} {n : Nat} (hz : zs.length = 2 * n) (h : good zs n = true) (p : Int) : upto zs 2002 p = has (prs zs) p := by
  unfold upto
  cases e : has (prs zs) p with
  | false => rfl
  | true => rw [decide_eq_true (by have := pages_in hz h p e; omega)]; rfl
set_option maxRecDepth 100000 in
set_option maxHeartbeats 4000000 in
theorem sTake {b1 g len cap : Nat} {zs : List Int} {w : World} (h : Own w b1 (.slice (some ⟨g, 0, none⟩) len cap) len zs) (hl : len ≤ 1048576) (page many : Int) :
    Calls Try.prog 26 #[.slice (some ⟨g, 0, none⟩) len cap, .int .i64 page, .int .i64 many] w (Ans (taC zs len page many) (taR zs page many) w) := by
  obtain ⟨i0, hi, hz0, hz1, hz2⟩ := info_parts infoB
  obtain ⟨x0, hx0⟩ : ∃ x, (good zs len && isP page) = x := ⟨_, rfl⟩
  obtain ⟨x1, hx1⟩ : ∃ x, isM many = x := ⟨_, rfl⟩
  have C0 := Lib.hid (ixPage_any h hl page x0 hx0)
  have C1 := Lib.hid (fun W => l1In_any many 0 2000 x1 hx1 W)
  have HO := Lib.hid h
  have EC := Lib.hid (show taC zs len page many = (x0 && x1) by unfold taC; rw [hx0, hx1])
  have HX0 := Lib.hid hx0
  have HX1 := Lib.hid hx1
  clear h hx0 hx1
  cases x0
  · go_enter Try.func26, Try.ntmps26
    go_wp2_with fail
    refine C0.out.mono ?_
    rintro e w1 ⟨rfl, hb⟩
    go_wp2
    go_ret2
    exact Ans.no EC.out hb
  · cases x1
    · go_enter Try.func26, Try.ntmps26
      go_wp2_with fail
      refine C0.out.mono ?_
      rintro e w1 ⟨rfl, hb⟩
      go_wp2_with fail
      refine (C1.out _).mono ?_
      rintro e w' ⟨rfl, rfl⟩
      go_wp2
      go_ret2
      exact Ans.no EC.out hb
    · have hgp := HX0.out
      simp only [Bool.and_eq_true] at hgp
      have HG := Lib.hid hgp.1
      have hp := (isP_iff _).1 hgp.2
      have hm := (isM_iff _).1 HX1.out
      obtain ⟨M, rfl⟩ : ∃ M : Nat, many = (M : Int) := ⟨many.toNat, by omega⟩
      have p1 := hp.1
      have p2 := hp.2
      have m2 : M ≤ 2000 := by omega
      have HZ := Lib.hid (own_size HO.out)
      have HA := Lib.hid (all_rng HG.out)
      have D0 := Lib.hid (fun (W : World) (hw : Below w.heap.size w W) => ixMarks_some (Li.own_on HO.out hw) (by have := HA.out.1; omega) HA.out.2)
      clear hgp hp hm
      go_enter Try.func26, Try.ntmps26
      go_wp2_with fail
      refine C0.out.mono ?_
      rintro e w1 ⟨rfl, hb⟩
      have HB := Lib.hid hb
      clear hb
      go_wp2_with fail
      refine (C1.out _).mono ?_
      rintro e w' ⟨rfl, rfl⟩
      go_wp2_with (first | (at_make; refine wpList_make_full _ rfl _ _ 47 rfl w1.heap.size 4 i0 (.bool false) 1 Try.underlying47 hi hz0 hz1 _ _ _ _ 2002 rfl rfl rfl rfl (by rw [hz2]; omega) (by unfold maxLen; omega) (Nat.le_refl _) ?_; intro w2 hown hg1))
      have HM0 := Lib.hid (marks_new w1 hown)
      have HB2 := Lib.hid (below_t HB.out (Li.below_of_grown hg1))
      clear hown hg1
      go_wp2_with fail
      refine (D0.out _ HB2.out).mono ?_
      rintro e w3 ⟨gy, rfl, hM1, hb3⟩
      have HB3 := Lib.hid (below_t HB2.out hb3)
      have HM1 := Lib.hid hM1
      have hgm := (HM0.out.lt w1.heap.size rfl).2
      have HN0 := Lib.hid ((marks_same (Li.own_on HM0.out hb3) (m' := fun q : Nat => tak (upto zs 0) page (M : Int) (q : Int)) (fun q _ => by
        rw [tak_same (upto_zero HZ.out HG.out)]; unfold tak; simp)))
      have hgy := (hM1.lt gy rfl).1
      have hne : gy ≠ w1.heap.size := by omega
      have hw1 : w.heap.size ≤ w1.heap.size := HB.out.size
      clear hM1 hb3 hgy HM0
      obtain ⟨m1, hm1⟩ : ∃ m1 : Nat → Bool, m1 = fun q : Nat => has (prs zs) (q : Int) := ⟨_, rfl⟩
      have HE := Lib.hid (show ∀ q : Nat, has (prs zs) (q : Int) = m1 q from fun q => by rw [hm1])
      rw [← hm1] at HM1
      clear hm1
      go_wp2
      go_loopw [24] (fun i wr => ∃ k : Nat, k ≤ 2002 ∧ i = .int .i64 (k : Int) ∧ Marks wr w1.heap.size w1.heap.size 2002 (fun q : Nat => tak (upto zs k) page (M : Int) (q : Int)) ∧ Marks wr w2.heap.size gy 2002 m1 ∧ Below w.heap.size w wr) (fun i _ => ((2002 : Int) - intOf i).toNat)
      case atStart => exact ⟨0, by omega, rfl, HN0.out, HM1.out, HB3.out⟩
      case round =>
        obtain ⟨k, hk, rfl, hx, hy, hb⟩ := hrel
        clear HN0 HM1 HB3
        by_cases hlt : (k : Int) < 2002
        · have cy := marks_cell hy (k := k) (by omega)
          have HXx := Lib.hid hx
          have HYy := Lib.hid hy
          have HBb := Lib.hid hb
          clear hx hy hb
          cases ha : m1 k
          · rw [ha] at cy
            have HS := Lib.hid (marks_same HXx.out (m' := fun q : Nat => tak (upto zs (k + 1)) page (M : Int) (q : Int)) (fun q _ => (tak_same (upto_no ((HE.out k).trans ha)) page M q).symm))
            clear ha
            go_wp2
            go_roundw
            case rel => exact ⟨k + 1, by omega, by go_num, HS.out, HYy.out, HBb.out⟩
            case measure => simp [intOf]; omega
          · rw [ha] at cy
            have HU := Lib.hid (upto_yes ((HE.out k).trans ha))
            clear ha
            by_cases c1 : (k : Int) < page
            · obtain ⟨u, hu⟩ : ∃ u, wr.cell? ⟨w1.heap.size, k, none⟩ = some u := ⟨_, marks_cell HXx.out (k := k) (by omega)⟩
              have fx := HXx.out.frozenAt k
              have HS := Lib.hid (marks_set (k := k) HXx.out (by omega) (m' := fun q : Nat => tak (upto zs (k + 1)) page (M : Int) (q : Int)) (fun q _ => by
                rw [tak_same HU.out, tak_front (by omega) c1]
                by_cases e : q = k
                · subst e; simp
                · rw [if_neg e, decide_eq_false (show ¬ (q : Int) = (k : Int) by omega), Bool.or_false]))
              have HY2 := Lib.hid (marks_other (b1 := 0) (v := .bool true) HYy.out hne k)
              have HB5 := Lib.hid (HBb.out.setCell (p := ⟨w1.heap.size, k, none⟩) hw1 (.bool true))
              go_wp2
              go_roundw
              case rel => exact ⟨k + 1, by omega, by go_num, HS.out, HY2.out, HB5.out⟩
              case measure => simp [intOf]; omega
            · have t1 : decide ((k : Int) < page) = false := by simp; omega
              have e1 : wrap64 (page + (M : Int)) = page + (M : Int) := IntWalk.wrap64_in _ (by omega)
              by_cases c2 : page + (M : Int) ≤ (k : Int)
              · obtain ⟨u, hu⟩ : ∃ u, wr.cell? ⟨w1.heap.size, k - M, none⟩ = some u := ⟨_, marks_cell HXx.out (k := k - M) (by omega)⟩
                have fx := HXx.out.frozenAt (k - M)
                have e2 : wrap64 ((k : Int) - (M : Int)) = (k : Int) - (M : Int) := IntWalk.wrap64_in _ (by omega)
                have e3 : (k : Int) - (M : Int) < 2002 := by omega
                have e4 : (0 : Int) ≤ (k : Int) - (M : Int) := by omega
                have HS := Lib.hid (marks_set (k := k - M) HXx.out (by omega) (m' := fun q : Nat => tak (upto zs (k + 1)) page (M : Int) (q : Int)) (fun q _ => by
                  rw [tak_same HU.out, tak_behind (by omega) c2]
                  by_cases e : q = k - M
                  · rw [if_pos e, decide_eq_true (show (q : Int) = (k : Int) - (M : Int) by omega), Bool.or_true]
                  · rw [if_neg e, decide_eq_false (show ¬ (q : Int) = (k : Int) - (M : Int) by omega), Bool.or_false]))
                have HY2 := Lib.hid (marks_other (b1 := 0) (v := .bool true) HYy.out hne (k - M))
                have HB5 := Lib.hid (HBb.out.setCell (p := ⟨w1.heap.size, k - M, none⟩) hw1 (.bool true))
                go_wp2
                go_roundw
                case rel => exact ⟨k + 1, by omega, by go_num, HS.out, HY2.out, HB5.out⟩
                case measure => simp [intOf]; omega
              · have t2 : decide (page + (M : Int) ≤ (k : Int)) = false := by simp; omega
                have HS := Lib.hid (marks_same HXx.out (m' := fun q : Nat => tak (upto zs (k + 1)) page (M : Int) (q : Int)) (fun q _ => by rw [tak_same HU.out, tak_out (by omega) c1 c2]))
                go_wp2
                go_roundw
                case rel => exact ⟨k + 1, by omega, by go_num, HS.out, HYy.out, HBb.out⟩
                case measure => simp [intOf]; omega
        · have e : k = 2002 := by omega
          subst e
          have HF := Lib.hid (marks_same hx (m' := fun q : Nat => tak (has (prs zs)) page (M : Int) (q : Int)) (fun q hq => tak_same (upto_all HZ.out HG.out) page M q))
          have C5 := Lib.hid (ixOf_some HF.out (by omega))
          have HB5 := Lib.hid hb
          clear hx hy hb
          go_wp2_with fail
          refine C5.out.mono ?_
          rintro e w5 ⟨v, rfl, ho, hb5⟩
          have HH := Lib.hid (givesP_on HB5.out ho hb5)
          clear ho hb5
          go_wp2
          go_ret2
          exact Ans.yes EC.out HH.out
theorem tak_in {zs : List Int} {n : Nat} (hz : zs.length = 2 * n) (h : good zs n = true) {page many : Int} (hp : 1 ≤ page) (hm : 0 ≤ many) : ∀ p, tak (has (prs zs)) page many p = true → 1 ≤ p ∧ p ≤ 2000 := by
  intro p hh
  unfold tak at hh
  simp only [Bool.or_eq_true, Bool.and_eq_true, decide_eq_true_eq] at hh
  rcases hh with ⟨_, h2⟩ | ⟨h1, h2⟩
  · exact pages_in hz h p h2
  · have := pages_in hz h _ h2; omega
set_option maxRecDepth 100000 in
set_option maxHeartbeats 4000000 in
theorem iTake {b1 g len cap : Nat} {zs : List Int} {w : World} (h : Own w b1 (.slice (some ⟨g, 0, none⟩) len cap) len zs) (hl : len ≤ 1048576) (page many : Int) :
    Calls Try.prog 27 #[.slice (some ⟨g, 0, none⟩) len cap, .int .i64 page, .int .i64 many] w (Ans (taC zs len page many) (taR zs page many) w) := by
  obtain ⟨x0, hx0⟩ : ∃ x, good zs len = x := ⟨_, rfl⟩
  obtain ⟨x1, hx1⟩ : ∃ x, isP page = x := ⟨_, rfl⟩
  obtain ⟨x2, hx2⟩ : ∃ x, isM many = x := ⟨_, rfl⟩
  have C0 := Lib.hid (areRanges_some h hl x0 hx0)
  have C1 := Lib.hid (fun W => isIndexable_any page x1 hx1 W)
  have C2 := Lib.hid (fun W => isMany_any many x2 hx2 W)
  have HO := Lib.hid h
  have EC := Lib.hid (show taC zs len page many = ((x0 && x1) && x2) by unfold taC; rw [hx0, hx1, hx2])
  have HX0 := Lib.hid hx0
  have HX1 := Lib.hid hx1
  have HX2 := Lib.hid hx2
  have hmm := @run_makeMap Try.prog
  clear h hx0 hx1 hx2
  cases x0
  · go_enter Try.func27, Try.ntmps27
    go_wp2_with fail
    refine C0.out.mono ?_
    rintro e w1 ⟨rfl, hb⟩
    go_wp2
    go_ret2
    exact Ans.no EC.out hb
  · cases x1
    · go_enter Try.func27, Try.ntmps27
      go_wp2_with fail
      refine C0.out.mono ?_
      rintro e w1 ⟨rfl, hb⟩
      go_wp2_with fail
      refine (C1.out _).mono ?_
      rintro e w' ⟨rfl, rfl⟩
      go_wp2
      go_ret2
      exact Ans.no EC.out hb
    · cases x2
      · go_enter Try.func27, Try.ntmps27
        go_wp2_with fail
        refine C0.out.mono ?_
        rintro e w1 ⟨rfl, hb⟩
        go_wp2_with fail
        refine (C1.out _).mono ?_
        rintro e w' ⟨rfl, rfl⟩
        go_wp2_with fail
        refine (C2.out _).mono ?_
        rintro e w' ⟨rfl, rfl⟩
        go_wp2
        go_ret2
        exact Ans.no EC.out hb
      · have hp := (isP_iff _).1 HX1.out
        have hm := (isM_iff _).1 HX2.out
        have p1 := hp.1
        have p2 := hp.2
        have m1 := hm.1
        have m2 := hm.2
        have HZ := Lib.hid (own_size HO.out)
        have HA := Lib.hid (all_rng HX0.out)
        have HPI := Lib.hid (pages_in HZ.out HX0.out)
        have D0 := Lib.hid (fun (W : World) (hw : Below w.heap.size w W) => pagesIn_some (Li.own_on HO.out hw) (by have := HA.out.1; omega) HA.out.2)
        clear hp hm
        go_enter Try.func27, Try.ntmps27
        go_wp2_with fail
        refine C0.out.mono ?_
        rintro e w1 ⟨rfl, hb⟩
        have HB := Lib.hid hb
        clear hb
        go_wp2_with fail
        refine (C1.out _).mono ?_
        rintro e w' ⟨rfl, rfl⟩
        go_wp2_with fail
        refine (C2.out _).mono ?_
        rintro e w' ⟨rfl, rfl⟩
        have HB2 := Lib.hid (below_t HB.out (below_alloc1 w1 (.map #[] 0)))
        have HS0 := Lib.hid (Mp.made w1)
        go_wp2_with fail
        refine (D0.out _ HB2.out).mono ?_
        rintro e w3 ⟨bx, rfl, hbx, hset, hb3⟩
        have HB3 := Lib.hid (below_t HB2.out hb3)
        have hw1 := HB.out.size
        have e1 : (w1.alloc (.map #[] 0)).heap.size = w1.heap.size + 1 := by simp
        have hbx1 : w1.heap.size < bx := by omega
        have hbx2 := hset.lt
        have HS3 := Lib.hid ((HS0.out.on hb3).same (m' := tak (fun p => has (prs zs) p && !has (prs zs) p) page many) (fun p => by unfold tak; simp))
        clear hb3 hbx HS0
        obtain ⟨S, hS⟩ : ∃ S : Int → Bool, S = has (prs zs) := ⟨_, rfl⟩
        have HE := Lib.hid hS
        rw [← hS] at hset HS3 HPI
        clear hS
        go_wp2_with (first
          | (at_range; refine Mp.range _ rfl _ 52 rfl Try.underlying52 bx 200000 S rfl hset ?_; intro w5 cnt hrg0 hle hg0 hs0)
          | go_in)
        have HRG0 := Lib.hid hrg0
        have HS5 := Lib.hid ((HS3.out.kept hg0 (by simp)).mono (n' := 200000 - cnt) (by omega))
        have HB5 := Lib.hid (HB3.out.grown hg0 HB3.out.size (fun j hj => by cases hj))
        clear hrg0 hg0 HS3 hset
        go_frame
        go_loopw [9] (fun _ wr => ∃ (left : Int → Bool) (cnt : Nat), Mp.Rg wr bx w3.heap.size 200000 S left cnt ∧ cnt ≤ 200000 ∧ Mp.HasSet wr w1.heap.size (200000 - cnt) (tak (fun p => S p && !left p) page many) ∧ Below w.heap.size w wr) (fun _ wr => wr.rangeLeft bx w3.heap.size)
        case atStart => exact ⟨_, _, HRG0.out, hle, HS5.out, HB5.out⟩
        case round =>
          obtain ⟨left, cnt, hrg, hcnt, hset1, hb⟩ := hrel
          clear HRG0 HS5 HB5
          have HRG := Lib.hid hrg
          have HS := Lib.hid hset1
          have HBb := Lib.hid hb
          have hw3 := HB3.out.size
          clear hb
          go_wp2_with (first
            | (at_next; refine Mp.next _ rfl _ rfl bx w3.heap.size 200000 _ left cnt rfl hrg ?_ ?_)
            | go_in)
          · intro _ hl0
            have HSF := Lib.hid (HS.out.same (m' := tak S page many) (tak_same (fun p => by simp [hl0 p]) page many))
            have RR := Lib.hid (set_runs (m := fun q : Nat => tak (has (prs zs)) page many (q : Int)) (S := tak S page many) (N := 2002) (fun k _ => by rw [HE.out]) (by rw [HE.out]; exact tak_in HZ.out HX0.out p1 m1) (by omega))
            have C5 := Lib.hid (takeRanges_some (HSF.out.same RR.out.2.2) RR.out.1 RR.out.2.1)
            clear hrg hset1 hl0
            go_wp2_with fail
            refine C5.out.mono ?_
            rintro e w6 ⟨v, rfl, ho, hg⟩
            have HH := Lib.hid (takeR_on HBb.out hw1 ⟨v, rfl, ho, hg⟩)
            clear ho hg
            go_wp2
            go_ret2
            exact Ans.yes EC.out HH.out
          · intro x w6 cnt1 hxa hxb hlx hmx hrg1 hlt hg1 hs1 hen
            have hset6 := HS.out.kept hg1 (fun e => by injection e with e; omega)
            have HS6 := Lib.hid hset6
            have HB6 := Lib.hid (HBb.out.grown hg1 HBb.out.size (fun j hj => by cases hj; exact hw3))
            have EL := Lib.hid HRG.out.left_eq
            have HR1 := Lib.hid hrg1
            have hxr := HPI.out x hmx
            have HSE := Lib.hid (seen_step (m := S) hlx hmx)
            clear hrg hset1 hg1 hrg1
            have y1 : wrap64 (page + many) = page + many := IntWalk.wrap64_in _ (by omega)
            by_cases c1 : x < page
            · have c1' : decide (x < page) = true := by simp; exact c1
              go_wp2_with (first
                | (at_mapUpdate; refine Mp.store _ rfl _ _ _ 52 rfl Try.underlying52 w1.heap.size _ _ x rfl hset6 (by unfold maxLen; omega) rfl rfl ⟨by omega, by omega⟩ ?_; intro w7 hset7 hg7 hs7; go_frame)
                | go_in)
              have HS7 := Lib.hid ((hset7.mono (n' := 200000 - cnt1) (by omega)).same (m' := tak (fun p => S p && !(left p && !decide (p = x))) page many) (fun p => by
                rw [tak_same HSE.out, tak_front m1 c1]))
              have HR7 := Lib.hid (HR1.out.kept hg7 (fun e => by injection e with e; omega) (fun e => by injection e with e; omega))
              have HB7 := Lib.hid (HB6.out.grown hg7 HB6.out.size (fun j hj => by cases hj; exact hw1))
              clear hset6 hset7 hg7
              go_roundw
              case rel => exact ⟨_, cnt1, HR7.out, by omega, HS7.out, HB7.out⟩
              case measure => rw [HR7.out.left_eq, EL.out]; exact hlt
            · have t1 : decide (x < page) = false := by simp; omega
              by_cases c2 : page + many ≤ x
              · have y2 : wrap64 (x - many) = x - many := IntWalk.wrap64_in _ (by omega)
                go_wp2_with (first
                  | (at_mapUpdate; refine Mp.store _ rfl _ _ _ 52 rfl Try.underlying52 w1.heap.size _ _ (x - many) rfl hset6 (by unfold maxLen; omega) (by simp [Act.eval, Act.put, y2]) rfl ⟨by omega, by omega⟩ ?_; intro w7 hset7 hg7 hs7; go_frame)
                  | go_in)
                have HS7 := Lib.hid ((hset7.mono (n' := 200000 - cnt1) (by omega)).same (m' := tak (fun p => S p && !(left p && !decide (p = x))) page many) (fun p => by
                  rw [tak_same HSE.out, tak_behind m1 c2]))
                have HR7 := Lib.hid (HR1.out.kept hg7 (fun e => by injection e with e; omega) (fun e => by injection e with e; omega))
                have HB7 := Lib.hid (HB6.out.grown hg7 HB6.out.size (fun j hj => by cases hj; exact hw1))
                clear hset6 hset7 hg7
                go_roundw
                case rel => exact ⟨_, cnt1, HR7.out, by omega, HS7.out, HB7.out⟩
                case measure => rw [HR7.out.left_eq, EL.out]; exact hlt
              · have t2 : decide (page + many ≤ x) = false := by simp; omega
                have HS7 := Lib.hid ((hset6.mono (n' := 200000 - cnt1) (by omega)).same (m' := tak (fun p => S p && !(left p && !decide (p = x))) page many) (fun p => by
                  rw [tak_same HSE.out, tak_out m1 c1 c2]))
                clear hset6
                go_wp2
                go_roundw
                case rel => exact ⟨_, cnt1, HR1.out, by omega, HS7.out, HB6.out⟩
                case measure => rw [HR1.out.left_eq, EL.out]; exact hlt
end Gw
end Go.Proofs.Ytdapdiciejlejaa
