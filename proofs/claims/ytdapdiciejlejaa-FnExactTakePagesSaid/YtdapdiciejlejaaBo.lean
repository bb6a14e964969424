/- Pages of two lists of ranges, by the model. -/
import Derived.Test.YtdapdiciejlejaaAn
namespace Go.Proofs.Ytdapdiciejlejaa
open Go.RowKit Go.Joins Go.Deep Go.ChangeShapes Go.WideShapes
set_option linter.unusedVariables false
set_option linter.unusedSimpArgs false
namespace Gw
open Rg Gm
/-- both lists are ranges -/
def boC (z0 : List Int) (n0 : Nat) (z1 : List Int) (n1 : Nat) : Bool := good z0 n0 && good z1 n1
def boM (kind : Nat) (z0 z1 : List Int) (q : Nat) : Bool := mix kind (has (prs z0) (q : Int)) (has (prs z1) (q : Int))
def boR (kind : Nat) (z0 z1 : List Int) : PR := runs (boM kind z0 z1) 2002
theorem marks_other {W : World} {b b1 g g1 n : Nat} {m : Nat → Bool} {v : Value} (h : Marks W b g n m) (hne : g ≠ g1) (k : Nat) : Marks (W.setCell ⟨g1, k, none⟩ v) b g n m :=
  ownsRow_setCell_other h (a := ⟨g1, k, none⟩) (by simp [Value.ownBlock]; exact fun e => hne e) v
set_option maxRecDepth 100000 in
set_option maxHeartbeats 4000000 in
theorem ixBoth_any (kind : Nat) (hkind : kind < 3) {b0 b1 g0 g1 len0 cap0 len1 cap1 : Nat} {z0 z1 : List Int} {w : World} (h0 : Own w b0 (.slice (some ⟨g0, 0, none⟩) len0 cap0) len0 z0) (hl0 : len0 ≤ 1048576)
    (h1 : Own w b1 (.slice (some ⟨g1, 0, none⟩) len1 cap1) len1 z1) (hl1 : len1 ≤ 1048576) :
    Calls Try.prog 43 #[.slice (some ⟨g0, 0, none⟩) len0 cap0, .slice (some ⟨g1, 0, none⟩) len1 cap1, .int .i64 (kind : Int)] w (Ans (boC z0 len0 z1 len1) (boR kind z0 z1) w) := by
  obtain ⟨x0, hx0⟩ : ∃ x, good z0 len0 = x := ⟨_, rfl⟩
  obtain ⟨x1, hx1⟩ : ∃ x, good z1 len1 = x := ⟨_, rfl⟩
  have C0 := Lib.hid (ixGood_some h0 hl0 x0 hx0)
  have HO0 := Lib.hid h0
  have HO1 := Lib.hid h1
  have HX0 := Lib.hid hx0
  have HX1 := Lib.hid hx1
  have C1 := Lib.hid (fun (W : World) (hw : Below w.heap.size w W) => ixGood_some (Li.own_on HO1.out hw) hl1 x1 hx1)
  clear h0 h1 hx0 hx1
  cases x0
  · have EC := Lib.hid (show boC z0 len0 z1 len1 = false by unfold boC; rw [HX0.out]; rfl)
    go_enter Try.func43, Try.ntmps43
    go_wp2_with fail
    refine C0.out.mono ?_
    rintro e w1 ⟨rfl, hb⟩
    go_wp2
    go_ret2
    exact Ans.no EC.out hb
  · cases x1
    · have EC := Lib.hid (show boC z0 len0 z1 len1 = false by unfold boC; rw [HX0.out, HX1.out]; rfl)
      go_enter Try.func43, Try.ntmps43
      go_wp2_with fail
      refine C0.out.mono ?_
      rintro e w1 ⟨rfl, hb⟩
      have HB := Lib.hid hb
      clear hb
      go_wp2_with fail
      refine (C1.out _ HB.out).mono ?_
      rintro e w2 ⟨rfl, hb2⟩
      have HB2 := Lib.hid (below_t HB.out hb2)
      clear hb2
      go_wp2
      go_ret2
      exact Ans.no EC.out HB2.out
    · have EC := Lib.hid (show boC z0 len0 z1 len1 = true by unfold boC; rw [HX0.out, HX1.out]; rfl)
      have HA0 := Lib.hid (all_rng HX0.out)
      have HA1 := Lib.hid (all_rng HX1.out)
      have D0 := Lib.hid (fun (W : World) (hw : Below w.heap.size w W) => ixMarks_some (Li.own_on HO0.out hw) (by have := HA0.out.1; omega) HA0.out.2)
      have D1 := Lib.hid (fun (W : World) (hw : Below w.heap.size w W) => ixMarks_some (Li.own_on HO1.out hw) (by have := HA1.out.1; omega) HA1.out.2)
      go_enter Try.func43, Try.ntmps43
      go_wp2_with fail
      refine C0.out.mono ?_
      rintro e w1 ⟨rfl, hb⟩
      have HB := Lib.hid hb
      clear hb
      go_wp2_with fail
      refine (C1.out _ HB.out).mono ?_
      rintro e w2 ⟨rfl, hb2⟩
      have HB2 := Lib.hid (below_t HB.out hb2)
      clear hb2
      go_wp2_with fail
      refine (D0.out _ HB2.out).mono ?_
      rintro e w3 ⟨gx, rfl, hM0, hb3⟩
      have HB3 := Lib.hid (below_t HB2.out hb3)
      have HM0 := Lib.hid hM0
      have hgx := (hM0.lt gx rfl)
      have hgx1 : w.heap.size ≤ gx := Nat.le_trans HB2.out.size hgx.1
      have hgx2 := hgx.2
      clear hM0 hb3 hgx
      go_wp2_with fail
      refine (D1.out _ HB3.out).mono ?_
      rintro e w4 ⟨gy, rfl, hM1, hb4⟩
      have HB4 := Lib.hid (below_t HB3.out hb4)
      have HM1 := Lib.hid hM1
      have HN0 := Lib.hid (Li.own_on HM0.out hb4)
      have hgy := (hM1.lt gy rfl).1
      have hne : gy ≠ gx := by omega
      clear hM1 hb4 hgy hgx2
      obtain ⟨m0, hm0⟩ : ∃ m0 : Nat → Bool, m0 = fun q : Nat => has (prs z0) (q : Int) := ⟨_, rfl⟩
      obtain ⟨m1, hm1⟩ : ∃ m1 : Nat → Bool, m1 = fun q : Nat => has (prs z1) (q : Int) := ⟨_, rfl⟩
      have HE := Lib.hid (show ∀ q, boM kind z0 z1 q = mix kind (m0 q) (m1 q) from fun q => by rw [hm0, hm1]; rfl)
      rw [← hm0] at HN0
      rw [← hm1] at HM1
      clear hm0 hm1 HM0
      go_wp2
      go_loopw [25] (fun i wr => ∃ k : Nat, k ≤ 2002 ∧ i = .int .i64 (k : Int) ∧ Marks wr w2.heap.size gx 2002 (fun q => if q < k then mix kind (m0 q) (m1 q) else m0 q) ∧ Marks wr w3.heap.size gy 2002 m1 ∧ Below w.heap.size w wr) (fun i _ => ((2002 : Int) - intOf i).toNat)
      case atStart => exact ⟨0, by omega, rfl, marks_same HN0.out (fun q _ => by rw [if_neg (by omega)]), HM1.out, HB4.out⟩
      case round =>
        obtain ⟨k, hk, rfl, hx, hy, hb⟩ := hrel
        clear HN0 HM1 HB4
        by_cases hlt : (k : Int) < 2002
        · have cx := marks_cell hx (k := k) (by omega)
          rw [if_neg (by omega)] at cx
          have cy := marks_cell hy (k := k) (by omega)
          have fx := hx.frozenAt k
          have HST := Lib.hid (fun (v : Bool) (hv : mix kind (m0 k) (m1 k) = v) => marks_same (m' := fun q => if q < k + 1 then mix kind (m0 q) (m1 q) else m0 q) (bits_set (n := 2002) (j := k) _ (by omega) v ▸ (hx.stored k (.bool v)).1) (fun q _ => by
            by_cases e : q = k
            · subst e; simp [hv]
            · rw [if_neg e]
              by_cases c : q < k
              · rw [if_pos c, if_pos (by omega)]
              · rw [if_neg c, if_neg (by omega)]))
          have HYT := Lib.hid (fun (v : Bool) => marks_other (b1 := 0) (v := .bool v) hy hne k)
          have HBT := Lib.hid (fun (v : Bool) => hb.setCell (p := ⟨gx, k, none⟩) hgx1 (.bool v))
          obtain ⟨a, ha⟩ : ∃ a, m0 k = a := ⟨_, rfl⟩
          obtain ⟨c, hc⟩ : ∃ c, m1 k = c := ⟨_, rfl⟩
          rw [ha] at cx HST
          rw [hc] at cy HST
          clear hx hy hb ha hc
          rcases (show kind = 0 ∨ kind = 1 ∨ kind = 2 by omega) with rfl | rfl | rfl
          all_goals (
            cases a
            all_goals (
              cases c
              all_goals (
                go_wp2
                go_roundw
                case rel => exact ⟨k + 1, by omega, by go_num, HST.out _ rfl, HYT.out _, HBT.out _⟩
                case measure => simp [intOf]; omega)))
        · have e : k = 2002 := by omega
          subst e
          have HF := Lib.hid (marks_same (m' := boM kind z0 z1) hx (fun q hq => by rw [if_pos hq, HE.out q]))
          have C5 := Lib.hid (ixOf_some HF.out (by omega))
          have HB5 := Lib.hid hb
          clear hx hy hb
          go_wp2_with fail
          refine C5.out.mono ?_
          rintro e w5 ⟨v, rfl, ho, hb5⟩
          have HH := Lib.hid (givesP_on HB5.out ho hb5)
          clear ho hb5
          go_wp2
          go_ret2
          exact Ans.yes EC.out HH.out
theorem sUnion {b0 b1 g0 g1 len0 cap0 len1 cap1 : Nat} {z0 z1 : List Int} {w : World} (h0 : Own w b0 (.slice (some ⟨g0, 0, none⟩) len0 cap0) len0 z0) (h1 : Own w b1 (.slice (some ⟨g1, 0, none⟩) len1 cap1) len1 z1) (hl0 : len0 ≤ 1048576) (hl1 : len1 ≤ 1048576) :
    Calls Try.prog 18 #[.slice (some ⟨g0, 0, none⟩) len0 cap0, .slice (some ⟨g1, 0, none⟩) len1 cap1] w (Ans (boC z0 len0 z1 len1) (boR 0 z0 z1) w) := by
  have C := Lib.hid (ixBoth_any 0 (by omega) h0 hl0 h1 hl1)
  clear h0 h1
  go_enter Try.func18, Try.ntmps18
  go_wp2_with fail
  refine C.out.mono ?_
  rintro e w1 ⟨v, rfl, ho, hb⟩
  have HO := Lib.hid ho
  clear ho
  go_wp2
  go_ret2
  exact ⟨v, rfl, HO.out, hb⟩
theorem sCommon {b0 b1 g0 g1 len0 cap0 len1 cap1 : Nat} {z0 z1 : List Int} {w : World} (h0 : Own w b0 (.slice (some ⟨g0, 0, none⟩) len0 cap0) len0 z0) (h1 : Own w b1 (.slice (some ⟨g1, 0, none⟩) len1 cap1) len1 z1) (hl0 : len0 ≤ 1048576) (hl1 : len1 ≤ 1048576) :
    Calls Try.prog 20 #[.slice (some ⟨g0, 0, none⟩) len0 cap0, .slice (some ⟨g1, 0, none⟩) len1 cap1] w (Ans (boC z0 len0 z1 len1) (boR 1 z0 z1) w) := by
  have C := Lib.hid (ixBoth_any 1 (by omega) h0 hl0 h1 hl1)
  clear h0 h1
  go_enter Try.func20, Try.ntmps20
  go_wp2_with fail
  refine C.out.mono ?_
  rintro e w1 ⟨v, rfl, ho, hb⟩
  have HO := Lib.hid ho
  clear ho
  go_wp2
  go_ret2
  exact ⟨v, rfl, HO.out, hb⟩
theorem sWithout {b0 b1 g0 g1 len0 cap0 len1 cap1 : Nat} {z0 z1 : List Int} {w : World} (h0 : Own w b0 (.slice (some ⟨g0, 0, none⟩) len0 cap0) len0 z0) (h1 : Own w b1 (.slice (some ⟨g1, 0, none⟩) len1 cap1) len1 z1) (hl0 : len0 ≤ 1048576) (hl1 : len1 ≤ 1048576) :
    Calls Try.prog 22 #[.slice (some ⟨g0, 0, none⟩) len0 cap0, .slice (some ⟨g1, 0, none⟩) len1 cap1] w (Ans (boC z0 len0 z1 len1) (boR 2 z0 z1) w) := by
  have C := Lib.hid (ixBoth_any 2 (by omega) h0 hl0 h1 hl1)
  clear h0 h1
  go_enter Try.func22, Try.ntmps22
  go_wp2_with fail
  refine C.out.mono ?_
  rintro e w1 ⟨v, rfl, ho, hb⟩
  have HO := Lib.hid ho
  clear ho
  go_wp2
  go_ret2
  exact ⟨v, rfl, HO.out, hb⟩
end Gw
end Go.Proofs.Ytdapdiciejlejaa
