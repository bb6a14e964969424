/- FnExactParseRanges's walk: both answers are one, and each is memory of its call's own. -/
import Derived.Test.YtlghonnakokioaaDoorPri
namespace Go.Proofs.YtlghonnakokioaaDoor
open Go.RowKit Go.Joins Go.Deep Go.ChangeShapes Go.WideShapes
set_option linter.unusedVariables false
set_option linter.unusedSimpArgs false
namespace Pr
open Rg Gm Sr Lr
open P hiding idx_at sl_from
theorem sParse (l : List UInt8) (hl : l.length ≤ 1048576) (w : World) :
    Calls Tryd.prog 20 #[.string ⟨l.toArray⟩] w (Gives (pok l) (pn l) (pz l) w) := by
  have C := Lib.hid (sParse0 l hl w)
  generalize pok l = ok at *
  generalize pn l = n at *
  generalize pz l = os at *
  go_enter Tryd.func20, Tryd.ntmps20
  go_wp2_with fail
  refine C.out.mono ?_
  rintro e w1 ⟨v, rfl, ho, hb⟩
  have HO := Lib.hid ho
  clear ho
  go_wp2
  go_ret2
  exact ⟨v, rfl, HO.out, hb⟩
theorem pn_le (l : List UInt8) (hl : l.length ≤ 1048576) : pn l ≤ 1048576 := by
  unfold pn
  by_cases h0 : l = []
  · rw [if_pos h0]; omega
  · rw [if_neg h0]
    split
    · rename_i h
      unfold pok at h
      rw [if_neg h0, Bool.and_eq_true, decide_eq_true_eq] at h
      have h1 := h.1
      have h2 := sp_le 44 l
      omega
    · omega
set_option maxRecDepth 100000 in
set_option maxHeartbeats 4000000 in
theorem law_core (l : List UInt8) (hl : l.length ≤ 1048576) (w : World) (hE : P.Env w) (hT : TabOn w) :
    Calls Tryd.prog 6 #[.string ⟨l.toArray⟩] w fun e w' => e = .returned (.bool true) ∧ Below w.heap.size w w' := by
  have HS := Lib.hid (fun W => sParse l hl W)
  have HI := Lib.hid (fun W h1 h2 => iParse l hl W h1 h2)
  have HE := Lib.hid hE
  have HT := Lib.hid hT
  have HO := Lib.hid (pn_le l hl)
  obtain ⟨ok, hok⟩ : ∃ ok, pok l = ok := ⟨_, rfl⟩
  obtain ⟨n, hn⟩ : ∃ n, pn l = n := ⟨_, rfl⟩
  obtain ⟨os, hos⟩ : ∃ os, pz l = os := ⟨_, rfl⟩
  rw [hok, hn, hos] at HS HI
  rw [hn] at HO
  clear hok hn hos hE hT
  have hn2 : (0 : Int) ≤ (n : Int) := by omega
  have hn3 : (n : Int) ≤ 1048576 := by have := HO.out; omega
  have hln : (l.length : Int) ≤ 1048576 := by omega
  go_enter Tryd.func6, Tryd.ntmps6
  go_wp2_with fail
  refine (HS.out _).mono ?_
  rintro e w2 ⟨vs, rfl, ss2, hb⟩
  have HB2 := Lib.hid hb
  clear hb
  have HSV := Lib.hid ss2
  go_wp2_with fail
  refine (HI.out _ (HE.out.on HB2.out) (tabOn_next HT.out HB2.out)).mono ?_
  rintro e w4 ⟨vi, rfl, ii4, hb⟩
  have HB4 := Lib.hid (HB2.out.trans (Rg.below_le hb HB2.out.size))
  have ss4 := Li.own_on ss2 hb
  clear hb ss2
  have HIV := Lib.hid ii4
  have HD : Hid (Value.ownBlock vs = none ∨ vs.ownBlock ≠ vi.ownBlock) := Lib.hid (Rg.keep_both HSV.out HIV.out (Nat.le_refl _))
  have HVB : Hid (∀ k, vi.ownBlock = some k → w.heap.size ≤ k) := Lib.hid (fun k hk => Nat.le_trans HB2.out.size (HIV.out.lt k hk).1)
  go_wp2_with fail
  refine (Rg.eqRangeS_own ii4 ss4 HO.out).mono ?_
  rintro e w5 ⟨rfl, hb⟩
  have HB5 := Lib.hid (HB4.out.trans (Rg.below_le hb HB4.out.size))
  have ss5 := Li.own_on ss4 hb
  have ii5 := Li.own_on ii4 hb
  clear hb ss4 ii4
  go_wp2_with fail
  refine (Rg.markRangeS_own (z := 1) ii5 HO.out (by omega) (by omega)).mono ?_
  rintro e w10 ⟨rfl, mm10, gw⟩
  clear ii5
  have HB10 := Lib.hid (HB5.out.grown gw HB5.out.size (fun k hk => HVB.out k hk))
  have ss10 := ss5.kept gw HD.out
  clear gw ss5
  go_wp2_with fail
  refine (Rg.heldRangeS_own mm10 HO.out).mono ?_
  rintro e w' ⟨rfl, rfl⟩
  go_wp2_with fail
  refine (HI.out _ (HE.out.on HB10.out) (tabOn_next HT.out HB10.out)).mono ?_
  rintro e w12 ⟨vh, rfl, hh12, hb⟩
  have HB12 := Lib.hid (HB10.out.trans (Rg.below_le hb HB10.out.size))
  have ss12 := Li.own_on ss10 hb
  have mm12 := Li.own_on mm10 hb
  clear hb ss10 mm10
  go_wp2_with fail
  refine (Rg.eqRangeS_own hh12 ss12 HO.out).mono ?_
  rintro e w13 ⟨rfl, hb⟩
  clear hh12 ss12
  have HB13 := Lib.hid (HB12.out.trans (Rg.below_le hb HB12.out.size))
  have mm13 := Li.own_on mm12 hb
  clear hb mm12
  go_wp2_with fail
  refine (Rg.heldRangeS_own mm13 HO.out).mono ?_
  rintro e w' ⟨rfl, rfl⟩
  go_wp2
  go_ret
  exact ⟨rfl, HB13.out⟩
theorem law_long (l : List UInt8) (hl : ¬ l.length ≤ 1048576) (w : World) :
    Calls Tryd.prog 6 #[.string ⟨l.toArray⟩] w fun e w' => e = .returned (.bool true) ∧ Below w.heap.size w w' := by
  have t1 : (1048576 : Int) < (l.length : Int) := by omega
  clear hl
  go_enter Tryd.func6, Tryd.ntmps6
  go_wp2
  go_ret
  exact ⟨rfl, Below.refl _ _⟩
end Pr
namespace P'
theorem law_string (s : ByteArray) (w : World) (hE : P.Env w) (hT : TabOn w) :
    Calls Tryd.prog 6 #[.string s] w fun e w' => e = .returned (.bool true) ∧ Below w.heap.size w w' := by
  obtain ⟨l, hl⟩ : ∃ l : List UInt8, s = ⟨l.toArray⟩ := ⟨s.data.toList, by simp⟩
  subst hl
  by_cases c1 : l.length ≤ 1048576
  · exact Pr.law_core l c1 w hE hT
  · exact Pr.law_long l c1 w
end P'
end Go.Proofs.YtlghonnakokioaaDoor
