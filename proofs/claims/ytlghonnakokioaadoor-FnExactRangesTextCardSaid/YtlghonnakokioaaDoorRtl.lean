/- FnExactRangesText's walk: both texts are one, and the ranges are as they were. -/
import Derived.Test.YtlghonnakokioaaDoorRtb
namespace Go.Proofs.YtlghonnakokioaaDoor
open Go.RowKit Go.Joins Go.Deep Go.ChangeShapes Go.WideShapes
set_option linter.unusedVariables false
set_option linter.unusedSimpArgs false
namespace Rt
set_option maxRecDepth 100000 in
set_option maxHeartbeats 4000000 in
theorem core (a0 : Option Addr) (len0 cap0 : Nat) (z0 : List Int) (w : World) (hT : TabOn w) (u0 : ByteArray) (u1 : Bool) (hc0 : Rg.Came w (.slice a0 len0 cap0) len0 z0)
    (hs : ∀ (W : World) (b0 g0 : Nat), W.ownsRow b0 26 2 (.slice (some ⟨g0, 0, none⟩) len0 len0) len0 (Li.nums z0) → Calls Tryd.prog 16 #[.slice (some ⟨g0, 0, none⟩) len0 len0] W (Rg.Ret (.tuple #[.string u0, .bool u1]) W))
    (hi : ∀ (W : World) (b0 g0 : Nat), TabOn W → W.ownsRow b0 26 2 (.slice (some ⟨g0, 0, none⟩) len0 len0) len0 (Li.nums z0) → Calls Tryd.prog 18 #[.slice (some ⟨g0, 0, none⟩) len0 len0] W (Rg.Ret (.tuple #[.string u0, .bool u1]) W)) :
    Calls Tryd.prog 5 #[.slice a0 len0 cap0] w fun e w' => e = .returned (.bool true) ∧ Below w.heap.size w w' := by
  have hl0 := hc0.2.1
  have HC0 := Lib.hid hc0
  have HL0 := Lib.hid hl0
  have HN0 := Lib.hid (show (len0 : Int) ≤ 1048576 by omega)
  have HS := Lib.hid hs
  have HT := Lib.hid hT
  have t2 : (u0.toList == u0.toList) = true := by simp
  have HI := Lib.hid hi
  have t0 : decide ((1048576 : Int) - (len0 : Int) < 0) = false := by simp; omega
  have SZ0 := Lib.hid (fun W => Rg.sz_yes a0 len0 cap0 (1048576) (by omega) (by omega) W)
  clear hs hi hc0 hl0 hT
  go_enter Tryd.func5, Tryd.ntmps5
  go_wp2_with fail
  refine (SZ0.out _).mono ?_
  rintro e w' ⟨rfl, rfl⟩
  go_wp2_with fail
  refine (Rg.toRangeS_any HC0.out).mono ?_
  rintro e w1 ⟨p0, rfl, op01, hb⟩
  have HB1 := Lib.hid (hb)
  have HZ1 := Lib.hid hb.size
  clear hb 
  go_wp2_with fail
  refine (HS.out _ _ _ op01).mono ?_
  rintro e w2 ⟨rfl, hb⟩
  clear op01
  have HB2 := Lib.hid (HB1.out.trans (Rg.below_le hb HB1.out.size))
  have HZ2 := Lib.hid hb.size
  clear hb 
  go_wp2_with fail
  refine (Rg.toRangeS_any (HC0.out.on HB2.out)).mono ?_
  rintro e w3 ⟨x0, rfl, ox03, hb⟩
  have HB3 := Lib.hid (HB2.out.trans (Rg.below_le hb HB2.out.size))
  have HZ3 := Lib.hid hb.size
  clear hb 
  go_wp2_with fail
  refine (HI.out _ _ _ (tabOn_next HT.out HB3.out) ox03).mono ?_
  rintro e w4 ⟨rfl, hb⟩
  have HB4 := Lib.hid (HB3.out.trans (Rg.below_le hb HB3.out.size))
  have HZ4 := Lib.hid hb.size
  have ox04 := Li.own_on ox03 hb
  clear hb ox03
  go_wp2_with fail
  refine (Rg.toRangeS_any (HC0.out.on HB4.out)).mono ?_
  rintro e w5 ⟨y0, rfl, oy05, hb⟩
  have HB5 := Lib.hid (HB4.out.trans (Rg.below_le hb HB4.out.size))
  have HZ5 := Lib.hid hb.size
  have ox05 := Li.own_on ox04 hb
  clear hb ox04
  go_wp2_with fail
  refine (Rg.eqRangeS_own ox05 oy05 HL0.out).mono ?_
  rintro e w6 ⟨rfl, hb⟩
  clear oy05
  have HB6 := Lib.hid (HB5.out.trans (Rg.below_le hb HB5.out.size))
  have HZ6 := Lib.hid hb.size
  have ox06 := Li.own_on ox05 hb
  clear hb ox05
  go_wp2
  go_ret
  exact ⟨rfl, HB6.out⟩
theorem long0 (a0 : Option Addr) (len0 cap0 : Nat) (h0 : ¬ (len0 : Int) ≤ 1048576) (hm : len0 ≤ maxLen) (w : World) :
    Calls Tryd.prog 5 #[.slice a0 len0 cap0] w fun e w' => e = .returned (.bool true) ∧ Below w.heap.size w w' := by
  have SN := Lib.hid (fun W => Rg.sz_no a0 len0 cap0 1048576 h0 (by omega) (by omega) hm W)
  clear h0 hm
  go_enter Tryd.func5, Tryd.ntmps5
  go_wp2_with fail
  refine (SN.out _).mono ?_
  rintro e w' ⟨rfl, rfl⟩
  go_wp2
  go_ret
  exact ⟨rfl, Below.refl _ _⟩
theorem law (a0 : Option Addr) (len0 cap0 : Nat) (z0 : List Int) (w : World) (hT : TabOn w) (r0 : Rg.Raw w a0 len0 z0) :
    Calls Tryd.prog 5 #[.slice a0 len0 cap0] w fun e w' => e = .returned (.bool true) ∧ Below w.heap.size w w' := by
  by_cases h0 : (len0 : Int) ≤ 1048576
  · have hl0 : len0 ≤ 1048576 := by omega
    exact core a0 len0 cap0 z0 w hT (rtx z0 len0) (Gm.good z0 len0) (r0.came hl0) (fun W b0 g0 h0 => sText h0 hl0) (fun W b0 g0 hT h0 => iText hT h0 hl0)
  · exact long0 a0 len0 cap0 h0 r0.2.1 w
end Rt
end Go.Proofs.YtlghonnakokioaaDoor
