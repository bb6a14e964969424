/- FnExactChaptersText's walk: both texts are one. -/
import Derived.Test.YtkfoapidmockfabDoorCt
namespace Go.Proofs.YtkfoapidmockfabDoor
open Go.RowKit Go.Joins Go.Deep Go.ChangeShapes Go.WideShapes
set_option linter.unusedVariables false
set_option linter.unusedSimpArgs false
namespace Ch
namespace Lct
set_option maxRecDepth 100000 in
set_option maxHeartbeats 1000000 in
theorem core (a0 : Option Addr) (len0 cap0 : Nat) (zs : List Int) (w : World) (s : ByteArray) (ok : Bool) (hT : TabOn w) (hc : Il.Came w (.slice a0 len0 cap0) len0 zs)
    (hs : ∀ (W : World) (b1 g : Nat), Sh.Ow W b1 g len0 len0 zs → Calls Tryd.prog 21 #[.slice (some ⟨g, 0, none⟩) len0 len0] W (Sh.Ret (.tuple #[.string s, .bool ok]) W))
    (hi : ∀ (W : World) (b1 g : Nat), TabOn W → Sh.Ow W b1 g len0 len0 zs → Calls Tryd.prog 22 #[.slice (some ⟨g, 0, none⟩) len0 len0] W (Sh.Ret (.tuple #[.string s, .bool ok]) W)) :
    Calls Tryd.prog 5 #[.slice a0 len0 cap0] w fun e w' => e = .returned (.bool true) ∧ Below w.heap.size w w' := by
  have hl := hc.2.1
  have HS := Lib.hid hs
  have HI := Lib.hid hi
  have HC := Lib.hid hc
  have HT := Lib.hid hT
  have t1 : decide ((1048576 : Int) < (len0 : Int)) = false := by simp; omega
  have t2 : (s.toList == s.toList) = true := by simp
  have HL := Lib.hid hl
  clear hs hi hc hl hT
  go_enter Tryd.func5, Tryd.ntmps5
  go_wp2_with fail
  refine (Il.toIntS_any HC.out).mono ?_
  rintro e w2 ⟨g1, rfl, o1, hb⟩
  have HB2 := Lib.hid hb
  clear hb
  go_wp2_with fail
  refine (HS.out _ _ _ o1).mono ?_
  rintro e w3 ⟨rfl, hb⟩
  have HB := Lib.hid (HB2.out.trans (Sh.below_le hb HB2.out.size))
  clear hb HB2 o1
  go_wp2_with fail
  refine (Il.toIntS_any (HC.out.on HB.out)).mono ?_
  rintro e w4 ⟨g2, rfl, o2, hb⟩
  have HB2 := Lib.hid (HB.out.trans (Sh.below_le hb HB.out.size))
  clear hb HB
  go_wp2_with fail
  refine (HI.out _ _ _ (tabOn_next HT.out HB2.out) o2).mono ?_
  rintro e w5 ⟨rfl, hb⟩
  have HB := Lib.hid (HB2.out.trans (Sh.below_le hb HB2.out.size))
  have HO := Lib.hid (Li.own_on o2 hb)
  clear hb HB2 o2
  go_wp2_with fail
  refine (Il.toIntS_any (HC.out.on HB.out)).mono ?_
  rintro e w6 ⟨g3, rfl, o3, hb⟩
  have HB2 := Lib.hid (HB.out.trans (Sh.below_le hb HB.out.size))
  have HO2 := Lib.hid (Li.own_on HO.out hb)
  have HE := Lib.hid (show zs.length = len0 from HC.out.1)
  clear hb HB HO
  go_wp2_with fail
  refine (Li.eqIntS_own (by rw [HE.out]; exact HO2.out) (by rw [HE.out]; exact o3) (by rw [HE.out]; exact HL.out)).mono ?_
  rintro e w7 ⟨rfl, hb⟩
  have HB := Lib.hid (HB2.out.trans (Sh.below_le hb HB2.out.size))
  clear hb HB2 o3 HO2
  go_wp2
  go_ret
  exact ⟨rfl, HB.out⟩
theorem long (a0 : Option Addr) (len0 cap0 : Nat) (hl : ¬ len0 ≤ 1048576) (hm : len0 ≤ maxLen) (w : World) :
    Calls Tryd.prog 5 #[.slice a0 len0 cap0] w fun e w' => e = .returned (.bool true) ∧ Below w.heap.size w w' := by
  have t0 : (len0 : Int) ≤ 9223372036854775807 := by unfold maxLen at hm; omega
  have t1 : decide ((1048576 : Int) < (len0 : Int)) = true := by simp; omega
  clear hl hm
  go_enter Tryd.func5, Tryd.ntmps5
  go_wp2
  go_ret
  exact ⟨rfl, Below.refl _ _⟩
theorem law (a0 : Option Addr) (len0 cap0 : Nat) (z0 : List Int) (w : World) (hT : TabOn w) (r0 : Il.Raw w a0 len0 z0) :
    Calls Tryd.prog 5 #[.slice a0 len0 cap0] w fun e w' => e = .returned (.bool true) ∧ Below w.heap.size w w' := by
  by_cases hl : len0 ≤ 1048576
  · have hc := r0.came (cap := cap0) hl
    exact core a0 len0 cap0 z0 w (ctx z0) (good z0) hT hc (fun W b1 g h => sText h hl) (fun W b1 g ht h => iText ht h hl)
  · exact long a0 len0 cap0 hl r0.2.1 w
end Lct
end Ch
end Go.Proofs.YtkfoapidmockfabDoor
