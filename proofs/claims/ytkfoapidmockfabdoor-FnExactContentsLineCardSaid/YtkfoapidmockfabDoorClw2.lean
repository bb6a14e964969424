/- FnExactContentsLine's walk: both lines are one. -/
import Derived.Test.YtkfoapidmockfabDoorCl
namespace Go.Proofs.YtkfoapidmockfabDoor
open Go.RowKit Go.Joins Go.Deep Go.ChangeShapes Go.WideShapes
set_option linter.unusedVariables false
set_option linter.unusedSimpArgs false
namespace Cl
set_option maxRecDepth 100000 in
theorem law (a0 : ByteArray) (a1 a2 : Int) (w : World) (hT : TabOn w) (ws0 : a0.size ≤ maxLen) :
    Calls Tryd.prog 3 #[.string a0, .int .i64 a1, .int .i64 a2] w fun e w' => e = .returned (.bool true) ∧ Below w.heap.size w w' := by
  have t0 : (a0.size : Int) ≤ 9223372036854775807 := by unfold maxLen at ws0; omega
  by_cases hl : (1048576 : Int) < (a0.size : Int)
  · have hl2 : 1048576 < a0.size := by omega
    clear ws0 hT
    go_enter Tryd.func3, Tryd.ntmps3
    go_wp2
    go_ret
    exact ⟨rfl, Below.refl _ _⟩
  · have hl2 : ¬ 1048576 < a0.size := by omega
    obtain ⟨x, hx⟩ : ∃ x, lnv a0 a1 a2 = x := ⟨_, rfl⟩
    obtain ⟨v, hv⟩ : ∃ v, lok a0 a1 a2 = v := ⟨_, rfl⟩
    have C1 := Lib.hid (hv ▸ hx ▸ sLine a0 (by omega) a1 a2 w)
    have C2 := Lib.hid (fun W h => hv ▸ hx ▸ iLine a0 (by omega) a1 a2 W h)
    have HT := Lib.hid hT
    have t2 : (x.toList == x.toList) = true := by simp
    clear hx hv ws0 hT
    go_enter Tryd.func3, Tryd.ntmps3
    go_wp2_with fail
    refine C1.out.mono ?_
    rintro e w1 ⟨rfl, hb⟩
    have HB := Lib.hid hb
    clear hb
    go_wp2_with fail
    refine (C2.out _ (tabOn_next HT.out HB.out)).mono ?_
    rintro e w2 ⟨rfl, hb⟩
    have HB2 := Lib.hid (HB.out.trans (Sh.below_le hb HB.out.size))
    clear hb
    go_wp2
    go_ret
    exact ⟨rfl, HB2.out⟩
end Cl
end Go.Proofs.YtkfoapidmockfabDoor
