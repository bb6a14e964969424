/- FnExactShortRange's walk: both texts are one. -/
import Derived.Test.YtlghonnakokioaaDoorSrc
namespace Go.Proofs.YtlghonnakokioaaDoor
open Go.RowKit Go.Joins Go.Deep Go.ChangeShapes Go.WideShapes
set_option linter.unusedVariables false
set_option linter.unusedSimpArgs false
namespace Sr
set_option maxRecDepth 100000 in
set_option maxHeartbeats 1000000 in
theorem law (a c : Int) (w : World) (hT : TabOn w) :
    Calls Tryd.prog 3 #[.agg #[.int .i64 a, .int .i64 c]] w fun e w' => e = .returned (.bool true) ∧ Below w.heap.size w w' := by
  obtain ⟨x, hx⟩ : ∃ x, stx a c = x := ⟨_, rfl⟩
  obtain ⟨v, hv⟩ : ∃ v, Gm.rng a c = v := ⟨_, rfl⟩
  have C1 := Lib.hid (fun W => hv ▸ hx ▸ sShort a c W)
  have C2 := Lib.hid (fun W h => hv ▸ hx ▸ iShort a c W h)
  have CR := Lib.hid (fun W => Rg.toRange_any a c W)
  have HT := Lib.hid hT
  have t2 : (x.toList == x.toList) = true := by simp
  have X := Rg.B2.new w (.int .i64 a) (.int .i64 c) 23
  have ba := below_alloc1 w (.cells #[.int .i64 a, .int .i64 c] 23)
  obtain ⟨-, x0, x1⟩ := id X
  clear hx hv hT
  go_enter Tryd.func3, Tryd.ntmps3
  go_wp2_with fail
  refine (CR.out _).mono ?_
  rintro e w1 ⟨rfl, hb1⟩
  have X1 := X.on hb1
  have b1 := below_next ba hb1
  clear X ba hb1 x0 x1
  go_wp2_with fail
  refine (C1.out _).mono ?_
  rintro e w2 ⟨rfl, hb2⟩
  have X2 := X1.on hb2
  have b2 := below_next b1 hb2
  clear X1 b1 hb2
  obtain ⟨-, y0, y1⟩ := id X2
  go_wp2_with fail
  refine (CR.out _).mono ?_
  rintro e w3 ⟨rfl, hb3⟩
  have b3 := below_next b2 hb3
  clear X2 b2 hb3 y0 y1
  go_wp2_with fail
  refine (C2.out _ (tabOn_next HT.out b3)).mono ?_
  rintro e w4 ⟨rfl, hb4⟩
  have b4 := Lib.hid (below_next b3 hb4)
  clear b3 hb4
  go_wp2
  go_ret
  exact ⟨rfl, b4.out⟩
end Sr
end Go.Proofs.YtlghonnakokioaaDoor
