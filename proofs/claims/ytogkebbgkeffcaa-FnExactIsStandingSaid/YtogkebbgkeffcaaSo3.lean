/- IsStanding from both sides. -/
import Derived.Test.YtogkebbgkeffcaaSo2
namespace Go.Proofs.Ytogkebbgkeffcaa
open Go.RowKit Go.Joins Go.Deep Go.ChangeShapes Go.WideShapes
set_option linter.unusedVariables false
namespace So
open Sh
theorem sIsStanding {b1 g len cap : Nat} {zs : List Int} {w : World} (h : Ow w b1 g len cap zs) (hl : len ≤ 1048576) :
    Calls Try.prog 41 #[.slice (some ⟨g, 0, none⟩) len cap] w (Ret (.bool (Ns.good zs)) w) := by
  have HO := Lib.hid h
  clear h
  go_enter Try.func41, Try.ntmps41
  go_wp2_with fail
  refine (sStands_any HO.out hl _ rfl).mono ?_
  rintro e w' ⟨rfl, rfl⟩
  go_wp2
  go_ret
  exact ⟨rfl, Below.refl _ _⟩
theorem iIsStanding {b1 g len cap : Nat} {zs : List Int} {w : World} (h : Ow w b1 g len cap zs) (hl : len ≤ 1048576) :
    Calls Try.prog 43 #[.slice (some ⟨g, 0, none⟩) len cap] w (Ret (.bool (Ns.good zs)) w) := iStands_any h hl _ rfl
end So
end Go.Proofs.Ytogkebbgkeffcaa
