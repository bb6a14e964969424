/- AreChapters from both sides. -/
import Derived.Test.YtkfoapidmockfaaCb
namespace Go.Proofs.Ytkfoapidmockfaa
open Go.RowKit Go.Joins Go.Deep Go.ChangeShapes Go.WideShapes
set_option linter.unusedVariables false
namespace Ch
open Sh
theorem sAre {b1 g len cap : Nat} {zs : List Int} {w : World} (h : Ow w b1 g len cap zs) (hl : len ≤ 1048576) :
    Calls Try.prog 12 #[.slice (some ⟨g, 0, none⟩) len cap] w (Ret (.bool (good zs)) w) := by
  have HO := Lib.hid h
  clear h
  go_enter Try.func12, Try.ntmps12
  go_wp2_with fail
  refine (sGood_any HO.out hl _ rfl).mono ?_
  rintro e w' ⟨rfl, rfl⟩
  go_wp2
  go_ret
  exact ⟨rfl, Below.refl _ _⟩
theorem iAre {b1 g len cap : Nat} {zs : List Int} {w : World} (h : Ow w b1 g len cap zs) (hl : len ≤ 1048576) :
    Calls Try.prog 14 #[.slice (some ⟨g, 0, none⟩) len cap] w (Ret (.bool (good zs)) w) :=
  (iGood_any h hl _ rfl).mono fun e w' ⟨h1, h2⟩ => ⟨h1, by rw [h2]; exact Below.refl _ _⟩
end Ch
end Go.Proofs.Ytkfoapidmockfaa
