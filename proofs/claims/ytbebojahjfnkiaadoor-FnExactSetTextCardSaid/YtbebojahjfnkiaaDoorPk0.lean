/- Stretched spaces: both sides. -/
import Derived.Test.YtbebojahjfnkiaaDoorPk0a
namespace Go.Proofs.YtbebojahjfnkiaaDoor
open Go.RowKit Go.Joins Go.Deep Go.ChangeShapes Go.WideShapes
set_option linter.unusedVariables false
set_option linter.unusedSimpArgs false
namespace Ln
theorem wide80 {zs : List Int} {wide : Int} (h : fits zs wide = true) : wide ≤ 80 := by
  unfold fits wideB at h
  simp only [Bool.and_eq_true, decide_eq_true_eq] at h
  exact h.1.2.2
theorem ss_no {zs : List Int} {wide : Int} (h : ssB zs wide = false) : ssZ zs wide = [] := by unfold ssZ; rw [h]; rfl
end Ln
end Go.Proofs.YtbebojahjfnkiaaDoor
