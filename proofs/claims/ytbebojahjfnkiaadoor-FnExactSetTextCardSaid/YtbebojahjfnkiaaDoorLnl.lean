/- When there are lines of words, and what each needs, by the model. -/
import Derived.Test.YtbebojahjfnkiaaDoorLnx
namespace Go.Proofs.YtbebojahjfnkiaaDoor
open Go.RowKit Go.Joins Go.Deep Go.ChangeShapes Go.WideShapes
set_option linter.unusedVariables false
set_option linter.unusedSimpArgs false
namespace Ln
def lines (zs ls : List Int) : Bool := (good zs && (decide (ls.length ≤ zs.length) && allB ls 1 (zs.length : Int))) && (psum ls ls.length == (zs.length : Int))
theorem ret_b {a b : Bool} (h : a = b) : Ending.returned (.bool a) = .returned (.bool b) := by rw [h]
end Ln
end Go.Proofs.YtbebojahjfnkiaaDoor
