/- When there are paragraphs and a page, by the model; BreaksAllowed of the model. -/
import Derived.Test.YtbebojahjfnkiaaDoorLna
import Derived.Test.YtbebojahjfnkiaaDoorLnx
namespace Go.Proofs.YtbebojahjfnkiaaDoor
open Go.RowKit Go.Joins Go.Deep Go.ChangeShapes Go.WideShapes
set_option linter.unusedVariables false
set_option linter.unusedSimpArgs false
namespace Ln
def pageB (n : Int) : Bool := decide (2 ≤ n) && decide (n ≤ 60)
def parB (zs : List Int) : Bool := decide (1 ≤ (zs.length : Int)) && decide ((zs.length : Int) ≤ 12)
def pags (zs : List Int) (n : Int) : Bool := (parB zs && allB zs 1 60) && pageB n
theorem pags_ok {zs : List Int} {n : Int} (h : pags zs n = true) : Okp zs ∧ 2 ≤ n ∧ n ≤ 60 := by
  unfold pags parB pageB at h
  simp only [Bool.and_eq_true, decide_eq_true_eq, allB_iff] at h
  exact ⟨⟨by omega, by omega, h.1.2⟩, h.2.1, h.2.2⟩
def alZ (zs : List Int) (n : Int) : List Int := if pags zs n = true then alA zs zs.length else []
end Ln
end Go.Proofs.YtbebojahjfnkiaaDoor
