/- Lists of integers marked from any number on; values returned; the parts of laws over one list or two. -/
import Derived.Test.YtbebojahjfnkiaaDoorLnx
namespace Go.Proofs.YtbebojahjfnkiaaDoor
open Go.RowKit Go.Joins Go.Deep Go.ChangeShapes Go.WideShapes
set_option linter.unusedVariables false
set_option linter.unusedSimpArgs false
namespace Ln
theorem keep_apart {W w1 : World} {v : Value} {n base g size : Nat} {e : TypeId} {xs : List Value} (h : w1.ownsRow base e size v n xs) (hg : g < base ∨ w1.heap.size ≤ g) : v.ownBlock = none ∨ v.ownBlock ≠ some g := by
  cases hv : v.ownBlock with
  | none => exact _root_.Or.inl rfl
  | some q => exact _root_.Or.inr (fun e => by injection e with e; have a := h.lt q hv; omega)
theorem keep_both {w1 w2 : World} {v v' : Value} {n n' base base' size size' : Nat} {e e' : TypeId} {xs xs' : List Value} (h : w1.ownsRow base e size v n xs) (h' : w2.ownsRow base' e' size' v' n' xs') (hg : w1.heap.size ≤ base') : v.ownBlock = none ∨ v.ownBlock ≠ v'.ownBlock := by
  cases hv : v.ownBlock with
  | none => exact _root_.Or.inl rfl
  | some q => exact _root_.Or.inr (fun e => by have a := (h.lt q hv).2; have b := (h'.lt q e.symm).1; omega)
end Ln
end Go.Proofs.YtbebojahjfnkiaaDoor
