/- A block of two cells. -/
import Derived.Test.YtkfoapidmockfabDoorSh2
namespace Go.Proofs.YtkfoapidmockfabDoor
open Go.RowKit Go.Joins Go.Deep Go.ChangeShapes Go.WideShapes
set_option linter.unusedVariables false
set_option linter.unusedSimpArgs false
namespace Sh
/-- a block of two cells -/
def B2 (W : World) (b : Nat) (x y : Value) : Prop := b < W.heap.size ∧ W.cell? ⟨b, 0, none⟩ = some x ∧ W.cell? ⟨b, 1, none⟩ = some y
theorem B2.on {W W' : World} {b : Nat} {x y : Value} (h : B2 W b x y) (hb : Below W.heap.size W W') : B2 W' b x y :=
  ⟨Nat.lt_of_lt_of_le h.1 hb.size, (hb.cell (p := ⟨b, 0, none⟩) h.1).trans h.2.1, (hb.cell (p := ⟨b, 1, none⟩) h.1).trans h.2.2⟩
theorem B2.drew {W : World} {b : Nat} {x y : Value} (h : B2 W b x y) : B2 W.drew b x y := h
theorem B2.new (w : World) (x y : Value) (T : TypeId) : B2 (w.alloc (.cells #[x, y] T)) w.heap.size x y :=
  ⟨by simp, by simp, by simp⟩
end Sh
end Go.Proofs.YtkfoapidmockfabDoor
