/- Lists of ranges that are handed back; the shells of the laws lean on this. -/
import Derived.Test.YtlghonnakokioaaDoorRg2
namespace Go.Proofs.YtlghonnakokioaaDoor
open Go.RowKit Go.Joins Go.Deep Go.ChangeShapes Go.WideShapes
set_option linter.unusedVariables false
set_option linter.unusedSimpArgs false
namespace Rg
/-- a list of ranges and a bool are returned: the list in new memory -/
def Gives (ok : Bool) (n : Nat) (os : List Int) (W : World) (e : Ending) (w' : World) : Prop :=
  ∃ v, e = .returned (.tuple #[v, .bool ok]) ∧ Own w' W.heap.size v n os ∧ Below W.heap.size W w'
theorem Gives.none {W w' : World} (hb : Below W.heap.size W w') : Gives false 0 [] W (.returned (.tuple #[.slice none 0 0, .bool false])) w' :=
  ⟨_, rfl, World.ownsRow_nil _ _ _ _, hb⟩
/-- a list of integers and a bool -/
def GivesL (ok : Bool) (n : Nat) (os : List Int) (W : World) (e : Ending) (w' : World) : Prop :=
  ∃ v, e = .returned (.tuple #[v, .bool ok]) ∧ w'.ownsRow W.heap.size 3 1 v n (Li.nums os) ∧ Below W.heap.size W w'
theorem GivesL.none {W w' : World} (hb : Below W.heap.size W w') : GivesL false 0 [] W (.returned (.tuple #[.slice none 0 0, .bool false])) w' :=
  ⟨_, rfl, World.ownsRow_nil _ _ _ _, hb⟩
/-- a block of two cells -/
def B2 (W : World) (b : Nat) (x y : Value) : Prop := b < W.heap.size ∧ W.cell? ⟨b, 0, none⟩ = some x ∧ W.cell? ⟨b, 1, none⟩ = some y
theorem B2.on {W W' : World} {b : Nat} {x y : Value} (h : B2 W b x y) (hb : Below W.heap.size W W') : B2 W' b x y :=
  ⟨Nat.lt_of_lt_of_le h.1 hb.size, (hb.cell (p := ⟨b, 0, none⟩) h.1).trans h.2.1, (hb.cell (p := ⟨b, 1, none⟩) h.1).trans h.2.2⟩
theorem B2.alloc {W : World} {b : Nat} {x y : Value} (h : B2 W b x y) (o : Obj) : B2 (W.alloc o) b x y := h.on (below_alloc1 W o)
theorem B2.drew {W : World} {b : Nat} {x y : Value} (h : B2 W b x y) : B2 W.drew b x y := h
theorem B2.new (w : World) (x y : Value) (T : TypeId) : B2 (w.alloc (.cells #[x, y] T)) w.heap.size x y :=
  ⟨by simp, by simp, by simp⟩
theorem keep_apart {W w1 : World} {v : Value} {n base g size : Nat} {e : TypeId} {xs : List Value} (h : w1.ownsRow base e size v n xs) (hg : g < base ∨ w1.heap.size ≤ g) : v.ownBlock = none ∨ v.ownBlock ≠ some g := by
  cases hv : v.ownBlock with
  | none => exact _root_.Or.inl rfl
  | some q => exact _root_.Or.inr (fun e => by injection e with e; have a := h.lt q hv; omega)
theorem keep_both {w1 w2 : World} {v v' : Value} {n n' base base' size size' : Nat} {e e' : TypeId} {xs xs' : List Value} (h : w1.ownsRow base e size v n xs) (h' : w2.ownsRow base' e' size' v' n' xs') (hg : w1.heap.size ≤ base') : v.ownBlock = none ∨ v.ownBlock ≠ v'.ownBlock := by
  cases hv : v.ownBlock with
  | none => exact _root_.Or.inl rfl
  | some q => exact _root_.Or.inr (fun e => by have a := (h.lt q hv).2; have b := (h'.lt q e.symm).1; omega)
theorem eqIntS_n {b1 b2 n : Nat} {v v' : Value} {zs : List Int} {w : World} (h : w.ownsRow b1 3 1 v n (Li.nums zs)) (h' : w.ownsRow b2 3 1 v' n (Li.nums zs)) (hl : n ≤ 1048576) :
    Calls Tryd.prog 27 #[v, v'] w (Ret (.bool true) w) := by
  have hz : zs.length = n := by have := h.1; simpa [Li.nums] using this
  subst hz
  exact Li.eqIntS_own h h' hl
end Rg
end Go.Proofs.YtlghonnakokioaaDoor
