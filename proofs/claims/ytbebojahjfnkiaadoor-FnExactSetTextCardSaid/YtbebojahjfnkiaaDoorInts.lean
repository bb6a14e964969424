/- What eqIntS, markIntS and heldIntS answer over slices of integers that a call has made, at most 1048576 of them: equal lists are found equal, marks are written and found again. -/
import Derived.Test.YtbebojahjfnkiaaDoorChecked
import Derived.WalkKit
import Derived.Lib.Hide
import Derived.Deep.QuietTactic
import Derived.BigQuiet
import Derived.Laws.OwnMore
import Derived.Below
namespace Go.Proofs.YtbebojahjfnkiaaDoor
open Go.RowKit
set_option linter.unusedVariables false
namespace Li
theorem info3 : (Tryd.prog.info? 3).map (fun i => (i.zero, i.size, i.bytes)) = some (some (.int .i64 0), 1, 8) := by kernel_rfl
theorem below_next {a b c : World} (h : Below a.heap.size a b) (k : Below b.heap.size b c) : Below a.heap.size a c := h.trans (k.mono h.size)
theorem below_of_grown {a b : World} (h : a.grownBy b none) : Below a.heap.size a b := ⟨h.os, h.tape, h.output, h.size, fun k hk => h.block k hk (by simp)⟩
theorem grown_of_below {a b : World} (h : Below a.heap.size a b) : a.grownBy b none := ⟨h.os, h.tape, h.output, h.size, fun k hk _ => h.block k hk⟩
theorem below_draws {B : Nat} {a b : World} (h : Below B a b) (n : Nat) : Below B a (b.drewN n) := ⟨h.os, h.tape, h.output, h.size, h.block⟩
def nums (zs : List Int) : List Value := zs.map (Value.int .i64)
theorem nums_length (zs : List Int) : (nums zs).length = zs.length := by simp [nums]
theorem own_on {w w' : World} {base : Nat} {e : TypeId} {size : Nat} {v : Value} {n : Nat} {xs : List Value} (h : w.ownsRow base e size v n xs) (hb : Below w.heap.size w w') : w'.ownsRow base e size v n xs :=
  h.kept (grown_of_below hb) (by cases hv : v.ownBlock <;> simp)
theorem own_le {w : World} {base base' size n : Nat} {e : TypeId} {v : Value} {xs : List Value} (h : w.ownsRow base e size v n xs) (hb : base' ≤ base) : w.ownsRow base' e size v n xs :=
  ⟨h.1, h.2.imp id fun ⟨g, cap, cur, h1, h2, h3⟩ => ⟨g, cap, cur, h1, Nat.le_trans hb h2, h3⟩⟩
/-- a slice of integers at an address: its numbers -/
def RowAt (W : World) (b len : Nat) (zs : List Int) : Prop := zs.length = len ∧ len ≤ 1048576 ∧ b < W.heap.size ∧ ∀ j, j < len → W.cell? ⟨b, j, none⟩ = some (.int .i64 (zs.getD j 0))
theorem RowAt.on {W W' : World} {b len : Nat} {zs : List Int} (h : RowAt W b len zs) (hb : Below W.heap.size W W') : RowAt W' b len zs :=
  ⟨h.1, h.2.1, Nat.lt_of_lt_of_le h.2.2.1 hb.size, fun j hj => (hb.cell (p := ⟨b, j, none⟩) h.2.2.1).trans (h.2.2.2 j hj)⟩
theorem row_own {W : World} {base g cap len : Nat} {zs : List Int} (h : W.ownsRow base 3 1 (.slice (some ⟨g, 0, none⟩) len cap) len (nums zs)) (hz : zs.length = len) (hl : len ≤ 1048576) : RowAt W g len zs := by
  refine ⟨hz, hl, (h.lt g rfl).2, fun j hj => ?_⟩
  rw [h.cellAt j (by omega)]
  unfold nums
  simp [List.getD, List.getElem?_eq_getElem (show j < zs.length by omega)]
theorem own_forms {w : World} {base size n : Nat} {e : TypeId} {v : Value} {xs : List Value} (h : w.ownsRow base e size v n xs) : (v = .slice none 0 0 ∧ n = 0) ∨ ∃ g cap, v = .slice (some ⟨g, 0, none⟩) n cap := by
  rcases h.2 with h1 | ⟨g, cap, cur, h1, _⟩
  · exact Or.inl h1
  · exact Or.inr ⟨g, cap, h1⟩
/-- the marks 1, 2, .. up to k ahead of what stood there -/
def mk (xs : List Value) (k : Nat) : List Value := (List.range k).map (fun i : Nat => Value.int .i64 ((i : Int) + 1)) ++ xs.drop k
theorem mk_zero (xs : List Value) : mk xs 0 = xs := by simp [mk]
theorem mk_length (xs : List Value) (k : Nat) (h : k ≤ xs.length) : (mk xs k).length = xs.length := by simp [mk]; omega
theorem mk_step (xs : List Value) (k : Nat) (h : k < xs.length) : (mk xs k).set k (.int .i64 ((k : Int) + 1)) = mk xs (k + 1) := by
  unfold mk
  have e : ((List.range k).map (fun i : Nat => Value.int .i64 ((i : Int) + 1))).length = k := by simp
  rw [List.set_append_right _ _ (by rw [e]; exact Nat.le_refl _), e, Nat.sub_self, List.range_succ, List.map_append, List.drop_eq_getElem_cons h]
  simp only [List.set_cons_zero, List.map_cons, List.map_nil, List.append_assoc, List.cons_append, List.nil_append]
def marks (n : Nat) : List Int := (List.range n).map (fun i : Nat => (i : Int) + 1)
theorem mk_end (xs : List Value) (n : Nat) (h : xs.length = n) : mk xs n = nums (marks n) := by
  unfold mk nums marks
  rw [List.drop_of_length_le (by omega), List.map_map, List.append_nil]
  rfl
theorem marks_length (n : Nat) : (marks n).length = n := by simp [marks]
theorem marks_at (n k : Nat) (h : k < n) : (marks n).getD k 0 = (k : Int) + 1 := by
  unfold marks
  simp [List.getD, h]
theorem ret_int {a b : Int} (h : a = b) : Ending.returned (.int .i64 a) = .returned (.int .i64 b) := by rw [h]
/-- a list and a bool are returned: the list in new memory -/
def Gives (ok : Bool) (zs : List Int) (W : World) (e : Ending) (w' : World) : Prop :=
  ∃ v, e = .returned (.tuple #[v, .bool ok]) ∧ w'.ownsRow W.heap.size 3 1 v zs.length (nums zs) ∧ Below W.heap.size W w'
theorem Gives.none {W w' : World} (hb : Below W.heap.size W w') : Gives false [] W (.returned (.tuple #[.slice none 0 0, .bool false])) w' :=
  ⟨_, rfl, World.ownsRow_nil _ _ _ _, hb⟩
theorem apart {W w1 w2 : World} {v v' : Value} {n n' : Nat} {xs xs' : List Value} (h : w1.ownsRow W.heap.size 3 1 v n xs) (h' : w2.ownsRow w1.heap.size 3 1 v' n' xs') : v.ownBlock = none ∨ v.ownBlock ≠ v'.ownBlock := by
  cases hv : v.ownBlock with
  | none => exact Or.inl rfl
  | some g =>
    refine Or.inr fun he => ?_
    have a := (h.lt g hv).2
    have b := (h'.lt g he.symm).1
    omega
end Li
end Go.Proofs.YtbebojahjfnkiaaDoor
