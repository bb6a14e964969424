/- A book of leaves as the program keeps it: seventeen cells. -/
import Derived.Test.YtabnjoohojojnaaBo
import Derived.ChangeKeysEq
import Derived.Laws.StructEq
import Derived.Deep.MidRow
import Derived.Deep.Upon
namespace Go.Proofs.Ytabnjoohojojnaa
open Go.RowKit Go.Joins Go.Deep Go.ChangeShapes Go.WideShapes
set_option linter.unusedVariables false
set_option linter.unusedSimpArgs false
namespace Ln
/-- a block of cells -/
def Arr (W : World) (b : Nat) (T : TypeId) (cur : Array Value) : Prop := W.heap[b]? = some (.cells cur T)
theorem Arr.lt {W : World} {b : Nat} {T : TypeId} {cur : Array Value} (h : Arr W b T cur) : b < W.heap.size := by
  rcases Nat.lt_or_ge b W.heap.size with h1 | h1
  · exact h1
  · unfold Arr at h
    rw [Array.getElem?_eq_none h1] at h
    cases h
theorem Arr.cell {W : World} {b : Nat} {T : TypeId} {cur : Array Value} (h : Arr W b T cur) {j : Nat} {v : Value} (hj : cur[j]? = some v) : W.cell? ⟨b, j, none⟩ = some v := by
  unfold Arr at h
  simp [World.cell?, h, hj]
theorem Arr.frozen {W : World} {b : Nat} {T : TypeId} {cur : Array Value} (h : Arr W b T cur) (j : Nat) : W.frozen? ⟨b, j, none⟩ = false := by
  unfold Arr at h
  simp [World.frozen?, h]
theorem Arr.set {W : World} {b : Nat} {T : TypeId} {cur : Array Value} (h : Arr W b T cur) (j : Nat) (v : Value) : Arr (W.setCell ⟨b, j, none⟩ v) b T (cur.setIfInBounds j v) :=
  heap_setCell_same W b j cur T v h
theorem Arr.on {W W' : World} {b : Nat} {T : TypeId} {cur : Array Value} (h : Arr W b T cur) (hb : Below W.heap.size W W') : Arr W' b T cur := (hb.block b h.lt).trans h
theorem Arr.new (w : World) (cur : Array Value) (T : TypeId) : Arr (w.alloc (.cells cur T)) w.heap.size T cur := heap_alloc_new w _
theorem Arr.drew {W : World} {b : Nat} {T : TypeId} {cur : Array Value} (h : Arr W b T cur) : Arr W.drew b T cur := h
theorem arr_other {W : World} {b b' : Nat} {T : TypeId} {cur : Array Value} (h : Arr W b T cur) (hne : b ≠ b') (j : Nat) (v : Value) : Arr (W.setCell ⟨b', j, none⟩ v) b T cur := (Below.heap_setCell W ⟨b', j, none⟩ v b hne).trans h
theorem arr_new (w : World) (cur : Array Value) (T : TypeId) {b : Nat} (hb : b = w.heap.size) : Arr (w.alloc (.cells cur T)) b T cur := by
  subst hb
  exact Arr.new w cur T
theorem cell_other {W : World} {b o b' j : Nat} {v u : Value} (h : W.cell? ⟨b, o, none⟩ = some v) (hne : b ≠ b') : (W.setCell ⟨b', j, none⟩ u).cell? ⟨b, o, none⟩ = some v :=
  (World.cell?_of_block (w := W) (a := ⟨b, o, none⟩) (Below.heap_setCell W ⟨b', j, none⟩ u b hne)).trans h
theorem cell_alloc {W : World} {b o : Nat} {v : Value} (h : W.cell? ⟨b, o, none⟩ = some v) (x : Obj) : (W.alloc x).cell? ⟨b, o, none⟩ = some v :=
  ((below_alloc1 W x).cell (p := ⟨b, o, none⟩) (World.block_lt_of_cell? _ _ h)).trans h
/-- the cells of a book: eight numbers, eight marks, and how many leaves -/
abbrev A17 (f : Nat → Int) (g : Nat → Bool) (m : Int) : Array Value := #[.int .i64 (f 0), .bool (g 0), .int .i64 (f 1), .bool (g 1), .int .i64 (f 2), .bool (g 2), .int .i64 (f 3), .bool (g 3), .int .i64 (f 4), .bool (g 4), .int .i64 (f 5), .bool (g 5), .int .i64 (f 6), .bool (g 6), .int .i64 (f 7), .bool (g 7), .int .i64 m]
theorem lt8 {P : Nat → Prop} (h0 : P 0) (h1 : P 1) (h2 : P 2) (h3 : P 3) (h4 : P 4) (h5 : P 5) (h6 : P 6) (h7 : P 7) : ∀ k, k < 8 → P k
  | 0, _ => h0 | 1, _ => h1 | 2, _ => h2 | 3, _ => h3 | 4, _ => h4 | 5, _ => h5 | 6, _ => h6 | 7, _ => h7
  | k + 8, h => by omega
theorem A17_num (f : Nat → Int) (g : Nat → Bool) (m : Int) : ∀ k, k < 8 → (A17 f g m)[k * 2]? = some (.int .i64 (f k)) := lt8 rfl rfl rfl rfl rfl rfl rfl rfl
theorem A17_mark (f : Nat → Int) (g : Nat → Bool) (m : Int) : ∀ k, k < 8 → (A17 f g m)[k * 2 + 1]? = some (.bool (g k)) := lt8 rfl rfl rfl rfl rfl rfl rfl rfl
theorem A17_many (f : Nat → Int) (g : Nat → Bool) (m : Int) : (A17 f g m)[16]? = some (.int .i64 m) := rfl
theorem A17_setN (f : Nat → Int) (g : Nat → Bool) (m x : Int) : ∀ k, k < 8 → (A17 f g m).setIfInBounds (k * 2) (.int .i64 x) = A17 (fun j => if j = k then x else f j) g m := lt8 rfl rfl rfl rfl rfl rfl rfl rfl
theorem A17_setM (f : Nat → Int) (g : Nat → Bool) (m : Int) (x : Bool) : ∀ k, k < 8 → (A17 f g m).setIfInBounds (k * 2 + 1) (.bool x) = A17 f (fun j => if j = k then x else g j) m := lt8 rfl rfl rfl rfl rfl rfl rfl rfl
theorem A17_setL (f : Nat → Int) (g : Nat → Bool) (m x : Int) : (A17 f g m).setIfInBounds 16 (.int .i64 x) = A17 f g x := rfl
theorem A17_ext {f f' : Nat → Int} {g g' : Nat → Bool} {m : Int} (h : ∀ j, j < 8 → f j = f' j) (h' : ∀ j, j < 8 → g j = g' j) : A17 f g m = A17 f' g' m := by
  unfold A17
  rw [h 0 (by omega), h 1 (by omega), h 2 (by omega), h 3 (by omega), h 4 (by omega), h 5 (by omega), h 6 (by omega), h 7 (by omega), h' 0 (by omega), h' 1 (by omega), h' 2 (by omega), h' 3 (by omega), h' 4 (by omega), h' 5 (by omega), h' 6 (by omega), h' 7 (by omega)]
def C17 (W : World) (b : Nat) (f : Nat → Int) (g : Nat → Bool) (m : Int) : Prop := W.cell? ⟨b, 0, none⟩ = some (.int .i64 (f 0)) ∧ W.cell? ⟨b, 1, none⟩ = some (.bool (g 0)) ∧ W.cell? ⟨b, 2, none⟩ = some (.int .i64 (f 1)) ∧ W.cell? ⟨b, 3, none⟩ = some (.bool (g 1)) ∧ W.cell? ⟨b, 4, none⟩ = some (.int .i64 (f 2)) ∧ W.cell? ⟨b, 5, none⟩ = some (.bool (g 2)) ∧ W.cell? ⟨b, 6, none⟩ = some (.int .i64 (f 3)) ∧ W.cell? ⟨b, 7, none⟩ = some (.bool (g 3)) ∧ W.cell? ⟨b, 8, none⟩ = some (.int .i64 (f 4)) ∧ W.cell? ⟨b, 9, none⟩ = some (.bool (g 4)) ∧ W.cell? ⟨b, 10, none⟩ = some (.int .i64 (f 5)) ∧ W.cell? ⟨b, 11, none⟩ = some (.bool (g 5)) ∧ W.cell? ⟨b, 12, none⟩ = some (.int .i64 (f 6)) ∧ W.cell? ⟨b, 13, none⟩ = some (.bool (g 6)) ∧ W.cell? ⟨b, 14, none⟩ = some (.int .i64 (f 7)) ∧ W.cell? ⟨b, 15, none⟩ = some (.bool (g 7)) ∧ W.cell? ⟨b, 16, none⟩ = some (.int .i64 m)
theorem c17 {W : World} {b : Nat} {T : TypeId} {f : Nat → Int} {g : Nat → Bool} {m : Int} (h : Arr W b T (A17 f g m)) : C17 W b f g m :=
  ⟨h.cell rfl, h.cell rfl, h.cell rfl, h.cell rfl, h.cell rfl, h.cell rfl, h.cell rfl, h.cell rfl, h.cell rfl, h.cell rfl, h.cell rfl, h.cell rfl, h.cell rfl, h.cell rfl, h.cell rfl, h.cell rfl, h.cell rfl⟩
theorem arr_st17 {W : World} {b : Nat} {T : TypeId} {f' : Nat → Int} {g' : Nat → Bool} {m' : Int} (f : Nat → Int) (g : Nat → Bool) (m : Int) (h : Arr W b T (A17 f' g' m')) : Arr (((((((((((((((((W.setCell ⟨b, 0, none⟩ (.int .i64 (f 0))).setCell ⟨b, 1, none⟩ (.bool (g 0))).setCell ⟨b, 2, none⟩ (.int .i64 (f 1))).setCell ⟨b, 3, none⟩ (.bool (g 1))).setCell ⟨b, 4, none⟩ (.int .i64 (f 2))).setCell ⟨b, 5, none⟩ (.bool (g 2))).setCell ⟨b, 6, none⟩ (.int .i64 (f 3))).setCell ⟨b, 7, none⟩ (.bool (g 3))).setCell ⟨b, 8, none⟩ (.int .i64 (f 4))).setCell ⟨b, 9, none⟩ (.bool (g 4))).setCell ⟨b, 10, none⟩ (.int .i64 (f 5))).setCell ⟨b, 11, none⟩ (.bool (g 5))).setCell ⟨b, 12, none⟩ (.int .i64 (f 6))).setCell ⟨b, 13, none⟩ (.bool (g 6))).setCell ⟨b, 14, none⟩ (.int .i64 (f 7))).setCell ⟨b, 15, none⟩ (.bool (g 7))).setCell ⟨b, 16, none⟩ (.int .i64 m)) b T (A17 f g m) := by
  have a0 := Arr.set h (0 * 2) (.int .i64 (f 0))
  rw [A17_setN _ _ _ _ 0 (by omega)] at a0
  have b0 := Arr.set a0 (0 * 2 + 1) (.bool (g 0))
  rw [A17_setM _ _ _ _ 0 (by omega)] at b0
  have a1 := Arr.set b0 (1 * 2) (.int .i64 (f 1))
  rw [A17_setN _ _ _ _ 1 (by omega)] at a1
  have b1 := Arr.set a1 (1 * 2 + 1) (.bool (g 1))
  rw [A17_setM _ _ _ _ 1 (by omega)] at b1
  have a2 := Arr.set b1 (2 * 2) (.int .i64 (f 2))
  rw [A17_setN _ _ _ _ 2 (by omega)] at a2
  have b2 := Arr.set a2 (2 * 2 + 1) (.bool (g 2))
  rw [A17_setM _ _ _ _ 2 (by omega)] at b2
  have a3 := Arr.set b2 (3 * 2) (.int .i64 (f 3))
  rw [A17_setN _ _ _ _ 3 (by omega)] at a3
  have b3 := Arr.set a3 (3 * 2 + 1) (.bool (g 3))
  rw [A17_setM _ _ _ _ 3 (by omega)] at b3
  have a4 := Arr.set b3 (4 * 2) (.int .i64 (f 4))
  rw [A17_setN _ _ _ _ 4 (by omega)] at a4
  have b4 := Arr.set a4 (4 * 2 + 1) (.bool (g 4))
  rw [A17_setM _ _ _ _ 4 (by omega)] at b4
  have a5 := Arr.set b4 (5 * 2) (.int .i64 (f 5))
  rw [A17_setN _ _ _ _ 5 (by omega)] at a5
  have b5 := Arr.set a5 (5 * 2 + 1) (.bool (g 5))
  rw [A17_setM _ _ _ _ 5 (by omega)] at b5
  have a6 := Arr.set b5 (6 * 2) (.int .i64 (f 6))
  rw [A17_setN _ _ _ _ 6 (by omega)] at a6
  have b6 := Arr.set a6 (6 * 2 + 1) (.bool (g 6))
  rw [A17_setM _ _ _ _ 6 (by omega)] at b6
  have a7 := Arr.set b6 (7 * 2) (.int .i64 (f 7))
  rw [A17_setN _ _ _ _ 7 (by omega)] at a7
  have b7 := Arr.set a7 (7 * 2 + 1) (.bool (g 7))
  rw [A17_setM _ _ _ _ 7 (by omega)] at b7
  have c := Arr.set b7 16 (.int .i64 m)
  rw [A17_setL] at c
  rw [A17_ext (f' := f) (g' := g) (fun j hj => ?_) (fun j hj => ?_)] at c
  · exact c
  · have hj2 : j = 0 ∨ j = 1 ∨ j = 2 ∨ j = 3 ∨ j = 4 ∨ j = 5 ∨ j = 6 ∨ j = 7 := by omega
    rcases hj2 with rfl | rfl | rfl | rfl | rfl | rfl | rfl | rfl <;> simp
  · have hj2 : j = 0 ∨ j = 1 ∨ j = 2 ∨ j = 3 ∨ j = 4 ∨ j = 5 ∨ j = 6 ∨ j = 7 := by omega
    rcases hj2 with rfl | rfl | rfl | rfl | rfl | rfl | rfl | rfl <;> simp
theorem below_st17 {B b : Nat} {w W : World} (hb : Below B w W) (hp : B ≤ b) (f : Nat → Int) (g : Nat → Bool) (m : Int) : Below B w (((((((((((((((((W.setCell ⟨b, 0, none⟩ (.int .i64 (f 0))).setCell ⟨b, 1, none⟩ (.bool (g 0))).setCell ⟨b, 2, none⟩ (.int .i64 (f 1))).setCell ⟨b, 3, none⟩ (.bool (g 1))).setCell ⟨b, 4, none⟩ (.int .i64 (f 2))).setCell ⟨b, 5, none⟩ (.bool (g 2))).setCell ⟨b, 6, none⟩ (.int .i64 (f 3))).setCell ⟨b, 7, none⟩ (.bool (g 3))).setCell ⟨b, 8, none⟩ (.int .i64 (f 4))).setCell ⟨b, 9, none⟩ (.bool (g 4))).setCell ⟨b, 10, none⟩ (.int .i64 (f 5))).setCell ⟨b, 11, none⟩ (.bool (g 5))).setCell ⟨b, 12, none⟩ (.int .i64 (f 6))).setCell ⟨b, 13, none⟩ (.bool (g 6))).setCell ⟨b, 14, none⟩ (.int .i64 (f 7))).setCell ⟨b, 15, none⟩ (.bool (g 7))).setCell ⟨b, 16, none⟩ (.int .i64 m)) :=
  (Below.setCell (p := ⟨b, 16, none⟩) (Below.setCell (p := ⟨b, 15, none⟩) (Below.setCell (p := ⟨b, 14, none⟩) (Below.setCell (p := ⟨b, 13, none⟩) (Below.setCell (p := ⟨b, 12, none⟩) (Below.setCell (p := ⟨b, 11, none⟩) (Below.setCell (p := ⟨b, 10, none⟩) (Below.setCell (p := ⟨b, 9, none⟩) (Below.setCell (p := ⟨b, 8, none⟩) (Below.setCell (p := ⟨b, 7, none⟩) (Below.setCell (p := ⟨b, 6, none⟩) (Below.setCell (p := ⟨b, 5, none⟩) (Below.setCell (p := ⟨b, 4, none⟩) (Below.setCell (p := ⟨b, 3, none⟩) (Below.setCell (p := ⟨b, 2, none⟩) (Below.setCell (p := ⟨b, 1, none⟩) (Below.setCell (p := ⟨b, 0, none⟩) hb hp (.int .i64 (f 0))) hp (.bool (g 0))) hp (.int .i64 (f 1))) hp (.bool (g 1))) hp (.int .i64 (f 2))) hp (.bool (g 2))) hp (.int .i64 (f 3))) hp (.bool (g 3))) hp (.int .i64 (f 4))) hp (.bool (g 4))) hp (.int .i64 (f 5))) hp (.bool (g 5))) hp (.int .i64 (f 6))) hp (.bool (g 6))) hp (.int .i64 (f 7))) hp (.bool (g 7))) hp (.int .i64 m))
theorem fin17 {B b : Nat} {w W : World} {T : TypeId} {f' : Nat → Int} {g' : Nat → Bool} {m' : Int} (f : Nat → Int) (g : Nat → Bool) (m : Int) (hb : Below B w W) (hp : B ≤ b) (h : Arr W b T (A17 f' g' m')) : ∃ W', W' = (((((((((((((((((W.setCell ⟨b, 0, none⟩ (.int .i64 (f 0))).setCell ⟨b, 1, none⟩ (.bool (g 0))).setCell ⟨b, 2, none⟩ (.int .i64 (f 1))).setCell ⟨b, 3, none⟩ (.bool (g 1))).setCell ⟨b, 4, none⟩ (.int .i64 (f 2))).setCell ⟨b, 5, none⟩ (.bool (g 2))).setCell ⟨b, 6, none⟩ (.int .i64 (f 3))).setCell ⟨b, 7, none⟩ (.bool (g 3))).setCell ⟨b, 8, none⟩ (.int .i64 (f 4))).setCell ⟨b, 9, none⟩ (.bool (g 4))).setCell ⟨b, 10, none⟩ (.int .i64 (f 5))).setCell ⟨b, 11, none⟩ (.bool (g 5))).setCell ⟨b, 12, none⟩ (.int .i64 (f 6))).setCell ⟨b, 13, none⟩ (.bool (g 6))).setCell ⟨b, 14, none⟩ (.int .i64 (f 7))).setCell ⟨b, 15, none⟩ (.bool (g 7))).setCell ⟨b, 16, none⟩ (.int .i64 m)) ∧ C17 W' b f g m ∧ Below B w W' :=
  ⟨_, rfl, c17 (arr_st17 f g m h), below_st17 hb hp f g m⟩
/-- a book written over a book -/
def wr17 (W : World) (b : Nat) (f : Nat → Int) (g : Nat → Bool) (m : Int) : World := W.setCells b 0 (A17 f g m).toList
theorem wr17_arr {W : World} {b : Nat} {T : TypeId} {f' : Nat → Int} {g' : Nat → Bool} {m' : Int} (f : Nat → Int) (g : Nat → Bool) (m : Int) (h : Arr W b T (A17 f' g' m')) : Arr (wr17 W b f g m) b T (A17 f g m) := arr_st17 f g m h
theorem wr17_below {B b : Nat} {w W : World} (hb : Below B w W) (hp : B ≤ b) (f : Nat → Int) (g : Nat → Bool) (m : Int) : Below B w (wr17 W b f g m) := below_st17 hb hp f g m
theorem wr17_other {W : World} {b b' : Nat} {T : TypeId} {cur : Array Value} (f : Nat → Int) (g : Nat → Bool) (m : Int) (h : Arr W b T cur) (hne : b ≠ b') : Arr (wr17 W b' f g m) b T cur :=
  (World.heap_setCells_other W b' 0 _ h.lt hne).trans h
theorem arr_there {W : World} {b : Nat} {T : TypeId} {f : Nat → Int} {g : Nat → Bool} {m : Int} (h : Arr W b T (A17 f g m)) : W.there b 0 17 := fun j hj => by
  rw [Nat.zero_add]
  refine ⟨?_, h.frozen j⟩
  rw [h.cell (j := j) (v := (A17 f g m)[j]'(by simpa using hj)) (by rw [Array.getElem?_eq_getElem])]
  rfl
theorem arr_range {W : World} {b : Nat} {T : TypeId} {f : Nat → Int} {g : Nat → Bool} {m : Int} (h : Arr W b T (A17 f g m)) : W.rangeAt b 0 (A17 f g m).toList := fun j v hj => by
  rw [Nat.zero_add]
  exact h.cell (by rw [← Array.getElem?_toList]; exact hj)
theorem load17 {W : World} {b : Nat} {f : Nat → Int} {g : Nat → Bool} {m : Int} (h : Arr W b 54 (A17 f g m)) :
    (Instr.loadAt 54 (.pointer (some ⟨b, 0, none⟩))).run Try.prog W = .ok (.agg (A17 f g m)) W :=
  run_loadAt_mid W b 0 54 (A17 f g m).toList _ (arr_range h) Try.underlying54 rfl (by kernel_rfl)
theorem store17 {W : World} {b : Nat} {f' : Nat → Int} {g' : Nat → Bool} {m' : Int} (f : Nat → Int) (g : Nat → Bool) (m : Int) (h : Arr W b 54 (A17 f' g' m')) :
    (Instr.storeAt 54 (.pointer (some ⟨b, 0, none⟩)) (.agg (A17 f g m))).run Try.prog W = .ok () (wr17 W b f g m) :=
  run_storeAt_mid W b 0 54 (A17 f g m) (arr_there h) (by kernel_rfl) (by simp [Value.oneCell'])
def setL (xs : List Value) : Nat → List Value → List Value
  | _, [] => xs
  | k, v :: r => setL (xs.set k v) (k + 1) r
theorem setL_gen : ∀ (vs xs : List Value) (k : Nat), k + vs.length ≤ xs.length → setL xs k vs = xs.take k ++ vs ++ xs.drop (k + vs.length)
  | [], xs, k, h => by simp [setL]
  | v :: r, xs, k, h => by
    have h2 : k + (r.length + 1) ≤ xs.length := by simpa using h
    rw [setL, setL_gen r (xs.set k v) (k + 1) (by simp; omega)]
    have e1 : (xs.set k v).take (k + 1) = xs.take k ++ [v] := by
      rw [List.take_succ_eq_append_getElem (by simp; omega), List.take_set_of_le (Nat.le_refl k)]
      simp
    have e2 : (xs.set k v).drop (k + 1 + r.length) = xs.drop (k + (v :: r).length) := by
      rw [List.drop_set_of_lt (by omega)]
      congr 1
      simp
      omega
    rw [e1, e2]
    simp
theorem setCells_new (W : World) (t : TypeId) : ∀ (vs : List Value) (c : Array Value) (k : Nat), (W.alloc (.cells c t)).setCells W.heap.size k vs = W.alloc (.cells (setL c.toList k vs).toArray t)
  | [], c, k => by simp [World.setCells, setL]
  | v :: r, c, k => by
    show ((W.alloc (.cells c t)).setCell ⟨W.heap.size, k, none⟩ v).setCells W.heap.size (k + 1) r = _
    rw [World.setCell_alloc_new, setCells_new W t r]
    simp [setL]
theorem wr17_new (W : World) (Z : Array Value) (hZ : Z.size = 17) (T : TypeId) (f : Nat → Int) (g : Nat → Bool) (m : Int) : wr17 (W.alloc (.cells Z T)) W.heap.size f g m = W.alloc (.cells (A17 f g m) T) := by
  unfold wr17
  rw [setCells_new, setL_gen _ _ _ (by simp [hZ])]
  have e : Z.toList.drop (0 + (A17 f g m).toList.length) = [] := List.drop_eq_nil_of_le (by simp [hZ])
  rw [e]
  simp
theorem new_there (W : World) (Z : Array Value) (n : Nat) (hZ : Z.size = n) (T : TypeId) : (W.alloc (.cells Z T)).there W.heap.size 0 n := fun j hj => by
  have h := Arr.new W Z T
  rw [Nat.zero_add]
  refine ⟨?_, h.frozen j⟩
  rw [h.cell (j := j) (v := Z[j]'(by omega)) (by rw [Array.getElem?_eq_getElem])]
  rfl
/-- a book written into a new block, and read out of one -/
theorem store_new (W : World) (Z : Array Value) (hZ : Z.size = 17) (b : Nat) (hb : b = W.heap.size) (f : Nat → Int) (g : Nat → Bool) (m : Int) :
    (Instr.storeAt 54 (.pointer (some ⟨b, 0, none⟩)) (.agg (A17 f g m))).run Try.prog (W.alloc (.cells Z 54)) = .ok () (W.alloc (.cells (A17 f g m) 54)) := by
  subst hb
  rw [run_storeAt_mid (W.alloc (.cells Z 54)) W.heap.size 0 54 (A17 f g m) (new_there W Z 17 hZ _) (by kernel_rfl) (by simp [Value.oneCell'])]
  show Result.ok () (wr17 _ _ f g m) = _
  rw [wr17_new W Z hZ]
theorem load_new (W : World) (b : Nat) (hb : b = W.heap.size) (f : Nat → Int) (g : Nat → Bool) (m : Int) :
    (Instr.loadAt 54 (.pointer (some ⟨b, 0, none⟩))).run Try.prog (W.alloc (.cells (A17 f g m) 54)) = .ok (.agg (A17 f g m)) (W.alloc (.cells (A17 f g m) 54)) := by
  subst hb
  exact load17 (Arr.new W _ _)
/-- as the walk meets them: a book read, a book written, a book returned -/
theorem wpList_load17 {ops : Array Oper} {rest : List Oper} {op : Oper} {a : Act} {w : World} {Q : Exit → Act → World → Prop} (hgd : op.guard = none) (x : Operand) (ho : op.op = .load 54 x)
    (b : Nat) (hx : a.eval x = .pointer (some ⟨b, 0, none⟩)) {f : Nat → Int} {g : Nat → Bool} {m : Int} (hA : Arr w b 54 (A17 f g m))
    (h : wpList Try.prog ops Q rest (a.put op.dst (.agg (A17 f g m))) w) : wpList Try.prog ops Q (op :: rest) a w :=
  wpList_load_mid hgd 54 x ho b 0 hx (A17 f g m).toList _ (arr_range hA) Try.underlying54 rfl (by kernel_rfl) h
theorem wpList_store17 {ops : Array Oper} {rest : List Oper} {op : Oper} {a : Act} {w : World} {Q : Exit → Act → World → Prop} (hgd : op.guard = none) (x y : Operand) (ho : op.op = .store 54 x y)
    (b : Nat) (f : Nat → Int) (g : Nat → Bool) (m : Int) (hx : a.eval x = .pointer (some ⟨b, 0, none⟩)) (hy : a.eval y = .agg (A17 f g m)) {f' : Nat → Int} {g' : Nat → Bool} {m' : Int} (hA : Arr w b 54 (A17 f' g' m'))
    (h : wpList Try.prog ops Q rest (a.put op.dst undef) (wr17 w b f g m)) : wpList Try.prog ops Q (op :: rest) a w :=
  wpList_store_mid hgd 54 x y ho b 0 (A17 f g m) hx hy (arr_there hA) (by kernel_rfl) (by simp [Value.oneCell']) h
theorem wpList_store_new {ops : Array Oper} {rest : List Oper} {op : Oper} {a : Act} {w : World} {Q : Exit → Act → World → Prop} (hgd : op.guard = none) (x y : Operand) (ho : op.op = .store 54 x y)
    (f : Nat → Int) (g : Nat → Bool) (m : Int) {Z : Array Value} (hZ : Z.size = 17) (b : Nat) (hb : b = w.heap.size) (hx : a.eval x = .pointer (some ⟨b, 0, none⟩)) (hy : a.eval y = .agg (A17 f g m))
    (h : wpList Try.prog ops Q rest (a.put op.dst undef) (w.alloc (.cells (A17 f g m) 54))) : wpList Try.prog ops Q (op :: rest) a (w.alloc (.cells Z 54)) := by
  subst hb
  rw [← wr17_new w Z hZ] at h
  exact wpList_store_mid hgd 54 x y ho w.heap.size 0 (A17 f g m) hx hy (new_there w Z 17 hZ _) (by kernel_rfl) (by simp [Value.oneCell']) h
theorem loadVar17 {W : World} {b : Nat} {f : Nat → Int} {g : Nat → Bool} {m : Int} (h : Arr W b 54 (A17 f g m)) : (loadVar 54 ⟨b, 0, none⟩).run Try.prog W = .ok (.agg (A17 f g m)) W :=
  run_loadVar_row W b 54 54 (A17 f g m) (0, 0) _ h Try.underlying54 rfl (by kernel_rfl)
theorem ret_book {fn : Func} {p u : Tmp} (hr : fn.results = #[.cell p 54, .tmp u]) {a : Act} {W : World} {b : Nat} {f : Nat → Int} {g : Nat → Bool} {m : Int} {y : Value} {R : Ending → World → Prop}
    (hp : a.tmps.getD p undef = .pointer (some ⟨b, 0, none⟩)) (hu : a.tmps.getD u undef = y) (hA : Arr W b 54 (A17 f g m)) (hd : a.defers = []) (hR : R (.returned (.tuple #[.agg (A17 f g m), y])) W) : bodyPost Try.prog fn R .ret a W := by
  refine bodyPost_ret ?_ hd hR
  rw [results_cell_tmp hr, hp, hu]
  have e : (asAddr (.pointer (some (⟨b, 0, none⟩ : Addr)))).run Try.prog W = .ok ⟨b, 0, none⟩ W := rfl
  rw [e]
  simp only [Result.andThen]
  rw [loadVar17 hA]
theorem ret_book1 {fn : Func} {p : Tmp} (hr : fn.results = #[.cell p 54]) {a : Act} {W : World} {b : Nat} {f : Nat → Int} {g : Nat → Bool} {m : Int} {R : Ending → World → Prop}
    (hp : a.tmps.getD p undef = .pointer (some ⟨b, 0, none⟩)) (hA : Arr W b 54 (A17 f g m)) (hd : a.defers = []) (hR : R (.returned (.agg (A17 f g m))) W) : bodyPost Try.prog fn R .ret a W :=
  bodyPost_ret (results_cell_row hr a.tmps W b 54 (A17 f g m) (0, 0) _ hp hA Try.underlying54 rfl (by kernel_rfl)) hd hR
/-- the number of a leaf, and whether it is turned -/
def nb (zs : List Int) (k : Nat) : Int := ab (zs.getD k 0)
def tb (zs : List Int) (k : Nat) : Bool := decide (zs.getD k 0 < 0)
abbrev bkA (n : Nat) (zs : List Int) : Array Value := A17 (nb zs) (tb zs) (n : Int)
theorem zero_cells (n : Nat) : (#[.int .i64 0, .bool false, .int .i64 0, .bool false, .int .i64 0, .bool false, .int .i64 0, .bool false, .int .i64 0, .bool false, .int .i64 0, .bool false, .int .i64 0, .bool false, .int .i64 0, .bool false, .int .i64 (n : Int)] : Array Value) = bkA n [] := rfl
/-- one leaf more -/
theorem bk_step (n : Nat) (zs : List Int) (k : Nat) : A17 (fun j => if j = k then nb zs k else nb (zs.take k) j) (fun j => if j = k then tb zs k else tb (zs.take k) j) (n : Int) = bkA n (zs.take (k + 1)) := by
  have ek : (zs.take (k + 1)).getD k 0 = zs.getD k 0 := by simp [List.getD, List.getElem?_take]
  have en : ∀ j, j ≠ k → (zs.take (k + 1)).getD j 0 = (zs.take k).getD j 0 := fun j hj => by
    simp only [List.getD, List.getElem?_take]
    by_cases e4 : j < k
    · rw [if_pos (by omega), if_pos e4]
    · rw [if_neg (by omega), if_neg e4]
  refine A17_ext (fun j hj => ?_) (fun j hj => ?_)
  · by_cases e : j = k
    · rw [if_pos e, e]; unfold nb; rw [ek]
    · rw [if_neg e]; unfold nb; rw [en j e]
  · by_cases e : j = k
    · rw [if_pos e, e]; unfold tb; rw [ek]
    · rw [if_neg e]; unfold tb; rw [en j e]
theorem len52 : Try.prog.arrayLen 52 = 8 := by kernel_rfl
theorem und52 : Try.prog.underlying 52 = some (.array (Try.prog.arrayLen 52) (Try.prog.elem 52)) := by kernel_rfl
theorem siz52 (W : World) : (sizeOf (Try.prog.elem 52)).run Try.prog W = .ok 2 W := by kernel_rfl
theorem slice_h (g n : Nat) (hn : n ≤ 8) (W : World) : (Instr.sliceAt 52 (.pointer (some ⟨g, 0, none⟩)) none (some (.int .i64 (n : Int))) none).run Try.prog W = .ok (.slice (some ⟨g, 0, none⟩) n 8) W := by
  rw [run_sliceAt_array_h W 52 ⟨g, 0, none⟩ und52 .i64 (n : Int) (by omega) (by rw [len52]; omega), siz52]
  simp only [Result.andThen, slicedAt, len52, Int.toNat_natCast, Nat.zero_mul, Nat.sub_zero]
  rfl
theorem slice_lh (g l n : Nat) (hl : l ≤ n) (hn : n ≤ 8) (hl8 : l < 8) (li ni : Int) (hli : li = (l : Int)) (hni : ni = (n : Int)) (W : World) : (Instr.sliceAt 52 (.pointer (some ⟨g, 0, none⟩)) (some (.int .i64 li)) (some (.int .i64 ni)) none).run Try.prog W = .ok (.slice (some ⟨g, l * 2, none⟩) (n - l) (8 - l)) W := by
  subst hli hni
  rw [run_sliceAt_array_lh W 52 ⟨g, 0, none⟩ und52 .i64 .i64 (l : Int) (n : Int) (by omega) (by omega) (by rw [len52]; omega), siz52]
  simp only [Result.andThen, slicedAt, len52, Int.toNat_natCast]
  rw [if_neg (by omega)]
  by_cases h : l = 0
  · subst h; simp [Addr.add]
  · simp [Addr.add, h]; omega
set_option maxRecDepth 100000 in
set_option maxHeartbeats 1000000 in
theorem leaves_any (n : Nat) (hn : n ≤ 8) (zs : List Int) (w : World) :
    Calls Try.prog 53 #[.agg (bkA n zs)] w fun e w' => e = .returned (.slice (some ⟨w.heap.size, 0, none⟩) n 8) ∧ w.alloc (.cells (bkA n zs) 54) = w' := by
  have hs := slice_h w.heap.size n hn
  go_enter Try.func53, Try.ntmps53
  go_wp2
  go_ret
  exact ⟨rfl, rfl⟩
end Ln
end Go.Proofs.Ytabnjoohojojnaa
