/- What shParse answers of a text. -/
import Derived.Test.YtkfoapidmockfabDoorCr
import Derived.Test.YtkfoapidmockfabDoorB2
import Derived.Test.YtkfoapidmockfabDoorSps
import Derived.Deep.RegionLaw
import Derived.Deep.AppendLies
import Derived.Below
namespace Go.Proofs.YtkfoapidmockfabDoor
open Go.RowKit Go.Joins Go.Deep Go.ChangeShapes Go.WideShapes
set_option linter.unusedVariables false
set_option linter.unusedSimpArgs false
namespace Spw
open Sh P
/-- a block of cells -/
def Arr (W : World) (b : Nat) (T : TypeId) (cur : Array Value) : Prop := W.heap[b]? = some (.cells cur T)
theorem Arr.lt {W : World} {b : Nat} {T : TypeId} {cur : Array Value} (h : Arr W b T cur) : b < W.heap.size := by
  rcases Nat.lt_or_ge b W.heap.size with h1 | h1
  · exact h1
  · unfold Arr at h
    rw [Array.getElem?_eq_none h1] at h
    cases h
theorem Arr.cell {W : World} {b : Nat} {T : TypeId} {cur : Array Value} (h : Arr W b T cur) {j : Nat} {v : Value} (hj : cur[j]? = some v) : W.cell? ⟨b, j, none⟩ = some v := by
  unfold Arr at h
  simp [World.cell?, h, hj]
theorem Arr.frozen {W : World} {b : Nat} {T : TypeId} {cur : Array Value} (h : Arr W b T cur) (j : Nat) : W.frozen? ⟨b, j, none⟩ = false := by
  unfold Arr at h
  simp [World.frozen?, h]
theorem Arr.set {W : World} {b : Nat} {T : TypeId} {cur : Array Value} (h : Arr W b T cur) (j : Nat) (v : Value) : Arr (W.setCell ⟨b, j, none⟩ v) b T (cur.setIfInBounds j v) :=
  heap_setCell_same W b j cur T v h
theorem Arr.on {W W' : World} {b : Nat} {T : TypeId} {cur : Array Value} (h : Arr W b T cur) (hb : Below W.heap.size W W') : Arr W' b T cur := (hb.block b h.lt).trans h
theorem Arr.new (w : World) (cur : Array Value) (T : TypeId) : Arr (w.alloc (.cells cur T)) w.heap.size T cur := heap_alloc_new w _
theorem Arr.drew {W : World} {b : Nat} {T : TypeId} {cur : Array Value} (h : Arr W b T cur) : Arr W.drew b T cur := h
theorem Arr.alloc {W : World} {b : Nat} {T : TypeId} {cur : Array Value} (h : Arr W b T cur) (x : Obj) : Arr (W.alloc x) b T cur := h.on (below_alloc1 W x)
theorem Arr.other {W : World} {b b' : Nat} {T : TypeId} {cur : Array Value} (h : Arr W b T cur) (hne : b ≠ b') (j : Nat) (v : Value) : Arr (W.setCell ⟨b', j, none⟩ v) b T cur := (Below.heap_setCell W ⟨b', j, none⟩ v b hne).trans h
theorem Arr.grown {W W' : World} {b : Nat} {T : TypeId} {cur : Array Value} {row : Option Nat} (h : Arr W b T cur) (hg : W.grownBy W' row) (hr : some b ≠ row) : Arr W' b T cur := (hg.block b h.lt hr).trans h
theorem arr2 {W : World} {b : Nat} {T : TypeId} {x y : Value} (h : Arr W b T #[x, y]) (u v : Value) : ((W.setCell ⟨b, 0, none⟩ u).setCell ⟨b, 1, none⟩ v).cell? ⟨b, 0, none⟩ = some u ∧ ((W.setCell ⟨b, 0, none⟩ u).setCell ⟨b, 1, none⟩ v).cell? ⟨b, 1, none⟩ = some v :=
  ⟨((h.set 0 u).set 1 v).cell (j := 0) rfl, ((h.set 0 u).set 1 v).cell (j := 1) rfl⟩
theorem some_of {W : World} {base n : Nat} {T : TypeId} {size : Nat} {v : Value} {xs : List Value} (h : W.ownsRow base T size v n xs) (h1 : 1 ≤ n) : ∃ g cap, v = .slice (some ⟨g, 0, none⟩) n cap := by
  rcases Li.own_forms h with ⟨_, h0⟩ | h
  · omega
  · exact h
/-- a shelf and whether there is one -/
def Gv (ok : Bool) (os : List Int) (c : Int) (W : World) (e : Ending) (w' : World) : Prop :=
  ∃ v, e = .returned (.tuple #[.agg #[v, .int .i64 c], .bool ok]) ∧ w'.ownsRow W.heap.size 3 1 v os.length (Li.nums os) ∧ Below W.heap.size W w'
theorem Gv.none {W w' : World} (hb : Below W.heap.size W w') : Gv false [] 0 W (.returned (.tuple #[.agg #[.slice none 0 0, .int .i64 0], .bool false])) w' :=
  ⟨_, rfl, World.ownsRow_nil _ _ _ _, hb⟩
/-- a text of a shelf -/
def Is (l : List UInt8) (zs : List Int) (c : Int) : Prop := Ok zs c ∧ l = tx zs c
theorem none_long {l : List UInt8} (h : ¬ l.length ≤ 34) : ∀ zs c, ¬ Is l zs c := fun zs c hi => h (by rw [hi.2]; exact tx_len zs c hi.1)
theorem none_parts {l : List UInt8} (h : ¬ (sp 99 l).length = 2) : ∀ zs c, ¬ Is l zs c := fun zs c hi => h (by rw [hi.2, sp_tx]; rfl)
set_option maxRecDepth 100000 in
set_option maxHeartbeats 2000000 in
theorem s_not (l : List UInt8) (hl : l.length ≤ 1048576) (h : ¬ l.length ≤ 34 ∨ ¬ (sp 99 l).length = 2) (w : World) :
    Calls Tryd.prog 57 #[.string ⟨l.toArray⟩] w (Gv false [] 0 w) := by
  have CS := Lib.hid (fun W => l1Split_any l 99 hl W)
  have hR0 := Arr.new w #[.slice none 0 0, .int .i64 0] 45
  have HB0 := Lib.hid (below_alloc1 w (.cells #[.slice none 0 0, .int .i64 0] 45))
  have HR := Lib.hid hR0
  have hsz : ((⟨l.toArray⟩ : ByteArray).size : Int) = (l.length : Int) := by show (l.toArray.size : Int) = _; simp
  generalize hn : (sp 99 l).length = n at *
  have hn2 : n ≤ l.length + 1 := by rw [← hn]; exact sp_le 99 l
  clear hR0
  have hp : 1 ≤ n := by rw [← hn]; exact sp_pos 99 l
  have hd : (decide ((34 : Int) < (l.length : Int)) = true) ∨ (decide ((34 : Int) < (l.length : Int)) = false ∧ ((n : Int) != 2) = true ∧ ((n : Int) == 2) = false) := by
    by_cases h34 : l.length ≤ 34
    · refine _root_.Or.inr ⟨by simp; omega, ?_, ?_⟩
      · simp; omega
      · simp; omega
    · exact _root_.Or.inl (by simp; omega)
  clear hn hn2 h
  rcases hd with d1 | ⟨d1, d2, d3⟩
  all_goals
    go_enter Tryd.func57, Tryd.ntmps57
    go_wp2_with fail
    refine (CS.out _).mono ?_
    rintro e w1 ⟨v1, rfl, o1, hb⟩
    obtain ⟨g1, cp1, rfl⟩ := some_of o1 hp
    have HR1 := Lib.hid (HR.out.on hb)
    have HB1 := Lib.hid (HB0.out.trans (hb.mono HB0.out.size))
    have hf0 := HR1.out.frozen 0
    have hf1 := HR1.out.frozen 1
    have hr0 : w1.cell? ⟨w.heap.size, 0, none⟩ = some (.slice none 0 0) := HR1.out.cell (j := 0) rfl
    have hr1 : w1.cell? ⟨w.heap.size, 1, none⟩ = some (.int .i64 0) := HR1.out.cell (j := 1) rfl
    clear hb o1
    go_wp2_with fail
    have HX := arr2 HR1.out (.slice none 0 0) (.int .i64 0)
    have hB := (HB1.out.setCell (p := ⟨w.heap.size, 0, none⟩) (Nat.le_refl _) (.slice none 0 0)).setCell (p := ⟨w.heap.size, 1, none⟩) (Nat.le_refl _) (.int .i64 0)
    revert HX hB
    generalize ((w1.setCell ⟨w.heap.size, 0, none⟩ (.slice none 0 0)).setCell ⟨w.heap.size, 1, none⟩ (.int .i64 0)) = W8
    intro ⟨z0, z1⟩ hB
    exact bodyPost_ret (v := .tuple #[.agg #[.slice none 0 0, .int .i64 0], .bool false]) (by simp [results, Tryd.results57, go_sem, z0, z1]) rfl (Gv.none hB)
end Spw
end Go.Proofs.YtkfoapidmockfabDoor
