/- A shelf that came in: copies of it, found equal; when there is one, asked from both sides. -/
import Derived.Test.YtkfoapidmockfabDoorIl
import Derived.Test.YtkfoapidmockfabDoorSm
namespace Go.Proofs.YtkfoapidmockfabDoor
open Go.RowKit Go.Joins Go.Deep Go.ChangeShapes Go.WideShapes
set_option linter.unusedVariables false
set_option linter.unusedSimpArgs false
namespace Sh
/-- a value is returned, and what there was is as it was -/
def Ret (v : Value) (w : World) (e : Ending) (w' : World) : Prop := e = .returned v ∧ Below w.heap.size w w'
/-- a shelf's value -/
abbrev V (g len cap : Nat) (c : Int) : Value := .agg #[.slice (some ⟨g, 0, none⟩) len cap, .int .i64 c]
theorem below_le {B a : Nat} {w w' : World} (h : Below a w w') (hb : B ≤ a) : Below B w w' := h.mono hb
theorem bcell {W w1 : World} (hb : Below W.heap.size W w1) : (∀ b o, b < W.heap.size → w1.cell? ⟨b, o, none⟩ = W.cell? ⟨b, o, none⟩) ∧ (∀ b o, b < W.heap.size → w1.frozen? ⟨b, o, none⟩ = W.frozen? ⟨b, o, none⟩) :=
  ⟨fun b o h => hb.cell (p := ⟨b, o, none⟩) h, fun b o h => hb.frozen (p := ⟨b, o, none⟩) h⟩
set_option maxRecDepth 100000 in
theorem sz_yes (a : Option Addr) (len cap : Nat) (c : Int) (hl : len ≤ 1048576) (w : World) : Calls Tryd.prog 26 #[.agg #[.slice a len cap, .int .i64 c], .int .i64 1048576] w (Ret (.int .i64 ((1048576 : Int) - (len : Int))) w) := by
  have t1 : decide ((1048576 : Int) - (len : Int) < 0) = false := by simp; omega
  go_enter Tryd.func26, Tryd.ntmps26
  go_wp2_with (first | go_in)
  go_ret
  exact ⟨rfl, below_alloc1 _ _⟩
set_option maxRecDepth 100000 in
theorem sz_no (a : Option Addr) (len cap : Nat) (c : Int) (hl : ¬ len ≤ 1048576) (hm : len ≤ maxLen) (w : World) : Calls Tryd.prog 26 #[.agg #[.slice a len cap, .int .i64 c], .int .i64 1048576] w (Ret (.int .i64 (-1)) w) := by
  have t0 : (len : Int) ≤ 9223372036854775807 := by unfold maxLen at hm; omega
  have t1 : decide ((1048576 : Int) - (len : Int) < 0) = true := by simp; omega
  have t2 : wrap64 ((1048576 : Int) - (len : Int)) = (1048576 : Int) - (len : Int) := IntWalk.wrap64_in _ (by omega)
  clear hm hl
  go_enter Tryd.func26, Tryd.ntmps26
  go_wp2_with (first | go_in)
  go_ret
  exact ⟨rfl, below_alloc1 _ _⟩
/-- a shelf in new memory -/
def Copied (len : Nat) (zs : List Int) (c : Int) (W : World) (e : Ending) (w' : World) : Prop := ∃ g, e = .returned (V g len len c) ∧ w'.ownsRow W.heap.size 3 1 (.slice (some ⟨g, 0, none⟩) len len) len (Li.nums zs) ∧ Below W.heap.size W w'
set_option maxRecDepth 100000 in
set_option maxHeartbeats 1000000 in
theorem toShelf_any {a : Option Addr} {len cap : Nat} {c : Int} {zs : List Int} {w : World} (h : Il.Came w (.slice a len cap) len zs) :
    Calls Tryd.prog 28 #[.agg #[.slice a len cap, .int .i64 c]] w (Copied len zs c w) := by
  have HC := Lib.hid h
  clear h
  go_enter Tryd.func28, Tryd.ntmps28
  go_wp2_with fail
  refine (Il.toIntS_any (HC.out.on (((Below.refl _ _).alloc (Nat.le_refl _) _ |>.alloc (by simp) _).alloc (by simp; omega) _))).mono ?_
  rintro e w1 ⟨g, rfl, ho, hb⟩
  obtain ⟨hc, hf⟩ := bcell hb
  have hz : w.heap.size + 2 < w1.heap.size := by have := hb.size; simp at this; omega
  have HG := Lib.hid (ho.lt g rfl)
  have HO := Lib.hid ho
  have HB := Lib.hid hb
  clear ho hb
  go_wp2
  have HF := Lib.hid (show Below w.heap.size w ((((w1.setCell ⟨w.heap.size + 1 + 1, 0, none⟩ (.slice (some ⟨g, 0, none⟩) len len)).setCell ⟨w.heap.size + 1 + 1, 1, none⟩ (.int .i64 c)).setCell ⟨w.heap.size + 1, 0, none⟩ (.slice (some ⟨g, 0, none⟩) len len)).setCell ⟨w.heap.size + 1, 1, none⟩ (.int .i64 c)) from
    ((((((((Below.refl w.heap.size w).alloc (Nat.le_refl _) _).alloc (by simp) _).alloc (by simp; omega) _).trans (HB.out.mono (by simp; omega))).setCell (by simp; omega) _).setCell (by simp; omega) _).setCell (by simp) _).setCell (by simp) _)
  have HX := Lib.hid (Li.own_le (ownsRow_setCell_below (a := ⟨w.heap.size + 1, 1, none⟩) (ownsRow_setCell_below (a := ⟨w.heap.size + 1, 0, none⟩) (ownsRow_setCell_below (a := ⟨w.heap.size + 1 + 1, 1, none⟩) (ownsRow_setCell_below (a := ⟨w.heap.size + 1 + 1, 0, none⟩) HO.out (by simp) (.slice (some ⟨g, 0, none⟩) len len)) (by simp) (.int .i64 c)) (by simp) (.slice (some ⟨g, 0, none⟩) len len)) (by simp) (.int .i64 c)) (show w.heap.size ≤ _ by simp; omega))
  exact bodyPost_ret (v := V g len len c) (by simp [results, Tryd.results28, go_sem, hc, hz]) rfl ⟨g, rfl, HX.out, HF.out⟩
/-- two copies of a shelf are found equal -/
theorem eqShelf_own {b1 b2 g g' len cap cap' : Nat} {zs : List Int} {c : Int} {w : World} (h : w.ownsRow b1 3 1 (.slice (some ⟨g, 0, none⟩) len cap) len (Li.nums zs)) (h' : w.ownsRow b2 3 1 (.slice (some ⟨g', 0, none⟩) len cap') len (Li.nums zs)) (hl : len ≤ 1048576) :
    Calls Tryd.prog 30 #[V g len cap c, V g' len cap' c] w (Ret (.bool true) w) := by
  have e : zs.length = len := by have := h.1; simpa [Li.nums] using this
  subst e
  have HO := Lib.hid h
  have HO' := Lib.hid h'
  clear h h'
  go_enter Tryd.func30, Tryd.ntmps30
  go_wp2_with fail
  refine (Li.eqIntS_own (Li.own_on HO.out ((below_alloc1 _ _).alloc (by simp) _)) (Li.own_on HO'.out ((below_alloc1 _ _).alloc (by simp) _)) hl).mono ?_
  rintro e w1 ⟨rfl, hb⟩
  obtain ⟨hc, hf⟩ := bcell hb
  have hz : w.heap.size + 1 < w1.heap.size := by have := hb.size; simp at this; omega
  have HB := Lib.hid hb
  clear hb
  go_wp2
  go_ret
  exact ⟨rfl, ((below_alloc1 _ _).alloc (by simp) _).trans (HB.out.mono (by simp; omega))⟩
/-- a shelf is marked, and its marks are found -/
theorem markShelf_own {b1 g len cap : Nat} {xs : List Value} {c : Int} {w : World} (h : w.ownsRow b1 3 1 (.slice (some ⟨g, 0, none⟩) len cap) len xs) (hb1 : b1 ≤ g) (hl : len ≤ 1048576) :
    Calls Tryd.prog 33 #[V g len cap c, .int .i64 1] w fun e w' => e = .returned (.int .i64 ((len : Int) + 1)) ∧ w'.ownsRow b1 3 1 (.slice (some ⟨g, 0, none⟩) len cap) len (Li.nums (Li.marks len)) ∧ w.grownBy w' (some g) := by
  have HO := Lib.hid h
  have HG := Lib.hid (h.lt g rfl)
  clear h
  go_enter Tryd.func33, Tryd.ntmps33
  go_wp2_with fail
  refine (Li.markIntS_own (Li.own_on HO.out (below_alloc1 _ _)) hl).mono ?_
  rintro e w1 ⟨rfl, ho, hg⟩
  have HO1 := Lib.hid ho
  have HG1 := Lib.hid (show w.grownBy w1 (some g) from ⟨hg.os, hg.tape, hg.output, by have := hg.size; simp at this; omega, fun k hk hr => (hg.block k (by simp; omega) hr).trans ((below_alloc1 w _).block k hk)⟩)
  clear ho hg
  go_wp2
  go_ret
  exact ⟨rfl, HO1.out, HG1.out⟩
theorem heldShelf_own {b1 g len cap : Nat} {c : Int} {w : World} (h : w.ownsRow b1 3 1 (.slice (some ⟨g, 0, none⟩) len cap) len (Li.nums (Li.marks len))) (hl : len ≤ 1048576) :
    Calls Tryd.prog 34 #[V g len cap c, .int .i64 1] w (Ret (.int .i64 ((len : Int) + 1)) w) := by
  have t1 : decide ((len : Int) + 1 < 0) = false := by simp; omega
  have HO := Lib.hid h
  clear h
  go_enter Tryd.func34, Tryd.ntmps34
  go_wp2_with fail
  refine (Li.heldIntS_own (Li.own_on HO.out (below_alloc1 _ _)) hl).mono ?_
  rintro e w' ⟨rfl, rfl⟩
  go_wp2
  go_ret
  exact ⟨rfl, below_alloc1 _ _⟩
/-! when there is a shelf -/
theorem l1In_any (n lo hi : Int) (v : Bool) (hv : (decide (lo ≤ n) && decide (n ≤ hi)) = v) (w : World) :
    Calls Tryd.prog 37 #[.int .i64 n, .int .i64 lo, .int .i64 hi] w fun e w' => e = .returned (.bool v) ∧ w = w' := by
  by_cases c1 : lo ≤ n
  · by_cases c2 : n ≤ hi
    · have e : v = true := by rw [← hv]; simp [c1, c2]
      subst e
      clear hv
      go_enter Tryd.func37, Tryd.ntmps37
      go_wp2
      go_ret
      exact ⟨rfl, rfl⟩
    · have e : v = false := by rw [← hv]; simp [c2]
      subst e
      have t2 : decide (n ≤ hi) = false := by simpa using c2
      clear hv c2
      go_enter Tryd.func37, Tryd.ntmps37
      go_wp2
      go_ret
      exact ⟨rfl, rfl⟩
  · have e : v = false := by rw [← hv]; simp [c1]
    subst e
    have t2 : decide (lo ≤ n) = false := by simpa using c1
    clear hv c1
    go_enter Tryd.func37, Tryd.ntmps37
    go_wp2
    go_ret
    exact ⟨rfl, rfl⟩
end Sh
end Go.Proofs.YtkfoapidmockfabDoor
