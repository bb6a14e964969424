/- MoveVolume of the model, where the volume is moved. -/
import Derived.Test.YtkfoapidmockfacMv
namespace Go.Proofs.Ytkfoapidmockfac
open Go.RowKit Go.Joins Go.Deep
set_option linter.unusedVariables false
set_option linter.unusedSimpArgs false
namespace Mv
open Sh So
/-- a list is returned, in a block of the call's own -/
def GS (zs : List Int) (n : Nat) (W : World) (e : Ending) (w' : World) : Prop := ∃ g cap, e = .returned (.slice (some ⟨g, 0, none⟩) n cap) ∧ Ow w' W.heap.size g n cap zs ∧ Below W.heap.size W w'
theorem some_of_not {W : World} {base n : Nat} {v : Value} {xs : List Value} (h : W.ownsRow base 3 1 v n xs) (h1 : v ≠ .slice none 0 0) : ∃ g cap, v = .slice (some ⟨g, 0, none⟩) n cap := by
  rcases Li.own_forms h with ⟨e, _⟩ | h
  · exact absurd e h1
  · exact h
set_option maxRecDepth 100000 in
set_option maxHeartbeats 1000000 in
theorem l1Own_s (go n cap : Nat) (zs : List Int) (hl : zs.length = n) (hn : n ≤ 1048576) (w : World) (hg : go < w.heap.size) (h : ∀ j, j < n → w.cell? ⟨go, j, none⟩ = some (.int .i64 (zs.getD j 0))) : Calls Try.prog 30 #[.slice (some ⟨go, 0, none⟩) n cap] w (GS zs n w) := by
  obtain ⟨i0, hi, hz0, hz1, hz2⟩ := info_parts Li.info3
  have O := own_empty w w.heap.size (Nat.le_refl _) #[] rfl
  have HO := Lib.hid O
  have HH := Lib.hid (src_at hl hg h #[])
  have HN := Lib.hid (show (Li.nums zs).length = n * 1 by rw [Li.nums_length, hl, Nat.mul_one])
  clear h hl
  go_enter Try.func30, Try.ntmps30
  go_wp2_with (first | (at_builtin; refine wpList_append_own _ rfl _ _ 22 rfl w.heap.size 3 i0 (.int .i64 0) 1 8 Try.underlying22 hi hz0 hz1 hz2 rfl (by decide) _ _ _ rfl O ⟨go, 0, none⟩ n cap (Li.nums zs) rfl HN.out HH.out (nums_one zs) (by unfold maxLen; omega) (by omega) (by simp) ?_; intro v2 w2 hown2 hgrow2 hnil2))
  clear O
  obtain ⟨g2, c2, rfl⟩ := some_of_not hown2 (fun e => by have := (hnil2.1 e).1; injection this with h1; cases h1)
  have HO2 := Lib.hid hown2
  clear hown2 hnil2
  go_ret
  refine ⟨g2, c2, by simp, ?_, ?_⟩
  · simpa using HO2.out
  · exact (below_alloc1 w (.cells #[] 3)).grown hgrow2 (by simp) (fun j hj => by have := (HO.out.lt j hj).1; omega)
end Mv
end Go.Proofs.Ytkfoapidmockfac
