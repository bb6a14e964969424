/- Copies of a list, from both sides. -/
import Derived.Test.YtkfoapidmockfacCb
import Derived.Laws.AppendOwnNone
import Derived.Maps.AppendAt
namespace Go.Proofs.Ytkfoapidmockfac
open Go.RowKit Go.Joins Go.Deep Go.ChangeShapes Go.WideShapes
set_option linter.unusedVariables false
set_option linter.unusedSimpArgs false
namespace So
open Sh
/-- a list is returned, in new memory -/
def GivesL (zs : List Int) (W : World) (e : Ending) (w' : World) : Prop := ∃ v, e = .returned v ∧ w'.ownsRow W.heap.size 3 1 v zs.length (Li.nums zs) ∧ Below W.heap.size W w'
/-- an empty list of the call's own -/
theorem own_empty (w : World) (base : Nat) (hb : base ≤ w.heap.size) (z : Array Value) (hz : z.size = 0) : (w.alloc (.cells z 3)).ownsRow base 3 1 (.slice (some ⟨w.heap.size, 0, none⟩) 0 0) 0 [] := by
  refine ⟨rfl, _root_.Or.inr ⟨w.heap.size, 0, z, rfl, hb, ?_, Nat.le_refl _, Nat.zero_le _, by simpa using hz, by simp⟩⟩
  show (w.heap.push _)[w.heap.size]? = _
  simp
/-- n numbers at a place, ahead of a copy -/
theorem src_at {w : World} {go n : Nat} {zs : List Int} (hl : zs.length = n) (hg : go < w.heap.size) (h : ∀ j, j < n → w.cell? ⟨go, j, none⟩ = some (.int .i64 (zs.getD j 0))) (z : Array Value) :
    ∀ j u, (Li.nums zs)[j]? = some u → (w.alloc (.cells z 3)).cell? ((⟨go, 0, none⟩ : Addr).add j) = some u := by
  intro j u hu
  have hj : j < n := by
    rcases Nat.lt_or_ge j n with h1 | h1
    · exact h1
    · rw [List.getElem?_eq_none (by rw [Li.nums_length]; omega)] at hu
      cases hu
  have e := h j hj
  have e2 : (⟨go, 0, none⟩ : Addr).add j = ⟨go, j, none⟩ := by simp [Addr.add]; intro h; exact h.symm
  rw [e2, World.cell?_alloc_lt w _ ⟨go, j, none⟩ hg, e, ← hu]
  simp [Li.nums, List.getD, List.getElem?_eq_getElem (show j < zs.length by omega)]
theorem nums_one (zs : List Int) : ∀ x ∈ Li.nums zs, x.oneCell' = true := by
  intro x hx
  obtain ⟨a, _, rfl⟩ := List.mem_map.1 hx
  rfl
set_option maxRecDepth 100000 in
set_option maxHeartbeats 1000000 in
theorem l1Own_cells (go n cap : Nat) (zs : List Int) (hl : zs.length = n) (hn : n ≤ 1048576) (w : World) (hg : go < w.heap.size) (h : ∀ j, j < n → w.cell? ⟨go, j, none⟩ = some (.int .i64 (zs.getD j 0))) : Calls Try.prog 30 #[.slice (some ⟨go, 0, none⟩) n cap] w (GivesL zs w) := by
  obtain ⟨i0, hi, hz0, hz1, hz2⟩ := info_parts Li.info3
  have O := own_empty w w.heap.size (Nat.le_refl _) #[] rfl
  have HO := Lib.hid O
  have HL := Lib.hid hl
  have HH := Lib.hid (src_at hl hg h #[])
  have HN := Lib.hid (show (Li.nums zs).length = n * 1 by rw [Li.nums_length, hl, Nat.mul_one])
  clear h hl
  go_enter Try.func30, Try.ntmps30
  go_wp2_with (first | (at_builtin; refine wpList_append_own _ rfl _ _ 22 rfl w.heap.size 3 i0 (.int .i64 0) 1 8 Try.underlying22 hi hz0 hz1 hz2 rfl (by decide) _ _ _ rfl O ⟨go, 0, none⟩ n cap (Li.nums zs) rfl HN.out HH.out (nums_one zs) (by unfold maxLen; omega) (by omega) (by simp) ?_; intro v2 w2 hown2 hgrow2 hnil2))
  clear O
  go_ret
  refine ⟨_, rfl, ?_, ?_⟩
  · rw [HL.out]
    simpa using hown2
  · exact (below_alloc1 w (.cells #[] 3)).grown hgrow2 (by simp) (fun j hj => by have := (HO.out.lt j hj).1; omega)
theorem nil_no (a : Addr) (n cap : Nat) (w : World) : (binOp BinOp.eql 22 (.slice (some a) n cap) (.slice none 0 0)).run Try.prog w = .ok (.bool false) w := by
  first | rfl | kernel_rfl
set_option maxRecDepth 100000 in
set_option maxHeartbeats 1000000 in
theorem clone_cells (go n cap : Nat) (zs : List Int) (hl : zs.length = n) (hn : n ≤ 1048576) (w : World) (hg : go < w.heap.size) (h : ∀ j, j < n → w.cell? ⟨go, j, none⟩ = some (.int .i64 (zs.getD j 0))) : Calls Try.prog 41 #[.slice (some ⟨go, 0, none⟩) n cap] w (GivesL zs w) := by
  obtain ⟨i0, hi, hz0, hz1, hz2⟩ := info_parts Li.info3
  have O := own_empty w w.heap.size (Nat.le_refl _) #[] rfl
  have HO := Lib.hid O
  have HL := Lib.hid hl
  have HH := Lib.hid (src_at hl hg h #[])
  have HN := Lib.hid (show (Li.nums zs).length = n * 1 by rw [Li.nums_length, hl, Nat.mul_one])
  clear h hl
  have hnil := nil_no ⟨go, 0, none⟩ n cap
  go_enter Try.func41, Try.ntmps41
  go_wp2_with (first | (at_builtin; refine wpList_append_own _ rfl _ _ 22 rfl w.heap.size 3 i0 (.int .i64 0) 1 8 Try.underlying22 hi hz0 hz1 hz2 rfl (by decide) _ _ _ rfl O ⟨go, 0, none⟩ n cap (Li.nums zs) rfl HN.out HH.out (nums_one zs) (by unfold maxLen; omega) (by omega) (by simp) ?_; intro v2 w2 hown2 hgrow2 hnil2))
  clear O
  go_ret
  refine ⟨_, rfl, ?_, ?_⟩
  · rw [HL.out]
    simpa using hown2
  · exact (below_alloc1 w (.cells #[] 3)).grown hgrow2 (by simp) (fun j hj => by have := (HO.out.lt j hj).1; omega)
end So
end Go.Proofs.Ytkfoapidmockfac
