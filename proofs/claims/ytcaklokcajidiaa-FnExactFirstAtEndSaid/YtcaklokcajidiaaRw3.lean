/- The day behind which a page is read: counted up on one side, searched for on the other. -/
import Derived.Test.YtcaklokcajidiaaRw2
import Derived.Shelf.SlSorted.Search
import Derived.Test.YtcaklokcajidiaaProg
namespace Go.Proofs
open Go.Shelf
def Try.search_ren : Go.Shelf.Ren := ⟨fun | 16 => 68 | n => n, fun | 3 => 3 | 35 => 55 | 4 => 4 | 38 => 65 | n => n, fun | n => n⟩
theorem Try.search : Go.Proofs.SlLaysO.n16 Try.prog Try.search_ren := {
  mixed := by kernel_rfl
  f16 := Try.func68.trans (congrArg some (by kernel_rfl))
  t3 := Try.underlying3
  a3 := Try.isAgg3
  z3 := Try.sizeOf3
  v3 := Try.zeroValue3
  t4 := Try.underlying4
  a4 := Try.isAgg4
  z4 := Try.sizeOf4
  v4 := Try.zeroValue4
  t35 := Try.underlying55
  a35 := Try.isAgg55
  z35 := Try.sizeOf55
  v35 := Try.zeroValue55
  t38 := Try.underlying65
  a38 := Try.isAgg65
  z38 := Try.sizeOf65
  v38 := Try.zeroValue65 }
end Go.Proofs
namespace Go.Proofs.Ytcaklokcajidiaa
open Go.RowKit Go.Joins
set_option linter.unusedVariables false
set_option linter.unusedSimpArgs false
namespace Rw
set_option maxRecDepth 100000 in
theorem rdEnd_any (p m d r : Int) (hg : Rd.good m d r = true) (hp : p ≤ 2000) (w : World) :
    Calls Try.prog 53 #[.int .i64 p, .agg #[.int .i64 m, .int .i64 d, .int .i64 r]] w (Ret (.int .i64 (Rd.dy m d r p : Nat)) w) := by
  have HG := Lib.hid (show 0 ≤ m ∧ m ≤ 2000 ∧ 1 ≤ d ∧ d ≤ 200 ∧ (r = 0 ∨ (2 ≤ r ∧ r ≤ 60)) by simpa [Rd.good] using hg)
  have hle := Rd.dy_le m d r p
  clear hg
  go_enter Try.func53, Try.ntmps53
  go_wp2
  go_loopw [5] (fun i wr => ∃ k : Nat, k ≤ Rd.dy m d r p ∧ i = .int .i64 (k : Int) ∧ Below (w.alloc (.cells #[.int .i64 m, .int .i64 d, .int .i64 r] 25)).heap.size (w.alloc (.cells #[.int .i64 m, .int .i64 d, .int .i64 r] 25)) wr) (fun i _ => ((Rd.dy m d r p : Int) - intOf i).toNat)
  case atStart => exact ⟨0, by omega, rfl, Below.refl _ _⟩
  case round =>
    obtain ⟨k, hk, rfl, hb⟩ := hrel
    obtain ⟨q0, q1, q2⟩ := bx_cells hb
    have hi := Rd.dy_iff (m := m) (d := d) (r := r) (p := p) (by rcases HG.out.2.2.2.2 with h | h <;> omega) HG.out.2.2.1 HG.out.1 hp k (by omega)
    by_cases hlt : k < Rd.dy m d r p
    · have hx : Rd.fr m d r k < p := by omega
      clear hi
      go_wp2_with fail
      refine (rdFree_any m d r k HG.out.1 HG.out.2.1 HG.out.2.2.1 HG.out.2.2.2.1 HG.out.2.2.2.2 (by omega) _).mono ?_
      rintro e w' ⟨rfl, hb1⟩
      have HB := Lib.hid (hb.trans (below_le hb1 hb.size))
      clear hb hb1 q0 q1 q2
      go_wp2
      go_roundw
      case rel => exact ⟨k + 1, by omega, by go_num, HB.out⟩
      case measure => simp [intOf]; omega
    · have hx : ¬ Rd.fr m d r k < p := by omega
      have E := Lib.hid (show (Rd.dy m d r p) = k by omega)
      clear hi
      go_wp2_with fail
      refine (rdFree_any m d r k HG.out.1 HG.out.2.1 HG.out.2.2.1 HG.out.2.2.2.1 HG.out.2.2.2.2 (by omega) _).mono ?_
      rintro e w' ⟨rfl, hb1⟩
      have HB := Lib.hid (bx_below (hb.trans (below_le hb1 hb.size)))
      clear hb hb1 q0 q1 q2
      go_wp2
      go_ret
      exact ⟨by simp [E.out], HB.out⟩
/-- the closure that the search asks -/
theorem upTo_closure (b b' : Nat) (p m d r : Int) (k : Nat) (hg : Hid (Rd.good m d r = true)) (hk : k ≤ 4000) (W : World)
    (q0 : W.cell? ⟨b, 0, none⟩ = some (.int .i64 m)) (q1 : W.cell? ⟨b, 1, none⟩ = some (.int .i64 d)) (q2 : W.cell? ⟨b, 2, none⟩ = some (.int .i64 r)) (q3 : W.cell? ⟨b', 0, none⟩ = some (.int .i64 p)) :
    Calls Try.prog 69 (#[.int .i64 (k : Int)] ++ #[.pointer (some ⟨b, 0, none⟩), .pointer (some ⟨b', 0, none⟩)]) W (fun e w' => e = .returned (.bool (decide (p ≤ Rd.fr m d r k))) ∧ ∃ q os, w' = Go.Sort.grow (W.drewN q) os) := by
  have HG := Lib.hid (show 0 ≤ m ∧ m ≤ 2000 ∧ 1 ≤ d ∧ d ≤ 200 ∧ (r = 0 ∨ (2 ≤ r ∧ r ≤ 60)) by simpa [Rd.good] using hg.out)
  have q3' : (W.alloc (.cells #[.int .i64 m, .int .i64 d, .int .i64 r] 25)).cell? ⟨b', 0, none⟩ = some (.int .i64 p) := cell_alloc_sl _ q3
  clear hg
  go_enter Try.func69, Try.ntmps69
  go_wp2
  go_region_with (go_at_call 52; refine (markBehind_all m d r k HG.out.1 HG.out.2.1 HG.out.2.2.1 HG.out.2.2.2.1 HG.out.2.2.2.2 (by omega) _).mono ?_; rintro e w' ⟨rfl, rfl⟩)
  all_goals go_wp2
  all_goals go_ret
  all_goals exact ⟨by first | rfl | simp [go_sem], 1, #[.cells #[.int .i64 m, .int .i64 d, .int .i64 r] 25], by rw [show (W.alloc (.cells #[.int .i64 m, .int .i64 d, .int .i64 r] 25)).drew = (W.drewN 1).alloc (.cells #[.int .i64 m, .int .i64 d, .int .i64 r] 25) from rfl, Go.Sort.alloc_eq_grow]⟩
open Go.Shelf Go.Sort in
set_option maxRecDepth 100000 in
theorem daysUpTo_any (p m d r : Int) (hg : Rd.good m d r = true) (hp : p ≤ 2000) (w : World) :
    Calls Try.prog 54 #[.agg #[.int .i64 m, .int .i64 d, .int .i64 r], .int .i64 p] w (Ret (.int .i64 (Rd.dy m d r p : Nat)) w) := by
  obtain ⟨W0, hW0⟩ : ∃ W0, W0 = (w.alloc (.cells #[.int .i64 m, .int .i64 d, .int .i64 r] 25)).alloc (.cells #[.int .i64 p] 3) := ⟨_, rfl⟩
  have hsize : W0.heap.size = w.heap.size + 1 + 1 := by rw [hW0]; simp
  have hB0 : Below w.heap.size w W0 := by rw [hW0]; exact below_alloc2 _ _ _
  have hB1 : Below (w.alloc (.cells #[.int .i64 m, .int .i64 d, .int .i64 r] 25)).heap.size (w.alloc (.cells #[.int .i64 m, .int .i64 d, .int .i64 r] 25)) W0 := by rw [hW0]; exact below_alloc1 _ _
  obtain ⟨q0, q1, q2⟩ := bx_cells hB1
  have q3 : W0.cell? ⟨w.heap.size + 1, 0, none⟩ = some (.int .i64 p) := by rw [hW0]; have := cell_new_sl (w.alloc (.cells #[.int .i64 m, .int .i64 d, .int .i64 r] 25)) (.int .i64 p) 3; rwa [World.size_alloc] at this
  have HG := Lib.hid hg
  have hbd : 0 ≤ m ∧ 1 ≤ d ∧ (r = 0 ∨ 2 ≤ r) := by simp [Rd.good] at hg; omega
  have eg : ∀ args w, (callFunc 69 args).run Try.prog w = .ok (.enter 69 args) w := enters_of Try.func69 (by kernel_rfl) rfl
  have hS := Any.sort_Search Try.search 69 #[.pointer (some ⟨w.heap.size, 0, none⟩), .pointer (some ⟨w.heap.size + 1, 0, none⟩)] 4000 (fun i => decide (p ≤ Rd.fr m d r i)) W0 eg (by omega)
    (fun q os i hi => upTo_closure w.heap.size (w.heap.size + 1) p m d r i HG (by omega) _ (cell_grown (by simp [hsize]; omega) q0 q os) (cell_grown (by simp [hsize]; omega) q1 q os) (cell_grown (by simp [hsize]; omega) q2 q os) (cell_grown (by simp [hsize]) q3 q os))
    (fun a b hab hb h => by have := Rd.fr_mono (m := m) hbd.2.2 hbd.2.1 hab; simp at h ⊢; omega)
  change Calls Try.prog 68 _ _ (fun e w' => e = .returned (.int .i64 (Rd.dy m d r p : Nat)) ∧ ∃ q os, w' = grow (W0.drewN q) os) at hS
  have HS := Lib.hid hS
  clear q0 q1 q2 q3 hg hS hB1 hbd
  go_enter Try.func54, Try.ntmps54
  go_wp2_with (go_at_call 68; rw [← hW0]; refine HS.out.mono ?_; rintro e w' ⟨rfl, q, os, rfl⟩)
  go_ret
  refine ⟨rfl, ?_⟩
  rw [← hW0]
  exact hB0.trans (below_grown_sl w.heap.size W0 q os (by omega))
end Rw
end Go.Proofs.Ytcaklokcajidiaa
