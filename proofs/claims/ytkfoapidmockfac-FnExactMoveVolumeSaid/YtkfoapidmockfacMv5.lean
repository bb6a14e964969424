/- moveItem: a list with one item moved, in new memory. -/
import Derived.Test.YtkfoapidmockfacMv4
import Derived.IntWalk
namespace Go.Proofs.Ytkfoapidmockfac
open Go.RowKit Go.Joins Go.Deep
set_option linter.unusedVariables false
set_option linter.ambiguousOpen false
set_option linter.unusedSimpArgs false
namespace Mv
open Sh So
theorem clone_s {go n cap b1 : Nat} {zs : List Int} {w : World} (h : Ow w b1 go n cap zs) (hn : n ≤ 1048576) (h1 : 1 ≤ n) : Calls Try.prog 41 #[.slice (some ⟨go, 0, none⟩) n cap] w (GS zs n w) := by
  have hz := ow_len h
  refine (clone_cells go n cap zs hz hn w (ow_lt h).2 (fun j hj => ow_cell h hj)).mono ?_
  rintro e w' ⟨v, rfl, ho, hb⟩
  rw [hz] at ho
  rcases Li.own_forms ho with ⟨_, h0⟩ | ⟨g, c, rfl⟩
  · omega
  · exact ⟨g, c, rfl, ho, hb⟩
set_option maxRecDepth 100000 in
set_option maxHeartbeats 2000000 in
theorem item_any {b1 g len cap i j : Nat} {zs : List Int} {w : World} (h : Ow w b1 g len cap zs) (hl : len ≤ 1048576) (hi : i < len) (hj : j < len) :
    Calls Try.prog 33 #[.slice (some ⟨g, 0, none⟩) len cap, .int .i64 (i : Int), .int .i64 (j : Int)] w (GS (mv zs i j) len w) := by
  have hz := ow_len h
  have HOw := Lib.hid h
  have hgl := (ow_lt h).2
  have HZ := Lib.hid hz
  obtain ⟨z, HZI, hci⟩ := ow_at HOw.out hi
  have HCI := Lib.hid hci
  clear h hz hci
  go_enter Try.func33, Try.ntmps33
  go_wp2_with fail
  refine (clone_s HOw.out (by omega) (by omega)).mono ?_
  rintro e w2 ⟨g2, cp2, rfl, o2, hb⟩
  have HB2 := Lib.hid hb
  have hg2 := (ow_lt o2).1
  have O2 := Lib.hid o2
  have e35 : IntKind.i64.wrap ((i : Int) + 1) = (i : Int) + 1 := IntWalk.i64_in _ (by omega)
  clear hb o2
  go_wp2_with fail
  refine (del_any O2.out (by omega) hi HB2.out (by omega)).mono ?_
  rintro e w3 ⟨rfl, o3, hb3⟩
  obtain ⟨n1, hn1⟩ : ∃ n1, len - 1 = n1 := ⟨_, rfl⟩
  have hn2 : n1 + 1 = len := by omega
  have hrl : (rest zs i).length = n1 := by rw [rest_length zs i (by rw [HZ.out]; exact hi), HZ.out]; omega
  have HRL := Lib.hid hrl
  rw [hn1]
  have O3 := Lib.hid o3
  have HB3 := Lib.hid hb3
  have hg3 := (ow_lt o3).2
  have hci : w3.cell? ⟨g, i, none⟩ = some (.int .i64 z) := (hb3.cell (p := ⟨g, i, none⟩) hgl).trans HCI.out
  clear hn1 hrl o3 hb3 e35
  go_wp2_with fail
  have ins := ins_any (w := w3.alloc (.cells #[.int .i64 z] 3)) (w0 := w) (B := w.heap.size) (base := w.heap.size) (g := g2) (n := n1) (cap := cp2) (j := j) (vb := w3.heap.size) (R := rest zs i) (z := z) (by rw [hn2]; exact World.ownsRow.alloc O3.out _) HRL.out (by omega) (by omega) (heap_alloc_new w3 _) (by omega) (HB3.out.alloc HB3.out.size _) (by omega)
  refine ins.mono ?_
  rintro e w5 ⟨rfl, o5, hb5⟩
  have EZ := Lib.hid (show ((rest zs i).take j ++ [z]) ++ (rest zs i).drop j = mv zs i j by unfold mv; rw [HZI.out])
  have O5 := Lib.hid o5
  have HB5 := Lib.hid hb5
  clear o5 hb5 hci ins
  go_wp2_with fail
  go_ret
  refine ⟨g2, cp2, rfl, ?_, HB5.out⟩
  have o5 := O5.out
  rw [hn2] at o5
  rw [← EZ.out]
  exact o5
end Mv
end Go.Proofs.Ytkfoapidmockfac
