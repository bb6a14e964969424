/- MoveVolume of the program. -/
import Derived.Test.YtogkebbgkeffcabMv5
namespace Go.Proofs.Ytogkebbgkeffcab
open Go.RowKit Go.Joins Go.Deep
set_option linter.unusedVariables false
set_option linter.ambiguousOpen false
set_option linter.unusedSimpArgs false
namespace Mv
open Sh So
set_option maxRecDepth 100000 in
set_option maxHeartbeats 1000000 in
theorem iNo {b1 g len cap : Nat} {zs : List Int} {a b : Int} {w : World} (h : Ow w b1 g len cap zs) (hl : len ≤ 1048576) (hx : mvOk zs a b = false) :
    Calls Try.prog 16 #[.slice (some ⟨g, 0, none⟩) len cap, .int .i64 a, .int .i64 b] w (Li.Gives false [] w) := by
  have hz := ow_len h
  unfold mvOk at hx
  rw [hz] at hx
  obtain ⟨x1, h1⟩ : ∃ x, Ns.good zs = x := ⟨_, rfl⟩
  obtain ⟨x2, h2⟩ : ∃ x, inB a len = x := ⟨_, rfl⟩
  obtain ⟨x3, h3⟩ : ∃ x, inB b len = x := ⟨_, rfl⟩
  have C1 := Lib.hid (iStands_any h hl x1 h1)
  have C2 := Lib.hid (fun W => hp_any g len cap a x2 h2 W)
  have C3 := Lib.hid (fun W => hp_any g len cap b x3 h3 W)
  rw [h1, h2, h3] at hx
  clear h hz h1 h2 h3
  cases x1 with
  | false =>
    clear hx
    go_enter Try.func16, Try.ntmps16
    go_wp2_with fail
    refine C1.out.mono ?_
    rintro e w1 ⟨rfl, hb⟩
    go_wp2_with fail
    go_ret2
    exact Li.Gives.none hb
  | true =>
    cases x2 with
    | false =>
      clear hx
      go_enter Try.func16, Try.ntmps16
      go_wp2_with fail
      refine C1.out.mono ?_
      rintro e w1 ⟨rfl, hb⟩
      go_wp2_with fail
      refine (C2.out _).mono ?_
      rintro e w' ⟨rfl, rfl⟩
      go_wp2_with fail
      go_ret2
      exact Li.Gives.none hb
    | true =>
      have e3 : x3 = false := by simpa using hx
      subst e3
      clear hx
      go_enter Try.func16, Try.ntmps16
      go_wp2_with fail
      refine C1.out.mono ?_
      rintro e w1 ⟨rfl, hb⟩
      go_wp2_with fail
      refine (C2.out _).mono ?_
      rintro e w' ⟨rfl, rfl⟩
      go_wp2_with fail
      refine (C3.out _).mono ?_
      rintro e w' ⟨rfl, rfl⟩
      go_wp2_with fail
      go_ret2
      exact Li.Gives.none hb
theorem clone_s {go n cap b1 : Nat} {zs : List Int} {w : World} (h : Ow w b1 go n cap zs) (hn : n ≤ 1048576) (h1 : 1 ≤ n) : Calls Try.prog 32 #[.slice (some ⟨go, 0, none⟩) n cap] w (GS zs n w) := by
  have hz := ow_len h
  refine (clone_cells go n cap zs hz hn w (ow_lt h).2 (fun j hj => ow_cell h hj)).mono ?_
  rintro e w' ⟨v, rfl, ho, hb⟩
  rw [hz] at ho
  rcases Li.own_forms ho with ⟨_, h0⟩ | ⟨g, c, rfl⟩
  · omega
  · exact ⟨g, c, rfl, ho, hb⟩
set_option maxRecDepth 100000 in
set_option maxHeartbeats 2000000 in
theorem iYes {b1 g len cap i j : Nat} {zs : List Int} {w : World} (h : Ow w b1 g len cap zs) (hg : Ns.good zs = true) (h8 : len ≤ 8) (hi : i < len) (hj : j < len) :
    Calls Try.prog 16 #[.slice (some ⟨g, 0, none⟩) len cap, .int .i64 (i : Int), .int .i64 (j : Int)] w (Li.Gives true (mv zs i j) w) := by
  have hz := ow_len h
  have HOw := Lib.hid h
  have hgl := (ow_lt h).2
  have HZ := Lib.hid hz
  have C1 := Lib.hid (iStands_any h (by omega) true hg)
  have C2 := Lib.hid (fun W => hp_any g len cap (i : Int) true ((inB_iff _ _).2 ⟨by omega, by omega⟩) W)
  have C3 := Lib.hid (fun W => hp_any g len cap (j : Int) true ((inB_iff _ _).2 ⟨by omega, by omega⟩) W)
  obtain ⟨z, HZI, hci⟩ := ow_at HOw.out hi
  have HCI := Lib.hid hci
  clear h hg hz hci
  go_enter Try.func16, Try.ntmps16
  go_wp2_with fail
  refine C1.out.mono ?_
  rintro e w1 ⟨rfl, hb⟩
  have HB1 := Lib.hid hb
  clear hb
  go_wp2_with fail
  refine (C2.out _).mono ?_
  rintro e w' ⟨rfl, rfl⟩
  go_wp2_with fail
  refine (C3.out _).mono ?_
  rintro e w' ⟨rfl, rfl⟩
  go_wp2_with fail
  refine (clone_s (Li.own_on HOw.out HB1.out) (by omega) (by omega)).mono ?_
  rintro e w2 ⟨g2, cp2, rfl, o2, hb⟩
  have HB2 := Lib.hid (HB1.out.trans (hb.mono HB1.out.size))
  have hg2 := (ow_lt o2).1
  have hs1 : w.heap.size ≤ w1.heap.size := HB1.out.size
  have O2 := Lib.hid o2
  have e35 : IntKind.i64.wrap ((i : Int) + 1) = (i : Int) + 1 := IntWalk.i64_in _ (by omega)
  clear hb o2
  go_wp2_with fail
  refine (del_any O2.out (by omega) hi HB2.out (by omega)).mono ?_
  rintro e w3 ⟨rfl, o3, hb3⟩
  obtain ⟨n1, hn1⟩ : ∃ n1, len - 1 = n1 := ⟨_, rfl⟩
  have hn2 : n1 + 1 = len := by omega
  have hrl : (rest zs i).length = n1 := by rw [rest_length zs i (by rw [HZ.out]; exact hi), HZ.out]; omega
  have HRL := Lib.hid hrl
  rw [hn1]
  have O3 := Lib.hid o3
  have HB3 := Lib.hid hb3
  have hg3 := (ow_lt o3).2
  have hci : w3.cell? ⟨g, i, none⟩ = some (.int .i64 z) := (hb3.cell (p := ⟨g, i, none⟩) hgl).trans HCI.out
  clear hn1 hrl o3 hb3 e35
  go_wp2_with fail
  have ins := ins_any (w := w3.alloc (.cells #[.int .i64 z] 3)) (w0 := w) (B := w.heap.size) (base := w1.heap.size) (g := g2) (n := n1) (cap := cp2) (j := j) (vb := w3.heap.size) (R := rest zs i) (z := z) (by rw [hn2]; exact World.ownsRow.alloc O3.out _) HRL.out (by omega) (by omega) (heap_alloc_new w3 _) (by omega) (HB3.out.alloc HB3.out.size _) (by omega)
  refine ins.mono ?_
  rintro e w5 ⟨rfl, o5, hb5⟩
  have EZ := Lib.hid (show ((rest zs i).take j ++ [z]) ++ (rest zs i).drop j = mv zs i j by unfold mv; rw [HZI.out])
  have O5 := Lib.hid o5
  have HB5 := Lib.hid hb5
  clear o5 hb5 hci ins
  go_wp2_with fail
  go_ret2
  have e1 : (mv zs i j).length = len := by rw [mv_length zs i j (by rw [HZ.out]; exact hi), HZ.out]
  have o5 := O5.out
  rw [hn2] at o5
  refine ⟨_, rfl, ?_, HB5.out⟩
  rw [e1, ← EZ.out]
  exact Li.own_le o5 hs1
/-- the answer of both -/
def osOf (zs : List Int) (a b : Int) : List Int := if mvOk zs a b = true then mv zs a.toNat b.toNat else []
theorem os_len (zs : List Int) (a b : Int) (hl : zs.length ≤ 1048576) : (osOf zs a b).length ≤ 1048576 := by
  unfold osOf
  cases hx : mvOk zs a b with
  | false => simp
  | true =>
    unfold mvOk at hx
    simp only [Bool.and_eq_true] at hx
    have h1 := (inB_iff _ _).1 hx.1.2
    simp only [if_true]
    rw [mv_length zs _ _ (by omega)]
    exact hl
theorem yes_parts {zs : List Int} {a b : Int} (hx : mvOk zs a b = true) : Ns.good zs = true ∧ ∃ i j : Nat, a = i ∧ b = j ∧ i < zs.length ∧ j < zs.length := by
  unfold mvOk at hx
  simp only [Bool.and_eq_true] at hx
  have h1 := (inB_iff _ _).1 hx.1.2
  have h2 := (inB_iff _ _).1 hx.2
  obtain ⟨i, rfl⟩ := Int.eq_ofNat_of_zero_le h1.1
  obtain ⟨j, rfl⟩ := Int.eq_ofNat_of_zero_le h2.1
  exact ⟨hx.1.1, i, j, rfl, rfl, by omega, by omega⟩
theorem s_fn {b1 g len cap : Nat} {zs : List Int} {w : World} (h : Ow w b1 g len cap zs) (hl : len ≤ 1048576) (a b : Int) :
    Calls Try.prog 15 #[.slice (some ⟨g, 0, none⟩) len cap, .int .i64 a, .int .i64 b] w (Li.Gives (mvOk zs a b) (osOf zs a b) w) := by
  have hz := ow_len h
  unfold osOf
  cases hx : mvOk zs a b with
  | false => exact sNo h hl hx
  | true =>
    obtain ⟨hg, i, j, rfl, rfl, hi, hj⟩ := yes_parts hx
    have h8 : len ≤ 8 := by
      have := hg
      unfold Ns.good at this
      simp only [Bool.and_eq_true, decide_eq_true_eq] at this
      omega
    simpa using sYes h hg h8 (by omega) (by omega)
theorem i_fn {b1 g len cap : Nat} {zs : List Int} {w : World} (h : Ow w b1 g len cap zs) (hl : len ≤ 1048576) (a b : Int) :
    Calls Try.prog 16 #[.slice (some ⟨g, 0, none⟩) len cap, .int .i64 a, .int .i64 b] w (Li.Gives (mvOk zs a b) (osOf zs a b) w) := by
  have hz := ow_len h
  unfold osOf
  cases hx : mvOk zs a b with
  | false => exact iNo h hl hx
  | true =>
    obtain ⟨hg, i, j, rfl, rfl, hi, hj⟩ := yes_parts hx
    have h8 : len ≤ 8 := by
      have := hg
      unfold Ns.good at this
      simp only [Bool.and_eq_true, decide_eq_true_eq] at this
      omega
    simpa using iYes h hg h8 (by omega) (by omega)
end Mv
end Go.Proofs.Ytogkebbgkeffcab
