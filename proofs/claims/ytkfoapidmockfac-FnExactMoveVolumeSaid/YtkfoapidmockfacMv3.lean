/- MoveVolume of the model: the list with the volume moved. -/
import Derived.Test.YtkfoapidmockfacMv4
import Derived.Test.YtkfoapidmockfacSo
import Derived.IntWalk
namespace Go.Proofs.Ytkfoapidmockfac
open Go.RowKit Go.Joins Go.Deep
set_option linter.unusedVariables false
set_option linter.ambiguousOpen false
set_option linter.unusedSimpArgs false
namespace Mv
open Sh So
theorem from_run (T : TypeId) (hT : T = 22) (go k cp a : Nat) (ai : Int) (hai : ai = (a : Int)) (ha : a ≤ k) (hc : k ≤ cp) : ∃ ad : Addr, (∀ W, (Instr.slice T (.slice (some ⟨go, 0, none⟩) k cp) (some (.int .i64 ai)) none none).run Try.prog W = .ok (.slice (some ad) (k - a) (cp - a)) W) ∧ ∀ j, j < k - a → ad.add j = ⟨go, a + j, none⟩ := by
  subst hT hai
  refine ⟨if cp = a then ⟨go, 0, none⟩ else ⟨go, a, none⟩, fun W => ?_, fun j hj => ?_⟩
  · rw [run_slice_l W 22 (some ⟨go, 0, none⟩) k cp (by kernel_rfl) .i64 (a : Int) (by omega) (by omega)]
    have e : (sizeOf (Try.prog.elem 22)).run Try.prog W = .ok 1 W := by kernel_rfl
    rw [e]
    simp only [Result.andThen, sliced, Int.toNat_natCast, Nat.mul_one]
    by_cases h : cp = a
    · simp [h]
    · simp [h, Addr.add]
      intro h2
      exact h2.symm
  · rw [if_neg (by omega)]
    by_cases h : j = 0
    · subst h; simp [Addr.add]
    · simp [Addr.add, h]
theorem to_run (T : TypeId) (hT : T = 22) (go k cp a : Nat) (ha : a ≤ cp) (W : World) : (Instr.slice T (.slice (some ⟨go, 0, none⟩) k cp) none (some (.int .i64 (a : Int))) none).run Try.prog W = .ok (.slice (some ⟨go, 0, none⟩) a cp) W := by
  subst hT
  rw [run_slice_h W 22 (some ⟨go, 0, none⟩) k cp (by kernel_rfl) .i64 (a : Int) (by omega) (by omega)]
  have e : (sizeOf (Try.prog.elem 22)).run Try.prog W = .ok 1 W := by kernel_rfl
  rw [e]
  simp [Result.andThen, sliced]
  intro _
  simp [Addr.add]
theorem news_of {W : World} {ad : Addr} {go a m : Nat} {zs : List Int} (had : ∀ j, j < m → ad.add j = ⟨go, a + j, none⟩) (hl : zs.length = a + m) (hc : ∀ j, j < zs.length → W.cell? ⟨go, j, none⟩ = some (.int .i64 (zs.getD j 0))) : ∀ j u, (Li.nums (zs.drop a))[j]? = some u → W.cell? (ad.add j) = some u := by
  intro j u hu
  have hj : j < m := by
    rcases Nat.lt_or_ge j m with h1 | h1
    · exact h1
    · rw [List.getElem?_eq_none (by rw [Li.nums_length, List.length_drop]; omega)] at hu
      cases hu
  rw [had j hj, hc (a + j) (by omega), ← hu]
  have hlt : a + j < zs.length := by omega
  simp [Li.nums, List.getD, List.getElem?_eq_getElem hlt]
theorem take_at {zs : List Int} {i : Nat} (hi : i ≤ zs.length) {j : Nat} (hj : j < i) : (zs.take i).getD j 0 = zs.getD j 0 := by
  simp [List.getD, List.getElem?_take, hj]
set_option maxRecDepth 100000 in
set_option maxHeartbeats 4000000 in
theorem sYes {b1 g len cap i j : Nat} {zs : List Int} {w : World} (h : Ow w b1 g len cap zs) (hg : Ns.good zs = true) (h8 : len ≤ 8) (hi : i < len) (hj : j < len) :
    Calls Try.prog 20 #[.slice (some ⟨g, 0, none⟩) len cap, .int .i64 (i : Int), .int .i64 (j : Int)] w (Li.Gives true (mv zs i j) w) := by
  have hz := ow_len h
  have hcap := (ow_cap h).1
  have hcap2 := (ow_cap h).2
  unfold maxLen at hcap2
  have HOw := Lib.hid h
  have hgl := (ow_lt h).2
  have HZ := Lib.hid hz
  have C1 := Lib.hid (sStands_any h (by omega) true hg)
  have C2 := Lib.hid (fun W => l1In_any (i : Int) 0 ((len : Int) - 1) true (by simp; omega) W)
  have C3 := Lib.hid (fun W => l1In_any (j : Int) 0 ((len : Int) - 1) true (by simp; omega) W)
  obtain ⟨i0, hi0, hz0, hz1, hz2⟩ := info_parts Li.info3
  have e35 : IntKind.i64.wrap ((i : Int) + 1) = (i : Int) + 1 := IntWalk.i64_in _ (by omega)
  have r31 := to_run 22 rfl g len cap i (by omega)
  obtain ⟨ad, r36, had⟩ := from_run 22 rfl g len cap (i + 1) ((i : Int) + 1) (by omega) (by omega) hcap
  have HAD := Lib.hid had
  have CL := Lib.hid (fun (W : World) (hW : Below w.heap.size w W) => l1Own_s g i cap (zs.take i) (by rw [List.length_take]; omega) (by omega) W (Nat.lt_of_lt_of_le hgl hW.size) (fun k hk => by rw [take_at (by omega) hk]; exact ow_cell (Li.own_on HOw.out hW) (by omega)))
  obtain ⟨z, HZI, hci⟩ := ow_at HOw.out hi
  clear h hg hz had
  go_enter Try.func20, Try.ntmps20
  go_wp2_with fail
  refine C1.out.mono ?_
  rintro e w' ⟨rfl, rfl⟩
  go_wp2_with fail
  refine (C2.out _).mono ?_
  rintro e w' ⟨rfl, rfl⟩
  go_wp2_with fail
  refine (C3.out _).mono ?_
  rintro e w' ⟨rfl, rfl⟩
  go_wp2_with fail
  go_region_law (first
    | (go_simp; go_at_call 30; refine (CL.out _ (Below.refl _ w).drew).mono ?_; rintro e w2 ⟨g2, cp2, rfl, o2, hb2⟩; have HB2 := Lib.hid (show Below w.heap.size w w2 from (Below.refl _ w).drew.trans (hb2.mono (Nat.le_refl _))); have HN2 := Lib.hid (news_of (W := w2) HAD.out (by rw [HZ.out]; omega) (fun k hk => ow_cell (Li.own_on HOw.out HB2.out) (by rw [HZ.out] at hk; exact hk))); go_wp2_with fail)
    | (refine step_append_own rfl (.tmp 32) (.tmp 36) 22 rfl w.heap.size 3 i0 (.int .i64 0) 1 8 Try.underlying22 hi0 hz0 hz1 hz2 rfl (by decide) (.slice (some ⟨g2, 0, none⟩) i cp2) i (Li.nums (zs.take i)) (by simp [Act.eval, Act.put]) o2 ad (len - (i + 1)) (cap - (i + 1)) (Li.nums (zs.drop (i + 1))) (by simp [Act.eval, Act.put]) (by rw [Li.nums_length, List.length_drop, HZ.out]; omega) HN2.out (nums_one _) (by unfold maxLen; omega) (by omega) (by have := HB2.out.size; omega) ?_; intro v3 w3 o3 hg3 hn3; obtain ⟨g3, cp3, rfl⟩ := some_of_not o3 (fun e => by have := (hn3.1 e).1; injection this with h1; cases h1); have HO2 := Lib.hid o2))
  have HB3 := Lib.hid (HB2.out.grown hg3 HB2.out.size (fun k hk => by have := (HO2.out.lt k hk).1; exact this))
  generalize hn1 : i + (len - (i + 1)) = n1 at *
  have hn2 : n1 + 1 = len := by omega
  have hrl : (rest zs i).length = n1 := by rw [rest_length zs i (by rw [HZ.out]; exact hi), HZ.out]; omega
  have R3 := Lib.hid (show Ow w3 w.heap.size g3 n1 cp3 (rest zs i) from by unfold Ow rest; rw [nums_app]; exact o3)
  have hc3 := (ow_cap R3.out).1
  have hc4 := (ow_cap R3.out).2
  unfold maxLen at hc4
  have hg3l := (ow_lt R3.out).2
  have HRL := Lib.hid hrl
  have r40 := to_run 22 rfl g3 n1 cp3 j (by omega)
  obtain ⟨ad2, r51, had2⟩ := from_run 22 rfl g3 n1 cp3 j (j : Int) rfl (by omega) hc3
  have HAD2 := Lib.hid had2
  have CL2 := Lib.hid (fun (W : World) (hW : Below w3.heap.size w3 W) => l1Own_s g3 j cp3 ((rest zs i).take j) (by rw [List.length_take, HRL.out]; omega) (by omega) W (Nat.lt_of_lt_of_le hg3l hW.size) (fun k hk => by rw [take_at (by rw [HRL.out]; omega) hk]; exact ow_cell (Li.own_on R3.out hW) (by omega)))
  have hci3 : w3.cell? ⟨g, i, none⟩ = some (.int .i64 z) := (HB3.out.cell (p := ⟨g, i, none⟩) hgl).trans hci
  have HCI := Lib.hid hci
  clear o3 hg3 hn3 had2 hrl o2 hb2 hci hn1 r31 r36 e35
  go_wp2_with fail
  go_region_law (first
    | (go_simp; go_at_call 30; first
        | (refine (CL2.out _ (Below.refl _ w3).drew).mono ?_; rintro e w4 ⟨g4, cp4, rfl, o4, hb4⟩; have O4 := Lib.hid (Li.own_le o4 (show w3.heap.size ≤ w3.drew.heap.size from Nat.le_refl _)); have HB4 := Lib.hid (show Below w3.heap.size w3 w4 from (Below.refl _ w3).drew.trans (hb4.mono (Nat.le_refl _))); have hci4 : w4.cell? ⟨g, i, none⟩ = some (.int .i64 z) := ((HB3.out.trans (HB4.out.mono HB3.out.size)).cell (p := ⟨g, i, none⟩) hgl).trans HCI.out; go_wp2_with fail)
        | (refine (CL2.out _ ((Below.refl _ w3).drew.alloc (Nat.le_refl _) _)).mono ?_; rintro e w4 ⟨g4, cp4, rfl, o4, hb4⟩; have O4 := Lib.hid (Li.own_le o4 (show w3.heap.size ≤ _ by simp)); have HB4 := Lib.hid (show Below w3.heap.size w3 w4 from ((Below.refl _ w3).drew.alloc (Nat.le_refl _) _).trans (hb4.mono (by simp))); have HNX := Lib.hid (show ∀ k u, ([Value.int .i64 z] : List Value)[k]? = some u → w4.cell? ((⟨w3.heap.size, 0, none⟩ : Addr).add k) = some u from fun k u hu => (hb4.cell (p := (⟨w3.heap.size, 0, none⟩ : Addr).add k) (by simp [Addr.add]; split <;> simp)).trans (cell_one_new w3.drew _ _ k u hu)); go_wp2_with fail))
    | (refine step_append_own rfl (.tmp 41) (.tmp 46) 22 rfl w3.heap.size 3 i0 (.int .i64 0) 1 8 Try.underlying22 hi0 hz0 hz1 hz2 rfl (by decide) (.slice (some ⟨g4, 0, none⟩) j cp4) j (Li.nums ((rest zs i).take j)) (by simp [Act.eval, Act.put]) (World.ownsRow.alloc O4.out _) ⟨w4.heap.size, 0, none⟩ 1 1 [.int .i64 z] (by simp [Act.eval, Act.put]) rfl (cell_one_new _ _ _) (fun u hu => by simp at hu; subst hu; rfl) (by unfold maxLen; omega) (by omega) (by have := HB4.out.size; simp; omega) ?_; intro v5 w5 o5 hg5 hn5; obtain ⟨g5, cp5, rfl⟩ := some_of_not o5 (fun e => by have := (hn5.1 e).1; injection this with h1; cases h1); have BX := (HB4.out.alloc HB4.out.size (.cells #[.int .i64 z] 3)))
    | (refine step_append_own rfl (.tmp 41) (.tmp 46) 22 rfl w3.heap.size 3 i0 (.int .i64 0) 1 8 Try.underlying22 hi0 hz0 hz1 hz2 rfl (by decide) (.slice (some ⟨g4, 0, none⟩) j cp4) j (Li.nums ((rest zs i).take j)) (by simp [Act.eval, Act.put]) O4.out ⟨w3.heap.size, 0, none⟩ 1 1 [.int .i64 z] (by simp [Act.eval, Act.put]) rfl HNX.out (fun u hu => by simp at hu; subst hu; rfl) (by unfold maxLen; omega) (by omega) (by have := HB4.out.size; omega) ?_; intro v5 w5 o5 hg5 hn5; obtain ⟨g5, cp5, rfl⟩ := some_of_not o5 (fun e => by have := (hn5.1 e).1; injection this with h1; cases h1); have BX := HB4.out))
  all_goals
    have HG4 := (O4.out.lt g4 rfl).1
    have R5 := Lib.hid (World.ownsRow.kept (Li.own_on R3.out BX) hg5 (_root_.Or.inr (fun e => by have e2 : some g3 = some g4 := e; injection e2 with e3; omega)))
    have hb5 := HB3.out.trans (BX.mono HB3.out.size)
    have HB5 := Lib.hid (hb5.grown hg5 hb5.size (fun k hk => by have := (O4.out.lt k hk).1; have := HB3.out.size; omega))
    have O5 := Lib.hid o5
    have hws : w3.heap.size ≤ w5.heap.size := Nat.le_trans BX.size hg5.size
    have HN := Lib.hid (news_of (W := w5) HAD2.out (by rw [HRL.out]; omega) (fun k hk => ow_cell R5.out (by rw [HRL.out] at hk; exact hk)))
    clear o5 hg5 hn5 BX hb5 hci3
    try clear hci4
    try clear hb4 o4
    go_wp2_with (first | (at_builtin; refine wpList_append_own _ rfl _ _ 22 rfl w3.heap.size 3 i0 (.int .i64 0) 1 8 Try.underlying22 hi0 hz0 hz1 hz2 rfl (by decide) _ _ _ rfl O5.out ad2 (n1 - j) (cp3 - j) (Li.nums ((rest zs i).drop j)) rfl (by rw [Li.nums_length, List.length_drop, HRL.out]; omega) HN.out (nums_one _) (by unfold maxLen; omega) (by omega) hws ?_; intro v6 w6 o6 hg6 hn6))
    go_ret2
    refine ⟨v6, rfl, ?_, ?_⟩
    · have e1 : (mv zs i j).length = j + 1 + (n1 - j) := by rw [mv_length zs i j (by rw [HZ.out]; exact hi), HZ.out]; omega
      have e2 : Li.nums (mv zs i j) = (Li.nums ((rest zs i).take j) ++ [.int .i64 z]) ++ Li.nums ((rest zs i).drop j) := by
        unfold mv
        rw [nums_app, nums_app, HZI.out]
        rfl
      rw [e1, e2]
      exact Li.own_le o6 HB3.out.size
    · exact HB5.out.grown hg6 HB5.out.size (fun k hk => by have := (O5.out.lt k hk).1; have := HB3.out.size; omega)
end Mv
end Go.Proofs.Ytkfoapidmockfac
