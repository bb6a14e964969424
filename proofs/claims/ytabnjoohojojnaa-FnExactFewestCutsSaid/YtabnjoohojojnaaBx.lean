/- A list as a book of leaves. -/
import Derived.Test.YtabnjoohojojnaaBi
namespace Go.Proofs.Ytabnjoohojojnaa
open Go.RowKit Go.Joins Go.Deep Go.ChangeShapes Go.WideShapes
set_option linter.unusedVariables false
set_option linter.unusedSimpArgs false
namespace Ln
set_option maxRecDepth 100000 in
set_option maxHeartbeats 1000000 in
theorem bookOf_no {b1 g len cap : Nat} {zs : List Int} {w : World} (h : Ow w b1 g len cap zs) (hl : len ≤ 1048576) (hv : bnd zs = false) :
    Calls Try.prog 52 #[.slice (some ⟨g, 0, none⟩) len cap] w fun e w' => e = .returned (.tuple #[.agg (bkA 0 []), .bool false]) ∧ Below w.heap.size w w' := by
  have C1 := Lib.hid (fun (W : World) (hb : Below w.heap.size w W) => iBinding_any (Li.own_on h hb) hl false hv)
  clear h hv
  go_enter Try.func52, Try.ntmps52
  go_wp2_with fail
  refine (C1.out _ (below_alloc1 _ _)).mono ?_
  rintro e w' ⟨rfl, rfl⟩
  go_wp2_with (first | (with_reducible refine wpList_store_new rfl (.tmp 2) (.tmp 10) rfl (fun _ => 0) (fun _ => false) 0 rfl w.heap.size rfl rfl rfl ?_))
  exact ret_book rfl rfl rfl (arr_new _ (bkA 0 []) _ rfl) rfl ⟨rfl, below_alloc1 _ _⟩
set_option maxRecDepth 100000 in
set_option maxHeartbeats 4000000 in
theorem bookOf_yes {b1 g len cap : Nat} {zs : List Int} {w : World} (h : Ow w b1 g len cap zs) (hl : len ≤ 1048576) (hv : bnd zs = true) :
    Calls Try.prog 52 #[.slice (some ⟨g, 0, none⟩) len cap] w fun e w' => e = .returned (.tuple #[.agg (bkA len zs), .bool true]) ∧ Below w.heap.size w w' := by
  have C1 := Lib.hid (fun (W : World) (hb : Below w.heap.size w W) => iBinding_any (Li.own_on h hb) hl true hv)
  have hz := ow_len h
  have B := (bnd_iff zs).1 hv
  have h8 : len ≤ 8 := by have := B.2.1; omega
  have b8 := bnd_8 B
  rw [hz] at b8
  have HK := Lib.hid b8
  have HO := Lib.hid h
  have HT := Lib.hid (show zs.take len = zs from List.take_of_length_le (by omega))
  clear h hv hz B b8
  go_enter Try.func52, Try.ntmps52
  go_wp2_with fail
  refine (C1.out _ (below_alloc1 _ _)).mono ?_
  rintro e w' ⟨rfl, rfl⟩
  go_wp2_with (first | (with_reducible refine wpList_store_new rfl (.tmp 4) (.tmp 13) rfl (fun _ => 0) (fun _ => false) (len : Int) rfl (w.heap.size + 1) (by simp) rfl rfl ?_))
  go_loopw [16] (fun i wr => ∃ k : Nat, k ≤ len ∧ i = .int .i64 (k : Int) ∧ Hid (Arr wr w.heap.size 54 (bkA 0 [])) ∧ Hid (Arr wr (w.heap.size + 1) 54 (bkA len (zs.take k))) ∧ Hid (Below w.heap.size w wr)) (fun i _ => ((len : Int) - intOf i).toNat)
  case atStart => 
    refine ⟨0, by omega, rfl, Lib.hid ?_, Lib.hid ?_, Lib.hid ?_⟩
    · exact (arr_new w _ _ rfl).on (below_alloc1 _ _)
    · exact arr_new _ _ _ (by simp)
    · exact (below_alloc1 _ _).alloc (by simp) _
  case round =>
    obtain ⟨k, hk, rfl, HZ, HA, HB⟩ := hrel
    by_cases hlt : (k : Int) < len
    · obtain ⟨z, HZK, hc⟩ := ow_at (Li.own_on HO.out HB.out) (k := k) (by omega)
      have hzb := HK.out k (by omega)
      rw [HZK.out] at hzb
      have z1 := hzb.1
      have z2 := hzb.2
      clear hzb
      by_cases c : z < 0
      · have q0 := HA.out.cell (A17_num (nb (zs.take k)) (tb (zs.take k)) (len : Int) k (by omega))
        have q1 := HA.out.cell (A17_mark (nb (zs.take k)) (tb (zs.take k)) (len : Int) k (by omega))
        have hfz := fun j => HA.out.frozen j
        have A1 := HA.out.set (k * 2) (.int .i64 (-z))
        rw [A17_setN _ _ _ _ k (by omega)] at A1
        have q2 := A1.frozen (k * 2 + 1)
        have q3 := A1.cell (A17_mark _ _ (len : Int) k (by omega))
        have A2 := A1.set (k * 2 + 1) (.bool true)
        rw [A17_setM _ _ _ _ k (by omega)] at A2
        have HA2 := Lib.hid (show Arr ((wr.setCell ⟨w.heap.size + 1, k * 2, none⟩ (.int .i64 (-z))).setCell ⟨w.heap.size + 1, k * 2 + 1, none⟩ (.bool true)) (w.heap.size + 1) 54 (bkA len (zs.take (k + 1))) by
          rw [← bk_step len zs k, show nb zs k = (-z) by unfold nb ab; rw [HZK.out, if_neg (by omega)], show tb zs k = true by unfold tb; rw [HZK.out]; simpa using c]
          exact A2)
        have HB2 := Lib.hid ((HB.out.setCell (p := ⟨w.heap.size + 1, k * 2, none⟩) (by simp) (.int .i64 (-z))).setCell (p := ⟨w.heap.size + 1, k * 2 + 1, none⟩) (by simp) (.bool true))
        have HZ2 := Lib.hid (arr_other (arr_other HZ.out (b' := w.heap.size + 1) (by omega) (k * 2) (.int .i64 (-z))) (b' := w.heap.size + 1) (by omega) (k * 2 + 1) (.bool true))
        have t1 : decide (z < 0) = true := by simpa using c
        have t2 : z < -z := by omega
        clear A1 A2
        go_wp2
        go_roundw
        case rel => exact ⟨k + 1, by omega, by go_num, HZ2, HA2, HB2⟩
        case measure => simp [intOf]; omega
      · have q0 := HA.out.cell (A17_num (nb (zs.take k)) (tb (zs.take k)) (len : Int) k (by omega))
        have q1 := HA.out.cell (A17_mark (nb (zs.take k)) (tb (zs.take k)) (len : Int) k (by omega))
        have hfz := fun j => HA.out.frozen j
        have A1 := HA.out.set (k * 2) (.int .i64 z)
        rw [A17_setN _ _ _ _ k (by omega)] at A1
        have q2 := A1.frozen (k * 2 + 1)
        have q3 := A1.cell (A17_mark _ _ (len : Int) k (by omega))
        have A2 := A1.set (k * 2 + 1) (.bool false)
        rw [A17_setM _ _ _ _ k (by omega)] at A2
        have HA2 := Lib.hid (show Arr ((wr.setCell ⟨w.heap.size + 1, k * 2, none⟩ (.int .i64 z)).setCell ⟨w.heap.size + 1, k * 2 + 1, none⟩ (.bool false)) (w.heap.size + 1) 54 (bkA len (zs.take (k + 1))) by
          rw [← bk_step len zs k, show nb zs k = z by unfold nb ab; rw [HZK.out, if_pos (by omega)], show tb zs k = false by unfold tb; rw [HZK.out]; simpa using c]
          exact A2)
        have HB2 := Lib.hid ((HB.out.setCell (p := ⟨w.heap.size + 1, k * 2, none⟩) (by simp) (.int .i64 z)).setCell (p := ⟨w.heap.size + 1, k * 2 + 1, none⟩) (by simp) (.bool false))
        have HZ2 := Lib.hid (arr_other (arr_other HZ.out (b' := w.heap.size + 1) (by omega) (k * 2) (.int .i64 z)) (b' := w.heap.size + 1) (by omega) (k * 2 + 1) (.bool false))
        have t1 : decide (z < 0) = false := by simpa using c
        have t2 : ¬ z < -z := by omega
        clear A1 A2
        go_wp2
        go_roundw
        case rel => exact ⟨k + 1, by omega, by go_num, HZ2, HA2, HB2⟩
        case measure => simp [intOf]; omega
    · have e : k = len := by omega
      subst e
      have HA3 := HA.out
      rw [HT.out] at HA3
      have HA4 := Lib.hid HA3
      have W1 := Lib.hid (wr17_arr (nb zs) (tb zs) (k : Int) HZ.out)
      have W2 := Lib.hid (wr17_below HB.out (Nat.le_refl _) (nb zs) (tb zs) (k : Int))
      clear HA3
      go_wp2_with (first | (with_reducible refine wpList_load17 rfl (.tmp 4) rfl (w.heap.size + 1) rfl HA4.out ?_) | (with_reducible refine wpList_store17 rfl (.tmp 2) (.tmp 32) rfl w.heap.size (nb zs) (tb zs) (k : Int) rfl rfl HZ.out ?_))
      exact ret_book rfl rfl rfl W1.out rfl ⟨rfl, W2.out⟩
end Ln
end Go.Proofs.Ytabnjoohojojnaa
