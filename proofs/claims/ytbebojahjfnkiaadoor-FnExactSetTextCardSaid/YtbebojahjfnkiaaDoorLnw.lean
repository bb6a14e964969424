/- What lnFill answers: the filled lines, in new memory. -/
import Derived.Test.YtbebojahjfnkiaaDoorLnf
namespace Go.Proofs.YtbebojahjfnkiaaDoor
open Go.RowKit Go.Joins Go.Deep Go.ChangeShapes Go.WideShapes
set_option linter.unusedVariables false
set_option linter.unusedSimpArgs false
namespace Ln
def lenV : Value → Nat
  | .slice _ n _ => n
  | _ => 0
theorem cntF_more {zs : List Int} {wide : Int} {a m len : Nat} (h : m + 1 ≤ len - a) (hn : need zs a (a + m + 1) ≤ wide) : cntF zs wide a (len - a - m) m = cntF zs wide a (len - a - (m + 1)) (m + 1) := by
  obtain ⟨d, hd⟩ : ∃ d, len - a - m = d + 1 := ⟨len - a - m - 1, by omega⟩
  rw [hd, show len - a - (m + 1) = d by omega]
  show (if _ then _ else _) = _
  rw [if_pos hn]
theorem cntF_stop {zs : List Int} {wide : Int} {a m len : Nat} (h : m + 1 ≤ len - a) (hn : ¬ need zs a (a + m + 1) ≤ wide) : cntF zs wide a (len - a - m) m = m := by
  obtain ⟨d, hd⟩ : ∃ d, len - a - m = d + 1 := ⟨len - a - m - 1, by omega⟩
  rw [hd]
  show (if _ then _ else _) = _
  rw [if_neg hn]
theorem cntF_all {zs : List Int} {wide : Int} {a m len : Nat} (h : ¬ m + 1 ≤ len - a) : cntF zs wide a (len - a - m) m = m := by
  rw [show len - a - m = 0 by omega]; rfl
theorem nums_snoc (zs : List Int) (v : Int) : Li.nums (zs ++ [v]) = Li.nums zs ++ [.int .i64 v] := by simp [Li.nums]
set_option maxRecDepth 100000 in
set_option maxHeartbeats 4000000 in
theorem lnFill_any {b1 g len cap : Nat} {zs : List Int} {wide : Int} {w : World} (h : Ow w b1 g len cap zs) (ho : Ok zs) :
    Calls Tryd.prog 13 #[.slice (some ⟨g, 0, none⟩) len cap, .int .i64 wide] w fun e w' => ∃ v, e = .returned v ∧ w'.ownsRow w.heap.size 3 1 v (fillA zs wide 0).length (Li.nums (fillA zs wide 0)) ∧ Below w.heap.size w w' := by
  have HO := Lib.hid h
  have HK := Lib.hid ho
  have HZ := Lib.hid (ow_len h)
  have h30 : len ≤ 30 := by have := ho.2.1; have := ow_len h; omega
  have hcap := (ow_cap h).1
  have hcm : cap ≤ 9223372036854775807 := by have := (ow_cap h).2; unfold maxLen at this; omega
  obtain ⟨i0, hi, hz0, hz1, hz2⟩ := info_parts Li.info3
  clear h ho
  go_enter Tryd.func13, Tryd.ntmps13
  go_wp2
  go_loopw [0, 5] (fun s v wr => ∃ (a o : Nat) (L : List Int), a ≤ len ∧ (o = a ∨ len - a = 0) ∧ L.length ≤ a ∧ s = .slice (some ⟨g, o, none⟩) (len - a) (cap - a) ∧ wr.ownsRow w.heap.size 3 1 v L.length (Li.nums L) ∧ Hid (fillA zs wide 0 = L ++ fillA zs wide a) ∧ Below w.heap.size w wr) (fun s _ _ => lenV s)
  case atStart => exact ⟨0, 0, [], by omega, _root_.Or.inl rfl, by simp, by simp, World.ownsRow_nil _ _ _ _, Lib.hid (by simp), Below.refl _ _⟩
  case round =>
    obtain ⟨a, o, L, ha, hoa, hLa, rfl, hown, HF, hb⟩ := hrel
    have HB := Lib.hid hb
    have hsw := hb.size
    clear hb
    obtain ⟨n, hn⟩ : ∃ n, len - a = n := ⟨_, rfl⟩
    rw [hn] at hoa ⊢
    by_cases hlt : 0 < n
    · obtain rfl : o = a := by omega
      obtain ⟨C, hC⟩ : ∃ C, cnt zs wide o = C := ⟨_, rfl⟩
      have HC := Lib.hid hC
      have HST := Lib.hid (fillA_step zs wide o (by rw [HZ.out]; omega))
      rw [hC] at HST
      clear hC hoa
      have t0 : decide (0 < n) = true := by simp; omega
      have t1 : decide ((0 : Int) < (n : Int)) = true := by simp; omega
      go_wp2
      go_loopw [6] (fun i wi => wi = wr ∧ ∃ m : Nat, 1 ≤ m ∧ m ≤ n ∧ i = .int .i64 (m : Int) ∧ Hid (cntF zs wide o (len - o - m) m = C)) (fun i _ => ((n : Int) - intOf i).toNat)
      case atStart => exact ⟨rfl, 1, by omega, by omega, rfl, Lib.hid (by rw [← HC.out]; unfold cnt; rw [HZ.out])⟩
      case round =>
        obtain ⟨rfl, m, hm1, hmn, rfl, HM⟩ := hrel
        by_cases hm : (m : Int) < (n : Int)
        · have hO := Li.own_on HO.out HB.out
          have sg := seg_of hO o (m + 1) (by omega)
          have CN := Lib.hid (lnNeed_any (cap := cap - o) sg HK.out (by omega) (by rw [HZ.out]; omega))
          have r1 : ∀ W : World, (Instr.slice 30 (.slice (some ⟨g, o, none⟩) n (cap - o)) none (some (.int .i64 ((m : Int) + 1))) none).run Tryd.prog W = .ok (.slice (some ⟨g, o, none⟩) (m + 1) (cap - o)) W := fun W => by
            have := to_run g o n (cap - o) (m + 1) (by omega) W
            rwa [Int.natCast_succ] at this
          have HX := Lib.hid (@cntF_more zs wide o m len (by omega))
          have HY := Lib.hid (@cntF_stop zs wide o m len (by omega))
          rw [show o + (m + 1) = o + m + 1 by omega] at CN
          obtain ⟨N, hN⟩ : ∃ N, need zs o (o + m + 1) = N := ⟨_, rfl⟩
          rw [hN] at CN HX HY
          clear hN sg hO
          by_cases hle : N ≤ wide
          · have HM2 := Lib.hid (show cntF zs wide o (len - o - (m + 1)) (m + 1) = C by rw [← HX.out hle]; exact HM.out)
            clear HX HY
            go_wp2_with (first | (go_at_call 25; refine CN.out.mono ?_; rintro e w' ⟨rfl, rfl⟩))
            go_roundw
            case rel => exact ⟨trivial, m + 1, by omega, by omega, by go_num, HM2⟩
            case measure => simp [intOf]; omega
          · have HM2 := Lib.hid (show m = C by rw [← HM.out, HY.out hle])
            clear HX HY
            obtain ⟨o2, r7, ho2⟩ := cut_run g o n (cap - o) m (m : Int) rfl (by omega) (by omega)
            have hsw2 := hsw
            have HOw := Lib.hid (hown.alloc (.cells #[.int .i64 (m : Int)] 3))
            have HLT := Lib.hid (fun j hj => (hown.lt j hj).1)
            clear hown
            go_wp2_with (first | (go_at_call 25; refine CN.out.mono ?_; rintro e w' ⟨rfl, rfl⟩) | (at_builtin; refine wpList_append_own _ rfl _ _ 30 rfl w.heap.size 3 i0 (.int .i64 0) 1 8 Tryd.underlying30 hi hz0 hz1 hz2 rfl (by decide) _ _ _ rfl HOw.out ⟨_, 0, none⟩ 1 1 [.int .i64 (m : Int)] rfl rfl (cell_one_new _ _ _) (fun x hx => by simp at hx; subst hx; rfl) (by unfold maxLen; omega) (by omega) (by simp; omega) ?_; intro v3 w3 hown3 hgrow3 _))
            have HB4 := Lib.hid (Below.grown (HB.out.alloc HB.out.size (.cells #[.int .i64 (m : Int)] 3)) hgrow3 (by simp; omega) HLT.out)
            have HO3 := Lib.hid (show w3.ownsRow w.heap.size 3 1 v3 (L ++ [(m : Int)]).length (Li.nums (L ++ [(m : Int)])) by rw [nums_snoc, List.length_append]; exact hown3)
            have HF3 := Lib.hid (show fillA zs wide 0 = (L ++ [(m : Int)]) ++ fillA zs wide (o + m) by rw [HF.out, HST.out, HM2.out]; simp)
            clear hown3 hgrow3
            go_roundw
            case rel => exact ⟨o + m, o2, L ++ [(m : Int)], by omega, by omega, by simp; omega, by first | (congr 1 <;> omega) | trace_state, HO3.out, HF3, HB4.out⟩
            case measure => simp [lenV]; omega
        · have HM2 := Lib.hid (show m = C by rw [← HM.out, cntF_all (by omega)])
          obtain ⟨o2, r7, ho2⟩ := cut_run g o n (cap - o) m (m : Int) rfl (by omega) (by omega)
          have hsw2 := hsw
          have HOw := Lib.hid (hown.alloc (.cells #[.int .i64 (m : Int)] 3))
          have HLT := Lib.hid (fun j hj => (hown.lt j hj).1)
          clear hown
          go_wp2_with (first | (at_builtin; refine wpList_append_own _ rfl _ _ 30 rfl w.heap.size 3 i0 (.int .i64 0) 1 8 Tryd.underlying30 hi hz0 hz1 hz2 rfl (by decide) _ _ _ rfl HOw.out ⟨_, 0, none⟩ 1 1 [.int .i64 (m : Int)] rfl rfl (cell_one_new _ _ _) (fun x hx => by simp at hx; subst hx; rfl) (by unfold maxLen; omega) (by omega) (by simp; omega) ?_; intro v3 w3 hown3 hgrow3 _))
          have HB4 := Lib.hid (Below.grown (HB.out.alloc HB.out.size (.cells #[.int .i64 (m : Int)] 3)) hgrow3 (by simp; omega) HLT.out)
          have HO3 := Lib.hid (show w3.ownsRow w.heap.size 3 1 v3 (L ++ [(m : Int)]).length (Li.nums (L ++ [(m : Int)])) by rw [nums_snoc, List.length_append]; exact hown3)
          have HF3 := Lib.hid (show fillA zs wide 0 = (L ++ [(m : Int)]) ++ fillA zs wide (o + m) by rw [HF.out, HST.out, HM2.out]; simp)
          clear hown3 hgrow3
          go_roundw
          case rel => exact ⟨o + m, o2, L ++ [(m : Int)], by omega, by omega, by simp; omega, by first | (congr 1 <;> omega) | trace_state, HO3.out, HF3, HB4.out⟩
          case measure => simp [lenV]; omega
    · have HE := Lib.hid (show fillA zs wide 0 = L by rw [HF.out, fillA_end zs wide a (by rw [HZ.out]; omega), List.append_nil])
      clear hoa
      have HOw := Lib.hid hown
      clear hown
      go_wp2
      go_ret
      exact ⟨_, rfl, by rw [HE.out]; exact HOw.out, HB.out⟩
end Ln
end Go.Proofs.YtbebojahjfnkiaaDoor
