/- Filled lines, and how many: the program; how many by the model. -/
import Derived.Test.YtbebojahjfnkiaaDoorPb
namespace Go.Proofs.YtbebojahjfnkiaaDoor
open Go.RowKit Go.Joins Go.Deep Go.ChangeShapes Go.WideShapes
set_option linter.unusedVariables false
set_option linter.unusedSimpArgs false
namespace Ln
theorem fits_all {zs : List Int} {wide : Int} (h : fits zs wide = true) : ∀ k, k < zs.length → zs.getD k 0 ≤ wide := by
  unfold fits at h
  simp only [Bool.and_eq_true] at h
  exact fun k hk => ((allB_iff zs 1 wide).1 h.2 k hk).2
set_option maxRecDepth 100000 in
set_option maxHeartbeats 4000000 in
theorem iFill {b1 g len cap : Nat} {zs : List Int} {wide : Int} {w : World} (h : Ow w b1 g len cap zs) (hl : len ≤ 1048576) :
    Calls Tryd.prog 15 #[.slice (some ⟨g, 0, none⟩) len cap, .int .i64 wide] w (Gives (fits zs wide) (flZ zs wide) w) := by
  obtain ⟨v, hv⟩ : ∃ v, fits zs wide = v := ⟨_, rfl⟩
  have C1 := Lib.hid (canBeSet_any h hl v hv)
  rw [hv]
  cases v
  · rw [show flZ zs wide = [] by unfold flZ; rw [hv]; rfl]
    clear h hv
    go_enter Tryd.func15, Tryd.ntmps15
    go_wp2_with fail
    refine C1.out.mono ?_
    rintro e w' ⟨rfl, rfl⟩
    go_wp2
    go_ret2
    exact ⟨_, rfl, World.ownsRow_nil _ _ _ _, Below.refl _ _⟩
  · rw [show flZ zs wide = fillA zs wide 0 by unfold flZ; rw [hv]; rfl]
    have HO := Lib.hid h
    have HK := Lib.hid (fits_ok hv)
    have HW := Lib.hid (fits_all hv)
    have HZ := Lib.hid (ow_len h)
    have h30 : len ≤ 30 := by have := (fits_ok hv).2.1; have := ow_len h; omega
    have hcap := (ow_cap h).1
    have hcm : cap ≤ 9223372036854775807 := by have := (ow_cap h).2; unfold maxLen at this; omega
    obtain ⟨i0, hi, hz0, hz1, hz2⟩ := info_parts Li.info3
    clear h hv
    go_enter Tryd.func15, Tryd.ntmps15
    go_wp2_with fail
    refine C1.out.mono ?_
    rintro e w' ⟨rfl, rfl⟩
    go_wp2
    go_loopw [6, 7] (fun v s wr => ∃ (a o : Nat) (L : List Int), a ≤ len ∧ (o = a ∨ len - a = 0) ∧ L.length ≤ a ∧ s = .slice (some ⟨g, o, none⟩) (len - a) (cap - a) ∧ wr.ownsRow w.heap.size 3 1 v L.length (Li.nums L) ∧ Hid (fillA zs wide 0 = L ++ fillA zs wide a) ∧ Below w.heap.size w wr) (fun _ s _ => lenV s)
    case atStart => exact ⟨0, 0, [], by omega, _root_.Or.inl rfl, by simp, by simp, World.ownsRow_nil _ _ _ _, Lib.hid (by simp), Below.refl _ _⟩
    case round =>
      obtain ⟨a, o, L, ha, hoa, hLa, rfl, hown, HF, hb⟩ := hrel
      have HB := Lib.hid hb
      have hsw := hb.size
      clear hb
      obtain ⟨n, hn⟩ : ∃ n, len - a = n := ⟨_, rfl⟩
      rw [hn] at hoa ⊢
      by_cases hlt : 0 < n
      · obtain rfl : o = a := by omega
        have hO := Li.own_on HO.out HB.out
        have sg := seg_of hO o n (by omega)
        have CM := Lib.hid (mostInLine_any (cap := cap - o) (wide := wide) sg HK.out (by rw [HZ.out]; omega) hlt (by omega) (HW.out o (by rw [HZ.out]; omega)))
        have hcb := cnt_bd zs wide o (by rw [HZ.out]; omega)
        rw [HZ.out] at hcb
        have HST := Lib.hid (fillA_step zs wide o (by rw [HZ.out]; omega))
        obtain ⟨m, hm⟩ : ∃ m, cnt zs wide o = m := ⟨_, rfl⟩
        rw [hm] at CM hcb HST
        obtain ⟨o2, r7, ho2⟩ := cut_run g o n (cap - o) m (m : Int) rfl (by omega) (by omega)
        have HOw := Lib.hid (hown.alloc (.cells #[.int .i64 (m : Int)] 3))
        have HLT := Lib.hid (fun j hj => (hown.lt j hj).1)
        have t0 : decide (0 < n) = true := by simp; omega
        have t1 : decide ((0 : Int) < (n : Int)) = true := by simp; omega
        clear hown hm hO sg hoa
        go_wp2_with (first | (go_at_call 30; refine CM.out.mono ?_; rintro e w' ⟨rfl, rfl⟩) | (at_builtin; refine wpList_append_own _ rfl _ _ 30 rfl w.heap.size 3 i0 (.int .i64 0) 1 8 Tryd.underlying30 hi hz0 hz1 hz2 rfl (by decide) _ _ _ rfl HOw.out ⟨_, 0, none⟩ 1 1 [.int .i64 (m : Int)] rfl rfl (cell_one_new _ _ _) (fun x hx => by simp at hx; subst hx; rfl) (by unfold maxLen; omega) (by omega) (by simp; omega) ?_; intro v3 w3 hown3 hgrow3 _))
        have HB4 := Lib.hid (Below.grown (HB.out.alloc HB.out.size (.cells #[.int .i64 (m : Int)] 3)) hgrow3 (by simp; omega) HLT.out)
        have HO3 := Lib.hid (show w3.ownsRow w.heap.size 3 1 v3 (L ++ [(m : Int)]).length (Li.nums (L ++ [(m : Int)])) by rw [nums_snoc, List.length_append]; exact hown3)
        have HF3 := Lib.hid (show fillA zs wide 0 = (L ++ [(m : Int)]) ++ fillA zs wide (o + m) by rw [HF.out, HST.out]; simp)
        clear hown3 hgrow3
        go_roundw
        case rel => exact ⟨o + m, o2, L ++ [(m : Int)], by omega, by omega, by simp; omega, by first | (congr 1 <;> omega) | trace_state, HO3.out, HF3, HB4.out⟩
        case measure => simp [lenV]; omega
      · have HE := Lib.hid (show fillA zs wide 0 = L by rw [HF.out, fillA_end zs wide a (by rw [HZ.out]; omega), List.append_nil])
        have HOw := Lib.hid hown
        clear hoa hown
        go_wp2
        go_ret2
        exact ⟨_, rfl, by rw [HE.out]; exact HOw.out, HB.out⟩
/-- how many lines, none where words don't fit -/
def clN (zs : List Int) (wide : Int) : Int := ((flZ zs wide).length : Int)
theorem flZ_len (zs : List Int) (wide : Int) (h : zs.length ≤ 1048576) : (flZ zs wide).length ≤ 1048576 := by
  unfold flZ
  split
  · have := fillA_sum zs wide _ 0 (Nat.le_refl _); omega
  · simp
theorem own_val {W : World} {base n : Nat} {v : Value} {xs : List Value} (h : W.ownsRow base 3 1 v n xs) : ∃ a cap, v = .slice a n cap := by
  rcases Li.own_forms h with ⟨rfl, rfl⟩ | ⟨g, cap, rfl⟩ <;> exact ⟨_, _, rfl⟩
theorem rnb {n n' : Int} {ok : Bool} (h : n = n') : Ending.returned (.tuple #[.int .i64 n, .bool ok]) = .returned (.tuple #[.int .i64 n', .bool ok]) := by rw [h]
end Ln
end Go.Proofs.YtbebojahjfnkiaaDoor
