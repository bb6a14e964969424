/- What a line needs, how many words it takes, and filled lines: the program. -/
import Derived.Test.YtbebojahjfnkiaaDoorPa
import Derived.Test.YtbebojahjfnkiaaDoorLm
import Derived.Shelf.Abstract
namespace Go.Proofs.YtbebojahjfnkiaaDoor
open Go.RowKit Go.Joins Go.Deep Go.ChangeShapes Go.WideShapes
set_option linter.unusedVariables false
set_option linter.unusedSimpArgs false
namespace Ln
theorem wcl_any (z : Int) (h1 : -1000000 ≤ z) (h2 : z ≤ 1000000) (w : World) :
    Calls Tryd.prog 48 #[.int .i64 z] w fun e w' => e = .returned (.int .i64 (z + 1)) ∧ w = w' := by
  go_enter Tryd.func48, Tryd.ntmps48
  go_wp2
  go_ret
  exact ⟨rfl, rfl⟩
set_option maxRecDepth 100000 in
set_option maxHeartbeats 1000000 in
theorem wsum_any {g off n cap : Nat} {zs : List Int} {w : World} (h : Seg w g off n zs) (ho : Ok zs) (h1 : 1 ≤ n) (hn : off + n ≤ zs.length) :
    Calls Tryd.prog 47 #[.slice (some ⟨g, off, none⟩) n cap, .func (.func 48) #[] #[]] w fun e w' => e = .returned (.int .i64 ((n : Int) + (psum zs (off + n) - psum zs off))) ∧ w = w' := by
  have HS := Lib.hid h
  have HB := Lib.hid (fun k (hk : k ≤ n) => psum_ok ho off (off + k) (by omega) (by omega))
  have HW := Lib.hid ho.2.2
  have hl := ho.2.1
  have eg : ∀ args w, (callFunc 48 args).run Tryd.prog w = .ok (.enter 48 args) w := enters_of Tryd.func48 (by kernel_rfl) rfl
  clear h ho
  go_enter Tryd.func47, Tryd.ntmps47
  go_wp2
  go_loop [5, 10] (fun s i => ∃ (k : Nat) (S : Int), k ≤ n ∧ i = .int .i64 (k : Int) ∧ s = .int .i64 S ∧ Hid (S = (k : Int) + (psum zs (off + k) - psum zs off))) (fun _ i => ((n : Int) - intOf i).toNat)
  case atStart => exact ⟨0, 0, by omega, rfl, by first | rfl | go_num, Lib.hid (by simp)⟩
  case round =>
    obtain ⟨k, S, hk, rfl, rfl, HE⟩ := hrel
    have b := HB.out k hk
    have e := HE.out
    have s1 : 0 ≤ S := by omega
    have s2 : S ≤ 2430 := by omega
    clear b e
    by_cases hlt : (k : Int) < n
    · obtain ⟨z, HZ, hc⟩ := seg_at HS.out (k := k) (by omega)
      have hz := HW.out (off + k) (by omega)
      rw [HZ.out] at hz
      have z1 := hz.1
      have z2 := hz.2
      have HN := Lib.hid (show S + (z + 1) = ((k + 1 : Nat) : Int) + (psum zs (off + (k + 1)) - psum zs off) by rw [show off + (k + 1) = (off + k) + 1 by omega, psum_step, HZ.out, HE.out]; omega)
      have C := Lib.hid (wcl_any z (by omega) (by omega) w)
      clear hz
      go_wp2_with fail
      refine C.out.mono ?_
      rintro e w' ⟨rfl, rfl⟩
      go_wp2
      go_round
      case rel => exact ⟨k + 1, S + (z + 1), by omega, by go_num, by first | rfl | go_num, HN⟩
      case measure => simp [intOf]; omega
    · have ek : k = n := by omega
      have HF := Lib.hid (show (n : Int) + (psum zs (off + n) - psum zs off) = S by rw [HE.out, ek])
      clear ek
      go_wp2
      go_ret
      exact ⟨ret_n HF.out.symm, rfl⟩
theorem widthOfLine_any {g off n cap : Nat} {zs : List Int} {w : World} (h : Seg w g off n zs) (ho : Ok zs) (h1 : 1 ≤ n) (hn : off + n ≤ zs.length) :
    Calls Tryd.prog 40 #[.slice (some ⟨g, off, none⟩) n cap] w fun e w' => e = .returned (.int .i64 (need zs off (off + n))) ∧ w = w' := by
  have C := Lib.hid (wsum_any (cap := cap) h ho h1 hn)
  have b := psum_ok ho off (off + n) (by omega) (by omega)
  have hl := ho.2.1
  have HE := Lib.hid (show need zs off (off + n) = (n : Int) + (psum zs (off + n) - psum zs off) - 1 by unfold need; omega)
  obtain ⟨D, hD⟩ : ∃ D, psum zs (off + n) - psum zs off = D := ⟨_, rfl⟩
  rw [hD] at C HE b
  clear h ho hD
  go_enter Tryd.func40, Tryd.ntmps40
  go_wp2_with fail
  refine C.out.mono ?_
  rintro e w' ⟨rfl, rfl⟩
  go_wp2
  go_ret
  exact ⟨ret_n HE.out.symm, rfl⟩

set_option maxRecDepth 100000 in
set_option maxHeartbeats 2000000 in
theorem mostInLine_any {g o n cap : Nat} {zs : List Int} {wide : Int} {w : World} (h : Seg w g o n zs) (ho : Ok zs) (hn : o + n = zs.length) (h1 : 1 ≤ n) (hc : n ≤ cap) (hw : zs.getD o 0 ≤ wide) :
    Calls Tryd.prog 30 #[.slice (some ⟨g, o, none⟩) n cap, .int .i64 wide] w fun e w' => e = .returned (.int .i64 ((cnt zs wide o : Nat) : Int)) ∧ w = w' := by
  have HS := Lib.hid h
  have HK := Lib.hid ho
  have HC := Lib.hid (cnt_zero (zs := zs) (wide := wide) (a := o) (by omega) hw)
  have HNN := Lib.hid hn
  have hl := ho.2.1
  have hn30 : n ≤ 30 := by omega
  clear h ho hw hl
  go_enter Tryd.func30, Tryd.ntmps30
  go_wp2
  go_loopw [5] (fun i wi => wi = w ∧ ∃ m : Nat, m ≤ n ∧ i = .int .i64 (m : Int) ∧ Hid (cntF zs wide o (zs.length - o - m) m = cnt zs wide o)) (fun i _ => ((n : Int) - intOf i).toNat)
  case atStart => exact ⟨rfl, 0, by omega, rfl, Lib.hid (by rw [← HC.out]; rfl)⟩
  case round =>
    obtain ⟨rfl, m, hmn, rfl, HM⟩ := hrel
    by_cases hm : (m : Int) < (n : Int)
    · have sg : Seg wr g o (m + 1) zs := ⟨HS.out.1, fun j hj => HS.out.2 j (by omega)⟩
      have CN := Lib.hid (widthOfLine_any (cap := cap) sg HK.out (by omega) (by have := HNN.out; omega))
      have r1 : ∀ W : World, (Instr.slice 30 (.slice (some ⟨g, o, none⟩) n cap) none (some (.int .i64 ((m : Int) + 1))) none).run Tryd.prog W = .ok (.slice (some ⟨g, o, none⟩) (m + 1) cap) W := fun W => by
        have := to_run g o n cap (m + 1) (by omega) W
        rwa [Int.natCast_succ] at this
      have HX := Lib.hid (@cntF_more zs wide o m zs.length (by have := HNN.out; omega))
      have HY := Lib.hid (@cntF_stop zs wide o m zs.length (by have := HNN.out; omega))
      rw [show o + (m + 1) = o + m + 1 by omega] at CN
      obtain ⟨N, hN⟩ : ∃ N, need zs o (o + m + 1) = N := ⟨_, rfl⟩
      rw [hN] at CN HX HY
      clear hN sg
      by_cases hle : N ≤ wide
      · have HM2 := Lib.hid (show cntF zs wide o (zs.length - o - (m + 1)) (m + 1) = cnt zs wide o by rw [← HX.out hle]; exact HM.out)
        clear HX HY
        go_wp2_with fail
        refine CN.out.mono ?_
        rintro e w' ⟨rfl, rfl⟩
        go_wp2
        go_roundw
        case rel => exact ⟨trivial, m + 1, by omega, by go_num, HM2⟩
        case measure => simp [intOf]; omega
      · have HM2 := Lib.hid (show (cnt zs wide o : Int) = m by rw [← HM.out, HY.out hle])
        clear HX HY
        go_wp2_with fail
        refine CN.out.mono ?_
        rintro e w' ⟨rfl, rfl⟩
        go_wp2
        go_ret
        exact ⟨ret_n HM2.out.symm, rfl⟩
    · have HM2 := Lib.hid (show (cnt zs wide o : Int) = m by rw [← HM.out, cntF_all (by have := HNN.out; omega)])
      go_wp2
      go_ret
      exact ⟨ret_n HM2.out.symm, rfl⟩
end Ln
end Go.Proofs.YtbebojahjfnkiaaDoor
