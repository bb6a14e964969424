/- What words need, and filled lines, by the model. -/
import Derived.Test.YtbebojahjfnkiaaDoorLnb
namespace Go.Proofs.YtbebojahjfnkiaaDoor
open Go.RowKit Go.Joins Go.Deep Go.ChangeShapes Go.WideShapes
set_option linter.unusedVariables false
set_option linter.unusedSimpArgs false
namespace Ln
theorem ret_n {a b : Int} (h : a = b) : Ending.returned (.int .i64 a) = .returned (.int .i64 b) := by rw [h]
set_option maxRecDepth 100000 in
set_option maxHeartbeats 1000000 in
theorem lnNeed_any {g off n cap : Nat} {zs : List Int} {w : World} (h : Seg w g off n zs) (ho : Ok zs) (h1 : 1 ≤ n) (hn : off + n ≤ zs.length) :
    Calls Tryd.prog 25 #[.slice (some ⟨g, off, none⟩) n cap] w fun e w' => e = .returned (.int .i64 (need zs off (off + n))) ∧ w = w' := by
  have HS := Lib.hid h
  have HB := Lib.hid (fun k (hk : k ≤ n) => psum_ok ho off (off + k) (by omega) (by omega))
  have HW := Lib.hid ho.2.2
  have hl := ho.2.1
  clear h ho
  go_enter Tryd.func25, Tryd.ntmps25
  go_wp2
  go_loop [3, 11] (fun s i => ∃ (k : Nat) (S : Int), k ≤ n ∧ i = .int .i64 (k : Int) ∧ s = .int .i64 S ∧ Hid (S = ((n : Int) - 1) + (psum zs (off + k) - psum zs off))) (fun _ i => ((n : Int) - intOf i).toNat)
  case atStart => exact ⟨0, (n : Int) - 1, by omega, rfl, by first | rfl | go_num, Lib.hid (by simp)⟩
  case round =>
    obtain ⟨k, S, hk, rfl, rfl, HE⟩ := hrel
    have b := HB.out k hk
    have e := HE.out
    have s1 : 0 ≤ S := by omega
    have s2 : S ≤ 2430 := by omega
    clear b e
    by_cases hlt : (k : Int) < n
    · obtain ⟨z, HZ, hc⟩ := seg_at HS.out (k := k) (by omega)
      have hz := HW.out (off + k) (by omega)
      rw [HZ.out] at hz
      have z1 := hz.1
      have z2 := hz.2
      have HN := Lib.hid (show S + z = ((n : Int) - 1) + (psum zs (off + (k + 1)) - psum zs off) by rw [show off + (k + 1) = (off + k) + 1 by omega, psum_step, HZ.out, HE.out]; omega)
      clear hz
      go_wp2
      go_round
      case rel => exact ⟨k + 1, S + z, by omega, by go_num, by first | rfl | go_num, HN⟩
      case measure => simp [intOf]; omega
    · have ek : k = n := by omega
      have HF := Lib.hid (show need zs off (off + n) = S by unfold need; rw [HE.out, ek]; omega)
      clear ek
      go_wp2
      go_ret
      exact ⟨ret_n HF.out.symm, rfl⟩
end Ln
end Go.Proofs.YtbebojahjfnkiaaDoor
