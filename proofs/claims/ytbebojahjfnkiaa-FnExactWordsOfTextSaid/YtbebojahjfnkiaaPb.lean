/- What a line needs, how many words it takes, and filled lines: the program. -/
import Derived.Test.YtbebojahjfnkiaaPa
import Derived.Test.YtbebojahjfnkiaaLm
import Derived.Shelf.Abstract
namespace Go.Proofs.Ytbebojahjfnkiaa
open Go.RowKit Go.Joins Go.Deep Go.ChangeShapes Go.WideShapes
set_option linter.unusedVariables false
set_option linter.unusedSimpArgs false
namespace Ln
theorem wcl_any (z : Int) (h1 : -1000000 ≤ z) (h2 : z ≤ 1000000) (w : World) :
    Calls Try.prog 45 #[.int .i64 z] w fun e w' => e = .returned (.int .i64 (z + 1)) ∧ w = w' := by
  go_enter Try.func45, Try.ntmps45
  go_wp2
  go_ret
  exact ⟨rfl, rfl⟩
set_option maxRecDepth 100000 in
set_option maxHeartbeats 1000000 in
theorem wsum_any {g off n cap : Nat} {zs : List Int} {w : World} (h : Seg w g off n zs) (ho : Ok zs) (h1 : 1 ≤ n) (hn : off + n ≤ zs.length) :
    Calls Try.prog 44 #[.slice (some ⟨g, off, none⟩) n cap, .func (.func 45) #[] #[]] w fun e w' => e = .returned (.int .i64 ((n : Int) + (psum zs (off + n) - psum zs off))) ∧ w = w' := by
  have HS := Lib.hid h
  have HB := Lib.hid (fun k (hk : k ≤ n) => psum_ok ho off (off + k) (by omega) (by omega))
  have HW := Lib.hid ho.2.2
  have hl := ho.2.1
  have eg : ∀ args w, (callFunc 45 args).run Try.prog w = .ok (.enter 45 args) w := enters_of Try.func45 (by kernel_rfl) rfl
  clear h ho
  go_enter Try.func44, Try.ntmps44
  go_wp2
  go_loop [5, 10] (fun s i => ∃ (k : Nat) (S : Int), k ≤ n ∧ i = .int .i64 (k : Int) ∧ s = .int .i64 S ∧ Hid (S = (k : Int) + (psum zs (off + k) - psum zs off))) (fun _ i => ((n : Int) - intOf i).toNat)
  case atStart => exact ⟨0, 0, by omega, rfl, by first | rfl | go_num, Lib.hid (by simp)⟩
  case round =>
    obtain ⟨k, S, hk, rfl, rfl, HE⟩ := hrel
    have b := HB.out k hk
    have e := HE.out
    have s1 : 0 ≤ S := by omega
    have s2 : S ≤ 2430 := by omega
    clear b e
    by_cases hlt : (k : Int) < n
    · obtain ⟨z, HZ, hc⟩ := seg_at HS.out (k := k) (by omega)
      have hz := HW.out (off + k) (by omega)
      rw [HZ.out] at hz
      have z1 := hz.1
      have z2 := hz.2
      have HN := Lib.hid (show S + (z + 1) = ((k + 1 : Nat) : Int) + (psum zs (off + (k + 1)) - psum zs off) by rw [show off + (k + 1) = (off + k) + 1 by omega, psum_step, HZ.out, HE.out]; omega)
      have C := Lib.hid (wcl_any z (by omega) (by omega) w)
      clear hz
      go_wp2_with fail
      refine C.out.mono ?_
      rintro e w' ⟨rfl, rfl⟩
      go_wp2
      go_round
      case rel => exact ⟨k + 1, S + (z + 1), by omega, by go_num, by first | rfl | go_num, HN⟩
      case measure => simp [intOf]; omega
    · have ek : k = n := by omega
      have HF := Lib.hid (show (n : Int) + (psum zs (off + n) - psum zs off) = S by rw [HE.out, ek])
      clear ek
      go_wp2
      go_ret
      exact ⟨ret_n HF.out.symm, rfl⟩
theorem widthOfLine_any {g off n cap : Nat} {zs : List Int} {w : World} (h : Seg w g off n zs) (ho : Ok zs) (h1 : 1 ≤ n) (hn : off + n ≤ zs.length) :
    Calls Try.prog 35 #[.slice (some ⟨g, off, none⟩) n cap] w fun e w' => e = .returned (.int .i64 (need zs off (off + n))) ∧ w = w' := by
  have C := Lib.hid (wsum_any (cap := cap) h ho h1 hn)
  have b := psum_ok ho off (off + n) (by omega) (by omega)
  have hl := ho.2.1
  have HE := Lib.hid (show need zs off (off + n) = (n : Int) + (psum zs (off + n) - psum zs off) - 1 by unfold need; omega)
  obtain ⟨D, hD⟩ : ∃ D, psum zs (off + n) - psum zs off = D := ⟨_, rfl⟩
  rw [hD] at C HE b
  clear h ho hD
  go_enter Try.func35, Try.ntmps35
  go_wp2_with fail
  refine C.out.mono ?_
  rintro e w' ⟨rfl, rfl⟩
  go_wp2
  go_ret
  exact ⟨ret_n HE.out.symm, rfl⟩

end Ln
end Go.Proofs.Ytbebojahjfnkiaa
