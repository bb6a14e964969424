/- When there are lines of words, and what each needs, by the model. -/
import Derived.Test.YtdpblijmagcgiaaLnx
namespace Go.Proofs.Ytdpblijmagcgiaa
open Go.RowKit Go.Joins Go.Deep Go.ChangeShapes Go.WideShapes
set_option linter.unusedVariables false
set_option linter.unusedSimpArgs false
namespace Ln
def lines (zs ls : List Int) : Bool := (good zs && (decide (ls.length ≤ zs.length) && allB ls 1 (zs.length : Int))) && (psum ls ls.length == (zs.length : Int))
theorem ret_b {a b : Bool} (h : a = b) : Ending.returned (.bool a) = .returned (.bool b) := by rw [h]
set_option maxRecDepth 100000 in
set_option maxHeartbeats 2000000 in
theorem lnLines_any {b1 b2 g g' len len' cap cap' : Nat} {zs ls : List Int} {w : World} (h : Ow w b1 g len cap zs) (h' : Ow w b2 g' len' cap' ls) (hl : len ≤ 1048576) (hl' : len' ≤ 1048576) (v : Bool) (hv : lines zs ls = v) :
    Calls Try.prog 49 #[.slice (some ⟨g, 0, none⟩) len cap, .slice (some ⟨g', 0, none⟩) len' cap'] w fun e w' => e = .returned (.bool v) ∧ w = w' := by
  have hz := ow_len h
  have hz' := ow_len h'
  obtain ⟨x1, hx1⟩ : ∃ x, good zs = x := ⟨_, rfl⟩
  obtain ⟨x3, hx3⟩ : ∃ x, allB ls 1 (len : Int) = x := ⟨_, rfl⟩
  have e : v = ((x1 && (decide (len' ≤ len) && x3)) && (psum ls len' == (len : Int))) := by rw [← hv]; unfold lines; rw [hx1, hz, hz', hx3]
  have C1 := Lib.hid (sGood_any h hl x1 hx1)
  have C3 := Lib.hid (l1All_any 1 (len : Int) h' hl' x3 hx3)
  have HE := Lib.hid e
  clear hv e
  cases x1
  · have HV := Lib.hid (show false = v by rw [HE.out]; rfl)
    clear h h' hx1 hx3
    go_enter Try.func49, Try.ntmps49
    go_wp2_with fail
    refine C1.out.mono ?_
    rintro e w' ⟨rfl, rfl⟩
    go_wp2
    go_ret
    exact ⟨ret_b HV.out, rfl⟩
  · by_cases h2 : len' ≤ len
    · have t2 : ¬ (len : Int) < (len' : Int) := by omega
      cases x3
      · have HV := Lib.hid (show false = v by rw [HE.out]; simp)
        clear h h' hx1 hx3
        go_enter Try.func49, Try.ntmps49
        go_wp2_with fail
        refine C1.out.mono ?_
        rintro e w' ⟨rfl, rfl⟩
        go_wp2_with fail
        refine C3.out.mono ?_
        rintro e w' ⟨rfl, rfl⟩
        go_wp2
        go_ret
        exact ⟨ret_b HV.out, rfl⟩
      · have HV := Lib.hid (show (psum ls len' == (len : Int)) = v by rw [HE.out]; simp [h2])
        have h30 : len ≤ 30 := by have := ((good_iff zs).1 hx1).2.1; omega
        have HA := Lib.hid ((allB_iff ls 1 (len : Int)).1 hx3)
        have HP := Lib.hid (fun k (hk : k ≤ len') => by have := psum_bd HA.out 0 k (by omega); rw [Nat.zero_add] at this; exact this)
        have HO := Lib.hid h'
        clear h h' hx1 hx3 hz hz'
        go_enter Try.func49, Try.ntmps49
        go_wp2_with fail
        refine C1.out.mono ?_
        rintro e w' ⟨rfl, rfl⟩
        go_wp2_with fail
        refine C3.out.mono ?_
        rintro e w' ⟨rfl, rfl⟩
        go_wp2
        go_loop [5, 27] (fun s i => ∃ (k : Nat) (S : Int), k ≤ len' ∧ i = .int .i64 (k : Int) ∧ s = .int .i64 S ∧ Hid (S = psum ls k)) (fun _ i => ((len' : Int) - intOf i).toNat)
        case atStart => exact ⟨0, 0, by omega, rfl, rfl, Lib.hid rfl⟩
        case round =>
          obtain ⟨k, S, hk, rfl, rfl, HS⟩ := hrel
          have b := HP.out k hk
          rw [show psum ls 0 = 0 from rfl, ← HS.out] at b
          have hm : (len : Int) * (k : Int) ≤ 30 * 30 := Int.mul_le_mul (by omega) (by omega) (by omega) (by omega)
          have s1 : 0 ≤ S := by omega
          have s2 : S ≤ 900 := by omega
          clear b hm
          by_cases hlt : (k : Int) < len'
          · obtain ⟨z, HZ, hc⟩ := ow_at HO.out (k := k) (by omega)
            have hzb := HA.out k (by have := ow_len HO.out; omega)
            rw [HZ.out] at hzb
            have z1 := hzb.1
            have z2 := hzb.2
            have HN := Lib.hid (show S + z = psum ls (k + 1) by rw [psum_step, HS.out, HZ.out])
            clear hzb
            go_wp2
            go_round
            case rel => exact ⟨k + 1, S + z, by omega, by go_num, by first | rfl | go_num, HN⟩
            case measure => simp [intOf]; omega
          · have ek : k = len' := by omega
            have HV2 := Lib.hid (show (S == (len : Int)) = v by rw [HS.out, ek]; exact HV.out)
            clear ek
            go_wp2
            go_ret
            exact ⟨ret_b HV2.out, rfl⟩
    · have t2 : (len : Int) < (len' : Int) := by omega
      have HV := Lib.hid (show false = v by rw [HE.out, decide_eq_false h2]; simp)
      clear h h' hx1 hx3
      go_enter Try.func49, Try.ntmps49
      go_wp2_with fail
      refine C1.out.mono ?_
      rintro e w' ⟨rfl, rfl⟩
      go_wp2
      go_ret
      exact ⟨ret_b HV.out, rfl⟩
end Ln
end Go.Proofs.Ytdpblijmagcgiaa
