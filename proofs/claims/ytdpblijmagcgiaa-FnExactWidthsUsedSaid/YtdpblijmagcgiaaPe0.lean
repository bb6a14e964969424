/- What each line needs, and the cost of lines: both sides. -/
import Derived.Test.YtdpblijmagcgiaaPd0
import Derived.BigQuiet
import Derived.Deep.QuietTactic
namespace Go.Proofs.Ytdpblijmagcgiaa
open Go.RowKit Go.Joins Go.Deep Go.ChangeShapes Go.WideShapes
set_option linter.unusedVariables false
set_option linter.unusedSimpArgs false
namespace Ln
def usZ (zs ls : List Int) : List Int := if lines zs ls = true then usd zs ls ls.length else []
theorem usZ_len (zs ls : List Int) (h : ls.length ≤ 1048576) : (usZ zs ls).length ≤ 1048576 := by
  unfold usZ
  split
  · rw [usd_len]; exact h
  · simp
theorem usd_at (zs ls : List Int) (n k : Nat) (h : k < n) : (usd zs ls n).getD k 0 = need zs (psum ls k).toNat (psum ls (k + 1)).toNat := by
  simp [usd, List.getD, h]
set_option maxRecDepth 100000 in
set_option maxHeartbeats 4000000 in
theorem iUsed {b1 b2 g g' len len' cap cap' : Nat} {zs ls : List Int} {w : World} (h : Ow w b1 g len cap zs) (h' : Ow w b2 g' len' cap' ls) (hl : len ≤ 1048576) (hl' : len' ≤ 1048576) :
    Calls Try.prog 32 #[.slice (some ⟨g, 0, none⟩) len cap, .slice (some ⟨g', 0, none⟩) len' cap'] w (Gives (lines zs ls) (usZ zs ls) w) := by
  have hz := ow_len h
  have hz' := ow_len h'
  obtain ⟨x1, hx1⟩ : ∃ x, good zs = x := ⟨_, rfl⟩
  have C1 := Lib.hid (iAreWords h hl x1 hx1)
  cases x1
  · have hv : lines zs ls = false := by rw [lines_al, hx1]; rfl
    rw [hv, show usZ zs ls = [] by unfold usZ; rw [hv]; rfl]
    clear h h' hv hx1
    go_enter Try.func32, Try.ntmps32
    go_wp2_with fail
    refine C1.out.mono ?_
    rintro e w' ⟨rfl, rfl⟩
    go_wp2
    go_ret2
    exact ⟨_, rfl, World.ownsRow_nil _ _ _ _, Below.refl _ _⟩
  · have ho := (good_iff zs).1 hx1
    obtain ⟨x2, hx2⟩ : ∃ x, (alB len ls len' && (psum ls len' == (len : Int))) = x := ⟨_, rfl⟩
    have C2 := Lib.hid (areLinesOf_any (a := some ⟨g, 0, none⟩) (cap := cap) h' hl' (by have := ho.2.1; omega) x2 hx2)
    have hv : lines zs ls = x2 := by rw [lines_al, hx1, hz, hz', hx2]; rfl
    rw [hv]
    cases x2
    · rw [show usZ zs ls = [] by unfold usZ; rw [hv]; rfl]
      clear h h' hv hx1 hx2
      go_enter Try.func32, Try.ntmps32
      go_wp2_with fail
      refine C1.out.mono ?_
      rintro e w' ⟨rfl, rfl⟩
      go_wp2_with fail
      refine C2.out.mono ?_
      rintro e w' ⟨rfl, rfl⟩
      go_wp2
      go_ret2
      exact ⟨_, rfl, World.ownsRow_nil _ _ _ _, Below.refl _ _⟩
    · rw [show usZ zs ls = usd zs ls len' by unfold usZ; rw [hv, hz']; rfl]
      have C3 := Lib.hid (inLines_any h h' hv)
      have HO := Lib.hid h
      have HK := Lib.hid ho
      have HZ := Lib.hid hz
      have HP := Lib.hid (fun k (hk : k ≤ len') => part_sum hv k (by rw [hz']; exact hk))
      rw [hz, hz'] at HP
      have HA := Lib.hid (lines_ok hv).2.2.1
      rw [hz, hz'] at HA
      have h30 : len ≤ 30 := by have := ho.2.1; omega
      have h30' : len' ≤ 30 := by have := (lines_ok hv).2.1; omega
      have hcap := (ow_cap h).1
      obtain ⟨i0, hi, hz0, hz1, hz2⟩ := info_parts Li.info3
      clear h h' hv hx1 hx2 ho hz hz'
      go_enter Try.func32, Try.ntmps32
      go_wp2_with fail
      refine C1.out.mono ?_
      rintro e w' ⟨rfl, rfl⟩
      go_wp2_with fail
      refine C2.out.mono ?_
      rintro e w' ⟨rfl, rfl⟩
      go_wp2_with fail
      refine C3.out.mono ?_
      rintro e w1 ⟨v1, rfl, hr, hb1⟩
      have HR := Lib.hid hr
      have HB1 := Lib.hid hb1
      clear hr hb1
      obtain ⟨a1, cp1, rfl⟩ : ∃ a cp, v1 = .slice a len' cp := by
        rcases Li.own_forms HR.out with ⟨rfl, h0⟩ | ⟨gq, cp, rfl⟩
        · exact ⟨none, 0, by rw [h0]⟩
        · exact ⟨_, _, rfl⟩
      go_wp2
      go_loopw [6, 22] (fun v i wr => ∃ (k : Nat), k ≤ len' ∧ i = .int .i64 (k : Int) ∧ wr.ownsRow w1.heap.size 3 1 v k (Li.nums (usd zs ls k)) ∧ Below w1.heap.size w1 wr) (fun _ i _ => ((len' : Int) - intOf i).toNat)
      case atStart => exact ⟨0, by omega, rfl, World.ownsRow_nil _ _ _ _, Below.refl _ _⟩
      case round =>
        obtain ⟨k, hk, rfl, hown, hb⟩ := hrel
        have HB := Lib.hid hb
        have hsw := hb.size
        clear hb
        by_cases hlt : (k : Int) < len'
        · obtain ⟨gq, rfl⟩ : ∃ gq, a1 = some ⟨gq, 0, none⟩ := by
            rcases Li.own_forms HR.out with ⟨_, h0⟩ | ⟨gq, cp, h1⟩
            · omega
            · injection h1 with h1; exact ⟨gq, h1⟩
          have hc : wr.cell? ⟨gq, k, none⟩ = some (subV g cap ls k) := by
            have hR := Li.own_on HR.out HB.out
            rw [hR.cellAt k (by omega), subs_at g cap ls len' k (by omega)]
          have hza := HA.out k (by omega)
          have hp := HP.out (k + 1) (by omega)
          have hp0 := HP.out k (by omega)
          rw [psum_step] at hp
          obtain ⟨A, hA⟩ := Int.eq_ofNat_of_zero_le (show 0 ≤ psum ls k by omega)
          obtain ⟨n, hn⟩ := Int.eq_ofNat_of_zero_le (show 0 ≤ ls.getD k 0 by omega)
          have hs : subV g cap ls k = .slice (some ⟨g, A, none⟩) n (cap - A) := by unfold subV; rw [hA, hn, Int.toNat_natCast, Int.toNat_natCast]
          rw [hs] at hc
          have hAn : A + n ≤ len := by omega
          have hn1 : 1 ≤ n := by omega
          have sg := seg_of (Li.own_on HO.out (HB1.out.trans (below_le HB.out HB1.out.size))) A n hAn
          have CN := Lib.hid (widthOfLine_any (cap := cap - A) sg HK.out hn1 (by rw [HZ.out]; exact hAn))
          have HN := Lib.hid (usd_next zs ls k)
          rw [psum_step, hA, hn, Int.toNat_natCast, show ((A : Int) + (n : Int)).toNat = A + n by omega] at HN
          obtain ⟨N, hN⟩ : ∃ N, need zs A (A + n) = N := ⟨_, rfl⟩
          rw [hN] at CN HN
          have HOw := Lib.hid (hown.alloc (.cells #[.int .i64 N] 3))
          have HLT := Lib.hid (fun j hj => (hown.lt j hj).1)
          clear hN sg hza hp hp0 hA hn hs hown
          go_wp2_with (first | (go_at_call 61; refine CN.out.mono ?_; rintro e w' ⟨rfl, rfl⟩) | (at_builtin; refine wpList_append_own _ rfl _ _ 22 rfl w1.heap.size 3 i0 (.int .i64 0) 1 8 Try.underlying22 hi hz0 hz1 hz2 rfl (by decide) _ _ _ rfl HOw.out ⟨_, 0, none⟩ 1 1 [.int .i64 N] rfl rfl (cell_one_new _ _ _) (fun x hx => by simp at hx; subst hx; rfl) (by unfold maxLen; omega) (by omega) (by simp; omega) ?_; intro v3 w3 hown3 hgrow3 _))
          have HB4 := Lib.hid (Below.grown (HB.out.alloc HB.out.size (.cells #[.int .i64 N] 3)) hgrow3 (by simp; omega) HLT.out)
          have HO3 := Lib.hid (show w3.ownsRow w1.heap.size 3 1 v3 (k + 1) (Li.nums (usd zs ls (k + 1))) by rw [HN.out, nums_snoc]; exact hown3)
          clear hown3 hgrow3
          go_roundw
          case rel => exact ⟨k + 1, by omega, by go_num, HO3.out, HB4.out⟩
          case measure => simp [intOf]; omega
        · have HE := Lib.hid (show k = len' by omega)
          have HOw := Lib.hid hown
          clear hown
          go_wp2
          go_ret2
          exact ⟨_, rfl, by rw [usd_len, ← HE.out]; exact Li.own_le HOw.out HB1.out.size, HB1.out.trans (below_le HB.out HB1.out.size)⟩
theorem sUsed {b1 b2 g g' len len' cap cap' : Nat} {zs ls : List Int} {w : World} (h : Ow w b1 g len cap zs) (h' : Ow w b2 g' len' cap' ls) (hl : len ≤ 1048576) (hl' : len' ≤ 1048576) :
    Calls Try.prog 31 #[.slice (some ⟨g, 0, none⟩) len cap, .slice (some ⟨g', 0, none⟩) len' cap'] w (Gives (lines zs ls) (usZ zs ls) w) := by
  obtain ⟨v, hv⟩ : ∃ v, lines zs ls = v := ⟨_, rfl⟩
  have C1 := Lib.hid (lnLines_any h h' hl hl' v hv)
  have hz' := ow_len h'
  rw [hv]
  cases v
  · rw [show usZ zs ls = [] by unfold usZ; rw [hv]; rfl]
    clear h h' hv
    go_enter Try.func31, Try.ntmps31
    go_wp2_with fail
    refine C1.out.mono ?_
    rintro e w' ⟨rfl, rfl⟩
    go_wp2
    go_ret2
    exact ⟨_, rfl, World.ownsRow_nil _ _ _ _, Below.refl _ _⟩
  · rw [show usZ zs ls = usd zs ls len' by unfold usZ; rw [hv, hz']; rfl]
    have C2 := Lib.hid (lnUsed_any h h' hv)
    clear h h' hv
    go_enter Try.func31, Try.ntmps31
    go_wp2_with fail
    refine C1.out.mono ?_
    rintro e w' ⟨rfl, rfl⟩
    go_wp2_with fail
    refine C2.out.mono ?_
    rintro e w1 ⟨v, rfl, ho, hb⟩
    have HO := Lib.hid ho
    clear ho
    go_wp2
    go_ret2
    exact ⟨_, rfl, by rw [usd_len]; exact HO.out, hb⟩
end Ln
end Go.Proofs.Ytdpblijmagcgiaa
