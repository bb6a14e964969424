/- What each line needs, by the model. -/
import Derived.Test.YtdpblijmagcgiaaLnl
namespace Go.Proofs.Ytdpblijmagcgiaa
open Go.RowKit Go.Joins Go.Deep Go.ChangeShapes Go.WideShapes
set_option linter.unusedVariables false
set_option linter.unusedSimpArgs false
namespace Ln
theorem lh_run (go k cp a b : Nat) (ai bi : Int) (hai : ai = (a : Int)) (hbi : bi = (b : Int)) (hab : a < b) (hc : b ≤ cp) (W : World) : (Instr.slice 22 (.slice (some ⟨go, 0, none⟩) k cp) (some (.int .i64 ai)) (some (.int .i64 bi)) none).run Try.prog W = .ok (.slice (some ⟨go, a, none⟩) (b - a) (cp - a)) W := by
  subst hai hbi
  rw [run_slice_lh W 22 (some ⟨go, 0, none⟩) k cp (by kernel_rfl) .i64 .i64 (a : Int) (b : Int) (by omega) (by omega) (by omega)]
  have e : (sizeOf (Try.prog.elem 22)).run Try.prog W = .ok 1 W := by kernel_rfl
  rw [e]
  simp only [Result.andThen, sliced, Int.toNat_natCast, Nat.mul_one]
  have h : ¬ cp = a := by omega
  simp [h, Addr.add]
  intro h2
  exact h2.symm
/-- what the first k lines need -/
def usd (zs ls : List Int) (k : Nat) : List Int := (List.range k).map fun j => need zs (psum ls j).toNat (psum ls (j + 1)).toNat
theorem usd_len (zs ls : List Int) (k : Nat) : (usd zs ls k).length = k := by simp [usd]
theorem usd_next (zs ls : List Int) (k : Nat) : usd zs ls (k + 1) = usd zs ls k ++ [need zs (psum ls k).toNat (psum ls (k + 1)).toNat] := by simp [usd, List.range_succ]
theorem lines_ok {zs ls : List Int} (h : lines zs ls = true) : Ok zs ∧ ls.length ≤ zs.length ∧ (∀ k, k < ls.length → 1 ≤ ls.getD k 0 ∧ ls.getD k 0 ≤ (zs.length : Int)) ∧ psum ls ls.length = (zs.length : Int) := by
  unfold lines at h
  simp only [Bool.and_eq_true, decide_eq_true_eq, beq_iff_eq, allB_iff] at h
  exact ⟨(good_iff zs).1 h.1.1, h.1.2.1, h.1.2.2, h.2⟩
theorem part_sum {zs ls : List Int} (h : lines zs ls = true) (k : Nat) (hk : k ≤ ls.length) : (k : Int) ≤ psum ls k ∧ psum ls k + ((ls.length : Int) - (k : Int)) ≤ (zs.length : Int) := by
  obtain ⟨_, _, ha, hs⟩ := lines_ok h
  have h1 := (psum_bd ha 0 k (by omega)).1
  have h2 := (psum_bd ha k (ls.length - k) (by omega)).1
  rw [Nat.zero_add, show psum ls 0 = 0 from rfl] at h1
  rw [show k + (ls.length - k) = ls.length by omega, hs] at h2
  omega
set_option maxRecDepth 100000 in
set_option maxHeartbeats 4000000 in
theorem lnUsed_any {b1 b2 g g' len len' cap cap' : Nat} {zs ls : List Int} {w : World} (h : Ow w b1 g len cap zs) (h' : Ow w b2 g' len' cap' ls) (hg : lines zs ls = true) :
    Calls Try.prog 51 #[.slice (some ⟨g, 0, none⟩) len cap, .slice (some ⟨g', 0, none⟩) len' cap'] w fun e w' => ∃ v, e = .returned v ∧ w'.ownsRow w.heap.size 3 1 v len' (Li.nums (usd zs ls len')) ∧ Below w.heap.size w w' := by
  have HO := Lib.hid h
  have HO' := Lib.hid h'
  have hz := ow_len h
  have hz' := ow_len h'
  have HZ := Lib.hid hz
  have HK := Lib.hid (lines_ok hg).1
  have HP := Lib.hid (fun k (hk : k ≤ len') => part_sum hg k (by rw [hz']; exact hk))
  rw [hz, hz'] at HP
  have HA := Lib.hid (lines_ok hg).2.2.1
  rw [hz, hz'] at HA
  have h30 : len ≤ 30 := by have := (lines_ok hg).1.2.1; omega
  have h30' : len' ≤ 30 := by have := (lines_ok hg).2.1; omega
  have hcap := (ow_cap h).1
  obtain ⟨i0, hi, hz0, hz1, hz2⟩ := info_parts Li.info3
  clear h h' hg hz hz'
  go_enter Try.func51, Try.ntmps51
  go_wp2
  go_loopw [5, 6, 11] (fun v s i wr => ∃ (k A : Nat), k ≤ len' ∧ i = .int .i64 (k : Int) ∧ s = .int .i64 (A : Int) ∧ Hid ((A : Int) = psum ls k) ∧ wr.ownsRow w.heap.size 3 1 v k (Li.nums (usd zs ls k)) ∧ Below w.heap.size w wr) (fun _ _ i _ => ((len' : Int) - intOf i).toNat)
  case atStart => exact ⟨0, 0, by omega, rfl, rfl, Lib.hid rfl, World.ownsRow_nil _ _ _ _, Below.refl _ _⟩
  case round =>
    obtain ⟨k, A, hk, rfl, rfl, HS, hown, hb⟩ := hrel
    have HB := Lib.hid hb
    have hsw := hb.size
    clear hb
    by_cases hlt : (k : Int) < len'
    · obtain ⟨z, HZK, hc⟩ := ow_at (Li.own_on HO'.out HB.out) (k := k) (by omega)
      have hza := HA.out k (by omega)
      rw [HZK.out] at hza
      obtain ⟨n, rfl⟩ := Int.eq_ofNat_of_zero_le (show 0 ≤ z by omega)
      have hp := (HP.out (k + 1) (by omega)).2
      rw [psum_step, ← HS.out, HZK.out] at hp
      have hAn : A + n ≤ len := by omega
      have hn1 : 1 ≤ n := by omega
      have HS2 := Lib.hid (show ((A + n : Nat) : Int) = psum ls (k + 1) by rw [psum_step, ← HS.out, HZK.out]; simp)
      have sg := seg_of (Li.own_on HO.out HB.out) A n hAn
      have CN := Lib.hid (lnNeed_any (cap := cap - A) sg HK.out hn1 (by rw [HZ.out]; exact hAn))
      have r1 := lh_run g len cap A (A + n) (A : Int) ((A : Int) + (n : Int)) rfl (by simp) (by omega) (by omega)
      rw [show A + n - A = n by omega] at r1
      have HN := Lib.hid (usd_next zs ls k)
      rw [← HS.out, ← HS2.out, Int.toNat_natCast, Int.toNat_natCast] at HN
      obtain ⟨N, hN⟩ : ∃ N, need zs A (A + n) = N := ⟨_, rfl⟩
      rw [hN] at CN HN
      have HOw := Lib.hid (hown.alloc (.cells #[.int .i64 N] 3))
      have HLT := Lib.hid (fun j hj => (hown.lt j hj).1)
      clear hN sg hza hp hown
      go_wp2_with (first | (go_at_call 62; refine CN.out.mono ?_; rintro e w' ⟨rfl, rfl⟩) | (at_builtin; refine wpList_append_own _ rfl _ _ 22 rfl w.heap.size 3 i0 (.int .i64 0) 1 8 Try.underlying22 hi hz0 hz1 hz2 rfl (by decide) _ _ _ rfl HOw.out ⟨_, 0, none⟩ 1 1 [.int .i64 N] rfl rfl (cell_one_new _ _ _) (fun x hx => by simp at hx; subst hx; rfl) (by unfold maxLen; omega) (by omega) (by simp; omega) ?_; intro v3 w3 hown3 hgrow3 _))
      have HB4 := Lib.hid (Below.grown (HB.out.alloc HB.out.size (.cells #[.int .i64 N] 3)) hgrow3 (by simp; omega) HLT.out)
      have HO3 := Lib.hid (show w3.ownsRow w.heap.size 3 1 v3 (k + 1) (Li.nums (usd zs ls (k + 1))) by rw [HN.out, nums_snoc]; exact hown3)
      clear hown3 hgrow3
      go_roundw
      case rel => exact ⟨k + 1, A + n, by omega, by go_num, by go_num, HS2, HO3.out, HB4.out⟩
      case measure => simp [intOf]; omega
    · have HE := Lib.hid (show k = len' by omega)
      have HOw := Lib.hid hown
      clear hown
      go_wp2
      go_ret
      exact ⟨_, rfl, by rw [← HE.out]; exact HOw.out, HB.out⟩
end Ln
end Go.Proofs.Ytdpblijmagcgiaa
