/- What each line needs, by the model. -/
import Derived.Test.YtbebojahjfnkiaaDoorLnl
namespace Go.Proofs.YtbebojahjfnkiaaDoor
open Go.RowKit Go.Joins Go.Deep Go.ChangeShapes Go.WideShapes
set_option linter.unusedVariables false
set_option linter.unusedSimpArgs false
namespace Ln
theorem lh_run (go k cp a b : Nat) (ai bi : Int) (hai : ai = (a : Int)) (hbi : bi = (b : Int)) (hab : a < b) (hc : b ≤ cp) (W : World) : (Instr.slice 30 (.slice (some ⟨go, 0, none⟩) k cp) (some (.int .i64 ai)) (some (.int .i64 bi)) none).run Tryd.prog W = .ok (.slice (some ⟨go, a, none⟩) (b - a) (cp - a)) W := by
  subst hai hbi
  rw [run_slice_lh W 30 (some ⟨go, 0, none⟩) k cp (by kernel_rfl) .i64 .i64 (a : Int) (b : Int) (by omega) (by omega) (by omega)]
  have e : (sizeOf (Tryd.prog.elem 30)).run Tryd.prog W = .ok 1 W := by kernel_rfl
  rw [e]
  simp only [Result.andThen, sliced, Int.toNat_natCast, Nat.mul_one]
  have h : ¬ cp = a := by omega
  simp [h, Addr.add]
  intro h2
  exact h2.symm
/-- what the first k lines need -/
def usd (zs ls : List Int) (k : Nat) : List Int := (List.range k).map fun j => need zs (psum ls j).toNat (psum ls (j + 1)).toNat
theorem usd_len (zs ls : List Int) (k : Nat) : (usd zs ls k).length = k := by simp [usd]
theorem usd_next (zs ls : List Int) (k : Nat) : usd zs ls (k + 1) = usd zs ls k ++ [need zs (psum ls k).toNat (psum ls (k + 1)).toNat] := by simp [usd, List.range_succ]
theorem lines_ok {zs ls : List Int} (h : lines zs ls = true) : Ok zs ∧ ls.length ≤ zs.length ∧ (∀ k, k < ls.length → 1 ≤ ls.getD k 0 ∧ ls.getD k 0 ≤ (zs.length : Int)) ∧ psum ls ls.length = (zs.length : Int) := by
  unfold lines at h
  simp only [Bool.and_eq_true, decide_eq_true_eq, beq_iff_eq, allB_iff] at h
  exact ⟨(good_iff zs).1 h.1.1, h.1.2.1, h.1.2.2, h.2⟩
theorem part_sum {zs ls : List Int} (h : lines zs ls = true) (k : Nat) (hk : k ≤ ls.length) : (k : Int) ≤ psum ls k ∧ psum ls k + ((ls.length : Int) - (k : Int)) ≤ (zs.length : Int) := by
  obtain ⟨_, _, ha, hs⟩ := lines_ok h
  have h1 := (psum_bd ha 0 k (by omega)).1
  have h2 := (psum_bd ha k (ls.length - k) (by omega)).1
  rw [Nat.zero_add, show psum ls 0 = 0 from rfl] at h1
  rw [show k + (ls.length - k) = ls.length by omega, hs] at h2
  omega
end Ln
end Go.Proofs.YtbebojahjfnkiaaDoor
