/- Blanks that are stretched: both sides. -/
import Derived.Test.YtbebojahjfnkiaaDoorAr
import Derived.Deep.QuietTactic
namespace Go.Proofs.YtbebojahjfnkiaaDoor
open Go.RowKit Go.Joins Go.Deep Go.ChangeShapes Go.WideShapes
set_option linter.unusedVariables false
set_option linter.unusedSimpArgs false
namespace Ln
/-- left blanks among k places, greater ones first -/
def sht (left : Int) : Nat → List Int
  | 0 => []
  | k + 1 => (left + ((k + 1 : Nat) : Int) - 1).tdiv ((k + 1 : Nat) : Int) :: sht (left - (left + ((k + 1 : Nat) : Int) - 1).tdiv ((k + 1 : Nat) : Int)) k
theorem sht_len : ∀ (k : Nat) (left : Int), (sht left k).length = k := by
  intro k
  induction k with
  | zero => intro _; rfl
  | succ k ih => intro left; simp [sht, ih]
theorem sht_bd (left : Int) (k : Nat) (h : 0 ≤ left) (h2 : left ≤ 1000) (hk : 1 ≤ k) : 0 ≤ (left + (k : Int) - 1).tdiv (k : Int) ∧ (left + (k : Int) - 1).tdiv (k : Int) ≤ left := by
  obtain ⟨j, rfl⟩ : ∃ j, k = j + 1 := ⟨k - 1, by omega⟩
  have hb := shr_bd left j h h2
  have e : (left + ((j + 1 : Nat) : Int) - 1).tdiv ((j + 1 : Nat) : Int) = (left + ((j : Int) + 1) - 1) / ((j : Int) + 1) := by
    rw [Int.natCast_succ, Int.tdiv_eq_ediv_of_nonneg (by omega)]
  rw [e]
  exact hb
def ssB (zs : List Int) (wide : Int) : Bool := (fits zs wide && !decide (zs.length = 1)) && decide (need zs 0 zs.length ≤ wide)
def ssZ (zs : List Int) (wide : Int) : List Int := if ssB zs wide = true then sht (wide - need zs 0 zs.length + (zs.length : Int) - 1) (zs.length - 1) else []
theorem ssZ_len (zs : List Int) (wide : Int) (h : zs.length ≤ 1048576) : (ssZ zs wide).length ≤ 1048576 := by
  unfold ssZ
  split
  · rw [sht_len]; omega
  · simp
theorem need_el {zs : List Int} (ho : Ok zs) (k : Nat) (hk : k < zs.length) : zs.getD k 0 ≤ need zs 0 zs.length := by
  have h1 := psum_ok ho 0 k (by omega) (by omega)
  have h2 := psum_ok ho (k + 1) zs.length (by omega) (by omega)
  have h3 := psum_step zs k
  have h4 := ho.1
  have h5 : psum zs 0 = 0 := rfl
  unfold need
  omega
theorem fits_need {zs : List Int} {wide : Int} (hg : good zs = true) (hw : wideB wide = true) (hn : need zs 0 zs.length ≤ wide) : fits zs wide = true := by
  have ho := (good_iff zs).1 hg
  unfold fits
  rw [hg, hw]
  exact (allB_iff zs 1 wide).2 fun k hk => ⟨(ho.2.2 k hk).1, by have := need_el ho k hk; omega⟩
/-- so far, and what is to come -/
def evr (L : List Int) (n : Nat) : List Int := L ++ List.replicate (n - L.length) 0
theorem evr_len (L : List Int) (n : Nat) (h : L.length ≤ n) : (evr L n).length = n := by simp [evr]; omega
theorem evr_set (L : List Int) (n : Nat) (Q : Int) (h : L.length < n) : (Li.nums (evr L n)).set L.length (.int .i64 Q) = Li.nums (evr (L ++ [Q]) n) := by
  unfold evr Li.nums
  obtain ⟨m, hm⟩ : ∃ m, n - L.length = m + 1 := ⟨n - L.length - 1, by omega⟩
  have e : n - (L ++ [Q]).length = m := by simp; omega
  rw [e, hm, List.replicate_succ, List.map_append, List.map_append, List.map_append, List.set_append_right _ _ (by simp)]
  simp
theorem evr_end (L : List Int) (n : Nat) (h : L.length = n) : evr L n = L := by unfold evr; rw [h]; simp
end Ln
end Go.Proofs.YtbebojahjfnkiaaDoor
