/- Filled lines, and how many: the program; how many by the model. -/
import Derived.Test.YtbebojahjfnkiaaPb
namespace Go.Proofs.Ytbebojahjfnkiaa
open Go.RowKit Go.Joins Go.Deep Go.ChangeShapes Go.WideShapes
set_option linter.unusedVariables false
set_option linter.unusedSimpArgs false
namespace Ln
theorem fits_all {zs : List Int} {wide : Int} (h : fits zs wide = true) : ∀ k, k < zs.length → zs.getD k 0 ≤ wide := by
  unfold fits at h
  simp only [Bool.and_eq_true] at h
  exact fun k hk => ((allB_iff zs 1 wide).1 h.2 k hk).2
/-- how many lines, none where words don't fit -/
def clN (zs : List Int) (wide : Int) : Int := ((flZ zs wide).length : Int)
theorem flZ_len (zs : List Int) (wide : Int) (h : zs.length ≤ 1048576) : (flZ zs wide).length ≤ 1048576 := by
  unfold flZ
  split
  · have := fillA_sum zs wide _ 0 (Nat.le_refl _); omega
  · simp
theorem own_val {W : World} {base n : Nat} {v : Value} {xs : List Value} (h : W.ownsRow base 3 1 v n xs) : ∃ a cap, v = .slice a n cap := by
  rcases Li.own_forms h with ⟨rfl, rfl⟩ | ⟨g, cap, rfl⟩ <;> exact ⟨_, _, rfl⟩
theorem rnb {n n' : Int} {ok : Bool} (h : n = n') : Ending.returned (.tuple #[.int .i64 n, .bool ok]) = .returned (.tuple #[.int .i64 n', .bool ok]) := by rw [h]
end Ln
end Go.Proofs.Ytbebojahjfnkiaa
