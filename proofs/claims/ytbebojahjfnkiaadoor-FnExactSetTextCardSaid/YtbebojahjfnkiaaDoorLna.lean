/- The breaks that are allowed, by the model. -/
import Derived.Test.YtbebojahjfnkiaaDoorLnu
namespace Go.Proofs.YtbebojahjfnkiaaDoor
open Go.RowKit Go.Joins Go.Deep Go.ChangeShapes Go.WideShapes
set_option linter.unusedVariables false
set_option linter.unusedSimpArgs false
namespace Ln
/-- behind line j + 1 of n no break is allowed -/
def skp (n : Int) (last : Bool) (j : Nat) : Bool := (decide ((j : Int) + 1 < n) && (decide (j = 0) || decide ((j : Int) + 1 = n - 1))) || (decide ((j : Int) + 1 = n) && last)
/-- the breaks behind the first j lines of a paragraph of n, P lines before it -/
def al1 (P n : Int) (last : Bool) : Nat → List Int
  | 0 => []
  | j + 1 => al1 P n last j ++ (if skp n last j = true then [] else [P + ((j : Int) + 1)])
theorem al1_step (P n : Int) (last : Bool) (j : Nat) : al1 P n last (j + 1) = al1 P n last j ++ (if skp n last j = true then [] else [P + ((j : Int) + 1)]) := rfl
theorem al1_len (P n : Int) (last : Bool) (j : Nat) : (al1 P n last j).length ≤ j := by
  induction j with
  | zero => simp [al1]
  | succ j ih =>
    rw [al1_step, List.length_append]
    split <;> simp <;> omega
/-- the breaks behind lines of the first k paragraphs -/
def alA (zs : List Int) : Nat → List Int
  | 0 => []
  | k + 1 => alA zs k ++ al1 (psum zs k) (zs.getD k 0) (decide (k + 1 = zs.length)) (zs.getD k 0).toNat
theorem alA_step (zs : List Int) (k : Nat) : alA zs (k + 1) = alA zs k ++ al1 (psum zs k) (zs.getD k 0) (decide (k + 1 = zs.length)) (zs.getD k 0).toNat := rfl
def Okp (zs : List Int) : Prop := 1 ≤ zs.length ∧ zs.length ≤ 12 ∧ ∀ k, k < zs.length → 1 ≤ zs.getD k 0 ∧ zs.getD k 0 ≤ 60
theorem alA_len {zs : List Int} (h : Okp zs) (k : Nat) (hk : k ≤ zs.length) : (alA zs k).length ≤ 60 * k := by
  induction k with
  | zero => simp [alA]
  | succ k ih =>
    have h1 := ih (by omega)
    have h2 := h.2.2 k (by omega)
    have h3 := al1_len (psum zs k) (zs.getD k 0) (decide (k + 1 = zs.length)) (zs.getD k 0).toNat
    rw [alA_step, List.length_append]
    omega
end Ln
end Go.Proofs.YtbebojahjfnkiaaDoor
