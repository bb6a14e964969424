/- What lnFill answers: the filled lines, in new memory. -/
import Derived.Test.YtbebojahjfnkiaaLnf
namespace Go.Proofs.Ytbebojahjfnkiaa
open Go.RowKit Go.Joins Go.Deep Go.ChangeShapes Go.WideShapes
set_option linter.unusedVariables false
set_option linter.unusedSimpArgs false
namespace Ln
def lenV : Value → Nat
  | .slice _ n _ => n
  | _ => 0
theorem cntF_more {zs : List Int} {wide : Int} {a m len : Nat} (h : m + 1 ≤ len - a) (hn : need zs a (a + m + 1) ≤ wide) : cntF zs wide a (len - a - m) m = cntF zs wide a (len - a - (m + 1)) (m + 1) := by
  obtain ⟨d, hd⟩ : ∃ d, len - a - m = d + 1 := ⟨len - a - m - 1, by omega⟩
  rw [hd, show len - a - (m + 1) = d by omega]
  show (if _ then _ else _) = _
  rw [if_pos hn]
theorem cntF_stop {zs : List Int} {wide : Int} {a m len : Nat} (h : m + 1 ≤ len - a) (hn : ¬ need zs a (a + m + 1) ≤ wide) : cntF zs wide a (len - a - m) m = m := by
  obtain ⟨d, hd⟩ : ∃ d, len - a - m = d + 1 := ⟨len - a - m - 1, by omega⟩
  rw [hd]
  show (if _ then _ else _) = _
  rw [if_neg hn]
theorem cntF_all {zs : List Int} {wide : Int} {a m len : Nat} (h : ¬ m + 1 ≤ len - a) : cntF zs wide a (len - a - m) m = m := by
  rw [show len - a - m = 0 by omega]; rfl
theorem nums_snoc (zs : List Int) (v : Int) : Li.nums (zs ++ [v]) = Li.nums zs ++ [.int .i64 v] := by simp [Li.nums]
end Ln
end Go.Proofs.Ytbebojahjfnkiaa
