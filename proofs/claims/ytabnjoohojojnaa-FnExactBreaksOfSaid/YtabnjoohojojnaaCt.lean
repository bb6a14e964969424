/- Breaks of a binding, by the program: the function. -/
import Derived.Test.YtabnjoohojojnaaCr
namespace Go.Proofs.Ytabnjoohojojnaa
open Go.RowKit Go.Joins Go.Deep Go.ChangeShapes Go.WideShapes
set_option linter.unusedVariables false
set_option linter.unusedSimpArgs false
namespace Ln
set_option maxRecDepth 100000 in
theorem iBreaksOf {b1 g len cap : Nat} {zs : List Int} {w : World} (h : Ow w b1 g len cap zs) (hl : len ≤ 1048576) :
    Calls Try.prog 28 #[.slice (some ⟨g, 0, none⟩) len cap] w (Ret (.tuple #[.int .i64 (brN zs), .bool (bnd zs)]) w) := by
  have hz := ow_len h
  cases hv : bnd zs
  · rw [show brN zs = 0 by unfold brN; rw [hv]; rfl]
    have C := Lib.hid (toldI_no 55 h hl hv)
    clear h hv
    go_enter Try.func28, Try.ntmps28
    go_wp2_with fail
    refine C.out.mono ?_
    rintro e w1 ⟨rfl, hb⟩
    go_wp2
    go_ret2
    exact ⟨rfl, hb⟩
  · rw [show brN zs = brk (zs ++ [(len : Int) + 1]) (len + 1) by unfold brN; rw [if_pos hv, hz]]
    have B := (bnd_iff zs).1 hv
    have h8 : len ≤ 8 := by have := B.2.1; omega
    have C := Lib.hid (toldI_yes 55 (brk (zs ++ [(len : Int) + 1]) (len + 1)) h hl hv (enters_of Try.func55 (by kernel_rfl) rfl) (fun W => breaks_any len zs hz h8 B W))
    obtain ⟨R, hR⟩ : ∃ R, brk (zs ++ [(len : Int) + 1]) (len + 1) = R := ⟨_, rfl⟩
    rw [hR] at C ⊢
    clear h hv hR hz B
    go_enter Try.func28, Try.ntmps28
    go_wp2_with fail
    refine C.out.mono ?_
    rintro e w1 ⟨rfl, hb⟩
    go_wp2
    go_ret2
    exact ⟨rfl, hb⟩
end Ln
end Go.Proofs.Ytabnjoohojojnaa
