/- The fewest leaves that are cut out, by the program: the function. -/
import Derived.Test.YtabnjoohojojnaaCx
namespace Go.Proofs.Ytabnjoohojojnaa
open Go.RowKit Go.Joins Go.Deep Go.ChangeShapes Go.WideShapes
set_option linter.unusedVariables false
set_option linter.unusedSimpArgs false
namespace Rz
open Ln
set_option maxRecDepth 100000 in
theorem iFewestCuts {b1 g len cap : Nat} {zs : List Int} {w : World} (h : Ow w b1 g len cap zs) (hl : len ≤ 1048576) :
    Calls Try.prog 34 #[.slice (some ⟨g, 0, none⟩) len cap] w (Ret (.tuple #[.int .i64 (fcN zs), .bool (bnd zs)]) w) := by
  have hz := ow_len h
  cases hv : bnd zs
  · rw [show fcN zs = 0 by unfold fcN; rw [hv]; rfl]
    have C := Lib.hid (toldI_no 62 h hl hv)
    clear h hv
    go_enter Try.func34, Try.ntmps34
    go_wp2_with fail
    refine C.out.mono ?_
    rintro e w1 ⟨rfl, hb⟩
    go_wp2
    go_ret2
    exact ⟨rfl, hb⟩
  · rw [show fcN zs = (len : Int) - (eb zs len 100 : Int) by unfold fcN; rw [if_pos hv, hz]]
    have B := (bnd_iff zs).1 hv
    have b8 := bnd_8 B
    have h8 : len ≤ 8 := by have := B.2.1; omega
    have C := Lib.hid (toldI_yes 62 ((len : Int) - (eb zs len 100 : Int)) h hl hv (enters_of Try.func62 (by kernel_rfl) rfl) (fun W => cuts_any len zs hz h8 (fun k hk => by
      have := b8 k (by omega)
      have h0 := (B.2.2.2 k (by omega)).1
      omega) W))
    obtain ⟨R, hR⟩ : ∃ R, (len : Int) - (eb zs len 100 : Int) = R := ⟨_, rfl⟩
    rw [hR] at C ⊢
    clear h hv hR hz B b8
    go_enter Try.func34, Try.ntmps34
    go_wp2_with fail
    refine C.out.mono ?_
    rintro e w1 ⟨rfl, hb⟩
    go_wp2
    go_ret2
    exact ⟨rfl, hb⟩
end Rz
end Go.Proofs.Ytabnjoohojojnaa
