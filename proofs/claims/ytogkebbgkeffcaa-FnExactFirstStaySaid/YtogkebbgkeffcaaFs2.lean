/- FirstStay and FewestMoves, from the model's side. -/
import Derived.Test.YtogkebbgkeffcaaSst
namespace Go.Proofs.Ytogkebbgkeffcaa
open Go.RowKit Go.Joins Go.Deep Go.ChangeShapes Go.WideShapes
set_option linter.unusedVariables false
set_option linter.unusedSimpArgs false
namespace So
open Sh
def SPost (zs : List Int) (len : Nat) (w : World) (e : Ending) (w' : World) : Prop := ∃ v, e = .returned v ∧ w'.ownsRow w.heap.size 3 1 v (ints (St.bo zs (2 ^ len))).length (Li.nums (ints (St.bo zs (2 ^ len)))) ∧ Below w.heap.size w w'
set_option maxRecDepth 100000 in
theorem sStay {b1 g len cap : Nat} {zs : List Int} {w : World} (h : Ow w b1 g len cap zs) (hl : len ≤ 1048576) :
    Calls Try.prog 46 #[.slice (some ⟨g, 0, none⟩) len cap] w (Li.Gives (Ns.good zs) (stl zs) w) := by
  have HO := Lib.hid h
  have hz := ow_len h
  cases hg : Ns.good zs with
  | false =>
    have HG := Lib.hid hg
    have E := Lib.hid (stl_no hg)
    clear h hz hg
    go_enter Try.func46, Try.ntmps46
    go_wp2_with fail
    refine (sStands_any HO.out hl false HG.out).mono ?_
    rintro e w' ⟨rfl, rfl⟩
    go_wp2
    go_ret2
    exact gives_none E.out (Below.refl _ _)
  | true =>
    have HG := Lib.hid hg
    have E := Lib.hid (show stl zs = ints (St.bo zs (2 ^ len)) by unfold stl; rw [hg, hz]; rfl)
    have C : Calls Try.prog 61 #[.slice (some ⟨g, 0, none⟩) len cap] w (SPost zs len w) := shStay_any h ((Ns.good_iff zs).1 hg)
    have HC := Lib.hid C
    clear h hz hg C
    go_enter Try.func46, Try.ntmps46
    go_wp2_with fail
    refine (sStands_any HO.out hl true HG.out).mono ?_
    rintro e w' ⟨rfl, rfl⟩
    go_wp2_with fail
    refine HC.out.mono ?_
    rintro e w1 ⟨v, rfl, o, hb⟩
    have O := Lib.hid (own_eq o E.out)
    have HB := Lib.hid hb
    clear o hb
    go_wp2
    go_ret2
    exact ⟨_, rfl, O.out, HB.out⟩
set_option maxRecDepth 100000 in
theorem sMoves {b1 g len cap : Nat} {zs : List Int} {w : World} (h : Ow w b1 g len cap zs) (hl : len ≤ 1048576) :
    Calls Try.prog 44 #[.slice (some ⟨g, 0, none⟩) len cap] w (Ret (.tuple #[.int .i64 (mv zs), .bool (Ns.good zs)]) w) := by
  have HO := Lib.hid h
  have hz := ow_len h
  cases hg : Ns.good zs with
  | false =>
    have HG := Lib.hid hg
    have E := Lib.hid (show mv zs = 0 by unfold mv; rw [hg]; rfl)
    rw [E.out]
    clear h hz hg
    go_enter Try.func44, Try.ntmps44
    go_wp2_with fail
    refine (sStands_any HO.out hl false HG.out).mono ?_
    rintro e w' ⟨rfl, rfl⟩
    go_wp2
    go_ret2
    exact ⟨rfl, Below.refl _ _⟩
  | true =>
    have HG := Lib.hid hg
    have E := Lib.hid (show stl zs = ints (St.bo zs (2 ^ len)) by unfold stl; rw [hg, hz]; rfl)
    have E2 := Lib.hid (show mv zs = (len : Int) - (stl zs).length by unfold mv; rw [hg, hz]; rfl)
    have hs := stl_le zs (by omega)
    have C : Calls Try.prog 61 #[.slice (some ⟨g, 0, none⟩) len cap] w (SPost zs len w) := shStay_any h ((Ns.good_iff zs).1 hg)
    have HC := Lib.hid C
    rw [E2.out]
    clear h hz hg C
    go_enter Try.func44, Try.ntmps44
    go_wp2_with fail
    refine (sStands_any HO.out hl true HG.out).mono ?_
    rintro e w' ⟨rfl, rfl⟩
    go_wp2_with fail
    refine HC.out.mono ?_
    rintro e w1 ⟨v, rfl, o, hb⟩
    have HB := Lib.hid hb
    rw [← E.out] at o
    obtain ⟨n, hn⟩ : ∃ n, (stl zs).length = n := ⟨_, rfl⟩
    rw [hn] at o hs
    have HN := Lib.hid hn
    obtain ⟨a, c, rfl, -⟩ := sl_form o
    clear o hb hn
    go_wp2
    go_ret2
    exact ⟨by rw [HN.out]; first | rfl | simp, HB.out⟩
end So
end Go.Proofs.Ytogkebbgkeffcaa
