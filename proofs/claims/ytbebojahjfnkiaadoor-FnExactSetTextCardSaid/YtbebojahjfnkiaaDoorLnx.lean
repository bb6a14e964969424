/- When words fit, by the model; FillLines and CountLines of the model. -/
import Derived.Test.YtbebojahjfnkiaaDoorLnw
namespace Go.Proofs.YtbebojahjfnkiaaDoor
open Go.RowKit Go.Joins Go.Deep Go.ChangeShapes Go.WideShapes
set_option linter.unusedVariables false
set_option linter.unusedSimpArgs false
namespace Ln
def wideB (wide : Int) : Bool := decide (1 ≤ wide) && decide (wide ≤ 80)
theorem lnWide_any (wide : Int) (v : Bool) (hv : wideB wide = v) (w : World) :
    Calls Tryd.prog 22 #[.int .i64 wide] w fun e w' => e = .returned (.bool v) ∧ w = w' := by
  have C := Lib.hid (fun W => l1In_any wide 1 80 v hv W)
  clear hv
  go_enter Tryd.func22, Tryd.ntmps22
  go_wp2_with fail
  refine (C.out _).mono ?_
  rintro e w' ⟨rfl, rfl⟩
  go_wp2
  go_ret
  exact ⟨rfl, rfl⟩
def fits (zs : List Int) (wide : Int) : Bool := (good zs && wideB wide) && allB zs 1 wide
set_option maxRecDepth 100000 in
set_option maxHeartbeats 1000000 in
theorem lnFits_any {b1 g len cap : Nat} {zs : List Int} {wide : Int} {w : World} (h : Ow w b1 g len cap zs) (hl : len ≤ 1048576) (v : Bool) (hv : fits zs wide = v) :
    Calls Tryd.prog 10 #[.slice (some ⟨g, 0, none⟩) len cap, .int .i64 wide] w fun e w' => e = .returned (.bool v) ∧ w = w' := by
  obtain ⟨x1, hx1⟩ : ∃ x, good zs = x := ⟨_, rfl⟩
  obtain ⟨x2, hx2⟩ : ∃ x, wideB wide = x := ⟨_, rfl⟩
  obtain ⟨x3, hx3⟩ : ∃ x, allB zs 1 wide = x := ⟨_, rfl⟩
  have e : v = ((x1 && x2) && x3) := by rw [← hv]; unfold fits; rw [hx1, hx2, hx3]
  subst e
  have C1 := Lib.hid (sGood_any h hl x1 hx1)
  have C2 := Lib.hid (fun W => lnWide_any wide x2 hx2 W)
  have C3 := Lib.hid (l1All_any 1 wide h hl x3 hx3)
  clear h hv hx1 hx2 hx3
  cases x1
  · go_enter Tryd.func10, Tryd.ntmps10
    go_wp2_with fail
    refine C1.out.mono ?_
    rintro e w' ⟨rfl, rfl⟩
    go_wp2
    go_ret
    exact ⟨rfl, rfl⟩
  · cases x2
    · go_enter Tryd.func10, Tryd.ntmps10
      go_wp2_with fail
      refine C1.out.mono ?_
      rintro e w' ⟨rfl, rfl⟩
      go_wp2_with fail
      refine (C2.out _).mono ?_
      rintro e w' ⟨rfl, rfl⟩
      go_wp2
      go_ret
      exact ⟨rfl, rfl⟩
    · go_enter Tryd.func10, Tryd.ntmps10
      go_wp2_with fail
      refine C1.out.mono ?_
      rintro e w' ⟨rfl, rfl⟩
      go_wp2_with fail
      refine (C2.out _).mono ?_
      rintro e w' ⟨rfl, rfl⟩
      go_wp2_with fail
      refine C3.out.mono ?_
      rintro e w' ⟨rfl, rfl⟩
      go_wp2
      go_ret
      exact ⟨rfl, rfl⟩
/-- the filled lines, or none -/
def flZ (zs : List Int) (wide : Int) : List Int := if fits zs wide = true then fillA zs wide 0 else []
def Gives (ok : Bool) (os : List Int) (W : World) (e : Ending) (w' : World) : Prop :=
  ∃ v, e = .returned (.tuple #[v, .bool ok]) ∧ w'.ownsRow W.heap.size 3 1 v os.length (Li.nums os) ∧ Below W.heap.size W w'
theorem fits_ok {zs : List Int} {wide : Int} (h : fits zs wide = true) : Ok zs := by
  unfold fits at h
  simp only [Bool.and_eq_true] at h
  exact (good_iff zs).1 h.1.1
end Ln
end Go.Proofs.YtbebojahjfnkiaaDoor
