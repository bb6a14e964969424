/- FnExactPartPlan is proved: spec.PartPlan and impl.PartPlan answer alike for every argument. No condition: for every input that the parameter types allow. -/
import Derived.Test.YtcaklokcajidiabRows
import Derived.WalkKit
import Derived.ProofKit
import Derived.OpenShut
import Derived.Test.YtcaklokcajidiabLp
namespace Go.Proofs.Ytcaklokcajidiab.fnExactPartPlan
open Go.ChangeShapes Go.WideShapes Go.ChangeAt Go.RowKit
set_option linter.unusedVariables false

theorem own : ownKnob Try.prog.godebug = none := by kernel_rfl

set_option maxRecDepth 100000 in
set_option maxHeartbeats 1000000 in
theorem law (a0 a1 a2 : Int) (ok : Bool) (zs : List Int) (hl : zs.length ≤ 1048576) (S : ∀ W : World, Calls Try.prog 19 #[.int .i64 a0, .int .i64 a1, .int .i64 a2] W (Li.Gives ok zs W)) (I : ∀ W : World, Calls Try.prog 20 #[.int .i64 a0, .int .i64 a1, .int .i64 a2] W (Li.Gives ok zs W)) (w : World) :
    Calls Try.prog 5 #[.int .i64 a0, .int .i64 a1, .int .i64 a2] w fun e w' => e = .returned (.bool true) ∧ Below w.heap.size w w' := by
  have HS := Lib.hid S
  have HI := Lib.hid I
  have hl2 : (0 : Int) ≤ zs.length := by omega
  have hl3 : (zs.length : Int) ≤ 1048576 := by omega
  clear S I
  go_enter Try.func5, Try.ntmps5
  go_wp2_with fail
  refine (HS.out _).mono ?_
  rintro e w1 ⟨v, rfl, o1, b1⟩
  go_wp2_with fail
  refine (HI.out _).mono ?_
  rintro e w2 ⟨g, rfl, o2, b2⟩
  have b12 := Lib.hid (Li.below_next b1 b2)
  have A := Lib.hid (Li.apart o1 o2)
  have L := Lib.hid (show ∀ k, g.ownBlock = some k → w.heap.size ≤ k from fun k hk => Nat.le_trans b1.size (o2.lt k hk).1)
  have o1 := Li.own_on o1 b2
  clear b1 b2
  go_wp2_with fail
  refine (Li.eqIntS_own o2 o1 hl).mono ?_
  rintro e w3 ⟨rfl, b3⟩
  have o1 := Li.own_on o1 b3
  have o2 := Li.own_on o2 b3
  have b13 := Lib.hid (b12.out.trans (b3.mono b12.out.size))
  clear b3 b12
  go_wp2_with fail
  refine (Li.markIntS_own o2 hl).mono ?_
  rintro e w4 ⟨rfl, o2, g4⟩
  have o1 := o1.kept g4 A.out
  have b14 := Lib.hid (b13.out.grown g4 b13.out.size L.out)
  clear g4 b13
  go_wp2_with fail
  refine (Li.heldIntS_own o2 hl).mono ?_
  rintro e w5 ⟨rfl, rfl⟩
  go_wp2_with fail
  refine (HI.out _).mono ?_
  rintro e w6 ⟨h, rfl, o3, b6⟩
  have o1 := Li.own_on o1 b6
  have o2 := Li.own_on o2 b6
  have b16 := Lib.hid (b14.out.trans (b6.mono b14.out.size))
  clear b6 b14
  go_wp2_with fail
  refine (Li.eqIntS_own o3 o1 hl).mono ?_
  rintro e w7 ⟨rfl, b7⟩
  have o2 := Li.own_on o2 b7
  have b17 := Lib.hid (b16.out.trans (b7.mono b16.out.size))
  clear b7 b16 o1 o3
  go_wp2_with fail
  refine (Li.heldIntS_own o2 hl).mono ?_
  rintro e w8 ⟨rfl, rfl⟩
  go_wp2
  go_ret
  exact ⟨rfl, b17.out⟩

/-! the walk -/
theorem walk (a0 : Int) (a1 : Int) (a2 : Int) (w0 : (Lit.int .i64 a0).wf = true) (w1 : (Lit.int .i64 a1).wf = true) (w2 : (Lit.int .i64 a2).wf = true) (w : World) :
    Calls Try.prog 5 #[.int .i64 a0, .int .i64 a1, .int .i64 a2] w fun e w' => e = .returned (.bool true) ∧ Below w.heap.size w w' := by
  by_cases h : 1 ≤ a0 ∧ a0 ≤ 2000 ∧ 1 ≤ a1 ∧ a1 < a2 ∧ a2 ≤ 200
  · obtain ⟨h0, h1, h2, h3, h4⟩ := h
    obtain ⟨K, hK, hz, hl⟩ := Pa.ends (p := a0) (n := a1) (d := a2) (by omega) h1 h2 h3 h4
    exact law a0 a1 a2 true _ (by rw [Pa.li_len]; omega) (fun W => Ls.sParts_yes a0 a1 a2 K h0 h1 h2 h3 h4 hK hz hl W) (fun W => Ls.iParts_yes a0 a1 a2 K h0 h1 h2 h3 h4 hK hz hl W) w
  · exact law a0 a1 a2 false [] (by simp) (fun W => Ls.sParts_no a0 a1 a2 (by omega) W) (fun W => Ls.iParts_no a0 a1 a2 (by omega) W) w

/-! the row's step -/
set_option maxRecDepth 100000 in
theorem lifted (os : Os) (started : os.Started) (H : Type) (enc : TypeId × Value → H) :
    ReturnsInHanded {} Try.checked os 5 .any (Rows.fnExactPartPlanSpec.pre6 enc Try.prog Try.f5 Rows.fnExactPartPlanRow.domain false) (Rows.fnExactPartPlanSpec.post enc Try.prog Try.f5 false true false false) := by
  refine returnsInHanded_of_change (C := Try.checked) own started (by kernel_rfl) Try.func5
    (ChangeSpec.witness6 (enc := enc) (C := Try.checked) false ⟨#[], #[.int .i64 0, .int .i64 0, .int .i64 0], []⟩ 8 (by kernel_rfl) (by kernel_rfl) (by kernel_rfl) (by kernel_rfl)) ?_
  intro W base args ds gs before hval0 hW hcnd _
  have hval : ∀ (j : Nat) t v, Try.f5.params[j]? = some t → args[j]? = some v → Value.okWide Try.prog W .any base t v := hval0
  have hW' := hW
  obtain ⟨p, q, hA0, hV, rfl, hfz, hnd⟩ := hW
  have hA : DataW.TrodAll enc Try.prog W 0 (fun _ => true) true Try.f5.params.toList args.toList ds p := hA0
  rw [Try.params5] at hA hval
  obtain ⟨v0, vs0, d0, ds0, p0, q0, hargs, rfl, rfl, h0, r0⟩ := trodAll_cons hA
  obtain ⟨v1, vs1, d1, ds1, p1, q1, rfl, rfl, rfl, h1, r1⟩ := trodAll_cons r0
  obtain ⟨v2, vs2, d2, ds2, p2, q2, rfl, rfl, rfl, h2, r2⟩ := trodAll_cons r1
  obtain ⟨rfl, rfl, rfl⟩ := trodAll_nil r2
  obtain rfl : args = #[v0, v1, v2] := by cases args; simp_all
  obtain ⟨rfl, rfl⟩ := trodVars_none hV
  obtain ⟨a0, rfl, rfl, rfl, w0⟩ := open_int Try.underlying3 (hval 0 3 v0 rfl rfl) h0
  obtain ⟨a1, rfl, rfl, rfl, w1⟩ := open_int Try.underlying3 (hval 1 3 v1 rfl rfl) h1
  obtain ⟨a2, rfl, rfl, rfl, w2⟩ := open_int Try.underlying3 (hval 2 3 v2 rfl rfl) h2
  clear hA0 hval0
  simp only [List.append_nil] at hW'
  refine (walk a0 a1 a2 w0 w1 w2 W).mono fun e W' ⟨he, hg⟩ => ?_
  subst he
  exact ⟨_, rfl, _, _, _, [], _, [], hW', trodAll_mk1 (shut_bool Try.underlying4 _), (trodAll_cons_mk (shut_int Try.underlying3 w0) (trodAll_cons_mk (shut_int Try.underlying3 w1) (trodAll_cons_mk (shut_int Try.underlying3 w2) trodAll_mk0))), rfl, hg.frame _, fun h => by cases h⟩

theorem over : Rows.fnExactPartPlanRow.holds Try.pinned (OpenSpec.ofChange Rows.fnExactPartPlanSpec) :=
  OpenClaim.holds_of_wide 5 Try.f5 rfl rfl rfl rfl rfl rfl rfl ⟨rfl, rfl, rfl, rfl, rfl⟩ rfl rfl rfl rfl rfl (by kernel_rfl) Try.func5 (by kernel_rfl)
    (of_decide_eq_true (by kernel_rfl)) (by unfold Func.isWrapper; first | (rw [if_pos (by decide +kernel)]; kernel_rfl) | (rw [if_neg (by decide +kernel)]; exact ⟨rfl, rfl⟩))
    (fun os started H enc _ => lifted os started H enc)

/-- the statement -/
theorem proved : Rows.FnExactPartPlanSaid :=
  over
#print axioms proved
end Go.Proofs.Ytcaklokcajidiab.fnExactPartPlan
