/- FnExactTornFromSum is proved: spec.TornFromSum and impl.TornFromSum answer alike for every integer. No condition: for every input that the parameter types allow. -/
import Derived.Test.YtnaikhfhimijdabRows
import Derived.WalkKit
import Derived.ProofKit
import Derived.OpenShut
import Derived.Test.YtnaikhfhimijdabSums
namespace Go.Proofs.Ytnaikhfhimijdab.fnExactTornFromSum
open Go.ChangeShapes Go.WideShapes Go.ChangeAt Go.RowKit
set_option linter.unusedVariables false

theorem own : ownKnob Try.prog.godebug = none := by kernel_rfl

theorem s_no (s : Int) (h : ¬ 1 ≤ s ∨ ¬ s ≤ 4000000) (w : World) :
    Calls Try.prog 19 #[.int .i64 s] w fun e w' => e = .returned (.tuple #[.int .i64 0, .int .i64 0, .bool false]) ∧ w = w' := by
  by_cases c1 : 1 ≤ s
  · have c2 : ¬ s ≤ 4000000 := by omega
    clear h
    go_enter Try.func19, Try.ntmps19
    go_wp2
    go_ret3
    exact ⟨rfl, rfl⟩
  · clear h
    go_enter Try.func19, Try.ntmps19
    go_wp2
    go_ret3
    exact ⟨rfl, rfl⟩
theorem i_no (s : Int) (h : ¬ 1 ≤ s ∨ ¬ s ≤ 4000000) (w : World) :
    Calls Try.prog 20 #[.int .i64 s] w fun e w' => e = .returned (.tuple #[.int .i64 0, .int .i64 0, .bool false]) ∧ w = w' := by
  by_cases c1 : s < 1
  · clear h
    go_enter Try.func20, Try.ntmps20
    go_wp2
    go_step3
    go_wp2
    try rw [Exit.noGoto_ret]
    go_ret3
    exact ⟨rfl, rfl⟩
  · have c2 : 4000000 < s := by omega
    clear h
    go_enter Try.func20, Try.ntmps20
    go_wp2
    go_step3
    go_wp2
    try rw [Exit.noGoto_ret]
    go_ret3
    exact ⟨rfl, rfl⟩

/-! the walk -/
theorem walk (a0 : Int) (w0 : (Lit.int .i64 a0).wf = true) (w : World) :
    Calls Try.prog 7 #[.int .i64 a0] w fun e w' => e = .returned (.bool true) ∧ Grown w w' := by
  by_cases c : 1 ≤ a0 ∧ a0 ≤ 4000000
  · have S := fun w => spec_found a0 c.1 c.2 w
    have I := fun w => impl_found a0 c.1 c.2 w
    clear c
    go_enter Try.func7, Try.ntmps7
    go_wp2_with fail
    refine (S _).mono ?_
    rintro e w' ⟨⟨b, t, ok, hr, rfl⟩, rfl⟩
    clear S
    go_wp2_with fail
    refine (I _).mono ?_
    rintro e w' ⟨⟨b', t', ok', hr', rfl⟩, rfl⟩
    clear I
    obtain ⟨rfl, rfl, rfl⟩ := res_one hr hr'
    clear hr hr'
    go_wp2
    go_ret
    exact ⟨rfl, Grown.refl _⟩
  · have h : ¬ 1 ≤ a0 ∨ ¬ a0 ≤ 4000000 := by omega
    have S := fun w => s_no a0 h w
    have I := fun w => i_no a0 h w
    clear c h
    go_enter Try.func7, Try.ntmps7
    go_wp2_with (first | (go_at_call 19; refine (S _).mono ?_; rintro e w' ⟨rfl, rfl⟩) | (go_at_call 20; refine (I _).mono ?_; rintro e w' ⟨rfl, rfl⟩) | go_in)
    go_ret
    exact ⟨rfl, Grown.refl _⟩

/-! the row's step -/
set_option maxRecDepth 100000 in
theorem lifted (os : Os) (started : os.Started) (H : Type) (enc : TypeId × Value → H) :
    ReturnsInHanded {} Try.checked os 7 .any (Rows.fnExactTornFromSumSpec.pre6 enc Try.prog Try.f7 Rows.fnExactTornFromSumRow.domain false) (Rows.fnExactTornFromSumSpec.post enc Try.prog Try.f7 false true false false) := by
  refine returnsInHanded_of_change (C := Try.checked) own started (by kernel_rfl) Try.func7
    (ChangeSpec.witness6 (enc := enc) (C := Try.checked) false ⟨#[], #[.int .i64 0], []⟩ 8 (by kernel_rfl) (by kernel_rfl) (by kernel_rfl) (by kernel_rfl)) ?_
  intro W base args ds gs before hval0 hW hcnd _
  have hval : ∀ (j : Nat) t v, Try.f7.params[j]? = some t → args[j]? = some v → Value.okWide Try.prog W .any base t v := hval0
  have hW' := hW
  obtain ⟨p, q, hA0, hV, rfl, hfz, hnd⟩ := hW
  have hA : DataW.TrodAll enc Try.prog W 0 (fun _ => true) true Try.f7.params.toList args.toList ds p := hA0
  rw [Try.params7] at hA hval
  obtain ⟨v0, vs0, d0, ds0, p0, q0, hargs, rfl, rfl, h0, r0⟩ := trodAll_cons hA
  obtain ⟨rfl, rfl, rfl⟩ := trodAll_nil r0
  obtain rfl : args = #[v0] := by cases args; simp_all
  obtain ⟨rfl, rfl⟩ := trodVars_none hV
  obtain ⟨a0, rfl, rfl, rfl, w0⟩ := open_int Try.underlying3 (hval 0 3 v0 rfl rfl) h0
  clear hA0 hval0
  simp only [List.append_nil] at hW'
  refine (walk a0 w0 W).mono fun e W' ⟨he, hg⟩ => ?_
  subst he
  exact ⟨_, rfl, post_of_same (pa := []) (pv := []) hW' (fun _ _ _ => (trodAll_cons_mk (shut_bool Try.underlying4 _) trodAll_mk0)) (fun sp _ => (trodAll_cons_mk (shut_int Try.underlying3 w0) trodAll_mk0)) (fun _ _ => rfl) rfl
    (hg.frame _) hg.2.1 (ok_one (by kernel_rfl) rfl (okWide_bool_mk Try.underlying4 _))⟩

theorem over : Rows.fnExactTornFromSumRow.holds Try.pinned (OpenSpec.ofChange Rows.fnExactTornFromSumSpec) :=
  OpenClaim.holds_of_wide 7 Try.f7 rfl rfl rfl rfl rfl rfl rfl ⟨rfl, rfl, rfl, rfl, rfl⟩ rfl rfl rfl rfl rfl (by kernel_rfl) Try.func7 (by kernel_rfl)
    (of_decide_eq_true (by kernel_rfl)) (by unfold Func.isWrapper; first | (rw [if_pos (by decide +kernel)]; kernel_rfl) | (rw [if_neg (by decide +kernel)]; exact ⟨rfl, rfl⟩))
    (fun os started H enc _ => lifted os started H enc)

/-- the statement -/
theorem proved : Rows.FnExactTornFromSumSaid :=
  over
#print axioms proved
end Go.Proofs.Ytnaikhfhimijdab.fnExactTornFromSum
