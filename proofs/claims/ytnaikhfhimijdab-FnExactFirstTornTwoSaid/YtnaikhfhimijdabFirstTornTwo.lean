/- FnExactFirstTornTwo is proved: spec.FirstTornTwo and impl.FirstTornTwo answer alike for all two integers. No condition: for every input that the parameter types allow. -/
import Derived.Test.YtnaikhfhimijdabRows
import Derived.WalkKit
import Derived.ProofKit
import Derived.OpenShut
import Derived.Test.YtnaikhfhimijdabWalks
namespace Go.Proofs.Ytnaikhfhimijdab.fnExactFirstTornTwo
open Go.ChangeShapes Go.WideShapes Go.ChangeAt Go.RowKit
set_option linter.unusedVariables false

theorem own : ownKnob Try.prog.godebug = none := by kernel_rfl

theorem s_no (p s : Int) (h : ¬ 1 ≤ p ∨ ¬ p ≤ 2000 ∨ ¬ 0 ≤ s ∨ ¬ s ≤ 4000000) (w : World) :
    Calls Try.prog 23 #[.int .i64 p, .int .i64 s] w fun e w' => e = .returned (.tuple #[.int .i64 0, .int .i64 0, .bool false]) ∧ w = w' := by
  by_cases c1 : 1 ≤ p
  · by_cases c2 : p ≤ 2000
    · by_cases c3 : 0 ≤ s
      · have c4 : ¬ s ≤ 4000000 := by omega
        have c4' : 4000000 < s := by omega
        clear h
        go_enter Try.func23, Try.ntmps23
        go_wp2
        go_ret3
        exact ⟨rfl, rfl⟩
      · have c3' : s < 0 := by omega
        clear h
        go_enter Try.func23, Try.ntmps23
        go_wp2
        go_ret3
        exact ⟨rfl, rfl⟩
    · clear h
      go_enter Try.func23, Try.ntmps23
      go_wp2
      go_ret3
      exact ⟨rfl, rfl⟩
  · clear h
    go_enter Try.func23, Try.ntmps23
    go_wp2
    go_ret3
    exact ⟨rfl, rfl⟩
theorem i_no (p s : Int) (h : ¬ 1 ≤ p ∨ ¬ p ≤ 2000 ∨ ¬ 0 ≤ s ∨ ¬ s ≤ 4000000) (w : World) :
    Calls Try.prog 24 #[.int .i64 p, .int .i64 s] w fun e w' => e = .returned (.tuple #[.int .i64 0, .int .i64 0, .bool false]) ∧ w = w' := by
  by_cases c1 : 1 ≤ p
  · by_cases c2 : p ≤ 2000
    · by_cases c3 : 0 ≤ s
      · have c4 : ¬ s ≤ 4000000 := by omega
        have c4' : 4000000 < s := by omega
        clear h
        go_enter Try.func24, Try.ntmps24
        go_wp2
        go_ret3
        exact ⟨rfl, rfl⟩
      · have c3' : s < 0 := by omega
        clear h
        go_enter Try.func24, Try.ntmps24
        go_wp2
        go_ret3
        exact ⟨rfl, rfl⟩
    · clear h
      go_enter Try.func24, Try.ntmps24
      go_wp2
      go_ret3
      exact ⟨rfl, rfl⟩
  · clear h
    go_enter Try.func24, Try.ntmps24
    go_wp2
    go_ret3
    exact ⟨rfl, rfl⟩
theorem s_yes (p s : Int) (h1 : 1 ≤ p) (h2 : p ≤ 2000) (h3 : 0 ≤ s) (h4 : s ≤ 4000000) (w : World) :
    Calls Try.prog 23 #[.int .i64 p, .int .i64 s] w fun e w' => e = .returned (.tuple #[.int .i64 (M.st p (M.tri p - s) (p / 2).toNat).1, .int .i64 (M.st p (M.tri p - s) (p / 2).toNat).2.1, .bool (decide (0 < (M.st p (M.tri p - s) (p / 2).toNat).2.2))]) ∧ w = w' := by
  go_enter Try.func23, Try.ntmps23
  go_wp2_with (first | (go_at_call 41; refine (bpTwo_any _ _ (by omega) (by omega) (by omega) (by omega) _).mono ?_; rintro e w' ⟨rfl, rfl⟩) | go_in)
  go_ret3
  exact ⟨rfl, rfl⟩
theorem i_yes (p s : Int) (h1 : 1 ≤ p) (h2 : p ≤ 2000) (h3 : 0 ≤ s) (h4 : s ≤ 4000000) (w : World) :
    Calls Try.prog 24 #[.int .i64 p, .int .i64 s] w fun e w' => e = .returned (.tuple #[.int .i64 (M.st p (M.tri p - s) (p / 2).toNat).1, .int .i64 (M.st p (M.tri p - s) (p / 2).toNat).2.1, .bool (decide (0 < (M.st p (M.tri p - s) (p / 2).toNat).2.2))]) ∧ w = w' := by
  go_enter Try.func24, Try.ntmps24
  go_wp2_with (first | (go_at_call 42; refine (tornPairs_any _ _ (by omega) (by omega) (by omega) (by omega) _).mono ?_; rintro e w' ⟨rfl, rfl⟩) | go_in)
  go_ret3
  exact ⟨rfl, rfl⟩

/-! the walk -/
theorem walk (a0 : Int) (a1 : Int) (w0 : (Lit.int .i64 a0).wf = true) (w1 : (Lit.int .i64 a1).wf = true) (w : World) :
    Calls Try.prog 9 #[.int .i64 a0, .int .i64 a1] w fun e w' => e = .returned (.bool true) ∧ Grown w w' := by
  by_cases c : 1 ≤ a0 ∧ a0 ≤ 2000 ∧ 0 ≤ a1 ∧ a1 ≤ 4000000
  · obtain ⟨c1, c2, c3, c4⟩ := c
    go_enter Try.func9, Try.ntmps9
    go_wp2_with (first | (go_at_call 23; refine (s_yes _ _ (by omega) (by omega) (by omega) (by omega) _).mono ?_; rintro e w' ⟨rfl, rfl⟩) | (go_at_call 24; refine (i_yes _ _ (by omega) (by omega) (by omega) (by omega) _).mono ?_; rintro e w' ⟨rfl, rfl⟩) | go_in)
    go_ret
    exact ⟨rfl, Grown.refl _⟩
  · have h : ¬ 1 ≤ a0 ∨ ¬ a0 ≤ 2000 ∨ ¬ 0 ≤ a1 ∨ ¬ a1 ≤ 4000000 := by omega
    have S := fun w => s_no a0 a1 h w
    have I := fun w => i_no a0 a1 h w
    clear c h
    go_enter Try.func9, Try.ntmps9
    go_wp2_with (first | (go_at_call 23; refine (S _).mono ?_; rintro e w' ⟨rfl, rfl⟩) | (go_at_call 24; refine (I _).mono ?_; rintro e w' ⟨rfl, rfl⟩) | go_in)
    go_ret
    exact ⟨rfl, Grown.refl _⟩

/-! the row's step -/
set_option maxRecDepth 100000 in
theorem lifted (os : Os) (started : os.Started) (H : Type) (enc : TypeId × Value → H) :
    ReturnsInHanded {} Try.checked os 9 .any (Rows.fnExactFirstTornTwoSpec.pre6 enc Try.prog Try.f9 Rows.fnExactFirstTornTwoRow.domain false) (Rows.fnExactFirstTornTwoSpec.post enc Try.prog Try.f9 false true false false) := by
  refine returnsInHanded_of_change (C := Try.checked) own started (by kernel_rfl) Try.func9
    (ChangeSpec.witness6 (enc := enc) (C := Try.checked) false ⟨#[], #[.int .i64 0, .int .i64 0], []⟩ 8 (by kernel_rfl) (by kernel_rfl) (by kernel_rfl) (by kernel_rfl)) ?_
  intro W base args ds gs before hval0 hW hcnd _
  have hval : ∀ (j : Nat) t v, Try.f9.params[j]? = some t → args[j]? = some v → Value.okWide Try.prog W .any base t v := hval0
  have hW' := hW
  obtain ⟨p, q, hA0, hV, rfl, hfz, hnd⟩ := hW
  have hA : DataW.TrodAll enc Try.prog W 0 (fun _ => true) true Try.f9.params.toList args.toList ds p := hA0
  rw [Try.params9] at hA hval
  obtain ⟨v0, vs0, d0, ds0, p0, q0, hargs, rfl, rfl, h0, r0⟩ := trodAll_cons hA
  obtain ⟨v1, vs1, d1, ds1, p1, q1, rfl, rfl, rfl, h1, r1⟩ := trodAll_cons r0
  obtain ⟨rfl, rfl, rfl⟩ := trodAll_nil r1
  obtain rfl : args = #[v0, v1] := by cases args; simp_all
  obtain ⟨rfl, rfl⟩ := trodVars_none hV
  obtain ⟨a0, rfl, rfl, rfl, w0⟩ := open_int Try.underlying3 (hval 0 3 v0 rfl rfl) h0
  obtain ⟨a1, rfl, rfl, rfl, w1⟩ := open_int Try.underlying3 (hval 1 3 v1 rfl rfl) h1
  clear hA0 hval0
  simp only [List.append_nil] at hW'
  refine (walk a0 a1 w0 w1 W).mono fun e W' ⟨he, hg⟩ => ?_
  subst he
  exact ⟨_, rfl, post_of_same (pa := []) (pv := []) hW' (fun _ _ _ => (trodAll_cons_mk (shut_bool Try.underlying4 _) trodAll_mk0)) (fun sp _ => (trodAll_cons_mk (shut_int Try.underlying3 w0) (trodAll_cons_mk (shut_int Try.underlying3 w1) trodAll_mk0))) (fun _ _ => rfl) rfl
    (hg.frame _) hg.2.1 (ok_one (by kernel_rfl) rfl (okWide_bool_mk Try.underlying4 _))⟩

theorem over : Rows.fnExactFirstTornTwoRow.holds Try.pinned (OpenSpec.ofChange Rows.fnExactFirstTornTwoSpec) :=
  OpenClaim.holds_of_wide 9 Try.f9 rfl rfl rfl rfl rfl rfl rfl ⟨rfl, rfl, rfl, rfl, rfl⟩ rfl rfl rfl rfl rfl (by kernel_rfl) Try.func9 (by kernel_rfl)
    (of_decide_eq_true (by kernel_rfl)) (by unfold Func.isWrapper; first | (rw [if_pos (by decide +kernel)]; kernel_rfl) | (rw [if_neg (by decide +kernel)]; exact ⟨rfl, rfl⟩))
    (fun os started H enc _ => lifted os started H enc)

/-- the statement -/
theorem proved : Rows.FnExactFirstTornTwoSaid :=
  over
#print axioms proved
end Go.Proofs.Ytnaikhfhimijdab.fnExactFirstTornTwo
