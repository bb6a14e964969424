/- FnExactPageInBook is proved: spec.PageInBook and impl.PageInBook answer alike for every four integers. No condition: for every input that the parameter types allow. -/
import Derived.Test.YtjkpmjcfbdpnhaaRows
import Derived.WalkKit
import Derived.ProofKit
import Derived.OpenShut
import Derived.Test.YtjkpmjcfbdpnhaaPib
namespace Go.Proofs.Ytjkpmjcfbdpnhaa.fnExactPageInBook
open Go.ChangeShapes Go.WideShapes Go.ChangeAt Go.RowKit
set_option linter.unusedVariables false

theorem own : ownKnob Try.prog.godebug = none := by kernel_rfl

/-! the walk -/
theorem walk (a0 : Int) (a1 : Int) (a2 : Int) (a3 : Int) (w0 : (Lit.int .i64 a0).wf = true) (w1 : (Lit.int .i64 a1).wf = true) (w2 : (Lit.int .i64 a2).wf = true) (w3 : (Lit.int .i64 a3).wf = true) (w : World) :
    Calls Try.prog 10 #[.int .i64 a0, .int .i64 a1, .int .i64 a2, .int .i64 a3] w fun e w' => e = .returned (.bool true) ∧ Grown w w' := by
  by_cases hv : 1 ≤ a0 ∧ a0 ≤ 2000 ∧ 1 ≤ a1 ∧ a1 ≤ 16
  · obtain ⟨h1, h2, h3, h4⟩ := hv
    by_cases hg : 1 ≤ a3 ∧ a3 ≤ 4 * a1 ∧ 1 ≤ a2 ∧ a2 ≤ 2000
    · obtain ⟨h5, h6, h7, h8⟩ := hg
      by_cases h9 : a0 < (a2 - 1) * 4 * a1 + a3
      · by_cases h10 : a2 ≤ sig a0 a1
        · go_enter Try.func10, Try.ntmps10
          go_wp2_with (first | (go_at_call 28; refine (s_pib_blank _ _ _ _ h1 h2 h3 h4 h5 h6 h7 h8 h9 _).mono ?_; rintro e w' ⟨rfl, rfl⟩) | (go_at_call 29; refine (i_pib_blank _ _ _ _ h1 h2 h3 h4 h5 h6 h7 h10 h9 _).mono ?_; rintro e w' ⟨rfl, rfl⟩))
          go_ret
          exact ⟨rfl, Grown.refl _⟩
        · go_enter Try.func10, Try.ntmps10
          go_wp2_with (first | (go_at_call 28; refine (s_pib_blank _ _ _ _ h1 h2 h3 h4 h5 h6 h7 h8 h9 _).mono ?_; rintro e w' ⟨rfl, rfl⟩) | (go_at_call 29; refine (i_pib_no _ _ _ _ h1 h2 h3 h4 (by omega) _).mono ?_; rintro e w' ⟨rfl, rfl⟩))
          go_ret
          exact ⟨rfl, Grown.refl _⟩
      · have H9 := Lib.hid (Int.not_lt.mp h9)
        clear h9
        go_enter Try.func10, Try.ntmps10
        go_wp2_with (first | (go_at_call 28; refine (s_pib_yes _ _ _ _ h1 h2 h3 h4 h5 h6 h7 h8 (Int.not_lt.mpr H9.out) _).mono ?_; rintro e w' ⟨rfl, rfl⟩) | (go_at_call 29; refine (i_pib_yes _ _ _ _ h1 h2 h3 h4 h5 h6 h7 (Int.not_lt.mpr H9.out) _).mono ?_; rintro e w' ⟨rfl, rfl⟩))
        go_ret
        exact ⟨rfl, Grown.refl _⟩
    · have hs := sig_le a0 a1 h1 h2 h3
      have d1 := Lib.hid (show ¬ 1 ≤ a0 ∨ ¬ a0 ≤ 2000 ∨ ¬ 1 ≤ a1 ∨ ¬ a1 ≤ 16 ∨ ¬ 1 ≤ a3 ∨ ¬ a3 ≤ 4 * a1 ∨ ¬ 1 ≤ a2 ∨ ¬ a2 ≤ 2000 by omega)
      have d2 := Lib.hid (show a2 < 1 ∨ sig a0 a1 < a2 ∨ a3 < 1 ∨ 4 * a1 < a3 by omega)
      clear hs hg
      go_enter Try.func10, Try.ntmps10
      go_wp2_with (first | (go_at_call 28; refine (s_pib_no _ _ _ _ d1.out _).mono ?_; rintro e w' ⟨rfl, rfl⟩) | (go_at_call 29; refine (i_pib_no _ _ _ _ h1 h2 h3 h4 d2.out _).mono ?_; rintro e w' ⟨rfl, rfl⟩))
      go_ret
      exact ⟨rfl, Grown.refl _⟩
  · go_enter Try.func10, Try.ntmps10
    go_wp2_with (first | (go_at_call 28; refine (s_pib_no _ _ _ _ (by omega) _).mono ?_; rintro e w' ⟨rfl, rfl⟩) | (go_at_call 29; refine (i_pib_bad _ _ _ _ (by omega) _).mono ?_; rintro e w' ⟨rfl, rfl⟩))
    go_ret
    exact ⟨rfl, Grown.refl _⟩

/-! the row's step -/
set_option maxRecDepth 100000 in
theorem lifted (os : Os) (started : os.Started) (H : Type) (enc : TypeId × Value → H) :
    ReturnsInHanded {} Try.checked os 10 .any (Rows.fnExactPageInBookSpec.pre6 enc Try.prog Try.f10 Rows.fnExactPageInBookRow.domain false) (Rows.fnExactPageInBookSpec.post enc Try.prog Try.f10 false true false false) := by
  refine returnsInHanded_of_change (C := Try.checked) own started (by kernel_rfl) Try.func10
    (ChangeSpec.witness6 (enc := enc) (C := Try.checked) false ⟨#[], #[.int .i64 0, .int .i64 0, .int .i64 0, .int .i64 0], []⟩ 8 (by kernel_rfl) (by kernel_rfl) (by kernel_rfl) (by kernel_rfl)) ?_
  intro W base args ds gs before hval0 hW hcnd _
  have hval : ∀ (j : Nat) t v, Try.f10.params[j]? = some t → args[j]? = some v → Value.okWide Try.prog W .any base t v := hval0
  have hW' := hW
  obtain ⟨p, q, hA0, hV, rfl, hfz, hnd⟩ := hW
  have hA : DataW.TrodAll enc Try.prog W 0 (fun _ => true) true Try.f10.params.toList args.toList ds p := hA0
  rw [Try.params10] at hA hval
  obtain ⟨v0, vs0, d0, ds0, p0, q0, hargs, rfl, rfl, h0, r0⟩ := trodAll_cons hA
  obtain ⟨v1, vs1, d1, ds1, p1, q1, rfl, rfl, rfl, h1, r1⟩ := trodAll_cons r0
  obtain ⟨v2, vs2, d2, ds2, p2, q2, rfl, rfl, rfl, h2, r2⟩ := trodAll_cons r1
  obtain ⟨v3, vs3, d3, ds3, p3, q3, rfl, rfl, rfl, h3, r3⟩ := trodAll_cons r2
  obtain ⟨rfl, rfl, rfl⟩ := trodAll_nil r3
  obtain rfl : args = #[v0, v1, v2, v3] := by cases args; simp_all
  obtain ⟨rfl, rfl⟩ := trodVars_none hV
  obtain ⟨a0, rfl, rfl, rfl, w0⟩ := open_int Try.underlying3 (hval 0 3 v0 rfl rfl) h0
  obtain ⟨a1, rfl, rfl, rfl, w1⟩ := open_int Try.underlying3 (hval 1 3 v1 rfl rfl) h1
  obtain ⟨a2, rfl, rfl, rfl, w2⟩ := open_int Try.underlying3 (hval 2 3 v2 rfl rfl) h2
  obtain ⟨a3, rfl, rfl, rfl, w3⟩ := open_int Try.underlying3 (hval 3 3 v3 rfl rfl) h3
  clear hA0 hval0
  simp only [List.append_nil] at hW'
  refine (walk a0 a1 a2 a3 w0 w1 w2 w3 W).mono fun e W' ⟨he, hg⟩ => ?_
  subst he
  exact ⟨_, rfl, post_of_same (pa := []) (pv := []) hW' (fun _ _ _ => (trodAll_cons_mk (shut_bool Try.underlying4 _) trodAll_mk0)) (fun sp _ => (trodAll_cons_mk (shut_int Try.underlying3 w0) (trodAll_cons_mk (shut_int Try.underlying3 w1) (trodAll_cons_mk (shut_int Try.underlying3 w2) (trodAll_cons_mk (shut_int Try.underlying3 w3) trodAll_mk0))))) (fun _ _ => rfl) rfl
    (hg.frame _) hg.2.1 (ok_one (by kernel_rfl) rfl (okWide_bool_mk Try.underlying4 _))⟩

theorem over : Rows.fnExactPageInBookRow.holds Try.pinned (OpenSpec.ofChange Rows.fnExactPageInBookSpec) :=
  OpenClaim.holds_of_wide 10 Try.f10 rfl rfl rfl rfl rfl rfl rfl ⟨rfl, rfl, rfl, rfl, rfl⟩ rfl rfl rfl rfl rfl (by kernel_rfl) Try.func10 (by kernel_rfl)
    (of_decide_eq_true (by kernel_rfl)) (by unfold Func.isWrapper; first | (rw [if_pos (by decide +kernel)]; kernel_rfl) | (rw [if_neg (by decide +kernel)]; exact ⟨rfl, rfl⟩))
    (fun os started H enc _ => lifted os started H enc)

/-- the statement -/
theorem proved : Rows.FnExactPageInBookSaid :=
  over
#print axioms proved
end Go.Proofs.Ytjkpmjcfbdpnhaa.fnExactPageInBook
