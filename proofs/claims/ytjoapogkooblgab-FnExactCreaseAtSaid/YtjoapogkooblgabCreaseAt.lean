/- FnExactCreaseAt is proved: spec.CreaseAt and impl.CreaseAt answer alike for every two integers. No condition: for every input that the parameter types allow. -/
import Derived.Test.YtjoapogkooblgabRows
import Derived.WalkKit
import Derived.ProofKit
import Derived.OpenShut
import Derived.Test.YtjoapogkooblgabCw
namespace Go.Proofs.Ytjoapogkooblgab.fnExactCreaseAt
open Go.ChangeShapes Go.WideShapes Go.ChangeAt Go.RowKit
set_option linter.unusedVariables false

theorem own : ownKnob Try.prog.godebug = none := by kernel_rfl

/-! the walk -/
theorem walk (a0 : Int) (a1 : Int) (w0 : (Lit.int .i64 a0).wf = true) (w1 : (Lit.int .i64 a1).wf = true) (w : World) :
    Calls Try.prog 7 #[.int .i64 a0, .int .i64 a1] w fun e w' => e = .returned (.bool true) ∧ Below w.heap.size w w' := by
  by_cases h : 0 ≤ a0 ∧ a0 ≤ 7
  · obtain ⟨h0, h7⟩ := h
    obtain ⟨n, rfl⟩ := Int.eq_ofNat_of_zero_le h0
    have hl := C.ci_length n
    rcases (show n = 0 ∨ n = 1 ∨ n = 2 ∨ n = 3 ∨ n = 4 ∨ n = 5 ∨ n = 6 ∨ n = 7 from by omega) with rfl | rfl | rfl | rfl | rfl | rfl | rfl | rfl
    · have hl' : (C.ci 0).length = 0 := by omega
      have HL := Lib.hid hl'
      clear hl hl'
      by_cases hk : 1 ≤ a1 ∧ a1 ≤ 0
      · obtain ⟨k, rfl⟩ := Int.eq_ofNat_of_zero_le (show 0 ≤ a1 by omega)
        obtain ⟨k1, k2⟩ := hk
        omega
      · go_enter Try.func7, Try.ntmps7
        go_wp2_with (first | (go_at_call 22; refine (sat_out0 _ (by omega) _).mono ?_; rintro e w' ⟨rfl, rfl⟩) | (go_at_call 23; refine (iat_out 0 (by omega) _ (by rw [HL.out]; omega) _).mono ?_; rintro e w' ⟨rfl, hb⟩))
        go_ret
        exact ⟨rfl, hb⟩
    · have hl' : (C.ci 1).length = 1 := by omega
      have HL := Lib.hid hl'
      clear hl hl'
      by_cases hk : 1 ≤ a1 ∧ a1 ≤ 1
      · obtain ⟨k, rfl⟩ := Int.eq_ofNat_of_zero_le (show 0 ≤ a1 by omega)
        obtain ⟨k1, k2⟩ := hk
        go_enter Try.func7, Try.ntmps7
        go_wp2_with (first | (go_at_call 22; refine (sat_in1 _ (by omega) (by omega) _).mono ?_; rintro e w' ⟨rfl, rfl⟩) | (go_at_call 23; refine (iat_in 1 (by omega) _ (by omega) (by rw [HL.out]; omega) _).mono ?_; rintro e w' ⟨rfl, hb⟩))
        go_ret
        exact ⟨rfl, hb⟩
      · go_enter Try.func7, Try.ntmps7
        go_wp2_with (first | (go_at_call 22; refine (sat_out1 _ (by omega) _).mono ?_; rintro e w' ⟨rfl, rfl⟩) | (go_at_call 23; refine (iat_out 1 (by omega) _ (by rw [HL.out]; omega) _).mono ?_; rintro e w' ⟨rfl, hb⟩))
        go_ret
        exact ⟨rfl, hb⟩
    · have hl' : (C.ci 2).length = 3 := by omega
      have HL := Lib.hid hl'
      clear hl hl'
      by_cases hk : 1 ≤ a1 ∧ a1 ≤ 3
      · obtain ⟨k, rfl⟩ := Int.eq_ofNat_of_zero_le (show 0 ≤ a1 by omega)
        obtain ⟨k1, k2⟩ := hk
        go_enter Try.func7, Try.ntmps7
        go_wp2_with (first | (go_at_call 22; refine (sat_in2 _ (by omega) (by omega) _).mono ?_; rintro e w' ⟨rfl, rfl⟩) | (go_at_call 23; refine (iat_in 2 (by omega) _ (by omega) (by rw [HL.out]; omega) _).mono ?_; rintro e w' ⟨rfl, hb⟩))
        go_ret
        exact ⟨rfl, hb⟩
      · go_enter Try.func7, Try.ntmps7
        go_wp2_with (first | (go_at_call 22; refine (sat_out2 _ (by omega) _).mono ?_; rintro e w' ⟨rfl, rfl⟩) | (go_at_call 23; refine (iat_out 2 (by omega) _ (by rw [HL.out]; omega) _).mono ?_; rintro e w' ⟨rfl, hb⟩))
        go_ret
        exact ⟨rfl, hb⟩
    · have hl' : (C.ci 3).length = 7 := by omega
      have HL := Lib.hid hl'
      clear hl hl'
      by_cases hk : 1 ≤ a1 ∧ a1 ≤ 7
      · obtain ⟨k, rfl⟩ := Int.eq_ofNat_of_zero_le (show 0 ≤ a1 by omega)
        obtain ⟨k1, k2⟩ := hk
        go_enter Try.func7, Try.ntmps7
        go_wp2_with (first | (go_at_call 22; refine (sat_in3 _ (by omega) (by omega) _).mono ?_; rintro e w' ⟨rfl, rfl⟩) | (go_at_call 23; refine (iat_in 3 (by omega) _ (by omega) (by rw [HL.out]; omega) _).mono ?_; rintro e w' ⟨rfl, hb⟩))
        go_ret
        exact ⟨rfl, hb⟩
      · go_enter Try.func7, Try.ntmps7
        go_wp2_with (first | (go_at_call 22; refine (sat_out3 _ (by omega) _).mono ?_; rintro e w' ⟨rfl, rfl⟩) | (go_at_call 23; refine (iat_out 3 (by omega) _ (by rw [HL.out]; omega) _).mono ?_; rintro e w' ⟨rfl, hb⟩))
        go_ret
        exact ⟨rfl, hb⟩
    · have hl' : (C.ci 4).length = 15 := by omega
      have HL := Lib.hid hl'
      clear hl hl'
      by_cases hk : 1 ≤ a1 ∧ a1 ≤ 15
      · obtain ⟨k, rfl⟩ := Int.eq_ofNat_of_zero_le (show 0 ≤ a1 by omega)
        obtain ⟨k1, k2⟩ := hk
        go_enter Try.func7, Try.ntmps7
        go_wp2_with (first | (go_at_call 22; refine (sat_in4 _ (by omega) (by omega) _).mono ?_; rintro e w' ⟨rfl, rfl⟩) | (go_at_call 23; refine (iat_in 4 (by omega) _ (by omega) (by rw [HL.out]; omega) _).mono ?_; rintro e w' ⟨rfl, hb⟩))
        go_ret
        exact ⟨rfl, hb⟩
      · go_enter Try.func7, Try.ntmps7
        go_wp2_with (first | (go_at_call 22; refine (sat_out4 _ (by omega) _).mono ?_; rintro e w' ⟨rfl, rfl⟩) | (go_at_call 23; refine (iat_out 4 (by omega) _ (by rw [HL.out]; omega) _).mono ?_; rintro e w' ⟨rfl, hb⟩))
        go_ret
        exact ⟨rfl, hb⟩
    · have hl' : (C.ci 5).length = 31 := by omega
      have HL := Lib.hid hl'
      clear hl hl'
      by_cases hk : 1 ≤ a1 ∧ a1 ≤ 31
      · obtain ⟨k, rfl⟩ := Int.eq_ofNat_of_zero_le (show 0 ≤ a1 by omega)
        obtain ⟨k1, k2⟩ := hk
        go_enter Try.func7, Try.ntmps7
        go_wp2_with (first | (go_at_call 22; refine (sat_in5 _ (by omega) (by omega) _).mono ?_; rintro e w' ⟨rfl, rfl⟩) | (go_at_call 23; refine (iat_in 5 (by omega) _ (by omega) (by rw [HL.out]; omega) _).mono ?_; rintro e w' ⟨rfl, hb⟩))
        go_ret
        exact ⟨rfl, hb⟩
      · go_enter Try.func7, Try.ntmps7
        go_wp2_with (first | (go_at_call 22; refine (sat_out5 _ (by omega) _).mono ?_; rintro e w' ⟨rfl, rfl⟩) | (go_at_call 23; refine (iat_out 5 (by omega) _ (by rw [HL.out]; omega) _).mono ?_; rintro e w' ⟨rfl, hb⟩))
        go_ret
        exact ⟨rfl, hb⟩
    · have hl' : (C.ci 6).length = 63 := by omega
      have HL := Lib.hid hl'
      clear hl hl'
      by_cases hk : 1 ≤ a1 ∧ a1 ≤ 63
      · obtain ⟨k, rfl⟩ := Int.eq_ofNat_of_zero_le (show 0 ≤ a1 by omega)
        obtain ⟨k1, k2⟩ := hk
        go_enter Try.func7, Try.ntmps7
        go_wp2_with (first | (go_at_call 22; refine (sat_in6 _ (by omega) (by omega) _).mono ?_; rintro e w' ⟨rfl, rfl⟩) | (go_at_call 23; refine (iat_in 6 (by omega) _ (by omega) (by rw [HL.out]; omega) _).mono ?_; rintro e w' ⟨rfl, hb⟩))
        go_ret
        exact ⟨rfl, hb⟩
      · go_enter Try.func7, Try.ntmps7
        go_wp2_with (first | (go_at_call 22; refine (sat_out6 _ (by omega) _).mono ?_; rintro e w' ⟨rfl, rfl⟩) | (go_at_call 23; refine (iat_out 6 (by omega) _ (by rw [HL.out]; omega) _).mono ?_; rintro e w' ⟨rfl, hb⟩))
        go_ret
        exact ⟨rfl, hb⟩
    · have hl' : (C.ci 7).length = 127 := by omega
      have HL := Lib.hid hl'
      clear hl hl'
      by_cases hk : 1 ≤ a1 ∧ a1 ≤ 127
      · obtain ⟨k, rfl⟩ := Int.eq_ofNat_of_zero_le (show 0 ≤ a1 by omega)
        obtain ⟨k1, k2⟩ := hk
        go_enter Try.func7, Try.ntmps7
        go_wp2_with (first | (go_at_call 22; refine (sat_in7 _ (by omega) (by omega) _).mono ?_; rintro e w' ⟨rfl, rfl⟩) | (go_at_call 23; refine (iat_in 7 (by omega) _ (by omega) (by rw [HL.out]; omega) _).mono ?_; rintro e w' ⟨rfl, hb⟩))
        go_ret
        exact ⟨rfl, hb⟩
      · go_enter Try.func7, Try.ntmps7
        go_wp2_with (first | (go_at_call 22; refine (sat_out7 _ (by omega) _).mono ?_; rintro e w' ⟨rfl, rfl⟩) | (go_at_call 23; refine (iat_out 7 (by omega) _ (by rw [HL.out]; omega) _).mono ?_; rintro e w' ⟨rfl, hb⟩))
        go_ret
        exact ⟨rfl, hb⟩
  · go_enter Try.func7, Try.ntmps7
    go_wp2_with (first | (go_at_call 22; refine (sat_no _ _ (by omega) _).mono ?_; rintro e w' ⟨rfl, rfl⟩) | (go_at_call 23; refine (iat_no _ _ (by omega) _).mono ?_; rintro e w' ⟨rfl, rfl⟩))
    go_ret
    exact ⟨rfl, Below.refl _ _⟩

/-! the row's step -/
set_option maxRecDepth 100000 in
theorem lifted (os : Os) (started : os.Started) (H : Type) (enc : TypeId × Value → H) :
    ReturnsInHanded {} Try.checked os 7 .any (Rows.fnExactCreaseAtSpec.pre6 enc Try.prog Try.f7 Rows.fnExactCreaseAtRow.domain false) (Rows.fnExactCreaseAtSpec.post enc Try.prog Try.f7 false true false false) := by
  refine returnsInHanded_of_change (C := Try.checked) own started (by kernel_rfl) Try.func7
    (ChangeSpec.witness6 (enc := enc) (C := Try.checked) false ⟨#[], #[.int .i64 0, .int .i64 0], []⟩ 8 (by kernel_rfl) (by kernel_rfl) (by kernel_rfl) (by kernel_rfl)) ?_
  intro W base args ds gs before hval0 hW hcnd _
  have hval : ∀ (j : Nat) t v, Try.f7.params[j]? = some t → args[j]? = some v → Value.okWide Try.prog W .any base t v := hval0
  have hW' := hW
  obtain ⟨p, q, hA0, hV, rfl, hfz, hnd⟩ := hW
  have hA : DataW.TrodAll enc Try.prog W 0 (fun _ => true) true Try.f7.params.toList args.toList ds p := hA0
  rw [Try.params7] at hA hval
  obtain ⟨v0, vs0, d0, ds0, p0, q0, hargs, rfl, rfl, h0, r0⟩ := trodAll_cons hA
  obtain ⟨v1, vs1, d1, ds1, p1, q1, rfl, rfl, rfl, h1, r1⟩ := trodAll_cons r0
  obtain ⟨rfl, rfl, rfl⟩ := trodAll_nil r1
  obtain rfl : args = #[v0, v1] := by cases args; simp_all
  obtain ⟨rfl, rfl⟩ := trodVars_none hV
  obtain ⟨a0, rfl, rfl, rfl, w0⟩ := open_int Try.underlying3 (hval 0 3 v0 rfl rfl) h0
  obtain ⟨a1, rfl, rfl, rfl, w1⟩ := open_int Try.underlying3 (hval 1 3 v1 rfl rfl) h1
  clear hA0 hval0
  simp only [List.append_nil] at hW'
  refine (walk a0 a1 w0 w1 W).mono fun e W' ⟨he, hg⟩ => ?_
  subst he
  exact ⟨_, rfl, _, _, _, [], _, [], hW', trodAll_mk1 (shut_bool Try.underlying4 _), (trodAll_cons_mk (shut_int Try.underlying3 w0) (trodAll_cons_mk (shut_int Try.underlying3 w1) trodAll_mk0)), rfl, hg.frame _, fun h => by cases h⟩

theorem over : Rows.fnExactCreaseAtRow.holds Try.pinned (OpenSpec.ofChange Rows.fnExactCreaseAtSpec) :=
  OpenClaim.holds_of_wide 7 Try.f7 rfl rfl rfl rfl rfl rfl rfl ⟨rfl, rfl, rfl, rfl, rfl⟩ rfl rfl rfl rfl rfl (by kernel_rfl) Try.func7 (by kernel_rfl)
    (of_decide_eq_true (by kernel_rfl)) (by unfold Func.isWrapper; first | (rw [if_pos (by decide +kernel)]; kernel_rfl) | (rw [if_neg (by decide +kernel)]; exact ⟨rfl, rfl⟩))
    (fun os started H enc _ => lifted os started H enc)

/-- the statement -/
theorem proved : Rows.FnExactCreaseAtSaid :=
  over
#print axioms proved
end Go.Proofs.Ytjoapogkooblgab.fnExactCreaseAt
