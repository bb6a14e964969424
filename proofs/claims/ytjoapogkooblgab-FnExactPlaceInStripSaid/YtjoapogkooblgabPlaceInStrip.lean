/- FnExactPlaceInStrip is proved: spec.PlaceInStrip and impl.PlaceInStrip answer alike for every two integers. No condition: for every input that the parameter types allow. -/
import Derived.Test.YtjoapogkooblgabRows
import Derived.WalkKit
import Derived.ProofKit
import Derived.OpenShut
import Derived.Test.YtjoapogkooblgabLabel
namespace Go.Proofs.Ytjoapogkooblgab.fnExactPlaceInStrip
open Go.ChangeShapes Go.WideShapes Go.ChangeAt Go.RowKit
set_option linter.unusedVariables false

theorem own : ownKnob Try.prog.godebug = none := by kernel_rfl

/-! the walk -/
theorem walk (a0 : Int) (a1 : Int) (w0 : (Lit.int .i64 a0).wf = true) (w1 : (Lit.int .i64 a1).wf = true) (w : World) :
    Calls Try.prog 4 #[.int .i64 a0, .int .i64 a1] w fun e w' => e = .returned (.bool true) ∧ Below w.heap.size w w' := by
  by_cases h : 0 ≤ a0 ∧ a0 ≤ 7
  · obtain ⟨h0, h7⟩ := h
    obtain ⟨f, rfl⟩ := Int.eq_ofNat_of_zero_le h0
    have hf : f ≤ 7 := by omega
    by_cases hp : 1 ≤ a1 ∧ a1 ≤ (2 : Int) ^ f
    · obtain ⟨p1, p2⟩ := hp
      have hI : (2 : Int) ^ f = ((2 ^ f : Nat) : Int) := by simp
      have hmem : a1 ∈ St.st f f 0 := by
        have := St.st_all f (by omega) (a1 - 1).toNat (by rw [hI] at p2; omega)
        rwa [show (((a1 - 1).toNat : Nat) : Int) + 1 = a1 from by omega] at this
      obtain ⟨m, m1, m2, m3⟩ := St.first_at _ _ hmem
      have C1 := Lib.hid (fun W => St.sp_in f hf a1 m p1 p2 m1 m2 m3 W)
      have C2 := Lib.hid (fun W => St.ip_in f hf a1 m m1 m2 m3 W)
      clear hmem m1 m2 m3 hI p1 p2
      go_enter Try.func4, Try.ntmps4
      go_wp2_with fail
      refine (C1.out _).mono ?_
      rintro e w1 ⟨rfl, hb1⟩
      go_wp2_with fail
      refine (C2.out _).mono ?_
      rintro e w2 ⟨rfl, hb2⟩
      go_wp2
      go_ret
      exact ⟨rfl, Li.below_next hb1 hb2⟩
    · have d : ¬ 1 ≤ a1 ∨ ¬ a1 ≤ (2 : Int) ^ f := by
        by_cases c : 1 ≤ a1
        · exact Or.inr fun c2 => hp ⟨c, c2⟩
        · exact Or.inl c
      have C1 := Lib.hid (fun W => St.sp_out f hf a1 d W)
      have C2 := Lib.hid (fun W => St.ip_out f hf a1 d W)
      clear hp d
      go_enter Try.func4, Try.ntmps4
      go_wp2_with fail
      refine (C1.out _).mono ?_
      rintro e w1 ⟨rfl, rfl⟩
      go_wp2_with fail
      refine (C2.out _).mono ?_
      rintro e w2 ⟨rfl, hb2⟩
      go_wp2
      go_ret
      exact ⟨rfl, hb2⟩
  · have C1 := Lib.hid (fun W => St.sp_bad a0 a1 (by omega) W)
    have C2 := Lib.hid (fun W => St.ip_bad a0 a1 (by omega) W)
    clear h
    go_enter Try.func4, Try.ntmps4
    go_wp2_with fail
    refine (C1.out _).mono ?_
    rintro e w1 ⟨rfl, rfl⟩
    go_wp2_with fail
    refine (C2.out _).mono ?_
    rintro e w2 ⟨rfl, hb2⟩
    go_wp2
    go_ret
    exact ⟨rfl, hb2⟩

/-! the row's step -/
set_option maxRecDepth 100000 in
theorem lifted (os : Os) (started : os.Started) (H : Type) (enc : TypeId × Value → H) :
    ReturnsInHanded {} Try.checked os 4 .any (Rows.fnExactPlaceInStripSpec.pre6 enc Try.prog Try.f4 Rows.fnExactPlaceInStripRow.domain false) (Rows.fnExactPlaceInStripSpec.post enc Try.prog Try.f4 false true false false) := by
  refine returnsInHanded_of_change (C := Try.checked) own started (by kernel_rfl) Try.func4
    (ChangeSpec.witness6 (enc := enc) (C := Try.checked) false ⟨#[], #[.int .i64 0, .int .i64 0], []⟩ 8 (by kernel_rfl) (by kernel_rfl) (by kernel_rfl) (by kernel_rfl)) ?_
  intro W base args ds gs before hval0 hW hcnd _
  have hval : ∀ (j : Nat) t v, Try.f4.params[j]? = some t → args[j]? = some v → Value.okWide Try.prog W .any base t v := hval0
  have hW' := hW
  obtain ⟨p, q, hA0, hV, rfl, hfz, hnd⟩ := hW
  have hA : DataW.TrodAll enc Try.prog W 0 (fun _ => true) true Try.f4.params.toList args.toList ds p := hA0
  rw [Try.params4] at hA hval
  obtain ⟨v0, vs0, d0, ds0, p0, q0, hargs, rfl, rfl, h0, r0⟩ := trodAll_cons hA
  obtain ⟨v1, vs1, d1, ds1, p1, q1, rfl, rfl, rfl, h1, r1⟩ := trodAll_cons r0
  obtain ⟨rfl, rfl, rfl⟩ := trodAll_nil r1
  obtain rfl : args = #[v0, v1] := by cases args; simp_all
  obtain ⟨rfl, rfl⟩ := trodVars_none hV
  obtain ⟨a0, rfl, rfl, rfl, w0⟩ := open_int Try.underlying3 (hval 0 3 v0 rfl rfl) h0
  obtain ⟨a1, rfl, rfl, rfl, w1⟩ := open_int Try.underlying3 (hval 1 3 v1 rfl rfl) h1
  clear hA0 hval0
  simp only [List.append_nil] at hW'
  refine (walk a0 a1 w0 w1 W).mono fun e W' ⟨he, hg⟩ => ?_
  subst he
  exact ⟨_, rfl, _, _, _, [], _, [], hW', trodAll_mk1 (shut_bool Try.underlying4 _), (trodAll_cons_mk (shut_int Try.underlying3 w0) (trodAll_cons_mk (shut_int Try.underlying3 w1) trodAll_mk0)), rfl, hg.frame _, fun h => by cases h⟩

theorem over : Rows.fnExactPlaceInStripRow.holds Try.pinned (OpenSpec.ofChange Rows.fnExactPlaceInStripSpec) :=
  OpenClaim.holds_of_wide 4 Try.f4 rfl rfl rfl rfl rfl rfl rfl ⟨rfl, rfl, rfl, rfl, rfl⟩ rfl rfl rfl rfl rfl (by kernel_rfl) Try.func4 (by kernel_rfl)
    (of_decide_eq_true (by kernel_rfl)) (by unfold Func.isWrapper; first | (rw [if_pos (by decide +kernel)]; kernel_rfl) | (rw [if_neg (by decide +kernel)]; exact ⟨rfl, rfl⟩))
    (fun os started H enc _ => lifted os started H enc)

/-- the statement -/
theorem proved : Rows.FnExactPlaceInStripSaid :=
  over
#print axioms proved
end Go.Proofs.Ytjoapogkooblgab.fnExactPlaceInStrip
