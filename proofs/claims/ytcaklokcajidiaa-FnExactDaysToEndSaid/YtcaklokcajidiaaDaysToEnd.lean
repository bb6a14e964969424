/- FnExactDaysToEnd is proved: spec.DaysToEnd and impl.DaysToEnd answer alike for every argument. No condition: for every input that the parameter types allow. -/
import Derived.Test.YtcaklokcajidiaaRows
import Derived.WalkKit
import Derived.ProofKit
import Derived.OpenShut
import Derived.Below
import Derived.Lib.SmallJoins
import Derived.Test.YtcaklokcajidiaaRw4
namespace Go.Proofs.Ytcaklokcajidiaa.fnExactDaysToEnd
open Go.ChangeShapes Go.WideShapes Go.ChangeAt Go.RowKit Go.Joins
set_option linter.unusedVariables false
set_option linter.unusedSimpArgs false

theorem own : ownKnob Try.prog.godebug = none := by kernel_rfl
theorem cellsT : Try.prog.cellsOf 23 = 3 := by kernel_rfl
set_option maxRecDepth 100000 in
set_option maxHeartbeats 1000000 in
theorem core (a0 x1a x1b x1c : Int) (x : Int) (ok : Bool) (hs : ∀ W : World, Calls Try.prog 19 #[.int .i64 a0, .agg #[.int .i64 x1a, .int .i64 x1b, .int .i64 x1c]] W (Rw.Ret (.tuple #[.int .i64 x, .bool ok]) W)) (hi : ∀ W : World, Calls Try.prog 20 #[.int .i64 a0, .agg #[.int .i64 x1a, .int .i64 x1b, .int .i64 x1c]] W (Rw.Ret (.tuple #[.int .i64 x, .bool ok]) W)) (w : World) :
    Calls Try.prog 5 #[.int .i64 a0, .agg #[.int .i64 x1a, .int .i64 x1b, .int .i64 x1c]] w fun e w' => e = .returned (.bool true) ∧ Below w.heap.size w w' := by
  have HS := Lib.hid hs
  have HI := Lib.hid hi
  clear hs hi
  have HB : Below w.heap.size w (w.alloc (.cells #[.int .i64 x1a, .int .i64 x1b, .int .i64 x1c] 23)) := below_alloc1 _ _
  have B0 := Rw.Bx.new w x1a x1b x1c 23
  go_enter Try.func5, Try.ntmps5
  go_wp2_with fail
  refine (Rw.toReader_any _ _ _ _).mono ?_
  rintro e w1 ⟨rfl, hb⟩
  replace HB := HB.trans (below_le hb HB.size)
  replace B0 := B0.on hb
  clear hb
  try clear l0 q00 q01 q02
  obtain ⟨l0, q00, q01, q02⟩ := id B0
  go_wp2_with fail
  refine (HS.out _).mono ?_
  rintro e w2 ⟨rfl, hb⟩
  replace HB := HB.trans (below_le hb HB.size)
  replace B0 := B0.on hb
  clear hb
  try clear l0 q00 q01 q02
  obtain ⟨l0, q00, q01, q02⟩ := id B0
  go_wp2_with fail
  refine (Rw.toReader_any _ _ _ _).mono ?_
  rintro e w3 ⟨rfl, hb⟩
  replace HB := HB.trans (below_le hb HB.size)
  replace B0 := B0.on hb
  clear hb
  try clear l0 q00 q01 q02
  obtain ⟨l0, q00, q01, q02⟩ := id B0
  go_wp2_with fail
  refine (HI.out _).mono ?_
  rintro e w4 ⟨rfl, hb⟩
  replace HB := HB.trans (below_le hb HB.size)
  replace B0 := B0.on hb
  clear hb
  try clear l0 q00 q01 q02
  obtain ⟨l0, q00, q01, q02⟩ := id B0
  go_wp2
  go_ret
  exact ⟨rfl, HB⟩

/-! the walk -/
theorem walk (a0 : Int) (x1a x1b x1c : Int) (w0 : (Lit.int .i64 a0).wf = true) (u1a : (Lit.int .i64 x1a).wf = true) (u1b : (Lit.int .i64 x1b).wf = true) (u1c : (Lit.int .i64 x1c).wf = true) (w : World) :
    Calls Try.prog 5 #[.int .i64 a0, .agg #[.int .i64 x1a, .int .i64 x1b, .int .i64 x1c]] w fun e w' => e = .returned (.bool true) ∧ Below w.heap.size w w' := by
  cases hv : Rd.inb a0 x1a x1b x1c with
  | false => exact core _ _ _ _ _ _ (fun W => Rw.sDaysToEnd_no _ _ _ _ hv W) (fun W => Rw.iDaysToEnd_no _ _ _ _ hv W) w
  | true => exact core _ _ _ _ _ _ (fun W => Rw.sDaysToEnd_yes _ _ _ _ hv W) (fun W => Rw.iDaysToEnd_yes _ _ _ _ hv W) w

/-! the row's step -/
set_option maxRecDepth 100000 in
theorem lifted (os : Os) (started : os.Started) (H : Type) (enc : TypeId × Value → H) :
    ReturnsInHanded {} Try.checked os 5 .any (Rows.fnExactDaysToEndSpec.pre6 enc Try.prog Try.f5 Rows.fnExactDaysToEndRow.domain false) (Rows.fnExactDaysToEndSpec.post enc Try.prog Try.f5 false true false false) := by
  refine returnsInHanded_of_change (C := Try.checked) own started (by kernel_rfl) Try.func5
    (ChangeSpec.witness6 (enc := enc) (C := Try.checked) false ⟨#[], #[.int .i64 0, .agg #[.int .i64 0, .int .i64 0, .int .i64 0]], []⟩ 8 (by kernel_rfl) (by kernel_rfl) (by kernel_rfl) (by kernel_rfl)) ?_
  intro W base args ds gs before hval0 hW hcnd _
  have hval : ∀ (j : Nat) t v, Try.f5.params[j]? = some t → args[j]? = some v → Value.okWide Try.prog W .any base t v := hval0
  have hW' := hW
  obtain ⟨p, q, hA0, hV, rfl, hfz, hnd⟩ := hW
  have hA : DataW.TrodAll enc Try.prog W 0 (fun _ => true) true Try.f5.params.toList args.toList ds p := hA0
  rw [Try.params5] at hA hval
  obtain ⟨v0, vs0, d0, ds0, p0, q0, hargs, rfl, rfl, h0, r0⟩ := trodAll_cons hA
  obtain ⟨v1, vs1, d1, ds1, p1, q1, rfl, rfl, rfl, h1, r1⟩ := trodAll_cons r0
  obtain ⟨rfl, rfl, rfl⟩ := trodAll_nil r1
  obtain rfl : args = #[v0, v1] := by cases args; simp_all
  obtain ⟨rfl, rfl⟩ := trodVars_none hV
  obtain ⟨a0, rfl, rfl, rfl, w0⟩ := open_int Try.underlying3 (hval 0 3 v0 rfl rfl) h0
  obtain ⟨c10, c11, c12, y10, y11, y12, m1, rfl, rfl, rfl, hy10, hy11, hy12⟩ := open_agg3 Try.underlying23 (by kernel_rfl) cellsT (hval 1 23 v1 rfl rfl) h1
  obtain ⟨x1a, e10, rfl, u1a⟩ := DataW.trod_int Try.underlying3 hy10
  obtain ⟨x1b, e11, rfl, u1b⟩ := DataW.trod_int Try.underlying3 hy11
  obtain ⟨x1c, e12, rfl, u1c⟩ := DataW.trod_int Try.underlying3 hy12
  simp at e10 e11 e12
  subst e10 e11 e12
  clear hA0 hval0
  simp only [List.append_nil] at hW'
  have reads1 : ∀ (W' : World) (sp : Nat → Bool), DataW.Trod enc Try.prog W' 0 sp true 23 (.agg #[.int .i64 x1a, .int .i64 x1b, .int .i64 x1c]) (.agg [.lit (.int .i64 x1a), .lit (.int .i64 x1b), .lit (.int .i64 x1c)]) [] := fun W' sp =>
    shut_agg3 (y0 := (.lit (.int .i64 x1a), [])) (y1 := (.lit (.int .i64 x1b), [])) (y2 := (.lit (.int .i64 x1c), [])) Try.underlying23 (by kernel_rfl) cellsT ⟨1, by simp [DataW.trod, Try.underlying3, u1a]⟩ ⟨1, by simp [DataW.trod, Try.underlying3, u1b]⟩ ⟨1, by simp [DataW.trod, Try.underlying3, u1c]⟩
  refine (walk a0 x1a x1b x1c w0 u1a u1b u1c W).mono fun e W' ⟨he, hg⟩ => ?_
  subst he
  exact ⟨_, rfl, _, _, _, [], _, [], hW', trodAll_mk1 (shut_bool Try.underlying4 _), (trodAll_cons_mk (shut_int Try.underlying3 w0) (trodAll_cons_mk (reads1 _ _) trodAll_mk0)), rfl, hg.frame _, fun h => by cases h⟩

theorem over : Rows.fnExactDaysToEndRow.holds Try.pinned (OpenSpec.ofChange Rows.fnExactDaysToEndSpec) :=
  OpenClaim.holds_of_wide 5 Try.f5 rfl rfl rfl rfl rfl rfl rfl ⟨rfl, rfl, rfl, rfl, rfl⟩ rfl rfl rfl rfl rfl (by kernel_rfl) Try.func5 (by kernel_rfl)
    (of_decide_eq_true (by kernel_rfl)) (by unfold Func.isWrapper; first | (rw [if_pos (by decide +kernel)]; kernel_rfl) | (rw [if_neg (by decide +kernel)]; exact ⟨rfl, rfl⟩))
    (fun os started H enc _ => lifted os started H enc)

/-- the statement -/
theorem proved : Rows.FnExactDaysToEndSaid :=
  over
#print axioms proved
end Go.Proofs.Ytcaklokcajidiaa.fnExactDaysToEnd
