/- FnExactIsReader is proved: spec.IsReader and impl.IsReader answer alike for every argument. No condition: for every input that the parameter types allow. -/
import Derived.Test.YtcaklokcajidiaaRows
import Derived.WalkKit
import Derived.ProofKit
import Derived.OpenShut
import Derived.Below
import Derived.Lib.SmallJoins
import Derived.Test.YtcaklokcajidiaaRw4
namespace Go.Proofs.Ytcaklokcajidiaa.fnExactIsReader
open Go.ChangeShapes Go.WideShapes Go.ChangeAt Go.RowKit Go.Joins
set_option linter.unusedVariables false
set_option linter.unusedSimpArgs false

theorem own : ownKnob Try.prog.godebug = none := by kernel_rfl
theorem cellsT : Try.prog.cellsOf 23 = 3 := by kernel_rfl
set_option maxRecDepth 100000 in
theorem sIsReader (m d r : Int) (v : Bool) (hv : Rd.good m d r = v) (w : World) : Calls Try.prog 14 #[.agg #[.int .i64 m, .int .i64 d, .int .i64 r]] w (Rw.Ret (.bool v) w) := by
  have HV := Lib.hid hv
  clear hv
  go_enter Try.func14, Try.ntmps14
  go_wp2_with (go_at_call 43; refine (Rw.rdGood_any _ _ _ _ HV.out _).mono ?_; rintro e w1 ⟨rfl, hb⟩)
  go_ret
  exact ⟨rfl, Rw.bx_below hb⟩
set_option maxRecDepth 100000 in
set_option maxHeartbeats 1000000 in
theorem core (x0a x0b x0c : Int) (v : Bool) (hv : Rd.good x0a x0b x0c = v) (w : World) :
    Calls Try.prog 3 #[.agg #[.int .i64 x0a, .int .i64 x0b, .int .i64 x0c]] w fun e w' => e = .returned (.bool true) ∧ Below w.heap.size w w' := by
  have HV := Lib.hid hv
  clear hv
  have HB : Below w.heap.size w (w.alloc (.cells #[.int .i64 x0a, .int .i64 x0b, .int .i64 x0c] 23)) := below_alloc1 _ _
  have B := Rw.Bx.new w x0a x0b x0c 23
  go_enter Try.func3, Try.ntmps3
  go_wp2_with (first | (go_at_call 15; refine (Rw.toReader_any _ _ _ _).mono ?_; rintro e w1 ⟨rfl, hb⟩; replace HB := HB.trans (below_le hb HB.size); replace B := B.on hb; clear hb; obtain ⟨_, q0, q1, q2⟩ := id B) | (go_at_call 14; refine (sIsReader _ _ _ _ HV.out _).mono ?_; rintro e w1 ⟨rfl, hb⟩; replace HB := HB.trans (below_le hb HB.size); replace B := B.on hb; clear hb; obtain ⟨_, q0, q1, q2⟩ := id B) | (go_at_call 16; refine (Rw.IsReader_any _ _ _ _ HV.out _).mono ?_; rintro e w1 ⟨rfl, hb⟩; replace HB := HB.trans (below_le hb HB.size); replace B := B.on hb; clear hb; obtain ⟨_, q0, q1, q2⟩ := id B) | go_in)
  go_ret
  exact ⟨by simp, HB⟩

/-! the walk -/
theorem walk (x0a x0b x0c : Int) (u0a : (Lit.int .i64 x0a).wf = true) (u0b : (Lit.int .i64 x0b).wf = true) (u0c : (Lit.int .i64 x0c).wf = true) (w : World) :
    Calls Try.prog 3 #[.agg #[.int .i64 x0a, .int .i64 x0b, .int .i64 x0c]] w fun e w' => e = .returned (.bool true) ∧ Below w.heap.size w w' := by
  exact core x0a x0b x0c _ rfl w

/-! the row's step -/
set_option maxRecDepth 100000 in
theorem lifted (os : Os) (started : os.Started) (H : Type) (enc : TypeId × Value → H) :
    ReturnsInHanded {} Try.checked os 3 .any (Rows.fnExactIsReaderSpec.pre6 enc Try.prog Try.f3 Rows.fnExactIsReaderRow.domain false) (Rows.fnExactIsReaderSpec.post enc Try.prog Try.f3 false true false false) := by
  refine returnsInHanded_of_change (C := Try.checked) own started (by kernel_rfl) Try.func3
    (ChangeSpec.witness6 (enc := enc) (C := Try.checked) false ⟨#[], #[.agg #[.int .i64 0, .int .i64 0, .int .i64 0]], []⟩ 8 (by kernel_rfl) (by kernel_rfl) (by kernel_rfl) (by kernel_rfl)) ?_
  intro W base args ds gs before hval0 hW hcnd _
  have hval : ∀ (j : Nat) t v, Try.f3.params[j]? = some t → args[j]? = some v → Value.okWide Try.prog W .any base t v := hval0
  have hW' := hW
  obtain ⟨p, q, hA0, hV, rfl, hfz, hnd⟩ := hW
  have hA : DataW.TrodAll enc Try.prog W 0 (fun _ => true) true Try.f3.params.toList args.toList ds p := hA0
  rw [Try.params3] at hA hval
  obtain ⟨v0, vs0, d0, ds0, p0, q0, hargs, rfl, rfl, h0, r0⟩ := trodAll_cons hA
  obtain ⟨rfl, rfl, rfl⟩ := trodAll_nil r0
  obtain rfl : args = #[v0] := by cases args; simp_all
  obtain ⟨rfl, rfl⟩ := trodVars_none hV
  obtain ⟨c00, c01, c02, y00, y01, y02, m0, rfl, rfl, rfl, hy00, hy01, hy02⟩ := open_agg3 Try.underlying23 (by kernel_rfl) cellsT (hval 0 23 v0 rfl rfl) h0
  obtain ⟨x0a, e00, rfl, u0a⟩ := DataW.trod_int Try.underlying3 hy00
  obtain ⟨x0b, e01, rfl, u0b⟩ := DataW.trod_int Try.underlying3 hy01
  obtain ⟨x0c, e02, rfl, u0c⟩ := DataW.trod_int Try.underlying3 hy02
  simp at e00 e01 e02
  subst e00 e01 e02
  clear hA0 hval0
  simp only [List.append_nil] at hW'
  have reads0 : ∀ (W' : World) (sp : Nat → Bool), DataW.Trod enc Try.prog W' 0 sp true 23 (.agg #[.int .i64 x0a, .int .i64 x0b, .int .i64 x0c]) (.agg [.lit (.int .i64 x0a), .lit (.int .i64 x0b), .lit (.int .i64 x0c)]) [] := fun W' sp =>
    shut_agg3 (y0 := (.lit (.int .i64 x0a), [])) (y1 := (.lit (.int .i64 x0b), [])) (y2 := (.lit (.int .i64 x0c), [])) Try.underlying23 (by kernel_rfl) cellsT ⟨1, by simp [DataW.trod, Try.underlying3, u0a]⟩ ⟨1, by simp [DataW.trod, Try.underlying3, u0b]⟩ ⟨1, by simp [DataW.trod, Try.underlying3, u0c]⟩
  refine (walk x0a x0b x0c u0a u0b u0c W).mono fun e W' ⟨he, hg⟩ => ?_
  subst he
  exact ⟨_, rfl, _, _, _, [], _, [], hW', trodAll_mk1 (shut_bool Try.underlying4 _), (trodAll_cons_mk (reads0 _ _) trodAll_mk0), rfl, hg.frame _, fun h => by cases h⟩

theorem over : Rows.fnExactIsReaderRow.holds Try.pinned (OpenSpec.ofChange Rows.fnExactIsReaderSpec) :=
  OpenClaim.holds_of_wide 3 Try.f3 rfl rfl rfl rfl rfl rfl rfl ⟨rfl, rfl, rfl, rfl, rfl⟩ rfl rfl rfl rfl rfl (by kernel_rfl) Try.func3 (by kernel_rfl)
    (of_decide_eq_true (by kernel_rfl)) (by unfold Func.isWrapper; first | (rw [if_pos (by decide +kernel)]; kernel_rfl) | (rw [if_neg (by decide +kernel)]; exact ⟨rfl, rfl⟩))
    (fun os started H enc _ => lifted os started H enc)

/-- the statement -/
theorem proved : Rows.FnExactIsReaderSaid :=
  over
#print axioms proved
end Go.Proofs.Ytcaklokcajidiaa.fnExactIsReader
