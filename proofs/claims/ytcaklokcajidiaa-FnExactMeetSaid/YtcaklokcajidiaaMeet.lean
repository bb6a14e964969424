/- FnExactMeet is proved: spec.Meet and impl.Meet answer alike for every argument. No condition: for every input that the parameter types allow. -/
import Derived.Test.YtcaklokcajidiaaRows
import Derived.WalkKit
import Derived.ProofKit
import Derived.OpenShut
import Derived.Below
import Derived.Lib.SmallJoins
import Derived.Test.YtcaklokcajidiaaRw6
namespace Go.Proofs.Ytcaklokcajidiaa.fnExactMeet
open Go.ChangeShapes Go.WideShapes Go.ChangeAt Go.RowKit Go.Joins
set_option linter.unusedVariables false
set_option linter.unusedSimpArgs false

theorem own : ownKnob Try.prog.godebug = none := by kernel_rfl
theorem cellsT : Try.prog.cellsOf 23 = 3 := by kernel_rfl
set_option maxRecDepth 100000 in
set_option maxHeartbeats 1000000 in
theorem core (a0 x1a x1b x1c x2a x2b x2c : Int) (x : Int) (y : Int) (ok : Bool) (hs : ∀ W : World, Calls Try.prog 34 #[.int .i64 a0, .agg #[.int .i64 x1a, .int .i64 x1b, .int .i64 x1c], .agg #[.int .i64 x2a, .int .i64 x2b, .int .i64 x2c]] W (Rw.Ret (.tuple #[.int .i64 x, .int .i64 y, .bool ok]) W)) (hi : ∀ W : World, Calls Try.prog 35 #[.int .i64 a0, .agg #[.int .i64 x1a, .int .i64 x1b, .int .i64 x1c], .agg #[.int .i64 x2a, .int .i64 x2b, .int .i64 x2c]] W (Rw.Ret (.tuple #[.int .i64 x, .int .i64 y, .bool ok]) W)) (w : World) :
    Calls Try.prog 11 #[.int .i64 a0, .agg #[.int .i64 x1a, .int .i64 x1b, .int .i64 x1c], .agg #[.int .i64 x2a, .int .i64 x2b, .int .i64 x2c]] w fun e w' => e = .returned (.bool true) ∧ Below w.heap.size w w' := by
  have HS := Lib.hid hs
  have HI := Lib.hid hi
  clear hs hi
  have HB : Below w.heap.size w ((w.alloc (.cells #[.int .i64 x1a, .int .i64 x1b, .int .i64 x1c] 23)).alloc (.cells #[.int .i64 x2a, .int .i64 x2b, .int .i64 x2c] 23)) := below_alloc2 _ _ _
  have B0 := (Rw.Bx.new w x1a x1b x1c 23).alloc (.cells #[.int .i64 x2a, .int .i64 x2b, .int .i64 x2c] 23)
  have B1 := Rw.Bx.next w (.cells #[.int .i64 x1a, .int .i64 x1b, .int .i64 x1c] 23) x2a x2b x2c 23
  go_enter Try.func11, Try.ntmps11
  obtain ⟨_, q0, q1, q2⟩ := id B0
  obtain ⟨_, Q0, Q1, Q2⟩ := id B1
  go_wp2
  go_region_held3 (fun w' => w'.cell? ⟨w.heap.size, 0, none⟩ = some (.int .i64 x1a) ∧ w'.cell? ⟨w.heap.size, 1, none⟩ = some (.int .i64 x1b) ∧ w'.cell? ⟨w.heap.size, 2, none⟩ = some (.int .i64 x1c) ∧ w'.cell? ⟨w.heap.size + 1, 0, none⟩ = some (.int .i64 x2a) ∧ w'.cell? ⟨w.heap.size + 1, 1, none⟩ = some (.int .i64 x2b) ∧ w'.cell? ⟨w.heap.size + 1, 2, none⟩ = some (.int .i64 x2c))
    (first | exact ⟨q0, q1, q2, Q0, Q1, Q2⟩ | exact ⟨q10, q11, q12, Q10, Q11, Q12⟩ | exact ⟨q20, q21, q22, Q20, Q21, Q22⟩ | exact ⟨q30, q31, q32, Q30, Q31, Q32⟩ | go_keep)
    (first
      | (go_at_call_of 15 x1a; refine (Rw.toReader_any _ _ _ _).mono ?_; rintro e w1 ⟨rfl, hb⟩; have HB1 := HB.drew.trans (below_le hb HB.size); have B01 := (Rw.Bx.drew B0).on hb; have B11 := (Rw.Bx.drew B1).on hb; clear hb; obtain ⟨-, q10, q11, q12⟩ := id B01; obtain ⟨-, Q10, Q11, Q12⟩ := id B11)
      | (go_at_call_of 15 x2a; refine (Rw.toReader_any _ _ _ _).mono ?_; rintro e w2 ⟨rfl, hb⟩; have HB2 := HB1.trans (below_le hb HB1.size); have B02 := B01.on hb; have B12 := B11.on hb; clear hb; obtain ⟨-, q20, q21, q22⟩ := id B02; obtain ⟨-, Q20, Q21, Q22⟩ := id B12)
      | (go_at_call 34; refine (HS.out _).mono ?_; rintro e w3 ⟨rfl, hb⟩; have HB3 := HB2.trans (below_le hb HB2.size); have B03 := B02.on hb; have B13 := B12.on hb; clear hb; obtain ⟨-, q30, q31, q32⟩ := id B03; obtain ⟨-, Q30, Q31, Q32⟩ := id B13))
  go_wp2
  go_region_held3 (fun w' => w'.cell? ⟨w.heap.size, 0, none⟩ = some (.int .i64 x1a) ∧ w'.cell? ⟨w.heap.size, 1, none⟩ = some (.int .i64 x1b) ∧ w'.cell? ⟨w.heap.size, 2, none⟩ = some (.int .i64 x1c) ∧ w'.cell? ⟨w.heap.size + 1, 0, none⟩ = some (.int .i64 x2a) ∧ w'.cell? ⟨w.heap.size + 1, 1, none⟩ = some (.int .i64 x2b) ∧ w'.cell? ⟨w.heap.size + 1, 2, none⟩ = some (.int .i64 x2c))
    (first | exact ⟨q30, q31, q32, Q30, Q31, Q32⟩ | exact ⟨q40, q41, q42, Q40, Q41, Q42⟩ | exact ⟨q50, q51, q52, Q50, Q51, Q52⟩ | exact ⟨q60, q61, q62, Q60, Q61, Q62⟩ | go_keep)
    (first
      | (go_at_call_of 15 x1a; refine (Rw.toReader_any _ _ _ _).mono ?_; rintro e w4 ⟨rfl, hb⟩; have HB4 := HB3.drew.trans (below_le hb HB3.size); have B04 := (Rw.Bx.drew B03).on hb; have B14 := (Rw.Bx.drew B13).on hb; clear hb; obtain ⟨-, q40, q41, q42⟩ := id B04; obtain ⟨-, Q40, Q41, Q42⟩ := id B14)
      | (go_at_call_of 15 x2a; refine (Rw.toReader_any _ _ _ _).mono ?_; rintro e w5 ⟨rfl, hb⟩; have HB5 := HB4.trans (below_le hb HB4.size); have B05 := B04.on hb; have B15 := B14.on hb; clear hb; obtain ⟨-, q50, q51, q52⟩ := id B05; obtain ⟨-, Q50, Q51, Q52⟩ := id B15)
      | (go_at_call 35; refine (HI.out _).mono ?_; rintro e w6 ⟨rfl, hb⟩; have HB6 := HB5.trans (below_le hb HB5.size); have B06 := B05.on hb; have B16 := B15.on hb; clear hb; obtain ⟨-, q60, q61, q62⟩ := id B06; obtain ⟨-, Q60, Q61, Q62⟩ := id B16))
  go_wp2
  have HB := HB6
  go_ret
  exact ⟨rfl, HB⟩

/-! the walk -/
theorem walk (a0 : Int) (x1a x1b x1c : Int) (x2a x2b x2c : Int) (w0 : (Lit.int .i64 a0).wf = true) (u1a : (Lit.int .i64 x1a).wf = true) (u1b : (Lit.int .i64 x1b).wf = true) (u1c : (Lit.int .i64 x1c).wf = true) (u2a : (Lit.int .i64 x2a).wf = true) (u2b : (Lit.int .i64 x2b).wf = true) (u2c : (Lit.int .i64 x2c).wf = true) (w : World) :
    Calls Try.prog 11 #[.int .i64 a0, .agg #[.int .i64 x1a, .int .i64 x1b, .int .i64 x1c], .agg #[.int .i64 x2a, .int .i64 x2b, .int .i64 x2c]] w fun e w' => e = .returned (.bool true) ∧ Below w.heap.size w w' := by
  cases hv : Rd.inb a0 x1a x1b x1c with
  | false => exact core _ _ _ _ _ _ _ _ _ _ (fun W => Rw.sMeet_no _ _ _ _ _ _ _ hv W) (fun W => Rw.iMeet_no _ _ _ _ _ _ _ hv W) w
  | true =>
    cases hv' : Rd.inb a0 x2a x2b x2c with
    | false => exact core _ _ _ _ _ _ _ _ _ _ (fun W => Rw.sMeet_no2 _ _ _ _ _ _ _ hv hv' W) (fun W => Rw.iMeet_no2 _ _ _ _ _ _ _ hv hv' W) w
    | true =>
      have hf := Rw.facts hv
      obtain ⟨K, hK, hs, hl⟩ := Rd.stops (p := a0) (m := x1a) (d := x1b) (r := x1c) (m' := x2a) (d' := x2b) (r' := x2c) (Rw.two hf.2.2.2.2.1) hf.2.2.1 hf.1 hf.2.2.2.2.2.2.1
      have hS := fun W : World => Rw.sMeet_yes a0 x1a x1b x1c x2a x2b x2c K hv hv' hK hs hl W
      have hI := fun W : World => Rw.iMeet_yes a0 x1a x1b x1c x2a x2b x2c K hv hv' hK hs hl W
      by_cases ca : Rd.fr x1a x1b x1c K < a0
      · by_cases cb : Rd.fr x2a x2b x2c K < a0
        · simp only [Rw.mt_yes ca cb] at hS hI
          exact core _ _ _ _ _ _ _ _ _ _ hS hI w
        · simp only [Rw.mt_no (Or.inr cb)] at hS hI
          exact core _ _ _ _ _ _ _ _ _ _ hS hI w
      · simp only [Rw.mt_no (Or.inl ca)] at hS hI
        exact core _ _ _ _ _ _ _ _ _ _ hS hI w

/-! the row's step -/
set_option maxRecDepth 100000 in
theorem lifted (os : Os) (started : os.Started) (H : Type) (enc : TypeId × Value → H) :
    ReturnsInHanded {} Try.checked os 11 .any (Rows.fnExactMeetSpec.pre6 enc Try.prog Try.f11 Rows.fnExactMeetRow.domain false) (Rows.fnExactMeetSpec.post enc Try.prog Try.f11 false true false false) := by
  refine returnsInHanded_of_change (C := Try.checked) own started (by kernel_rfl) Try.func11
    (ChangeSpec.witness6 (enc := enc) (C := Try.checked) false ⟨#[], #[.int .i64 0, .agg #[.int .i64 0, .int .i64 0, .int .i64 0], .agg #[.int .i64 0, .int .i64 0, .int .i64 0]], []⟩ 8 (by kernel_rfl) (by kernel_rfl) (by kernel_rfl) (by kernel_rfl)) ?_
  intro W base args ds gs before hval0 hW hcnd _
  have hval : ∀ (j : Nat) t v, Try.f11.params[j]? = some t → args[j]? = some v → Value.okWide Try.prog W .any base t v := hval0
  have hW' := hW
  obtain ⟨p, q, hA0, hV, rfl, hfz, hnd⟩ := hW
  have hA : DataW.TrodAll enc Try.prog W 0 (fun _ => true) true Try.f11.params.toList args.toList ds p := hA0
  rw [Try.params11] at hA hval
  obtain ⟨v0, vs0, d0, ds0, p0, q0, hargs, rfl, rfl, h0, r0⟩ := trodAll_cons hA
  obtain ⟨v1, vs1, d1, ds1, p1, q1, rfl, rfl, rfl, h1, r1⟩ := trodAll_cons r0
  obtain ⟨v2, vs2, d2, ds2, p2, q2, rfl, rfl, rfl, h2, r2⟩ := trodAll_cons r1
  obtain ⟨rfl, rfl, rfl⟩ := trodAll_nil r2
  obtain rfl : args = #[v0, v1, v2] := by cases args; simp_all
  obtain ⟨rfl, rfl⟩ := trodVars_none hV
  obtain ⟨a0, rfl, rfl, rfl, w0⟩ := open_int Try.underlying3 (hval 0 3 v0 rfl rfl) h0
  obtain ⟨c10, c11, c12, y10, y11, y12, m1, rfl, rfl, rfl, hy10, hy11, hy12⟩ := open_agg3 Try.underlying23 (by kernel_rfl) cellsT (hval 1 23 v1 rfl rfl) h1
  obtain ⟨x1a, e10, rfl, u1a⟩ := DataW.trod_int Try.underlying3 hy10
  obtain ⟨x1b, e11, rfl, u1b⟩ := DataW.trod_int Try.underlying3 hy11
  obtain ⟨x1c, e12, rfl, u1c⟩ := DataW.trod_int Try.underlying3 hy12
  simp at e10 e11 e12
  subst e10 e11 e12
  obtain ⟨c20, c21, c22, y20, y21, y22, m2, rfl, rfl, rfl, hy20, hy21, hy22⟩ := open_agg3 Try.underlying23 (by kernel_rfl) cellsT (hval 2 23 v2 rfl rfl) h2
  obtain ⟨x2a, e20, rfl, u2a⟩ := DataW.trod_int Try.underlying3 hy20
  obtain ⟨x2b, e21, rfl, u2b⟩ := DataW.trod_int Try.underlying3 hy21
  obtain ⟨x2c, e22, rfl, u2c⟩ := DataW.trod_int Try.underlying3 hy22
  simp at e20 e21 e22
  subst e20 e21 e22
  clear hA0 hval0
  simp only [List.append_nil] at hW'
  have reads1 : ∀ (W' : World) (sp : Nat → Bool), DataW.Trod enc Try.prog W' 0 sp true 23 (.agg #[.int .i64 x1a, .int .i64 x1b, .int .i64 x1c]) (.agg [.lit (.int .i64 x1a), .lit (.int .i64 x1b), .lit (.int .i64 x1c)]) [] := fun W' sp =>
    shut_agg3 (y0 := (.lit (.int .i64 x1a), [])) (y1 := (.lit (.int .i64 x1b), [])) (y2 := (.lit (.int .i64 x1c), [])) Try.underlying23 (by kernel_rfl) cellsT ⟨1, by simp [DataW.trod, Try.underlying3, u1a]⟩ ⟨1, by simp [DataW.trod, Try.underlying3, u1b]⟩ ⟨1, by simp [DataW.trod, Try.underlying3, u1c]⟩
  have reads2 : ∀ (W' : World) (sp : Nat → Bool), DataW.Trod enc Try.prog W' 0 sp true 23 (.agg #[.int .i64 x2a, .int .i64 x2b, .int .i64 x2c]) (.agg [.lit (.int .i64 x2a), .lit (.int .i64 x2b), .lit (.int .i64 x2c)]) [] := fun W' sp =>
    shut_agg3 (y0 := (.lit (.int .i64 x2a), [])) (y1 := (.lit (.int .i64 x2b), [])) (y2 := (.lit (.int .i64 x2c), [])) Try.underlying23 (by kernel_rfl) cellsT ⟨1, by simp [DataW.trod, Try.underlying3, u2a]⟩ ⟨1, by simp [DataW.trod, Try.underlying3, u2b]⟩ ⟨1, by simp [DataW.trod, Try.underlying3, u2c]⟩
  refine (walk a0 x1a x1b x1c x2a x2b x2c w0 u1a u1b u1c u2a u2b u2c W).mono fun e W' ⟨he, hg⟩ => ?_
  subst he
  exact ⟨_, rfl, _, _, _, [], _, [], hW', trodAll_mk1 (shut_bool Try.underlying4 _), (trodAll_cons_mk (shut_int Try.underlying3 w0) (trodAll_cons_mk (reads1 _ _) (trodAll_cons_mk (reads2 _ _) trodAll_mk0))), rfl, hg.frame _, fun h => by cases h⟩

theorem over : Rows.fnExactMeetRow.holds Try.pinned (OpenSpec.ofChange Rows.fnExactMeetSpec) :=
  OpenClaim.holds_of_wide 11 Try.f11 rfl rfl rfl rfl rfl rfl rfl ⟨rfl, rfl, rfl, rfl, rfl⟩ rfl rfl rfl rfl rfl (by kernel_rfl) Try.func11 (by kernel_rfl)
    (of_decide_eq_true (by kernel_rfl)) (by unfold Func.isWrapper; first | (rw [if_pos (by decide +kernel)]; kernel_rfl) | (rw [if_neg (by decide +kernel)]; exact ⟨rfl, rfl⟩))
    (fun os started H enc _ => lifted os started H enc)

/-- the statement -/
theorem proved : Rows.FnExactMeetSaid :=
  over
#print axioms proved
end Go.Proofs.Ytcaklokcajidiaa.fnExactMeet
