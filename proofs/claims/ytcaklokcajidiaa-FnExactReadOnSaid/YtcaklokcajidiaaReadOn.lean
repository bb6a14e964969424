/- FnExactReadOn is proved: spec.ReadOn and impl.ReadOn answer alike for every argument. No condition: for every input that the parameter types allow. -/
import Derived.Test.YtcaklokcajidiaaRows
import Derived.WalkKit
import Derived.ProofKit
import Derived.OpenShut
import Derived.Below
import Derived.Lib.SmallJoins
import Derived.Test.YtcaklokcajidiaaRw5
namespace Go.Proofs.Ytcaklokcajidiaa.fnExactReadOn
open Go.ChangeShapes Go.WideShapes Go.ChangeAt Go.RowKit Go.Joins
set_option linter.unusedVariables false
set_option linter.unusedSimpArgs false

theorem own : ownKnob Try.prog.godebug = none := by kernel_rfl
theorem cellsT : Try.prog.cellsOf 23 = 3 := by kernel_rfl
set_option maxRecDepth 100000 in
set_option maxHeartbeats 1000000 in
theorem core (x0a x0b x0c a1 : Int) (x : Int) (ok : Bool) (hs : ∀ W : World, Calls Try.prog 21 #[.agg #[.int .i64 x0a, .int .i64 x0b, .int .i64 x0c], .int .i64 a1] W (Rw.Ret (.tuple #[.int .i64 x, .bool ok]) W)) (hi : ∀ W : World, Calls Try.prog 22 #[.agg #[.int .i64 x0a, .int .i64 x0b, .int .i64 x0c], .int .i64 a1] W (Rw.Ret (.tuple #[.int .i64 x, .bool ok]) W)) (w : World) :
    Calls Try.prog 6 #[.agg #[.int .i64 x0a, .int .i64 x0b, .int .i64 x0c], .int .i64 a1] w fun e w' => e = .returned (.bool true) ∧ Below w.heap.size w w' := by
  have HS := Lib.hid hs
  have HI := Lib.hid hi
  clear hs hi
  have HB : Below w.heap.size w (w.alloc (.cells #[.int .i64 x0a, .int .i64 x0b, .int .i64 x0c] 23)) := below_alloc1 _ _
  have B0 := Rw.Bx.new w x0a x0b x0c 23
  go_enter Try.func6, Try.ntmps6
  go_wp2_with fail
  refine (Rw.toReader_any _ _ _ _).mono ?_
  rintro e w1 ⟨rfl, hb⟩
  replace HB := HB.trans (below_le hb HB.size)
  replace B0 := B0.on hb
  clear hb
  try clear l0 q00 q01 q02
  obtain ⟨l0, q00, q01, q02⟩ := id B0
  go_wp2_with fail
  refine (HS.out _).mono ?_
  rintro e w2 ⟨rfl, hb⟩
  replace HB := HB.trans (below_le hb HB.size)
  replace B0 := B0.on hb
  clear hb
  try clear l0 q00 q01 q02
  obtain ⟨l0, q00, q01, q02⟩ := id B0
  go_wp2_with fail
  refine (Rw.toReader_any _ _ _ _).mono ?_
  rintro e w3 ⟨rfl, hb⟩
  replace HB := HB.trans (below_le hb HB.size)
  replace B0 := B0.on hb
  clear hb
  try clear l0 q00 q01 q02
  obtain ⟨l0, q00, q01, q02⟩ := id B0
  go_wp2_with fail
  refine (HI.out _).mono ?_
  rintro e w4 ⟨rfl, hb⟩
  replace HB := HB.trans (below_le hb HB.size)
  replace B0 := B0.on hb
  clear hb
  try clear l0 q00 q01 q02
  obtain ⟨l0, q00, q01, q02⟩ := id B0
  go_wp2
  go_ret
  exact ⟨rfl, HB⟩

/-! the walk -/
theorem walk (x0a x0b x0c : Int) (a1 : Int) (u0a : (Lit.int .i64 x0a).wf = true) (u0b : (Lit.int .i64 x0b).wf = true) (u0c : (Lit.int .i64 x0c).wf = true) (w1 : (Lit.int .i64 a1).wf = true) (w : World) :
    Calls Try.prog 6 #[.agg #[.int .i64 x0a, .int .i64 x0b, .int .i64 x0c], .int .i64 a1] w fun e w' => e = .returned (.bool true) ∧ Below w.heap.size w w' := by
  cases hv : Rd.good x0a x0b x0c with
  | false => exact core _ _ _ _ _ _ (fun W => Rw.sReadOn_no _ _ _ _ hv W) (fun W => Rw.iReadOn_no _ _ _ _ hv W) w
  | true =>
    by_cases h0 : 1 ≤ a1
    · by_cases h1 : a1 ≤ 3000
      · obtain ⟨k, rfl⟩ := Int.eq_ofNat_of_zero_le (show 0 ≤ a1 by omega)
        obtain ⟨j, rfl⟩ : ∃ j, k = j + 1 := ⟨k - 1, by omega⟩
        exact core _ _ _ _ _ _ (fun W => Rw.sReadOn_yes _ _ _ (j + 1) j hv (by omega) rfl W) (fun W => Rw.iReadOn_yes _ _ _ (j + 1) j hv (by omega) rfl W) w
      · exact core _ _ _ _ _ _ (fun W => Rw.sReadOn_day _ _ _ _ hv (Or.inr h1) W) (fun W => Rw.iReadOn_day _ _ _ _ hv (Or.inr h1) W) w
    · exact core _ _ _ _ _ _ (fun W => Rw.sReadOn_day _ _ _ _ hv (Or.inl h0) W) (fun W => Rw.iReadOn_day _ _ _ _ hv (Or.inl h0) W) w

/-! the row's step -/
set_option maxRecDepth 100000 in
theorem lifted (os : Os) (started : os.Started) (H : Type) (enc : TypeId × Value → H) :
    ReturnsInHanded {} Try.checked os 6 .any (Rows.fnExactReadOnSpec.pre6 enc Try.prog Try.f6 Rows.fnExactReadOnRow.domain false) (Rows.fnExactReadOnSpec.post enc Try.prog Try.f6 false true false false) := by
  refine returnsInHanded_of_change (C := Try.checked) own started (by kernel_rfl) Try.func6
    (ChangeSpec.witness6 (enc := enc) (C := Try.checked) false ⟨#[], #[.agg #[.int .i64 0, .int .i64 0, .int .i64 0], .int .i64 0], []⟩ 8 (by kernel_rfl) (by kernel_rfl) (by kernel_rfl) (by kernel_rfl)) ?_
  intro W base args ds gs before hval0 hW hcnd _
  have hval : ∀ (j : Nat) t v, Try.f6.params[j]? = some t → args[j]? = some v → Value.okWide Try.prog W .any base t v := hval0
  have hW' := hW
  obtain ⟨p, q, hA0, hV, rfl, hfz, hnd⟩ := hW
  have hA : DataW.TrodAll enc Try.prog W 0 (fun _ => true) true Try.f6.params.toList args.toList ds p := hA0
  rw [Try.params6] at hA hval
  obtain ⟨v0, vs0, d0, ds0, p0, q0, hargs, rfl, rfl, h0, r0⟩ := trodAll_cons hA
  obtain ⟨v1, vs1, d1, ds1, p1, q1, rfl, rfl, rfl, h1, r1⟩ := trodAll_cons r0
  obtain ⟨rfl, rfl, rfl⟩ := trodAll_nil r1
  obtain rfl : args = #[v0, v1] := by cases args; simp_all
  obtain ⟨rfl, rfl⟩ := trodVars_none hV
  obtain ⟨c00, c01, c02, y00, y01, y02, m0, rfl, rfl, rfl, hy00, hy01, hy02⟩ := open_agg3 Try.underlying23 (by kernel_rfl) cellsT (hval 0 23 v0 rfl rfl) h0
  obtain ⟨x0a, e00, rfl, u0a⟩ := DataW.trod_int Try.underlying3 hy00
  obtain ⟨x0b, e01, rfl, u0b⟩ := DataW.trod_int Try.underlying3 hy01
  obtain ⟨x0c, e02, rfl, u0c⟩ := DataW.trod_int Try.underlying3 hy02
  simp at e00 e01 e02
  subst e00 e01 e02
  obtain ⟨a1, rfl, rfl, rfl, w1⟩ := open_int Try.underlying3 (hval 1 3 v1 rfl rfl) h1
  clear hA0 hval0
  simp only [List.append_nil] at hW'
  have reads0 : ∀ (W' : World) (sp : Nat → Bool), DataW.Trod enc Try.prog W' 0 sp true 23 (.agg #[.int .i64 x0a, .int .i64 x0b, .int .i64 x0c]) (.agg [.lit (.int .i64 x0a), .lit (.int .i64 x0b), .lit (.int .i64 x0c)]) [] := fun W' sp =>
    shut_agg3 (y0 := (.lit (.int .i64 x0a), [])) (y1 := (.lit (.int .i64 x0b), [])) (y2 := (.lit (.int .i64 x0c), [])) Try.underlying23 (by kernel_rfl) cellsT ⟨1, by simp [DataW.trod, Try.underlying3, u0a]⟩ ⟨1, by simp [DataW.trod, Try.underlying3, u0b]⟩ ⟨1, by simp [DataW.trod, Try.underlying3, u0c]⟩
  refine (walk x0a x0b x0c a1 u0a u0b u0c w1 W).mono fun e W' ⟨he, hg⟩ => ?_
  subst he
  exact ⟨_, rfl, _, _, _, [], _, [], hW', trodAll_mk1 (shut_bool Try.underlying4 _), (trodAll_cons_mk (reads0 _ _) (trodAll_cons_mk (shut_int Try.underlying3 w1) trodAll_mk0)), rfl, hg.frame _, fun h => by cases h⟩

theorem over : Rows.fnExactReadOnRow.holds Try.pinned (OpenSpec.ofChange Rows.fnExactReadOnSpec) :=
  OpenClaim.holds_of_wide 6 Try.f6 rfl rfl rfl rfl rfl rfl rfl ⟨rfl, rfl, rfl, rfl, rfl⟩ rfl rfl rfl rfl rfl (by kernel_rfl) Try.func6 (by kernel_rfl)
    (of_decide_eq_true (by kernel_rfl)) (by unfold Func.isWrapper; first | (rw [if_pos (by decide +kernel)]; kernel_rfl) | (rw [if_neg (by decide +kernel)]; exact ⟨rfl, rfl⟩))
    (fun os started H enc _ => lifted os started H enc)

/-- the statement -/
theorem proved : Rows.FnExactReadOnSaid :=
  over
#print axioms proved
end Go.Proofs.Ytcaklokcajidiaa.fnExactReadOn
