/- FnExactBindingOfRank is proved: spec.BindingOfRank and impl.BindingOfRank answer alike for every argument, and the answer is memory of the call's own. No condition: for every input that the parameter types allow. -/
import Derived.Test.YtabnjoohojojnaaRows
import Derived.WalkKit
import Derived.ProofKit
import Derived.OpenShut
import Derived.Test.YtabnjoohojojnaaLz
import Derived.Test.YtabnjoohojojnaaCk
namespace Go.Proofs.Ytabnjoohojojnaa.fnExactBindingOfRank
open Go.ChangeShapes Go.WideShapes Go.ChangeAt Go.RowKit
set_option linter.unusedVariables false

theorem own : ownKnob Try.prog.godebug = none := by kernel_rfl

set_option maxRecDepth 100000 in
set_option maxHeartbeats 1000000 in
theorem law (a0 a1 : Int) (ok : Bool) (zs : List Int) (hl : zs.length ≤ 1048576) (S : ∀ W : World, Calls Try.prog 37 #[.int .i64 a0, .int .i64 a1] W (Li.Gives ok zs W)) (I : ∀ W : World, Calls Try.prog 38 #[.int .i64 a0, .int .i64 a1] W (Li.Gives ok zs W)) (w : World) :
    Calls Try.prog 12 #[.int .i64 a0, .int .i64 a1] w fun e w' => e = .returned (.bool true) ∧ Below w.heap.size w w' := by
  have HS := Lib.hid S
  have HI := Lib.hid I
  have hl2 : (0 : Int) ≤ zs.length := by omega
  have hl3 : (zs.length : Int) ≤ 1048576 := by omega
  clear S I
  go_enter Try.func12, Try.ntmps12
  go_wp2_with fail
  refine (HS.out _).mono ?_
  rintro e w1 ⟨v, rfl, o1, b1⟩
  go_wp2_with fail
  refine (HI.out _).mono ?_
  rintro e w2 ⟨g, rfl, o2, b2⟩
  have b12 := Lib.hid (Li.below_next b1 b2)
  have A := Lib.hid (Li.apart o1 o2)
  have L := Lib.hid (show ∀ k, g.ownBlock = some k → w.heap.size ≤ k from fun k hk => Nat.le_trans b1.size (o2.lt k hk).1)
  have o1 := Li.own_on o1 b2
  clear b1 b2
  go_wp2_with fail
  refine (Li.eqIntS_own o2 o1 hl).mono ?_
  rintro e w3 ⟨rfl, b3⟩
  have o1 := Li.own_on o1 b3
  have o2 := Li.own_on o2 b3
  have b13 := Lib.hid (b12.out.trans (b3.mono b12.out.size))
  clear b3 b12
  go_wp2_with fail
  refine (Li.markIntS_own o2 hl).mono ?_
  rintro e w4 ⟨rfl, o2, g4⟩
  have o1 := o1.kept g4 A.out
  have b14 := Lib.hid (b13.out.grown g4 b13.out.size L.out)
  clear g4 b13
  go_wp2_with fail
  refine (Li.heldIntS_own o2 hl).mono ?_
  rintro e w5 ⟨rfl, rfl⟩
  go_wp2_with fail
  refine (HI.out _).mono ?_
  rintro e w6 ⟨h, rfl, o3, b6⟩
  have o1 := Li.own_on o1 b6
  have o2 := Li.own_on o2 b6
  have b16 := Lib.hid (b14.out.trans (b6.mono b14.out.size))
  clear b6 b14
  go_wp2_with fail
  refine (Li.eqIntS_own o3 o1 hl).mono ?_
  rintro e w7 ⟨rfl, b7⟩
  have o2 := Li.own_on o2 b7
  have b17 := Lib.hid (b16.out.trans (b7.mono b16.out.size))
  clear b7 b16 o1 o3
  go_wp2_with fail
  refine (Li.heldIntS_own o2 hl).mono ?_
  rintro e w8 ⟨rfl, rfl⟩
  go_wp2
  go_ret
  exact ⟨rfl, b17.out⟩

/-! the walk -/
theorem walk (a0 : Int) (a1 : Int) (w0 : (Lit.int .i64 a0).wf = true) (w1 : (Lit.int .i64 a1).wf = true) (w : World) :
    Calls Try.prog 12 #[.int .i64 a0, .int .i64 a1] w fun e w' => e = .returned (.bool true) ∧ Below w.heap.size w w' := by
  exact law a0 a1 (Ln.orB a0 a1) (Ln.orZ a0 a1) (Ln.orZ_len a0 a1) (fun W => Ln.sBindingOfRank a0 a1 W) (fun W => Ln.iBindingOfRank a0 a1 W) w

/-! the row's step -/
set_option maxRecDepth 100000 in
theorem lifted (os : Os) (started : os.Started) (H : Type) (enc : TypeId × Value → H) :
    ReturnsInHanded {} Try.checked os 12 .any (Rows.fnExactBindingOfRankSpec.pre6 enc Try.prog Try.f12 Rows.fnExactBindingOfRankRow.domain false) (Rows.fnExactBindingOfRankSpec.post enc Try.prog Try.f12 false true false false) := by
  refine returnsInHanded_of_change (C := Try.checked) own started (by kernel_rfl) Try.func12
    (ChangeSpec.witness6 (enc := enc) (C := Try.checked) false ⟨#[], #[.int .i64 0, .int .i64 0], []⟩ 8 (by kernel_rfl) (by kernel_rfl) (by kernel_rfl) (by kernel_rfl)) ?_
  intro W base args ds gs before hval0 hW hcnd _
  have hval : ∀ (j : Nat) t v, Try.f12.params[j]? = some t → args[j]? = some v → Value.okWide Try.prog W .any base t v := hval0
  have hW' := hW
  obtain ⟨p, q, hA0, hV, rfl, hfz, hnd⟩ := hW
  have hA : DataW.TrodAll enc Try.prog W 0 (fun _ => true) true Try.f12.params.toList args.toList ds p := hA0
  rw [Try.params12] at hA hval
  obtain ⟨v0, vs0, d0, ds0, p0, q0, hargs, rfl, rfl, h0, r0⟩ := trodAll_cons hA
  obtain ⟨v1, vs1, d1, ds1, p1, q1, rfl, rfl, rfl, h1, r1⟩ := trodAll_cons r0
  obtain ⟨rfl, rfl, rfl⟩ := trodAll_nil r1
  obtain rfl : args = #[v0, v1] := by cases args; simp_all
  obtain ⟨rfl, rfl⟩ := trodVars_none hV
  obtain ⟨a0, rfl, rfl, rfl, w0⟩ := open_int Try.underlying3 (hval 0 3 v0 rfl rfl) h0
  obtain ⟨a1, rfl, rfl, rfl, w1⟩ := open_int Try.underlying3 (hval 1 3 v1 rfl rfl) h1
  clear hA0 hval0
  simp only [List.append_nil] at hW'
  refine (walk a0 a1 w0 w1 W).mono fun e W' ⟨he, hg⟩ => ?_
  subst he
  exact ⟨_, rfl, _, _, _, [], _, [], hW', trodAll_mk1 (shut_bool Try.underlying4 _), (trodAll_cons_mk (shut_int Try.underlying3 w0) (trodAll_cons_mk (shut_int Try.underlying3 w1) trodAll_mk0)), rfl, hg.frame _, fun h => by cases h⟩

theorem over : Rows.fnExactBindingOfRankRow.holds Try.pinned (OpenSpec.ofChange Rows.fnExactBindingOfRankSpec) :=
  OpenClaim.holds_of_wide 12 Try.f12 rfl rfl rfl rfl rfl rfl rfl ⟨rfl, rfl, rfl, rfl, rfl⟩ rfl rfl rfl rfl rfl (by kernel_rfl) Try.func12 (by kernel_rfl)
    (of_decide_eq_true (by kernel_rfl)) (by unfold Func.isWrapper; first | (rw [if_pos (by decide +kernel)]; kernel_rfl) | (rw [if_neg (by decide +kernel)]; exact ⟨rfl, rfl⟩))
    (fun os started H enc _ => lifted os started H enc)

/-- the statement -/
theorem proved : Rows.FnExactBindingOfRankSaid :=
  over
#print axioms proved
end Go.Proofs.Ytabnjoohojojnaa.fnExactBindingOfRank
