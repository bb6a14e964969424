/- FnExactFewestCuts is proved: spec.FewestCuts and impl.FewestCuts answer alike for every argument, the arguments are as they were. No condition: for every input that the parameter types allow. -/
import Derived.Test.YtabnjoohojojnaaRows
import Derived.WalkKit
import Derived.ProofKit
import Derived.OpenShut
import Derived.Below
import Derived.Lib.SmallJoins
import Derived.Carry
import Derived.Test.YtabnjoohojojnaaLz
import Derived.Test.YtabnjoohojojnaaCy
namespace Go.Proofs.Ytabnjoohojojnaa.fnExactFewestCuts
open Go.ChangeShapes Go.WideShapes Go.ChangeAt Go.RowKit Go.Joins
set_option linter.unusedVariables false
set_option linter.unusedSimpArgs false

theorem own : ownKnob Try.prog.godebug = none := by kernel_rfl
theorem laidOut : laidOutB Try.prog = true := by kernel_rfl
set_option maxRecDepth 100000 in
set_option maxHeartbeats 4000000 in
theorem core (a0 : Option Addr) (len0 cap0 : Nat) (z0 : List Int) (w : World) (u0 : Int) (u1 : Bool) (hc0 : Il.Came w (.slice a0 len0 cap0) len0 z0)
    (hs : ∀ (W : World) (b0 g0 : Nat), W.ownsRow b0 3 1 (.slice (some ⟨g0, 0, none⟩) len0 len0) len0 (Li.nums z0) → Calls Try.prog 33 #[.slice (some ⟨g0, 0, none⟩) len0 len0] W (Ln.Ret (.tuple #[.int .i64 u0, .bool u1]) W))
    (hi : ∀ (W : World) (b0 g0 : Nat), W.ownsRow b0 3 1 (.slice (some ⟨g0, 0, none⟩) len0 len0) len0 (Li.nums z0) → Calls Try.prog 34 #[.slice (some ⟨g0, 0, none⟩) len0 len0] W (Ln.Ret (.tuple #[.int .i64 u0, .bool u1]) W)) :
    Calls Try.prog 10 #[.slice a0 len0 cap0] w fun e w' => e = .returned (.bool true) ∧ Below w.heap.size w w' := by
  have hl0 := hc0.2.1
  have HC0 := Lib.hid hc0
  have HL0 := Lib.hid hl0
  have HN0 := Lib.hid (show (len0 : Int) ≤ 1048576 by omega)
  have HS := Lib.hid hs
  have HI := Lib.hid hi
  have t0 : decide ((1048576 : Int) < (len0 : Int)) = false := by simp; omega
  clear hs hi hc0 hl0
  go_enter Try.func10, Try.ntmps10
  go_wp2_with fail
  refine (Il.toIntS_any HC0.out).mono ?_
  rintro e w1 ⟨p0, rfl, op01, hb⟩
  have HB1 := Lib.hid (hb)
  have HZ1 := Lib.hid hb.size
  clear hb 
  go_wp2_with fail
  refine (HS.out _ _ _ op01).mono ?_
  rintro e w2 ⟨rfl, hb⟩
  clear op01
  have HB2 := Lib.hid (HB1.out.trans (Ln.below_le hb HB1.out.size))
  have HZ2 := Lib.hid hb.size
  clear hb 
  go_wp2_with fail
  refine (Il.toIntS_any (HC0.out.on HB2.out)).mono ?_
  rintro e w3 ⟨x0, rfl, ox03, hb⟩
  have HB3 := Lib.hid (HB2.out.trans (Ln.below_le hb HB2.out.size))
  have HZ3 := Lib.hid hb.size
  clear hb 
  go_wp2_with fail
  refine (HI.out _ _ _ ox03).mono ?_
  rintro e w4 ⟨rfl, hb⟩
  have HB4 := Lib.hid (HB3.out.trans (Ln.below_le hb HB3.out.size))
  have HZ4 := Lib.hid hb.size
  have ox04 := Li.own_on ox03 hb
  clear hb ox03
  go_wp2_with fail
  refine (Il.toIntS_any (HC0.out.on HB4.out)).mono ?_
  rintro e w5 ⟨y0, rfl, oy05, hb⟩
  have HB5 := Lib.hid (HB4.out.trans (Ln.below_le hb HB4.out.size))
  have HZ5 := Lib.hid hb.size
  have ox05 := Li.own_on ox04 hb
  clear hb ox04
  go_wp2_with fail
  refine (Ln.eqIntS_n ox05 oy05 HL0.out).mono ?_
  rintro e w6 ⟨rfl, hb⟩
  clear oy05
  have HB6 := Lib.hid (HB5.out.trans (Ln.below_le hb HB5.out.size))
  have HZ6 := Lib.hid hb.size
  have ox06 := Li.own_on ox05 hb
  clear hb ox05
  go_wp2
  go_ret
  exact ⟨rfl, HB6.out⟩
theorem long0 (a0 : Option Addr) (len0 cap0 : Nat) (hl : ¬ (len0 : Int) ≤ 1048576) (hm : len0 ≤ maxLen) (w : World) :
    Calls Try.prog 10 #[.slice a0 len0 cap0] w fun e w' => e = .returned (.bool true) ∧ Below w.heap.size w w' := by
  have t0 : (len0 : Int) ≤ 9223372036854775807 := by unfold maxLen at hm; omega
  have t1 : decide ((1048576 : Int) < (len0 : Int)) = true := by simp; omega
  clear hl hm
  go_enter Try.func10, Try.ntmps10
  go_wp2
  go_ret
  exact ⟨rfl, Below.refl _ _⟩

/-! the walk -/
theorem walk (a0 : Option Addr) (len0 cap0 : Nat) (z0 : List Int)  (w : World) (r0 : Il.Raw w a0 len0 z0) :
    Calls Try.prog 10 #[.slice a0 len0 cap0] w fun e w' => e = .returned (.bool true) ∧ Below w.heap.size w w' := by
  by_cases h0 : (len0 : Int) ≤ 1048576
  · have hl0 : len0 ≤ 1048576 := by omega
    exact core a0 len0 cap0 z0 w (Rz.fcN z0) (Ln.bnd z0) (r0.came hl0) (fun W b0 g0 h0 => Rz.sFewestCuts h0 hl0) (fun W b0 g0 h0 => Rz.iFewestCuts h0 hl0)
  · exact long0 a0 len0 cap0 h0 r0.2.1 w

/-! the row's step -/
set_option maxRecDepth 100000 in
theorem lifted (os : Os) (started : os.Started) (H : Type) (enc : TypeId × Value → H) :
    ReturnsInHanded {} Try.checked os 10 .any (Rows.fnExactFewestCutsSpec.pre6 enc Try.prog Try.f10 Rows.fnExactFewestCutsRow.domain false) (Rows.fnExactFewestCutsSpec.post enc Try.prog Try.f10 false true false false) := by
  refine returnsInHanded_of_change (C := Try.checked) own started (by kernel_rfl) Try.func10
    (ChangeSpec.witness6 (enc := enc) (C := Try.checked) false ⟨#[], #[.slice none 0 0], []⟩ 8 (by kernel_rfl) (by kernel_rfl) (by kernel_rfl) (by kernel_rfl)) ?_
  intro W base args ds gs before hval0 hW hcnd _
  have hval : ∀ (j : Nat) t v, Try.f10.params[j]? = some t → args[j]? = some v → Value.okWide Try.prog W .any base t v := hval0
  have hW' := hW
  obtain ⟨p, q, hA0, hV, rfl, hfz, hnd⟩ := hW
  have hA : DataW.TrodAll enc Try.prog W 0 (fun _ => true) true Try.f10.params.toList args.toList ds p := hA0
  rw [Try.params10] at hA hval
  obtain ⟨v0, vs0, d0, ds0, p0, q0, hargs, rfl, rfl, h0, r0⟩ := trodAll_cons hA
  obtain ⟨rfl, rfl, rfl⟩ := trodAll_nil r0
  obtain rfl : args = #[v0] := by cases args; simp_all
  obtain ⟨rfl, rfl⟩ := trodVars_none hV
  obtain ⟨a0, len0, cap0, rfl⟩ := okWide_slice Try.underlying22 (hval 0 22 v0 rfl rfl)
  have k0 := h0
  have lt0 : ∀ x ∈ p0, x.block < W.heap.size := by obtain ⟨m, hm⟩ := k0; exact DataW.trod_lt m _ _ _ hm
  obtain ⟨z0, r_0⟩ : ∃ zs, Il.Raw W a0 len0 zs := by
    obtain ⟨fuel, hf⟩ := h0
    exact Il.rd_open hf
  clear hA0 hval0
  simp only [List.append_nil] at hW'
  refine (walk a0 len0 cap0 z0  W r_0).mono fun e W' ⟨he, hg⟩ => ?_
  subst he
  exact ⟨_, rfl, _, _, _, [], _, [], hW', trodAll_mk1 (shut_bool Try.underlying4 _), (trodAll_cons_mk (Below.trod laidOut (by kernel_rfl) (of_decide_eq_true (by kernel_rfl)) k0 hg lt0) trodAll_mk0), rfl, hg.frame _, fun h => by cases h⟩

theorem over : Rows.fnExactFewestCutsRow.holds Try.pinned (OpenSpec.ofChange Rows.fnExactFewestCutsSpec) :=
  OpenClaim.holds_of_wide 10 Try.f10 rfl rfl rfl rfl rfl rfl rfl ⟨rfl, rfl, rfl, rfl, rfl⟩ rfl rfl rfl rfl rfl (by kernel_rfl) Try.func10 (by kernel_rfl)
    (of_decide_eq_true (by kernel_rfl)) (by unfold Func.isWrapper; first | (rw [if_pos (by decide +kernel)]; kernel_rfl) | (rw [if_neg (by decide +kernel)]; exact ⟨rfl, rfl⟩))
    (fun os started H enc _ => lifted os started H enc)

/-- the statement -/
theorem proved : Rows.FnExactFewestCutsSaid :=
  over
#print axioms proved
end Go.Proofs.Ytabnjoohojojnaa.fnExactFewestCuts
