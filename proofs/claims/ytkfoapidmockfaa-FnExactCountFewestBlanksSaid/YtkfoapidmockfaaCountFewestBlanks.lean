/- FnExactCountFewestBlanks is proved: spec.CountFewestBlanks and impl.CountFewestBlanks answer alike for every argument, and the arguments are as they were. No condition: for every input that the parameter types allow. -/
import Derived.Test.YtkfoapidmockfaaRows
import Derived.WalkKit
import Derived.ProofKit
import Derived.OpenShut
import Derived.Below
import Derived.Lib.SmallJoins
import Derived.Carry
import Derived.Test.YtkfoapidmockfaaCc5
import Derived.Deep.RegionHeld3
namespace Go.Proofs.Ytkfoapidmockfaa.fnExactCountFewestBlanks
open Go.ChangeShapes Go.WideShapes Go.ChangeAt Go.RowKit Go.Joins
set_option linter.unusedVariables false
set_option linter.unusedSimpArgs false

theorem own : ownKnob Try.prog.godebug = none := by kernel_rfl
theorem laidOut : laidOutB Try.prog = true := by kernel_rfl
set_option maxRecDepth 100000 in
set_option maxHeartbeats 1000000 in
theorem core (a0 : Option Addr) (len0 cap0 : Nat) (zs : List Int)  (w : World) (x0 : Int) (x1 : Bool) (hc : Il.Came w (.slice a0 len0 cap0) len0 zs)
    (hs : ∀ (W : World) (b1 g : Nat), Sh.Ow W b1 g len0 len0 zs → Calls Try.prog 22 #[.slice (some ⟨g, 0, none⟩) len0 len0] W (Sh.Ret (.tuple #[.int .i64 x0, .bool x1]) W))
    (hi : ∀ (W : World) (b1 g : Nat), Sh.Ow W b1 g len0 len0 zs → Calls Try.prog 23 #[.slice (some ⟨g, 0, none⟩) len0 len0] W (Sh.Ret (.tuple #[.int .i64 x0, .bool x1]) W)) :
    Calls Try.prog 6 #[.slice a0 len0 cap0] w fun e w' => e = .returned (.bool true) ∧ Below w.heap.size w w' := by
  have hl := hc.2.1
  have HS := Lib.hid hs
  have HI := Lib.hid hi
  have HC := Lib.hid hc
  have t1 : decide ((1048576 : Int) < (len0 : Int)) = false := by simp; omega
  have HL := Lib.hid hl
  clear hs hi hc hl
  go_enter Try.func6, Try.ntmps6
  go_wp2_with fail
  refine (Il.toIntS_any HC.out).mono ?_
  rintro e w2 ⟨g1, rfl, o1, hb⟩
  have HB2 := Lib.hid hb
  clear hb
  go_wp2_with fail
  refine (HS.out _ _ _ o1).mono ?_
  rintro e w3 ⟨rfl, hb⟩
  have HB := Lib.hid (HB2.out.trans (Sh.below_le hb HB2.out.size))
  clear hb HB2 o1
  go_wp2_with fail
  refine (Il.toIntS_any (HC.out.on HB.out)).mono ?_
  rintro e w4 ⟨g2, rfl, o2, hb⟩
  have HB2 := Lib.hid (HB.out.trans (Sh.below_le hb HB.out.size))
  clear hb HB
  go_wp2_with fail
  refine (HI.out _ _ _ o2).mono ?_
  rintro e w5 ⟨rfl, hb⟩
  have HB := Lib.hid (HB2.out.trans (Sh.below_le hb HB2.out.size))
  have HO := Lib.hid (Li.own_on o2 hb)
  clear hb HB2 o2
  go_wp2_with fail
  refine (Il.toIntS_any (HC.out.on HB.out)).mono ?_
  rintro e w6 ⟨g3, rfl, o3, hb⟩
  have HB2 := Lib.hid (HB.out.trans (Sh.below_le hb HB.out.size))
  have HO2 := Lib.hid (Li.own_on HO.out hb)
  have HE := Lib.hid (show zs.length = len0 from HC.out.1)
  clear hb HB HO
  go_wp2_with fail
  refine (Li.eqIntS_own (by rw [HE.out]; exact HO2.out) (by rw [HE.out]; exact o3) (by rw [HE.out]; exact HL.out)).mono ?_
  rintro e w7 ⟨rfl, hb⟩
  have HB := Lib.hid (HB2.out.trans (Sh.below_le hb HB2.out.size))
  clear hb HB2 o3 HO2
  go_wp2
  go_ret
  exact ⟨rfl, HB.out⟩
theorem long (a0 : Option Addr) (len0 cap0 : Nat)  (hl : ¬ len0 ≤ 1048576) (hm : len0 ≤ maxLen) (w : World) :
    Calls Try.prog 6 #[.slice a0 len0 cap0] w fun e w' => e = .returned (.bool true) ∧ Below w.heap.size w w' := by
  have t0 : (len0 : Int) ≤ 9223372036854775807 := by unfold maxLen at hm; omega
  have t1 : decide ((1048576 : Int) < (len0 : Int)) = true := by simp; omega
  clear hl hm
  go_enter Try.func6, Try.ntmps6
  go_wp2
  go_ret
  exact ⟨rfl, Below.refl _ _⟩

/-! the walk -/
theorem walk (a0 : Option Addr) (len0 cap0 : Nat) (z0 : List Int)  (w : World) (r0 : Il.Raw w a0 len0 z0) :
    Calls Try.prog 6 #[.slice a0 len0 cap0] w fun e w' => e = .returned (.bool true) ∧ Below w.heap.size w w' := by
  by_cases hl : len0 ≤ 1048576
  · have hc := r0.came (cap := cap0) hl
    exact core a0 len0 cap0 z0  w (Ch.cfv z0) (Sh.good z0) hc (fun W b1 g h => Ch.sCount h hl ) (fun W b1 g h => Ch.iCount h hl )
  · exact long a0 len0 cap0  hl r0.2.1 w

/-! the row's step -/
set_option maxRecDepth 100000 in
theorem lifted (os : Os) (started : os.Started) (H : Type) (enc : TypeId × Value → H) :
    ReturnsInHanded {} Try.checked os 6 .any (Rows.fnExactCountFewestBlanksSpec.pre6 enc Try.prog Try.f6 Rows.fnExactCountFewestBlanksRow.domain false) (Rows.fnExactCountFewestBlanksSpec.post enc Try.prog Try.f6 false true false false) := by
  refine returnsInHanded_of_change (C := Try.checked) own started (by kernel_rfl) Try.func6
    (ChangeSpec.witness6 (enc := enc) (C := Try.checked) false ⟨#[], #[.slice none 0 0], []⟩ 8 (by kernel_rfl) (by kernel_rfl) (by kernel_rfl) (by kernel_rfl)) ?_
  intro W base args ds gs before hval0 hW hcnd _
  have hval : ∀ (j : Nat) t v, Try.f6.params[j]? = some t → args[j]? = some v → Value.okWide Try.prog W .any base t v := hval0
  have hW' := hW
  obtain ⟨p, q, hA0, hV, rfl, hfz, hnd⟩ := hW
  have hA : DataW.TrodAll enc Try.prog W 0 (fun _ => true) true Try.f6.params.toList args.toList ds p := hA0
  rw [Try.params6] at hA hval
  obtain ⟨v0, vs0, d0, ds0, p0, q0, hargs, rfl, rfl, h0, r0⟩ := trodAll_cons hA
  obtain ⟨rfl, rfl, rfl⟩ := trodAll_nil r0
  obtain rfl : args = #[v0] := by cases args; simp_all
  obtain ⟨rfl, rfl⟩ := trodVars_none hV
  obtain ⟨a0, len0, cap0, rfl⟩ := okWide_slice Try.underlying22 (hval 0 22 v0 rfl rfl)
  have k0 := h0
  have lt0 : ∀ x ∈ p0, x.block < W.heap.size := by obtain ⟨m, hm⟩ := k0; exact DataW.trod_lt m _ _ _ hm
  obtain ⟨z0, r_0⟩ : ∃ zs, Il.Raw W a0 len0 zs := by
    obtain ⟨fuel, hf⟩ := h0
    exact Il.rd_open hf
  clear hA0 hval0
  simp only [List.append_nil] at hW'
  refine (walk a0 len0 cap0 z0  W r_0).mono fun e W' ⟨he, hg⟩ => ?_
  subst he
  exact ⟨_, rfl, _, _, _, [], _, [], hW', trodAll_mk1 (shut_bool Try.underlying4 _), (trodAll_cons_mk (Below.trod laidOut (by kernel_rfl) (of_decide_eq_true (by kernel_rfl)) k0 hg lt0) trodAll_mk0), rfl, hg.frame _, fun h => by cases h⟩

theorem over : Rows.fnExactCountFewestBlanksRow.holds Try.pinned (OpenSpec.ofChange Rows.fnExactCountFewestBlanksSpec) :=
  OpenClaim.holds_of_wide 6 Try.f6 rfl rfl rfl rfl rfl rfl rfl ⟨rfl, rfl, rfl, rfl, rfl⟩ rfl rfl rfl rfl rfl (by kernel_rfl) Try.func6 (by kernel_rfl)
    (of_decide_eq_true (by kernel_rfl)) (by unfold Func.isWrapper; first | (rw [if_pos (by decide +kernel)]; kernel_rfl) | (rw [if_neg (by decide +kernel)]; exact ⟨rfl, rfl⟩))
    (fun os started H enc _ => lifted os started H enc)

/-- the statement -/
theorem proved : Rows.FnExactCountFewestBlanksSaid :=
  over
#print axioms proved
end Go.Proofs.Ytkfoapidmockfaa.fnExactCountFewestBlanks
