/- FnExactFirstAtEnd is proved: spec.FirstAtEnd and impl.FirstAtEnd answer alike for every argument, and the readers are as they were. No condition: for every input that the parameter types allow. -/
import Derived.Test.YtcaklokcajidiaaRows
import Derived.WalkKit
import Derived.ProofKit
import Derived.OpenShut
import Derived.Below
import Derived.Lib.SmallJoins
import Derived.Carry
import Derived.Test.YtcaklokcajidiaaFe
import Derived.Test.YtcaklokcajidiaaRx4
namespace Go.Proofs.Ytcaklokcajidiaa.fnExactFirstAtEnd
open Go.ChangeShapes Go.WideShapes Go.ChangeAt Go.RowKit Go.Joins
set_option linter.unusedVariables false
set_option linter.unusedSimpArgs false

theorem own : ownKnob Try.prog.godebug = none := by kernel_rfl
theorem laidOut : laidOutB Try.prog = true := by kernel_rfl
set_option maxRecDepth 100000 in
set_option maxHeartbeats 1000000 in
theorem core (a0 : Int) (v : Value) (a1 : Option Addr) (len cap : Nat) (hv : v = .slice a1 len cap) (zs : List Int) (x y : Int) (ok : Bool) (w : World) (hc : Rx.Came w v len zs)
    (hs : ∀ (W : World) (b1 g : Nat), W.ownsRow b1 25 3 (.slice (some ⟨g, 0, none⟩) len len) len (Rx.nums zs) → Calls Try.prog 39 #[.int .i64 a0, .slice (some ⟨g, 0, none⟩) len len] W (Rw.Ret (.tuple #[.int .i64 x, .int .i64 y, .bool ok]) W))
    (hi : ∀ (W : World) (b1 g : Nat), W.ownsRow b1 25 3 (.slice (some ⟨g, 0, none⟩) len len) len (Rx.nums zs) → Calls Try.prog 41 #[.int .i64 a0, .slice (some ⟨g, 0, none⟩) len len] W (Rw.Ret (.tuple #[.int .i64 x, .int .i64 y, .bool ok]) W)) :
    Calls Try.prog 13 #[.int .i64 a0, .slice a1 len cap] w fun e w' => e = .returned (.bool true) ∧ Below w.heap.size w w' := by
  have hl := hc.2.1
  have HS := Lib.hid hs
  have HI := Lib.hid hi
  have HC := Lib.hid (hv ▸ hc : Rx.Came w (.slice a1 len cap) len zs)
  have t1 : decide ((1048576 : Int) - (len : Int) < 0) = false := by simp; omega
  have HL := Lib.hid hl
  clear hs hi hc hv hl
  go_enter Try.func13, Try.ntmps13
  go_wp2_with fail
  refine (Rx.sz_yes a1 len cap HL.out _).mono ?_
  rintro e w' ⟨rfl, rfl⟩
  go_wp2_with fail
  refine (Rx.toReaderS_any HC.out).mono ?_
  rintro e w1 ⟨g1, rfl, o1, b1⟩
  have HC1 := Lib.hid (HC.out.on b1)
  go_wp2_with fail
  refine (HS.out _ _ _ o1).mono ?_
  rintro e w2 ⟨rfl, b2⟩
  have B2 := Lib.hid (b1.trans (below_le b2 b1.size))
  have HC2 := Lib.hid (HC1.out.on b2)
  clear b1 b2 o1 HC1
  go_wp2_with fail
  refine (Rx.toReaderS_any HC2.out).mono ?_
  rintro e w3 ⟨g2, rfl, o2, b3⟩
  have HC3 := Lib.hid (HC2.out.on b3)
  have B3 := Lib.hid (B2.out.trans (below_le b3 B2.out.size))
  clear b3 HC2 B2
  go_wp2_with fail
  refine (HI.out _ _ _ o2).mono ?_
  rintro e w4 ⟨rfl, b4⟩
  have HC4 := Lib.hid (HC3.out.on b4)
  have B4 := Lib.hid (B3.out.trans (below_le b4 B3.out.size))
  have o2 := Rx.own_on o2 b4
  clear b4 HC3 B3
  go_wp2_with fail
  refine (Rx.toReaderS_any HC4.out).mono ?_
  rintro e w5 ⟨g3, rfl, o3, b5⟩
  have B5 := Lib.hid (B4.out.trans (below_le b5 B4.out.size))
  have o2 := Rx.own_on o2 b5
  clear b5 HC4 B4
  go_wp2_with fail
  refine (Rx.eqReaderS_own o2 o3 HL.out).mono ?_
  rintro e w6 ⟨rfl, b6⟩
  have B6 := Lib.hid (B5.out.trans (below_le b6 B5.out.size))
  clear b6 o2 o3 B5
  go_wp2
  go_ret
  exact ⟨rfl, B6.out⟩
theorem long (a0 : Int) (a1 : Option Addr) (len cap : Nat) (hl : ¬ len ≤ 1048576) (hm : len ≤ maxLen) (w : World) :
    Calls Try.prog 13 #[.int .i64 a0, .slice a1 len cap] w fun e w' => e = .returned (.bool true) ∧ Below w.heap.size w w' := by
  have HL := Lib.hid hl
  have HM := Lib.hid hm
  clear hl hm
  go_enter Try.func13, Try.ntmps13
  go_wp2_with fail
  refine (Rx.sz_no a1 len cap HL.out HM.out _).mono ?_
  rintro e w' ⟨rfl, rfl⟩
  go_wp2
  go_ret
  exact ⟨rfl, Below.refl _ _⟩

/-! the walk -/
theorem walk (a0 : Int) (a1 : Option Addr) (len1 cap1 : Nat) (z1 : List Int) (w0 : (Lit.int .i64 a0).wf = true) (w : World) (r1 : Rx.Raw w a1 len1 z1) :
    Calls Try.prog 13 #[.int .i64 a0, .slice a1 len1 cap1] w fun e w' => e = .returned (.bool true) ∧ Below w.heap.size w w' := by
  by_cases hl : len1 ≤ 1048576
  · have hc := r1.came (cap := cap1) hl
    by_cases ha : Rx.allOf a0 z1 len1
    · exact core a0 _ a1 len1 cap1 rfl z1 _ _ _ w hc (fun W b g h => Rx.sFE_yes h ha) (fun W b g h => Rx.iFE_yes h ha)
    · exact core a0 _ a1 len1 cap1 rfl z1 _ _ _ w hc (fun W b g h => Rx.sFE_no h ha) (fun W b g h => Rx.iFE_no h ha)
  · exact long a0 a1 len1 cap1 hl r1.2.1 w

/-! the row's step -/
set_option maxRecDepth 100000 in
theorem lifted (os : Os) (started : os.Started) (H : Type) (enc : TypeId × Value → H) :
    ReturnsInHanded {} Try.checked os 13 .any (Rows.fnExactFirstAtEndSpec.pre6 enc Try.prog Try.f13 Rows.fnExactFirstAtEndRow.domain false) (Rows.fnExactFirstAtEndSpec.post enc Try.prog Try.f13 false true false false) := by
  refine returnsInHanded_of_change (C := Try.checked) own started (by kernel_rfl) Try.func13
    (ChangeSpec.witness6 (enc := enc) (C := Try.checked) false ⟨#[], #[.int .i64 0, .slice none 0 0], []⟩ 8 (by kernel_rfl) (by kernel_rfl) (by kernel_rfl) (by kernel_rfl)) ?_
  intro W base args ds gs before hval0 hW hcnd _
  have hval : ∀ (j : Nat) t v, Try.f13.params[j]? = some t → args[j]? = some v → Value.okWide Try.prog W .any base t v := hval0
  have hW' := hW
  obtain ⟨p, q, hA0, hV, rfl, hfz, hnd⟩ := hW
  have hA : DataW.TrodAll enc Try.prog W 0 (fun _ => true) true Try.f13.params.toList args.toList ds p := hA0
  rw [Try.params13] at hA hval
  obtain ⟨v0, vs0, d0, ds0, p0, q0, hargs, rfl, rfl, h0, r0⟩ := trodAll_cons hA
  obtain ⟨v1, vs1, d1, ds1, p1, q1, rfl, rfl, rfl, h1, r1⟩ := trodAll_cons r0
  obtain ⟨rfl, rfl, rfl⟩ := trodAll_nil r1
  obtain rfl : args = #[v0, v1] := by cases args; simp_all
  obtain ⟨rfl, rfl⟩ := trodVars_none hV
  obtain ⟨a0, rfl, rfl, rfl, w0⟩ := open_int Try.underlying3 (hval 0 3 v0 rfl rfl) h0
  obtain ⟨a1, len1, cap1, rfl⟩ := okWide_slice Try.underlying47 (hval 1 47 v1 rfl rfl)
  have k1 := h1
  have lt1 : ∀ x ∈ p1, x.block < W.heap.size := by obtain ⟨m, hm⟩ := k1; exact DataW.trod_lt m _ _ _ hm
  obtain ⟨z1, r_1⟩ : ∃ zs, Rx.Raw W a1 len1 zs := by
    obtain ⟨fuel, hf⟩ := h1
    exact Rx.rd_open hf
  clear hA0 hval0
  simp only [List.append_nil] at hW'

  refine (walk a0 a1 len1 cap1 z1 w0 W r_1).mono fun e W' ⟨he, hg⟩ => ?_
  subst he
  exact ⟨_, rfl, _, _, _, [], _, [], hW', trodAll_mk1 (shut_bool Try.underlying4 _), (trodAll_cons_mk (shut_int Try.underlying3 w0) (trodAll_cons_mk (Below.trod laidOut (by kernel_rfl) (of_decide_eq_true (by kernel_rfl)) k1 hg lt1) trodAll_mk0)), rfl, hg.frame _, fun h => by cases h⟩

theorem over : Rows.fnExactFirstAtEndRow.holds Try.pinned (OpenSpec.ofChange Rows.fnExactFirstAtEndSpec) :=
  OpenClaim.holds_of_wide 13 Try.f13 rfl rfl rfl rfl rfl rfl rfl ⟨rfl, rfl, rfl, rfl, rfl⟩ rfl rfl rfl rfl rfl (by kernel_rfl) Try.func13 (by kernel_rfl)
    (of_decide_eq_true (by kernel_rfl)) (by unfold Func.isWrapper; first | (rw [if_pos (by decide +kernel)]; kernel_rfl) | (rw [if_neg (by decide +kernel)]; exact ⟨rfl, rfl⟩))
    (fun os started H enc _ => lifted os started H enc)

/-- the statement -/
theorem proved : Rows.FnExactFirstAtEndSaid :=
  over
#print axioms proved
end Go.Proofs.Ytcaklokcajidiaa.fnExactFirstAtEnd
