/- FnExactAfterParts is proved: spec.AfterParts and impl.AfterParts answer alike for every argument, and the parts and the numbers of pages more are as they were. No condition: for every input that the parameter types allow. -/
import Derived.Test.YtcaklokcajidiabRows
import Derived.WalkKit
import Derived.ProofKit
import Derived.OpenShut
import Derived.Below
import Derived.Lib.SmallJoins
import Derived.Carry
import Derived.Test.YtcaklokcajidiabAp7
namespace Go.Proofs.Ytcaklokcajidiab.fnExactAfterParts
open Go.ChangeShapes Go.WideShapes Go.ChangeAt Go.RowKit Go.Joins
set_option linter.unusedVariables false
set_option linter.unusedSimpArgs false

theorem own : ownKnob Try.prog.godebug = none := by kernel_rfl
theorem laidOut : laidOutB Try.prog = true := by kernel_rfl
set_option maxRecDepth 100000 in
set_option maxHeartbeats 2000000 in
theorem core (l : Int) (a1 : Option Addr) (len1 cap1 : Nat) (R : List (List Int)) (a2 : Option Addr) (len2 cap2 : Nat) (ms : List Int) (hl : len2 ≤ 1048576) (w : World) (hp : Ss.Grid 0 w (.slice a1 len1 cap1) R) (hm : Ss.Row 0 w (.slice a2 len2 cap2) ms) :
    Calls Try.prog 7 #[.int .i64 l, .slice a1 len1 cap1, .slice a2 len2 cap2] w fun e w' => e = .returned (.bool true) ∧ Below w.heap.size w w' := by
  have HP := Lib.hid hp
  have HM := Lib.hid hm
  have HL := Lib.hid (show ms.length ≤ 1048576 by
    obtain ⟨_, _, e, _⟩ := hm
    simp only [Value.slice.injEq] at e
    omega)
  have t1 : decide ((1048576 : Int) < (len2 : Int)) = false := by simp; omega
  clear hp hm
  go_enter Try.func7, Try.ntmps7
  go_wp2_with fail
  refine (Ss.szIntSS_any HP.out).mono ?_
  rintro e w1 ⟨n, rfl, hs, hn, b1⟩
  have HP1 := Lib.hid (HP.out.on b1)
  have HM1 := Lib.hid (HM.out.on b1)
  have HB1 := Lib.hid b1
  clear b1 HP HM
  by_cases hn0 : 0 ≤ n
  · have HS := Lib.hid (hs hn0)
    have t2 : decide (n < 0) = false := by simp; omega
    clear hs
    go_wp2_with fail
    refine (Ss.toIntSS_any HP1.out HS.out).mono ?_
    rintro e w2 ⟨x1, rfl, g1, b2⟩
    have HP2 := Lib.hid (HP1.out.on b2)
    have HM2 := Lib.hid (HM1.out.on b2)
    have HB2 := Lib.hid (HB1.out.trans (below_le b2 HB1.out.size))
    have HG1 := Lib.hid g1
    clear b2 HP1 HM1 HB1 g1
    go_wp2_with fail
    refine (Ss.toIntS_any HM2.out HL.out).mono ?_
    rintro e w3 ⟨x2, rfl, _, g2, b3⟩
    have HP3 := Lib.hid (HP2.out.on b3)
    have HM3 := Lib.hid (HM2.out.on b3)
    have HG2 := Lib.hid (HG1.out.on b3)
    have HH2 := Lib.hid g2
    have HB3 := Lib.hid (HB2.out.trans (below_le b3 HB2.out.size))
    clear b3 HP2 HM2 HB2 HG1 g2
    go_wp2_with fail
    refine (Ap.spec_any HG2.out HH2.out).mono ?_
    rintro e w4 ⟨rfl, b4⟩
    have HP4 := Lib.hid (HP3.out.on b4)
    have HM4 := Lib.hid (HM3.out.on b4)
    have HB4 := Lib.hid (HB3.out.trans (below_le b4 HB3.out.size))
    clear b4 HP3 HM3 HB3 HG2 HH2
    go_wp2_with fail
    refine (Ss.toIntSS_any HP4.out HS.out).mono ?_
    rintro e w5 ⟨y1, rfl, g1, b5⟩
    have HP5 := Lib.hid (HP4.out.on b5)
    have HM5 := Lib.hid (HM4.out.on b5)
    have HB5 := Lib.hid (HB4.out.trans (below_le b5 HB4.out.size))
    have HG5 := Lib.hid g1
    clear b5 HP4 HM4 HB4 g1
    go_wp2_with fail
    refine (Ss.toIntS_any HM5.out HL.out).mono ?_
    rintro e w6 ⟨y2, rfl, _, g2, b6⟩
    have HP6 := Lib.hid (HP5.out.on b6)
    have HM6 := Lib.hid (HM5.out.on b6)
    have HG6 := Lib.hid (HG5.out.on b6)
    have HH6 := Lib.hid g2
    have HB6 := Lib.hid (HB5.out.trans (below_le b6 HB5.out.size))
    clear b6 HP5 HM5 HB5 HG5 g2
    go_wp2_with fail
    refine (Ap.impl_any HG6.out HH6.out).mono ?_
    rintro e w7 ⟨rfl, b7⟩
    have HP7 := Lib.hid (HP6.out.on b7)
    have HM7 := Lib.hid (HM6.out.on b7)
    have HG7 := Lib.hid (HG6.out.on b7)
    have HH7 := Lib.hid (HH6.out.on b7)
    have HB7 := Lib.hid (HB6.out.trans (below_le b7 HB6.out.size))
    clear b7 HP6 HM6 HB6 HG6 HH6
    generalize (Ap.ans l R ms).1 = px at *
    generalize (Ap.ans l R ms).2 = ok at *
    go_wp2_with fail
    refine (Ss.toIntSS_any HP7.out HS.out).mono ?_
    rintro e w8 ⟨z1, rfl, g1, b8⟩
    have HM8 := Lib.hid (HM7.out.on b8)
    have HG8 := Lib.hid (HG7.out.on b8)
    have HH8 := Lib.hid (HH7.out.on b8)
    have HB8 := Lib.hid (HB7.out.trans (below_le b8 HB7.out.size))
    have HZ8 := Lib.hid g1
    clear b8 HP7 HM7 HB7 HG7 HH7 g1
    go_wp2_with fail
    refine (Ss.eqIntSS_any HG8.out HZ8.out).mono ?_
    rintro e w9 ⟨rfl, b9⟩
    have HM9 := Lib.hid (HM8.out.on b9)
    have HH9 := Lib.hid (HH8.out.on b9)
    have HB9 := Lib.hid (HB8.out.trans (below_le b9 HB8.out.size))
    clear b9 HM8 HG8 HH8 HB8 HZ8
    go_wp2_with fail
    refine (Ss.toIntS_any HM9.out HL.out).mono ?_
    rintro e w10 ⟨z2, rfl, _, g2, b10⟩
    have HH10 := Lib.hid (HH9.out.on b10)
    have HB10 := Lib.hid (HB9.out.trans (below_le b10 HB9.out.size))
    have HZ10 := Lib.hid g2
    clear b10 HM9 HB9 HH9 g2
    go_wp2_with fail
    refine (Ss.eqIntS_any HH10.out HZ10.out).mono ?_
    rintro e w11 ⟨rfl, b11⟩
    have HB11 := Lib.hid (HB10.out.trans (below_le b11 HB10.out.size))
    clear b11 HH10 HB10 HZ10
    go_wp2
    go_ret
    exact ⟨rfl, HB11.out⟩
  · have t2 : decide (n < 0) = true := by simp; omega
    clear hs
    go_wp2
    go_ret
    exact ⟨rfl, HB1.out⟩
set_option maxRecDepth 100000 in
theorem long (l : Int) (a1 : Option Addr) (len1 cap1 : Nat) (a2 : Option Addr) (len2 cap2 : Nat) (hl : ¬ len2 ≤ 1048576) (hm : len2 ≤ maxLen) (w : World) :
    Calls Try.prog 7 #[.int .i64 l, .slice a1 len1 cap1, .slice a2 len2 cap2] w fun e w' => e = .returned (.bool true) ∧ Below w.heap.size w w' := by
  have t0 : (len2 : Int) ≤ 9223372036854775807 := by unfold maxLen at hm; omega
  have t1 : decide ((1048576 : Int) < (len2 : Int)) = true := by simp; omega
  clear hm hl
  go_enter Try.func7, Try.ntmps7
  go_wp2
  go_ret
  exact ⟨rfl, Below.refl _ _⟩

/-! the walk -/
theorem walk (a0 : Int) (a1 : Option Addr) (len1 cap1 : Nat) (z1 : List (List Int)) (a2 : Option Addr) (len2 cap2 : Nat) (z2 : List Int) (w0 : (Lit.int .i64 a0).wf = true) (w : World) (r1 : Ss.Grid 0 w (.slice a1 len1 cap1) z1) (r2 : Ss.Row 0 w (.slice a2 len2 cap2) z2) :
    Calls Try.prog 7 #[.int .i64 a0, .slice a1 len1 cap1, .slice a2 len2 cap2] w fun e w' => e = .returned (.bool true) ∧ Below w.heap.size w w' := by
  by_cases hl : len2 ≤ 1048576
  · exact core a0 a1 len1 cap1 z1 a2 len2 cap2 z2 hl w r1 r2
  · exact long a0 a1 len1 cap1 a2 len2 cap2 hl (by obtain ⟨_, _, e, hm, _⟩ := r2; simp only [Value.slice.injEq] at e; omega) w

/-! the row's step -/
set_option maxRecDepth 100000 in
theorem lifted (os : Os) (started : os.Started) (H : Type) (enc : TypeId × Value → H) :
    ReturnsInHanded {} Try.checked os 7 .any (Rows.fnExactAfterPartsSpec.pre6 enc Try.prog Try.f7 Rows.fnExactAfterPartsRow.domain false) (Rows.fnExactAfterPartsSpec.post enc Try.prog Try.f7 false true false false) := by
  refine returnsInHanded_of_change (C := Try.checked) own started (by kernel_rfl) Try.func7
    (ChangeSpec.witness6 (enc := enc) (C := Try.checked) false ⟨#[], #[.int .i64 0, .slice none 0 0, .slice none 0 0], []⟩ 8 (by kernel_rfl) (by kernel_rfl) (by kernel_rfl) (by kernel_rfl)) ?_
  intro W base args ds gs before hval0 hW hcnd _
  have hval : ∀ (j : Nat) t v, Try.f7.params[j]? = some t → args[j]? = some v → Value.okWide Try.prog W .any base t v := hval0
  have hW' := hW
  obtain ⟨p, q, hA0, hV, rfl, hfz, hnd⟩ := hW
  have hA : DataW.TrodAll enc Try.prog W 0 (fun _ => true) true Try.f7.params.toList args.toList ds p := hA0
  rw [Try.params7] at hA hval
  obtain ⟨v0, vs0, d0, ds0, p0, q0, hargs, rfl, rfl, h0, r0⟩ := trodAll_cons hA
  obtain ⟨v1, vs1, d1, ds1, p1, q1, rfl, rfl, rfl, h1, r1⟩ := trodAll_cons r0
  obtain ⟨v2, vs2, d2, ds2, p2, q2, rfl, rfl, rfl, h2, r2⟩ := trodAll_cons r1
  obtain ⟨rfl, rfl, rfl⟩ := trodAll_nil r2
  obtain rfl : args = #[v0, v1, v2] := by cases args; simp_all
  obtain ⟨rfl, rfl⟩ := trodVars_none hV
  obtain ⟨a0, rfl, rfl, rfl, w0⟩ := open_int Try.underlying3 (hval 0 3 v0 rfl rfl) h0
  obtain ⟨a1, len1, cap1, rfl⟩ := okWide_slice Try.underlying40 (hval 1 40 v1 rfl rfl)
  have k1 := h1
  have lt1 : ∀ x ∈ p1, x.block < W.heap.size := by obtain ⟨m, hm⟩ := k1; exact DataW.trod_lt m _ _ _ hm
  obtain ⟨z1, r_1⟩ : ∃ zs, Ss.Grid 0 W (.slice a1 len1 cap1) zs := by
    obtain ⟨fuel, hf⟩ := h1
    exact Ss.grid_open hf
  obtain ⟨a2, len2, cap2, rfl⟩ := okWide_slice Try.underlying24 (hval 2 24 v2 rfl rfl)
  have k2 := h2
  have lt2 : ∀ x ∈ p2, x.block < W.heap.size := by obtain ⟨m, hm⟩ := k2; exact DataW.trod_lt m _ _ _ hm
  obtain ⟨z2, r_2⟩ : ∃ zs, Ss.Row 0 W (.slice a2 len2 cap2) zs := by
    obtain ⟨fuel, hf⟩ := h2
    exact Ss.row_open hf
  clear hA0 hval0
  simp only [List.append_nil] at hW'

  refine (walk a0 a1 len1 cap1 z1 a2 len2 cap2 z2 w0 W r_1 r_2).mono fun e W' ⟨he, hg⟩ => ?_
  subst he
  exact ⟨_, rfl, _, _, _, [], _, [], hW', trodAll_mk1 (shut_bool Try.underlying4 _), (trodAll_cons_mk (shut_int Try.underlying3 w0) (trodAll_cons_mk (Below.trod laidOut (by kernel_rfl) (of_decide_eq_true (by kernel_rfl)) k1 hg lt1) (trodAll_cons_mk (Below.trod laidOut (by kernel_rfl) (of_decide_eq_true (by kernel_rfl)) k2 hg lt2) trodAll_mk0))), rfl, hg.frame _, fun h => by cases h⟩

theorem over : Rows.fnExactAfterPartsRow.holds Try.pinned (OpenSpec.ofChange Rows.fnExactAfterPartsSpec) :=
  OpenClaim.holds_of_wide 7 Try.f7 rfl rfl rfl rfl rfl rfl rfl ⟨rfl, rfl, rfl, rfl, rfl⟩ rfl rfl rfl rfl rfl (by kernel_rfl) Try.func7 (by kernel_rfl)
    (of_decide_eq_true (by kernel_rfl)) (by unfold Func.isWrapper; first | (rw [if_pos (by decide +kernel)]; kernel_rfl) | (rw [if_neg (by decide +kernel)]; exact ⟨rfl, rfl⟩))
    (fun os started H enc _ => lifted os started H enc)

/-- the statement -/
theorem proved : Rows.FnExactAfterPartsSaid :=
  over
#print axioms proved
end Go.Proofs.Ytcaklokcajidiab.fnExactAfterParts
