/- FnExactCutPart is proved: spec.CutPart and impl.CutPart answer alike for every argument, the arguments are as they were, and the answer is memory of the call's own. No condition: for every input that the parameter types allow. -/
import Derived.Test.YtabnjoohojojnaaRows
import Derived.WalkKit
import Derived.ProofKit
import Derived.OpenShut
import Derived.Below
import Derived.Lib.SmallJoins
import Derived.Carry
import Derived.Test.YtabnjoohojojnaaLz
import Derived.Test.YtabnjoohojojnaaCp
namespace Go.Proofs.Ytabnjoohojojnaa.fnExactCutPart
open Go.ChangeShapes Go.WideShapes Go.ChangeAt Go.RowKit Go.Joins
set_option linter.unusedVariables false
set_option linter.unusedSimpArgs false

theorem own : ownKnob Try.prog.godebug = none := by kernel_rfl
theorem laidOut : laidOutB Try.prog = true := by kernel_rfl
set_option maxRecDepth 100000 in
set_option maxHeartbeats 4000000 in
theorem core (a0 : Option Addr) (len0 cap0 : Nat) (z0 : List Int) (a1 : Int) (a2 : Int) (a3 : Int) (w : World) (ok : Bool) (os : List Int) (ho : os.length ≤ 1048576) (hc0 : Il.Came w (.slice a0 len0 cap0) len0 z0)
    (hs : ∀ (W : World) (b0 g0 : Nat), W.ownsRow b0 3 1 (.slice (some ⟨g0, 0, none⟩) len0 len0) len0 (Li.nums z0) → Calls Try.prog 31 #[.slice (some ⟨g0, 0, none⟩) len0 len0, .int .i64 a1, .int .i64 a2, .int .i64 a3] W (Ln.Gives ok os W))
    (hi : ∀ (W : World) (b0 g0 : Nat), W.ownsRow b0 3 1 (.slice (some ⟨g0, 0, none⟩) len0 len0) len0 (Li.nums z0) → Calls Try.prog 32 #[.slice (some ⟨g0, 0, none⟩) len0 len0, .int .i64 a1, .int .i64 a2, .int .i64 a3] W (Ln.Gives ok os W)) :
    Calls Try.prog 9 #[.slice a0 len0 cap0, .int .i64 a1, .int .i64 a2, .int .i64 a3] w fun e w' => e = .returned (.bool true) ∧ Below w.heap.size w w' := by
  have hl0 := hc0.2.1
  have HC0 := Lib.hid hc0
  have HL0 := Lib.hid hl0
  have HN0 := Lib.hid (show (len0 : Int) ≤ 1048576 by omega)
  have HS := Lib.hid hs
  have HI := Lib.hid hi
  have HO := Lib.hid ho
  have hn2 : (0 : Int) ≤ (os.length : Int) := by omega
  have hn3 : (os.length : Int) ≤ 1048576 := by omega
  have t0 : decide ((1048576 : Int) < (len0 : Int)) = false := by simp; omega
  clear hs hi hc0 hl0 ho
  go_enter Try.func9, Try.ntmps9
  go_wp2_with fail
  refine (Il.toIntS_any HC0.out).mono ?_
  rintro e w1 ⟨p0, rfl, op01, hb⟩
  have HB1 := Lib.hid (hb)
  have HZ1 := Lib.hid hb.size
  clear hb 
  go_wp2_with fail
  refine (HS.out _ _ _ op01).mono ?_
  rintro e w2 ⟨vs, rfl, ss2, hb⟩
  clear op01
  have HB2 := Lib.hid (HB1.out.trans (Ln.below_le hb HB1.out.size))
  have HZ2 := Lib.hid hb.size
  clear hb 
  have HSV := Lib.hid ss2
  have HSW := Lib.hid (Nat.le_refl w2.heap.size)
  go_wp2_with fail
  refine (Il.toIntS_any (HC0.out.on HB2.out)).mono ?_
  rintro e w3 ⟨x0, rfl, ox03, hb⟩
  have HB3 := Lib.hid (HB2.out.trans (Ln.below_le hb HB2.out.size))
  have HZ3 := Lib.hid hb.size
  have ss3 := Li.own_on ss2 hb
  clear hb ss2
  have HX0 := Lib.hid ((ox03).lt x0 rfl)
  go_wp2_with fail
  refine (HI.out _ _ _ ox03).mono ?_
  rintro e w4 ⟨vi, rfl, ii4, hb⟩
  have HB4 := Lib.hid (HB3.out.trans (Ln.below_le hb HB3.out.size))
  have HZ4 := Lib.hid hb.size
  have ss4 := Li.own_on ss3 hb
  have ox04 := Li.own_on ox03 hb
  clear hb ss3 ox03
  have HIV := Lib.hid ii4
  have HD : Hid (Value.ownBlock vs = none ∨ vs.ownBlock ≠ vi.ownBlock) := Lib.hid (Ln.keep_both HSV.out HIV.out (by have := HZ3.out; omega))
  have HVB : Hid (∀ k, vi.ownBlock = some k → w.heap.size ≤ k) := Lib.hid (fun k hk => Nat.le_trans HB3.out.size (HIV.out.lt k hk).1)
  go_wp2_with fail
  refine (Ln.eqIntS_n ii4 ss4 HO.out).mono ?_
  rintro e w5 ⟨rfl, hb⟩
  have HB5 := Lib.hid (HB4.out.trans (Ln.below_le hb HB4.out.size))
  have HZ5 := Lib.hid hb.size
  have ss5 := Li.own_on ss4 hb
  have ox05 := Li.own_on ox04 hb
  have ii5 := Li.own_on ii4 hb
  clear hb ss4 ox04 ii4
  go_wp2_with fail
  refine (Il.toIntS_any (HC0.out.on HB5.out)).mono ?_
  rintro e w6 ⟨y0, rfl, oy06, hb⟩
  have HB6 := Lib.hid (HB5.out.trans (Ln.below_le hb HB5.out.size))
  have HZ6 := Lib.hid hb.size
  have ss6 := Li.own_on ss5 hb
  have ox06 := Li.own_on ox05 hb
  have ii6 := Li.own_on ii5 hb
  clear hb ss5 ox05 ii5
  go_wp2_with fail
  refine (Ln.eqIntS_n ox06 oy06 HL0.out).mono ?_
  rintro e w7 ⟨rfl, hb⟩
  clear oy06
  have HB7 := Lib.hid (HB6.out.trans (Ln.below_le hb HB6.out.size))
  have HZ7 := Lib.hid hb.size
  have ss7 := Li.own_on ss6 hb
  have ox07 := Li.own_on ox06 hb
  have ii7 := Li.own_on ii6 hb
  clear hb ss6 ox06 ii6
  go_wp2_with fail
  refine (Ln.markIntS_z (z := 1) ox07 ⟨_, rfl⟩ HL0.out (by omega) (by omega)).mono ?_
  rintro e w8 ⟨rfl, om8, gw⟩
  clear ox07
  have HB8 := Lib.hid (HB7.out.grown gw HB7.out.size (fun k hk => by have e : some x0 = some k := hk; injection e with e; have := HX0.out.1; have := HB2.out.size; have := HZ3.out; omega))
  have ss8 := ss7.kept gw (Ln.keep_apart (W := w) (g := x0) HSV.out (_root_.Or.inr (by have := HX0.out.1; have := HZ3.out; omega)))
  have ii8 := ii7.kept gw (Ln.keep_apart (W := w) (g := x0) HIV.out (_root_.Or.inl (by have := HX0.out.2; have := HZ3.out; omega)))
  clear gw ss7 ii7
  clear om8
  go_wp2_with fail
  refine (Ln.eqIntS_n ii8 ss8 HO.out).mono ?_
  rintro e w9 ⟨rfl, hb⟩
  have HB9 := Lib.hid (HB8.out.trans (Ln.below_le hb HB8.out.size))
  have HZ9 := Lib.hid hb.size
  have ss9 := Li.own_on ss8 hb
  have ii9 := Li.own_on ii8 hb
  clear hb ss8 ii8
  go_wp2_with fail
  refine (Li.markIntS_own ii9 HO.out).mono ?_
  rintro e w10 ⟨rfl, mm10, gw⟩
  clear ii9
  have HB10 := Lib.hid (HB9.out.grown gw HB9.out.size (fun k hk => HVB.out k hk))
  have ss10 := ss9.kept gw HD.out
  clear gw ss9
  go_wp2_with fail
  refine (Li.heldIntS_own mm10 HO.out).mono ?_
  rintro e w' ⟨rfl, rfl⟩
  go_wp2_with fail
  refine (Il.toIntS_any (HC0.out.on HB10.out)).mono ?_
  rintro e w11 ⟨h0, rfl, oh011, hb⟩
  have HB11 := Lib.hid (HB10.out.trans (Ln.below_le hb HB10.out.size))
  have HZ11 := Lib.hid hb.size
  have ss11 := Li.own_on ss10 hb
  have mm11 := Li.own_on mm10 hb
  clear hb ss10 mm10
  go_wp2_with fail
  refine (HI.out _ _ _ oh011).mono ?_
  rintro e w12 ⟨vh, rfl, hh12, hb⟩
  clear oh011
  have HB12 := Lib.hid (HB11.out.trans (Ln.below_le hb HB11.out.size))
  have HZ12 := Lib.hid hb.size
  have ss12 := Li.own_on ss11 hb
  have mm12 := Li.own_on mm11 hb
  clear hb ss11 mm11
  go_wp2_with fail
  refine (Ln.eqIntS_n hh12 ss12 HO.out).mono ?_
  rintro e w13 ⟨rfl, hb⟩
  clear hh12
  clear ss12
  have HB13 := Lib.hid (HB12.out.trans (Ln.below_le hb HB12.out.size))
  have HZ13 := Lib.hid hb.size
  have mm13 := Li.own_on mm12 hb
  clear hb mm12
  go_wp2_with fail
  refine (Li.heldIntS_own mm13 HO.out).mono ?_
  rintro e w' ⟨rfl, rfl⟩
  go_wp2
  go_ret
  exact ⟨rfl, HB13.out⟩
theorem long0 (a0 : Option Addr) (len0 cap0 : Nat) (a1 : Int) (a2 : Int) (a3 : Int) (hl : ¬ (len0 : Int) ≤ 1048576) (hm : len0 ≤ maxLen) (w : World) :
    Calls Try.prog 9 #[.slice a0 len0 cap0, .int .i64 a1, .int .i64 a2, .int .i64 a3] w fun e w' => e = .returned (.bool true) ∧ Below w.heap.size w w' := by
  have t0 : (len0 : Int) ≤ 9223372036854775807 := by unfold maxLen at hm; omega
  have t1 : decide ((1048576 : Int) < (len0 : Int)) = true := by simp; omega
  clear hl hm
  go_enter Try.func9, Try.ntmps9
  go_wp2
  go_ret
  exact ⟨rfl, Below.refl _ _⟩

/-! the walk -/
theorem walk (a0 : Option Addr) (len0 cap0 : Nat) (z0 : List Int) (a1 : Int) (a2 : Int) (a3 : Int) (w1 : (Lit.int .i64 a1).wf = true) (w2 : (Lit.int .i64 a2).wf = true) (w3 : (Lit.int .i64 a3).wf = true) (w : World) (r0 : Il.Raw w a0 len0 z0) :
    Calls Try.prog 9 #[.slice a0 len0 cap0, .int .i64 a1, .int .i64 a2, .int .i64 a3] w fun e w' => e = .returned (.bool true) ∧ Below w.heap.size w w' := by
  by_cases h0 : (len0 : Int) ≤ 1048576
  · have hl0 : len0 ≤ 1048576 := by omega
    exact core a0 len0 cap0 z0 a1 a2 a3 w (Ln.cuB z0 a1 a2 a3) (Ln.cuZ z0 a1 a2 a3) (Ln.cuZ_len z0 a1 a2 a3) (r0.came hl0) (fun W b0 g0 h0 => Ln.sCutPart h0 hl0) (fun W b0 g0 h0 => Ln.iCutPart h0 hl0)
  · exact long0 a0 len0 cap0 a1 a2 a3 h0 r0.2.1 w

/-! the row's step -/
set_option maxRecDepth 100000 in
theorem lifted (os : Os) (started : os.Started) (H : Type) (enc : TypeId × Value → H) :
    ReturnsInHanded {} Try.checked os 9 .any (Rows.fnExactCutPartSpec.pre6 enc Try.prog Try.f9 Rows.fnExactCutPartRow.domain false) (Rows.fnExactCutPartSpec.post enc Try.prog Try.f9 false true false false) := by
  refine returnsInHanded_of_change (C := Try.checked) own started (by kernel_rfl) Try.func9
    (ChangeSpec.witness6 (enc := enc) (C := Try.checked) false ⟨#[], #[.slice none 0 0, .int .i64 0, .int .i64 0, .int .i64 0], []⟩ 8 (by kernel_rfl) (by kernel_rfl) (by kernel_rfl) (by kernel_rfl)) ?_
  intro W base args ds gs before hval0 hW hcnd _
  have hval : ∀ (j : Nat) t v, Try.f9.params[j]? = some t → args[j]? = some v → Value.okWide Try.prog W .any base t v := hval0
  have hW' := hW
  obtain ⟨p, q, hA0, hV, rfl, hfz, hnd⟩ := hW
  have hA : DataW.TrodAll enc Try.prog W 0 (fun _ => true) true Try.f9.params.toList args.toList ds p := hA0
  rw [Try.params9] at hA hval
  obtain ⟨v0, vs0, d0, ds0, p0, q0, hargs, rfl, rfl, h0, r0⟩ := trodAll_cons hA
  obtain ⟨v1, vs1, d1, ds1, p1, q1, rfl, rfl, rfl, h1, r1⟩ := trodAll_cons r0
  obtain ⟨v2, vs2, d2, ds2, p2, q2, rfl, rfl, rfl, h2, r2⟩ := trodAll_cons r1
  obtain ⟨v3, vs3, d3, ds3, p3, q3, rfl, rfl, rfl, h3, r3⟩ := trodAll_cons r2
  obtain ⟨rfl, rfl, rfl⟩ := trodAll_nil r3
  obtain rfl : args = #[v0, v1, v2, v3] := by cases args; simp_all
  obtain ⟨rfl, rfl⟩ := trodVars_none hV
  obtain ⟨a0, len0, cap0, rfl⟩ := okWide_slice Try.underlying22 (hval 0 22 v0 rfl rfl)
  have k0 := h0
  have lt0 : ∀ x ∈ p0, x.block < W.heap.size := by obtain ⟨m, hm⟩ := k0; exact DataW.trod_lt m _ _ _ hm
  obtain ⟨z0, r_0⟩ : ∃ zs, Il.Raw W a0 len0 zs := by
    obtain ⟨fuel, hf⟩ := h0
    exact Il.rd_open hf
  obtain ⟨a1, rfl, rfl, rfl, w1⟩ := open_int Try.underlying3 (hval 1 3 v1 rfl rfl) h1
  obtain ⟨a2, rfl, rfl, rfl, w2⟩ := open_int Try.underlying3 (hval 2 3 v2 rfl rfl) h2
  obtain ⟨a3, rfl, rfl, rfl, w3⟩ := open_int Try.underlying3 (hval 3 3 v3 rfl rfl) h3
  clear hA0 hval0
  simp only [List.append_nil] at hW'
  refine (walk a0 len0 cap0 z0 a1 a2 a3 w1 w2 w3 W r_0).mono fun e W' ⟨he, hg⟩ => ?_
  subst he
  exact ⟨_, rfl, _, _, _, [], _, [], hW', trodAll_mk1 (shut_bool Try.underlying4 _), (trodAll_cons_mk (Below.trod laidOut (by kernel_rfl) (of_decide_eq_true (by kernel_rfl)) k0 hg lt0) (trodAll_cons_mk (shut_int Try.underlying3 w1) (trodAll_cons_mk (shut_int Try.underlying3 w2) (trodAll_cons_mk (shut_int Try.underlying3 w3) trodAll_mk0)))), rfl, hg.frame _, fun h => by cases h⟩

theorem over : Rows.fnExactCutPartRow.holds Try.pinned (OpenSpec.ofChange Rows.fnExactCutPartSpec) :=
  OpenClaim.holds_of_wide 9 Try.f9 rfl rfl rfl rfl rfl rfl rfl ⟨rfl, rfl, rfl, rfl, rfl⟩ rfl rfl rfl rfl rfl (by kernel_rfl) Try.func9 (by kernel_rfl)
    (of_decide_eq_true (by kernel_rfl)) (by unfold Func.isWrapper; first | (rw [if_pos (by decide +kernel)]; kernel_rfl) | (rw [if_neg (by decide +kernel)]; exact ⟨rfl, rfl⟩))
    (fun os started H enc _ => lifted os started H enc)

/-- the statement -/
theorem proved : Rows.FnExactCutPartSaid :=
  over
#print axioms proved
end Go.Proofs.Ytabnjoohojojnaa.fnExactCutPart
