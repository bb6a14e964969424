/- FnExactMoveVolume is proved: spec.MoveVolume and impl.MoveVolume answer alike for every argument, the arguments are as they were, and the answer is memory of the call's own. No condition: for every input that the parameter types allow. -/
import Derived.Test.YtkfoapidmockfacRows
import Derived.WalkKit
import Derived.ProofKit
import Derived.OpenShut
import Derived.Below
import Derived.Lib.SmallJoins
import Derived.Carry
import Derived.Test.YtkfoapidmockfacCmv
import Derived.Deep.RegionHeld3
namespace Go.Proofs.Ytkfoapidmockfac.fnExactMoveVolume
open Go.ChangeShapes Go.WideShapes Go.ChangeAt Go.RowKit Go.Joins
set_option linter.unusedVariables false
set_option linter.unusedSimpArgs false

theorem own : ownKnob Try.prog.godebug = none := by kernel_rfl
theorem laidOut : laidOutB Try.prog = true := by kernel_rfl
theorem keep_apart {W w1 : World} {v : Value} {n base g : Nat} {xs : List Value} (h : w1.ownsRow base 3 1 v n xs) (hg : g < base ∨ w1.heap.size ≤ g) : v.ownBlock = none ∨ v.ownBlock ≠ some g := by
  cases hv : v.ownBlock with
  | none => exact _root_.Or.inl rfl
  | some q => exact _root_.Or.inr (fun e => by injection e with e; have a := h.lt q hv; omega)
set_option maxRecDepth 100000 in
set_option maxHeartbeats 2000000 in
theorem core (a0 : Option Addr) (len0 cap0 : Nat) (zs : List Int) (a1 : Int) (a2 : Int) (w : World) (ok : Bool) (os : List Int) (ho : os.length ≤ 1048576) (hc : Il.Came w (.slice a0 len0 cap0) len0 zs)
    (hs : ∀ (W : World) (b1 g : Nat), Sh.Ow W b1 g len0 len0 zs → Calls Try.prog 20 #[.slice (some ⟨g, 0, none⟩) len0 len0, .int .i64 a1, .int .i64 a2] W (Li.Gives ok os W))
    (hi : ∀ (W : World) (b1 g : Nat), Sh.Ow W b1 g len0 len0 zs → Calls Try.prog 21 #[.slice (some ⟨g, 0, none⟩) len0 len0, .int .i64 a1, .int .i64 a2] W (Li.Gives ok os W)) :
    Calls Try.prog 7 #[.slice a0 len0 cap0, .int .i64 a1, .int .i64 a2] w fun e w' => e = .returned (.bool true) ∧ Below w.heap.size w w' := by
  have hl := hc.2.1
  have HS := Lib.hid hs
  have HI := Lib.hid hi
  have HC := Lib.hid hc
  have HL := Lib.hid hl
  have hl2 : (0 : Int) ≤ os.length := by omega
  have hl3 : (os.length : Int) ≤ 1048576 := by omega
  have t1 : decide ((1048576 : Int) < (len0 : Int)) = false := by simp; omega
  have HE := Lib.hid (show zs.length = len0 from hc.1)
  clear hs hi hc hl
  go_enter Try.func7, Try.ntmps7
  go_wp2_with fail
  refine (Il.toIntS_any HC.out).mono ?_
  rintro e w2 ⟨g1, rfl, o1, hb⟩
  have HB2 := Lib.hid hb
  clear hb
  go_wp2_with fail
  refine (HS.out _ _ _ o1).mono ?_
  rintro e w3 ⟨v3, rfl, s3, hb⟩
  have HB3 := Lib.hid (HB2.out.trans (Sh.below_le hb HB2.out.size))
  have HS3 := Lib.hid hb.size
  clear hb HB2 o1
  go_wp2_with fail
  refine (Il.toIntS_any (HC.out.on HB3.out)).mono ?_
  rintro e w4 ⟨g2, rfl, o4, hb⟩
  have HB4 := Lib.hid (HB3.out.trans (Sh.below_le hb HB3.out.size))
  have HS4 := Lib.hid hb.size
  have HG2 := Lib.hid (Sh.ow_lt o4)
  have HA := Lib.hid (keep_apart (W := w) s3 (_root_.Or.inr HG2.out.1))
  have HV3 := Lib.hid s3
  have HWG := Lib.hid (show w.heap.size ≤ g2 from Nat.le_trans HB3.out.size HG2.out.1)
  have s4 := Li.own_on s3 hb
  clear hb HB3 s3
  go_wp2_with fail
  refine (HI.out _ _ _ o4).mono ?_
  rintro e w5 ⟨v5, rfl, i5, hb⟩
  have HB5B := Lib.hid (keep_apart (W := w) (g := g2) i5 (_root_.Or.inl HG2.out.2))
  have HV5 := Lib.hid (show ∀ k, v5.ownBlock = some k → w.heap.size ≤ k from fun k hk => Nat.le_trans HB4.out.size (i5.lt k hk).1)
  have HD := Lib.hid (show (Value.ownBlock v3 = none ∨ v3.ownBlock ≠ v5.ownBlock) by
    cases h : v3.ownBlock with
    | none => exact _root_.Or.inl rfl
    | some q => exact _root_.Or.inr (fun e => by have a := (HV3.out.lt q h).2; have b := (i5.lt q e.symm).1; have := HS4.out; omega))
  have HB5 := Lib.hid (HB4.out.trans (Sh.below_le hb HB4.out.size))
  have s5 := Li.own_on s4 hb
  have o5 := Li.own_on o4 hb
  clear hb HB4 o4 s4
  go_wp2_with fail
  refine (Li.eqIntS_own i5 s5 ho).mono ?_
  rintro e w6 ⟨rfl, hb⟩
  have HB6 := Lib.hid (HB5.out.trans (Sh.below_le hb HB5.out.size))
  have o6 := Li.own_on o5 hb
  have s6 := Li.own_on s5 hb
  have i6 := Li.own_on i5 hb
  clear hb s5 i5 HB5 o5
  go_wp2_with fail
  refine (Il.toIntS_any (HC.out.on HB6.out)).mono ?_
  rintro e w7 ⟨g3, rfl, x7, hb⟩
  have HB7 := Lib.hid (HB6.out.trans (Sh.below_le hb HB6.out.size))
  have o7 := Li.own_on o6 hb
  have s7 := Li.own_on s6 hb
  have i7 := Li.own_on i6 hb
  clear hb s6 i6 HB6 o6
  go_wp2_with fail
  refine (Li.eqIntS_own (by rw [HE.out]; exact o7) (by rw [HE.out]; exact x7) (by rw [HE.out]; exact HL.out)).mono ?_
  rintro e w8 ⟨rfl, hb⟩
  have HB8 := Lib.hid (HB7.out.trans (Sh.below_le hb HB7.out.size))
  have o8 := Li.own_on o7 hb
  have s8 := Li.own_on s7 hb
  have i8 := Li.own_on i7 hb
  clear hb s7 i7 HB7 o7 x7
  go_wp2_with fail
  refine (Li.markIntS_own o8 HL.out).mono ?_
  rintro e w9 ⟨rfl, om, gw⟩
  have hn3 : (len0 : Int) ≤ 1048576 := by have := HL.out; omega
  have s9 := s8.kept gw HA.out
  have i9 := i8.kept gw HB5B.out
  have HB9 := Lib.hid (HB8.out.grown gw HB8.out.size (fun j hj => by
    have e : some g2 = some j := hj
    injection e with e
    have := HWG.out
    omega))
  clear gw om s8 i8 HB8 o8
  go_wp2_with fail
  refine (Li.eqIntS_own i9 s9 ho).mono ?_
  rintro e w10 ⟨rfl, hb⟩
  have s10 := Li.own_on s9 hb
  have i10 := Li.own_on i9 hb
  have HB10 := Lib.hid (HB9.out.trans (Sh.below_le hb HB9.out.size))
  clear hb s9 i9 HB9
  go_wp2_with fail
  refine (Li.markIntS_own i10 ho).mono ?_
  rintro e w11 ⟨rfl, m11, gm⟩
  have s11 := s10.kept gm HD.out
  have HB11 := Lib.hid (HB10.out.grown gm HB10.out.size (fun j hj => HV5.out j hj))
  clear gm s10 i10 HB10
  go_wp2_with fail
  refine (Li.heldIntS_own m11 ho).mono ?_
  rintro e w' ⟨rfl, rfl⟩
  go_wp2_with fail
  refine (Il.toIntS_any (HC.out.on HB11.out)).mono ?_
  rintro e w12 ⟨g4, rfl, o12, hb⟩
  have s12 := Li.own_on s11 hb
  have m12 := Li.own_on m11 hb
  have HB12 := Lib.hid (HB11.out.trans (Sh.below_le hb HB11.out.size))
  clear hb s11 m11 HB11
  go_wp2_with fail
  refine (HI.out _ _ _ o12).mono ?_
  rintro e w13 ⟨v13, rfl, i13, hb⟩
  have s13 := Li.own_on s12 hb
  have m13 := Li.own_on m12 hb
  have HB13 := Lib.hid (HB12.out.trans (Sh.below_le hb HB12.out.size))
  clear hb s12 m12 HB12 o12
  go_wp2_with fail
  refine (Li.eqIntS_own i13 s13 ho).mono ?_
  rintro e w14 ⟨rfl, hb⟩
  have m14 := Li.own_on m13 hb
  have HB14 := Lib.hid (HB13.out.trans (Sh.below_le hb HB13.out.size))
  clear hb m13 s13 i13 HB13
  go_wp2_with fail
  refine (Li.heldIntS_own m14 ho).mono ?_
  rintro e w' ⟨rfl, rfl⟩
  go_wp2
  go_ret
  exact ⟨rfl, HB14.out⟩
theorem long (a0 : Option Addr) (len0 cap0 : Nat) (a1 : Int) (a2 : Int) (hl : ¬ len0 ≤ 1048576) (hm : len0 ≤ maxLen) (w : World) :
    Calls Try.prog 7 #[.slice a0 len0 cap0, .int .i64 a1, .int .i64 a2] w fun e w' => e = .returned (.bool true) ∧ Below w.heap.size w w' := by
  have t0 : (len0 : Int) ≤ 9223372036854775807 := by unfold maxLen at hm; omega
  have t1 : decide ((1048576 : Int) < (len0 : Int)) = true := by simp; omega
  clear hl hm
  go_enter Try.func7, Try.ntmps7
  go_wp2
  go_ret
  exact ⟨rfl, Below.refl _ _⟩

/-! the walk -/
theorem walk (a0 : Option Addr) (len0 cap0 : Nat) (z0 : List Int) (a1 : Int) (a2 : Int) (w1 : (Lit.int .i64 a1).wf = true) (w2 : (Lit.int .i64 a2).wf = true) (w : World) (r0 : Il.Raw w a0 len0 z0) :
    Calls Try.prog 7 #[.slice a0 len0 cap0, .int .i64 a1, .int .i64 a2] w fun e w' => e = .returned (.bool true) ∧ Below w.heap.size w w' := by
  by_cases hl : len0 ≤ 1048576
  · have hc := r0.came (cap := cap0) hl
    exact core a0 len0 cap0 z0 a1 a2 w (Mv.mvOk z0 a1 a2) (Mv.osOf z0 a1 a2) (Mv.os_len z0 a1 a2 (by rw [hc.1]; exact hl)) hc (fun W b1 g h => Mv.s_fn h hl a1 a2) (fun W b1 g h => Mv.i_fn h hl a1 a2)
  · exact long a0 len0 cap0 a1 a2 hl r0.2.1 w

/-! the row's step -/
set_option maxRecDepth 100000 in
theorem lifted (os : Os) (started : os.Started) (H : Type) (enc : TypeId × Value → H) :
    ReturnsInHanded {} Try.checked os 7 .any (Rows.fnExactMoveVolumeSpec.pre6 enc Try.prog Try.f7 Rows.fnExactMoveVolumeRow.domain false) (Rows.fnExactMoveVolumeSpec.post enc Try.prog Try.f7 false true false false) := by
  refine returnsInHanded_of_change (C := Try.checked) own started (by kernel_rfl) Try.func7
    (ChangeSpec.witness6 (enc := enc) (C := Try.checked) false ⟨#[], #[.slice none 0 0, .int .i64 0, .int .i64 0], []⟩ 8 (by kernel_rfl) (by kernel_rfl) (by kernel_rfl) (by kernel_rfl)) ?_
  intro W base args ds gs before hval0 hW hcnd _
  have hval : ∀ (j : Nat) t v, Try.f7.params[j]? = some t → args[j]? = some v → Value.okWide Try.prog W .any base t v := hval0
  have hW' := hW
  obtain ⟨p, q, hA0, hV, rfl, hfz, hnd⟩ := hW
  have hA : DataW.TrodAll enc Try.prog W 0 (fun _ => true) true Try.f7.params.toList args.toList ds p := hA0
  rw [Try.params7] at hA hval
  obtain ⟨v0, vs0, d0, ds0, p0, q0, hargs, rfl, rfl, h0, r0⟩ := trodAll_cons hA
  obtain ⟨v1, vs1, d1, ds1, p1, q1, rfl, rfl, rfl, h1, r1⟩ := trodAll_cons r0
  obtain ⟨v2, vs2, d2, ds2, p2, q2, rfl, rfl, rfl, h2, r2⟩ := trodAll_cons r1
  obtain ⟨rfl, rfl, rfl⟩ := trodAll_nil r2
  obtain rfl : args = #[v0, v1, v2] := by cases args; simp_all
  obtain ⟨rfl, rfl⟩ := trodVars_none hV
  obtain ⟨a0, len0, cap0, rfl⟩ := okWide_slice Try.underlying22 (hval 0 22 v0 rfl rfl)
  have k0 := h0
  have lt0 : ∀ x ∈ p0, x.block < W.heap.size := by obtain ⟨m, hm⟩ := k0; exact DataW.trod_lt m _ _ _ hm
  obtain ⟨z0, r_0⟩ : ∃ zs, Il.Raw W a0 len0 zs := by
    obtain ⟨fuel, hf⟩ := h0
    exact Il.rd_open hf
  obtain ⟨a1, rfl, rfl, rfl, w1⟩ := open_int Try.underlying3 (hval 1 3 v1 rfl rfl) h1
  obtain ⟨a2, rfl, rfl, rfl, w2⟩ := open_int Try.underlying3 (hval 2 3 v2 rfl rfl) h2
  clear hA0 hval0
  simp only [List.append_nil] at hW'
  refine (walk a0 len0 cap0 z0 a1 a2 w1 w2 W r_0).mono fun e W' ⟨he, hg⟩ => ?_
  subst he
  exact ⟨_, rfl, _, _, _, [], _, [], hW', trodAll_mk1 (shut_bool Try.underlying4 _), (trodAll_cons_mk (Below.trod laidOut (by kernel_rfl) (of_decide_eq_true (by kernel_rfl)) k0 hg lt0) (trodAll_cons_mk (shut_int Try.underlying3 w1) (trodAll_cons_mk (shut_int Try.underlying3 w2) trodAll_mk0))), rfl, hg.frame _, fun h => by cases h⟩

theorem over : Rows.fnExactMoveVolumeRow.holds Try.pinned (OpenSpec.ofChange Rows.fnExactMoveVolumeSpec) :=
  OpenClaim.holds_of_wide 7 Try.f7 rfl rfl rfl rfl rfl rfl rfl ⟨rfl, rfl, rfl, rfl, rfl⟩ rfl rfl rfl rfl rfl (by kernel_rfl) Try.func7 (by kernel_rfl)
    (of_decide_eq_true (by kernel_rfl)) (by unfold Func.isWrapper; first | (rw [if_pos (by decide +kernel)]; kernel_rfl) | (rw [if_neg (by decide +kernel)]; exact ⟨rfl, rfl⟩))
    (fun os started H enc _ => lifted os started H enc)

/-- the statement -/
theorem proved : Rows.FnExactMoveVolumeSaid :=
  over
#print axioms proved
end Go.Proofs.Ytkfoapidmockfac.fnExactMoveVolume
