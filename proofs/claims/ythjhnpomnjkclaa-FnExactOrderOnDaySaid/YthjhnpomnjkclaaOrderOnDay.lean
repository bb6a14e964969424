/- FnExactOrderOnDay is proved: spec.OrderOnDay and impl.OrderOnDay answer alike for every argument, the readers are as they were, and the answer is memory of the call's own. No condition: for every input that the parameter types allow. -/
import Derived.Test.YthjhnpomnjkclaaRows
import Derived.WalkKit
import Derived.ProofKit
import Derived.OpenShut
import Derived.Below
import Derived.Lib.SmallJoins
import Derived.Carry
import Derived.Test.YthjhnpomnjkclaaOl
import Derived.Test.YthjhnpomnjkclaaRx4
namespace Go.Proofs.Ythjhnpomnjkclaa.fnExactOrderOnDay
open Go.ChangeShapes Go.WideShapes Go.ChangeAt Go.RowKit Go.Joins
set_option linter.unusedVariables false
set_option linter.unusedSimpArgs false

theorem own : ownKnob Try.prog.godebug = none := by kernel_rfl
theorem laidOut : laidOutB Try.prog = true := by kernel_rfl
set_option maxRecDepth 100000 in
set_option maxHeartbeats 1000000 in
theorem core (a0 : Int) (v : Value) (a1 : Option Addr) (len cap : Nat) (a2 : Int) (hv : v = .slice a1 len cap) (zs : List Int) (ok : Bool) (os : List Int) (ho : os.length ≤ 1048576) (w : World) (hc : Rx.Came w v len zs)
    (hs : ∀ (W : World) (b1 g : Nat), W.ownsRow b1 52 3 (.slice (some ⟨g, 0, none⟩) len len) len (Rx.nums zs) → Calls Try.prog 9 #[.int .i64 a0, .slice (some ⟨g, 0, none⟩) len len, .int .i64 a2] W (Li.Gives ok os W))
    (hi : ∀ (W : World) (b1 g : Nat), W.ownsRow b1 52 3 (.slice (some ⟨g, 0, none⟩) len len) len (Rx.nums zs) → Calls Try.prog 11 #[.int .i64 a0, .slice (some ⟨g, 0, none⟩) len len, .int .i64 a2] W (Li.Gives ok os W)) :
    Calls Try.prog 3 #[.int .i64 a0, .slice a1 len cap, .int .i64 a2] w fun e w' => e = .returned (.bool true) ∧ Below w.heap.size w w' := by
  have hl := hc.2.1
  have HS := Lib.hid hs
  have HI := Lib.hid hi
  have HC := Lib.hid (hv ▸ hc : Rx.Came w (.slice a1 len cap) len zs)
  have t1 : decide ((1048576 : Int) - (len : Int) < 0) = false := by simp; omega
  have hl2 : (0 : Int) ≤ os.length := by omega
  have hl3 : (os.length : Int) ≤ 1048576 := by omega
  have HL := Lib.hid hl
  clear hs hi hc hv hl
  go_enter Try.func3, Try.ntmps3
  go_wp2_with fail
  refine (Rx.sz_yes a1 len cap HL.out _).mono ?_
  rintro e w' ⟨rfl, rfl⟩
  go_wp2_with fail
  refine (Rx.toReaderS_any HC.out).mono ?_
  rintro e w1 ⟨g1, rfl, o1, b1⟩
  have HC1 := Lib.hid (HC.out.on b1)
  go_wp2_with fail
  refine (HS.out _ _ _ o1).mono ?_
  rintro e w2 ⟨v2, rfl, s0, b2⟩
  have B2 := Lib.hid (b1.trans (below_le b2 b1.size))
  have HC2 := Lib.hid (HC1.out.on b2)
  have hz2 := b1.size
  clear b1 b2 o1 HC1
  go_wp2_with fail
  refine (Rx.toReaderS_any HC2.out).mono ?_
  rintro e w3 ⟨g2, rfl, x1, b3⟩
  have s3 := Li.own_on s0 b3
  have HA := Lib.hid (show (Value.ownBlock v2 = none ∨ v2.ownBlock ≠ some g2) by
    cases h : v2.ownBlock with
    | none => exact _root_.Or.inl rfl
    | some q => exact _root_.Or.inr (fun e => by injection e with e; have a := (s0.lt q h).2; have b := (x1.lt g2 rfl).1; omega))
  have HC3 := Lib.hid (HC2.out.on b3)
  have B3 := Lib.hid (B2.out.trans (below_le b3 B2.out.size))
  have HG2 := Lib.hid (show w.heap.size ≤ g2 from Nat.le_trans B2.out.size (x1.lt g2 rfl).1)
  have hs23 := b3.size
  clear b3 HC2 B2 s0
  go_wp2_with fail
  refine (HI.out _ _ _ x1).mono ?_
  rintro e w4 ⟨v4, rfl, i4, b4⟩
  have s4 := Li.own_on s3 b4
  have HB := Lib.hid (show (Value.ownBlock v4 = none ∨ v4.ownBlock ≠ some g2) by
    cases h : v4.ownBlock with
    | none => exact _root_.Or.inl rfl
    | some q => exact _root_.Or.inr (fun e => by injection e with e; have a := (i4.lt q h).1; have b := (x1.lt g2 rfl).2; omega))
  have HD := Lib.hid (show (Value.ownBlock v2 = none ∨ v2.ownBlock ≠ v4.ownBlock) by
    cases h : v2.ownBlock with
    | none => exact _root_.Or.inl rfl
    | some q => exact _root_.Or.inr (fun e => by have a := (s3.lt q h).2; have b := (i4.lt q e.symm).1; omega))
  have HV4 := Lib.hid (show ∀ k, v4.ownBlock = some k → w.heap.size ≤ k from fun k hk => Nat.le_trans B3.out.size (i4.lt k hk).1)
  have HC4 := Lib.hid (HC3.out.on b4)
  have B4 := Lib.hid (B3.out.trans (below_le b4 B3.out.size))
  have x1 := Rx.own_on x1 b4
  clear b4 HC3 B3 s3
  go_wp2_with fail
  refine (Li.eqIntS_own i4 s4 ho).mono ?_
  rintro e w5 ⟨rfl, b5⟩
  have s5 := Li.own_on s4 b5
  have i5 := Li.own_on i4 b5
  have x1 := Rx.own_on x1 b5
  have HC5 := Lib.hid (HC4.out.on b5)
  have B5 := Lib.hid (B4.out.trans (below_le b5 B4.out.size))
  clear b5 HC4 B4 s4 i4
  go_wp2_with fail
  refine (Rx.toReaderS_any HC5.out).mono ?_
  rintro e w6 ⟨g3, rfl, o3, b6⟩
  have s6 := Li.own_on s5 b6
  have i6 := Li.own_on i5 b6
  have x1 := Rx.own_on x1 b6
  have HC6 := Lib.hid (HC5.out.on b6)
  have B6 := Lib.hid (B5.out.trans (below_le b6 B5.out.size))
  clear b6 HC5 B5 s5 i5
  go_wp2_with fail
  refine (Rx.eqReaderS_own x1 o3 HL.out).mono ?_
  rintro e w7 ⟨rfl, b7⟩
  have s7 := Li.own_on s6 b7
  have i7 := Li.own_on i6 b7
  have x1 := Rx.own_on x1 b7
  have HC7 := Lib.hid (HC6.out.on b7)
  have B7 := Lib.hid (B6.out.trans (below_le b7 B6.out.size))
  clear b7 o3 HC6 B6 s6 i6
  go_wp2_with fail
  refine (Or.markReaderS_own x1 HL.out).mono ?_
  rintro e w8 ⟨⟨r, hr0, rfl⟩, gw⟩
  have hr1 : decide (r < 0) = false := by simp; omega
  have s8 := s7.kept gw HA.out
  have i8 := i7.kept gw HB.out
  have B8 := Lib.hid (B7.out.grown gw B7.out.size (fun j hj => by injection hj with hj; have := HG2.out; omega))
  have HC8 := Lib.hid (show Rx.Came w8 (.slice a1 len cap) len zs from (HC.out).on (B8.out))
  clear gw x1 HC7 B7 s7 i7 hr0
  go_wp2_with fail
  refine (Li.eqIntS_own i8 s8 ho).mono ?_
  rintro e w9 ⟨rfl, b9⟩
  have s9 := Li.own_on s8 b9
  have i9 := Li.own_on i8 b9
  have HC9 := Lib.hid (HC8.out.on b9)
  have B9 := Lib.hid (B8.out.trans (below_le b9 B8.out.size))
  clear b9 HC8 B8 s8 i8
  go_wp2_with fail
  refine (Li.markIntS_own i9 ho).mono ?_
  rintro e w10 ⟨rfl, m10, gm⟩
  have s10 := s9.kept gm HD.out
  have B10 := Lib.hid (B9.out.grown gm B9.out.size (fun j hj => HV4.out j hj))
  have HC10 := Lib.hid (show Rx.Came w10 (.slice a1 len cap) len zs from (HC.out).on (B10.out))
  clear gm HC9 B9 s9 i9
  go_wp2_with fail
  refine (Li.heldIntS_own m10 ho).mono ?_
  rintro e w' ⟨rfl, rfl⟩
  go_wp2_with fail
  refine (Rx.toReaderS_any HC10.out).mono ?_
  rintro e w11 ⟨g4, rfl, o4, b11⟩
  have s11 := Li.own_on s10 b11
  have m11 := Li.own_on m10 b11
  have B11 := Lib.hid (B10.out.trans (below_le b11 B10.out.size))
  clear b11 HC10 B10 s10 m10
  go_wp2_with fail
  refine (HI.out _ _ _ o4).mono ?_
  rintro e w12 ⟨v12, rfl, i12, b12⟩
  have s12 := Li.own_on s11 b12
  have m12 := Li.own_on m11 b12
  have B12 := Lib.hid (B11.out.trans (below_le b12 B11.out.size))
  clear b12 o4 B11 s11 m11
  go_wp2_with fail
  refine (Li.eqIntS_own i12 s12 ho).mono ?_
  rintro e w13 ⟨rfl, b13⟩
  have m13 := Li.own_on m12 b13
  have B13 := Lib.hid (B12.out.trans (below_le b13 B12.out.size))
  clear b13 B12 m12 s12 i12
  go_wp2_with fail
  refine (Li.heldIntS_own m13 ho).mono ?_
  rintro e w' ⟨rfl, rfl⟩
  go_wp2
  go_ret
  exact ⟨rfl, B13.out⟩
theorem long (a0 a2 : Int) (a1 : Option Addr) (len cap : Nat) (hl : ¬ len ≤ 1048576) (hm : len ≤ maxLen) (w : World) :
    Calls Try.prog 3 #[.int .i64 a0, .slice a1 len cap, .int .i64 a2] w fun e w' => e = .returned (.bool true) ∧ Below w.heap.size w w' := by
  have HL := Lib.hid hl
  have HM := Lib.hid hm
  clear hl hm
  go_enter Try.func3, Try.ntmps3
  go_wp2_with fail
  refine (Rx.sz_no a1 len cap HL.out HM.out _).mono ?_
  rintro e w' ⟨rfl, rfl⟩
  go_wp2
  go_ret
  exact ⟨rfl, Below.refl _ _⟩

/-! the walk -/
theorem walk (a0 : Int) (a1 : Option Addr) (len1 cap1 : Nat) (z1 : List Int) (a2 : Int) (w0 : (Lit.int .i64 a0).wf = true) (w2 : (Lit.int .i64 a2).wf = true) (w : World) (r1 : Rx.Raw w a1 len1 z1) :
    Calls Try.prog 3 #[.int .i64 a0, .slice a1 len1 cap1, .int .i64 a2] w fun e w' => e = .returned (.bool true) ∧ Below w.heap.size w w' := by
  by_cases hl : len1 ≤ 1048576
  · have hc := r1.came (cap := cap1) hl
    by_cases ha : Rx.allOf a0 z1 len1
    · by_cases h0 : 0 ≤ a2
      · by_cases h1 : a2 ≤ 3000
        · obtain ⟨D, rfl⟩ := Int.eq_ofNat_of_zero_le h0
          exact core a0 _ a1 len1 cap1 _ rfl z1 true (Or.out a0 z1 D len1) (by rw [Or.out_length]; exact hl) w hc (fun W b g h => Or.sO_yes D (by omega) h ha) (fun W b g h => Or.iO_yes D (by omega) h ha)
        · exact core a0 _ a1 len1 cap1 _ rfl z1 false [] (Nat.zero_le _) w hc (fun W b g h => Or.sO_day _ (_root_.Or.inr h1) h ha) (fun W b g h => Or.iO_day _ (_root_.Or.inr h1) h ha)
      · exact core a0 _ a1 len1 cap1 _ rfl z1 false [] (Nat.zero_le _) w hc (fun W b g h => Or.sO_day _ (_root_.Or.inl h0) h ha) (fun W b g h => Or.iO_day _ (_root_.Or.inl h0) h ha)
    · exact core a0 _ a1 len1 cap1 _ rfl z1 false [] (Nat.zero_le _) w hc (fun W b g h => Or.sO_no _ h ha) (fun W b g h => Or.iO_no _ h ha)
  · exact long a0 a2 a1 len1 cap1 hl r1.2.1 w

/-! the row's step -/
set_option maxRecDepth 100000 in
theorem lifted (os : Os) (started : os.Started) (H : Type) (enc : TypeId × Value → H) :
    ReturnsInHanded {} Try.checked os 3 .any (Rows.fnExactOrderOnDaySpec.pre6 enc Try.prog Try.f3 Rows.fnExactOrderOnDayRow.domain false) (Rows.fnExactOrderOnDaySpec.post enc Try.prog Try.f3 false true false false) := by
  refine returnsInHanded_of_change (C := Try.checked) own started (by kernel_rfl) Try.func3
    (ChangeSpec.witness6 (enc := enc) (C := Try.checked) false ⟨#[], #[.int .i64 0, .slice none 0 0, .int .i64 0], []⟩ 8 (by kernel_rfl) (by kernel_rfl) (by kernel_rfl) (by kernel_rfl)) ?_
  intro W base args ds gs before hval0 hW hcnd _
  have hval : ∀ (j : Nat) t v, Try.f3.params[j]? = some t → args[j]? = some v → Value.okWide Try.prog W .any base t v := hval0
  have hW' := hW
  obtain ⟨p, q, hA0, hV, rfl, hfz, hnd⟩ := hW
  have hA : DataW.TrodAll enc Try.prog W 0 (fun _ => true) true Try.f3.params.toList args.toList ds p := hA0
  rw [Try.params3] at hA hval
  obtain ⟨v0, vs0, d0, ds0, p0, q0, hargs, rfl, rfl, h0, r0⟩ := trodAll_cons hA
  obtain ⟨v1, vs1, d1, ds1, p1, q1, rfl, rfl, rfl, h1, r1⟩ := trodAll_cons r0
  obtain ⟨v2, vs2, d2, ds2, p2, q2, rfl, rfl, rfl, h2, r2⟩ := trodAll_cons r1
  obtain ⟨rfl, rfl, rfl⟩ := trodAll_nil r2
  obtain rfl : args = #[v0, v1, v2] := by cases args; simp_all
  obtain ⟨rfl, rfl⟩ := trodVars_none hV
  obtain ⟨a0, rfl, rfl, rfl, w0⟩ := open_int Try.underlying3 (hval 0 3 v0 rfl rfl) h0
  obtain ⟨a1, len1, cap1, rfl⟩ := okWide_slice Try.underlying22 (hval 1 22 v1 rfl rfl)
  have k1 := h1
  have lt1 : ∀ x ∈ p1, x.block < W.heap.size := by obtain ⟨m, hm⟩ := k1; exact DataW.trod_lt m _ _ _ hm
  obtain ⟨z1, r_1⟩ : ∃ zs, Rx.Raw W a1 len1 zs := by
    obtain ⟨fuel, hf⟩ := h1
    exact Rx.rd_open hf
  obtain ⟨a2, rfl, rfl, rfl, w2⟩ := open_int Try.underlying3 (hval 2 3 v2 rfl rfl) h2
  clear hA0 hval0
  simp only [List.append_nil] at hW'

  refine (walk a0 a1 len1 cap1 z1 a2 w0 w2 W r_1).mono fun e W' ⟨he, hg⟩ => ?_
  subst he
  exact ⟨_, rfl, _, _, _, [], _, [], hW', trodAll_mk1 (shut_bool Try.underlying4 _), (trodAll_cons_mk (shut_int Try.underlying3 w0) (trodAll_cons_mk (Below.trod laidOut (by kernel_rfl) (of_decide_eq_true (by kernel_rfl)) k1 hg lt1) (trodAll_cons_mk (shut_int Try.underlying3 w2) trodAll_mk0))), rfl, hg.frame _, fun h => by cases h⟩

theorem over : Rows.fnExactOrderOnDayRow.holds Try.pinned (OpenSpec.ofChange Rows.fnExactOrderOnDaySpec) :=
  OpenClaim.holds_of_wide 3 Try.f3 rfl rfl rfl rfl rfl rfl rfl ⟨rfl, rfl, rfl, rfl, rfl⟩ rfl rfl rfl rfl rfl (by kernel_rfl) Try.func3 (by kernel_rfl)
    (of_decide_eq_true (by kernel_rfl)) (by unfold Func.isWrapper; first | (rw [if_pos (by decide +kernel)]; kernel_rfl) | (rw [if_neg (by decide +kernel)]; exact ⟨rfl, rfl⟩))
    (fun os started H enc _ => lifted os started H enc)

/-- the statement -/
theorem proved : Rows.FnExactOrderOnDaySaid :=
  over
#print axioms proved
end Go.Proofs.Ythjhnpomnjkclaa.fnExactOrderOnDay
