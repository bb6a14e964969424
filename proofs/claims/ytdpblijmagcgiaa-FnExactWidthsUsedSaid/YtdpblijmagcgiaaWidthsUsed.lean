/- FnExactWidthsUsed is proved: spec.WidthsUsed and impl.WidthsUsed answer alike for every argument, the arguments are as they were, and the answer is memory of the call's own. No condition: for every input that the parameter types allow. -/
import Derived.Test.YtdpblijmagcgiaaRows
import Derived.WalkKit
import Derived.ProofKit
import Derived.OpenShut
import Derived.Below
import Derived.Lib.SmallJoins
import Derived.Carry
import Derived.Test.YtdpblijmagcgiaaPg0
namespace Go.Proofs.Ytdpblijmagcgiaa.fnExactWidthsUsed
open Go.ChangeShapes Go.WideShapes Go.ChangeAt Go.RowKit Go.Joins
set_option linter.unusedVariables false
set_option linter.unusedSimpArgs false

theorem own : ownKnob Try.prog.godebug = none := by kernel_rfl
theorem laidOut : laidOutB Try.prog = true := by kernel_rfl
set_option maxRecDepth 100000 in
set_option maxHeartbeats 4000000 in
theorem core (a0 : Option Addr) (len0 cap0 : Nat) (z0 : List Int) (a1 : Option Addr) (len1 cap1 : Nat) (z1 : List Int) (w : World) (ok : Bool) (os : List Int) (ho : os.length ≤ 1048576) (hc0 : Il.Came w (.slice a0 len0 cap0) len0 z0) (hc1 : Il.Came w (.slice a1 len1 cap1) len1 z1)
    (hs : ∀ (W : World) (b0 g0 : Nat) (b1 g1 : Nat), W.ownsRow b0 3 1 (.slice (some ⟨g0, 0, none⟩) len0 len0) len0 (Li.nums z0) → W.ownsRow b1 3 1 (.slice (some ⟨g1, 0, none⟩) len1 len1) len1 (Li.nums z1) → Calls Try.prog 31 #[.slice (some ⟨g0, 0, none⟩) len0 len0, .slice (some ⟨g1, 0, none⟩) len1 len1] W (Ln.Gives ok os W))
    (hi : ∀ (W : World) (b0 g0 : Nat) (b1 g1 : Nat), W.ownsRow b0 3 1 (.slice (some ⟨g0, 0, none⟩) len0 len0) len0 (Li.nums z0) → W.ownsRow b1 3 1 (.slice (some ⟨g1, 0, none⟩) len1 len1) len1 (Li.nums z1) → Calls Try.prog 32 #[.slice (some ⟨g0, 0, none⟩) len0 len0, .slice (some ⟨g1, 0, none⟩) len1 len1] W (Ln.Gives ok os W)) :
    Calls Try.prog 9 #[.slice a0 len0 cap0, .slice a1 len1 cap1] w fun e w' => e = .returned (.bool true) ∧ Below w.heap.size w w' := by
  have hl0 := hc0.2.1
  have HC0 := Lib.hid hc0
  have HL0 := Lib.hid hl0
  have HN0 := Lib.hid (show (len0 : Int) ≤ 1048576 by omega)
  have hl1 := hc1.2.1
  have HC1 := Lib.hid hc1
  have HL1 := Lib.hid hl1
  have HN1 := Lib.hid (show (len1 : Int) ≤ 1048576 by omega)
  have HS := Lib.hid hs
  have HI := Lib.hid hi
  have HO := Lib.hid ho
  have hn2 : (0 : Int) ≤ (os.length : Int) := by omega
  have hn3 : (os.length : Int) ≤ 1048576 := by omega
  have t0 : decide ((1048576 : Int) < (len0 : Int)) = false := by simp; omega
  have t1 : decide ((1048576 : Int) < (len1 : Int)) = false := by simp; omega
  clear hs hi hc0 hl0 hc1 hl1 ho
  go_enter Try.func9, Try.ntmps9
  go_wp2_with fail
  refine (Il.toIntS_any HC0.out).mono ?_
  rintro e w1 ⟨p0, rfl, op01, hb⟩
  have HB1 := Lib.hid (hb)
  have HZ1 := Lib.hid hb.size
  clear hb 
  go_wp2_with fail
  refine (Il.toIntS_any (HC1.out.on HB1.out)).mono ?_
  rintro e w2 ⟨p1, rfl, op12, hb⟩
  have HB2 := Lib.hid (HB1.out.trans (Ln.below_le hb HB1.out.size))
  have HZ2 := Lib.hid hb.size
  have op02 := Li.own_on op01 hb
  clear hb op01
  go_wp2_with fail
  refine (HS.out _ _ _ _ _ op02 op12).mono ?_
  rintro e w3 ⟨vs, rfl, ss3, hb⟩
  clear op02
  clear op12
  have HB3 := Lib.hid (HB2.out.trans (Ln.below_le hb HB2.out.size))
  have HZ3 := Lib.hid hb.size
  clear hb 
  have HSV := Lib.hid ss3
  have HSW := Lib.hid (Nat.le_refl w3.heap.size)
  go_wp2_with fail
  refine (Il.toIntS_any (HC0.out.on HB3.out)).mono ?_
  rintro e w4 ⟨x0, rfl, ox04, hb⟩
  have HB4 := Lib.hid (HB3.out.trans (Ln.below_le hb HB3.out.size))
  have HZ4 := Lib.hid hb.size
  have ss4 := Li.own_on ss3 hb
  clear hb ss3
  have HX0 := Lib.hid ((ox04).lt x0 rfl)
  go_wp2_with fail
  refine (Il.toIntS_any (HC1.out.on HB4.out)).mono ?_
  rintro e w5 ⟨x1, rfl, ox15, hb⟩
  have HB5 := Lib.hid (HB4.out.trans (Ln.below_le hb HB4.out.size))
  have HZ5 := Lib.hid hb.size
  have ss5 := Li.own_on ss4 hb
  have ox05 := Li.own_on ox04 hb
  clear hb ss4 ox04
  have HX1 := Lib.hid ((ox15).lt x1 rfl)
  go_wp2_with fail
  refine (HI.out _ _ _ _ _ ox05 ox15).mono ?_
  rintro e w6 ⟨vi, rfl, ii6, hb⟩
  have HB6 := Lib.hid (HB5.out.trans (Ln.below_le hb HB5.out.size))
  have HZ6 := Lib.hid hb.size
  have ss6 := Li.own_on ss5 hb
  have ox06 := Li.own_on ox05 hb
  have ox16 := Li.own_on ox15 hb
  clear hb ss5 ox05 ox15
  have HIV := Lib.hid ii6
  have HD : Hid (Value.ownBlock vs = none ∨ vs.ownBlock ≠ vi.ownBlock) := Lib.hid (Ln.keep_both HSV.out HIV.out (by have := HZ4.out; have := HZ5.out; omega))
  have HVB : Hid (∀ k, vi.ownBlock = some k → w.heap.size ≤ k) := Lib.hid (fun k hk => Nat.le_trans HB5.out.size (HIV.out.lt k hk).1)
  go_wp2_with fail
  refine (Ln.eqIntS_n ii6 ss6 HO.out).mono ?_
  rintro e w7 ⟨rfl, hb⟩
  have HB7 := Lib.hid (HB6.out.trans (Ln.below_le hb HB6.out.size))
  have HZ7 := Lib.hid hb.size
  have ss7 := Li.own_on ss6 hb
  have ox07 := Li.own_on ox06 hb
  have ox17 := Li.own_on ox16 hb
  have ii7 := Li.own_on ii6 hb
  clear hb ss6 ox06 ox16 ii6
  go_wp2_with fail
  refine (Il.toIntS_any (HC0.out.on HB7.out)).mono ?_
  rintro e w8 ⟨y0, rfl, oy08, hb⟩
  have HB8 := Lib.hid (HB7.out.trans (Ln.below_le hb HB7.out.size))
  have HZ8 := Lib.hid hb.size
  have ss8 := Li.own_on ss7 hb
  have ox08 := Li.own_on ox07 hb
  have ox18 := Li.own_on ox17 hb
  have ii8 := Li.own_on ii7 hb
  clear hb ss7 ox07 ox17 ii7
  go_wp2_with fail
  refine (Ln.eqIntS_n ox08 oy08 HL0.out).mono ?_
  rintro e w9 ⟨rfl, hb⟩
  clear oy08
  have HB9 := Lib.hid (HB8.out.trans (Ln.below_le hb HB8.out.size))
  have HZ9 := Lib.hid hb.size
  have ss9 := Li.own_on ss8 hb
  have ox09 := Li.own_on ox08 hb
  have ox19 := Li.own_on ox18 hb
  have ii9 := Li.own_on ii8 hb
  clear hb ss8 ox08 ox18 ii8
  go_wp2_with fail
  refine (Il.toIntS_any (HC1.out.on HB9.out)).mono ?_
  rintro e w10 ⟨y1, rfl, oy110, hb⟩
  have HB10 := Lib.hid (HB9.out.trans (Ln.below_le hb HB9.out.size))
  have HZ10 := Lib.hid hb.size
  have ss10 := Li.own_on ss9 hb
  have ox010 := Li.own_on ox09 hb
  have ox110 := Li.own_on ox19 hb
  have ii10 := Li.own_on ii9 hb
  clear hb ss9 ox09 ox19 ii9
  go_wp2_with fail
  refine (Ln.eqIntS_n ox110 oy110 HL1.out).mono ?_
  rintro e w11 ⟨rfl, hb⟩
  clear oy110
  have HB11 := Lib.hid (HB10.out.trans (Ln.below_le hb HB10.out.size))
  have HZ11 := Lib.hid hb.size
  have ss11 := Li.own_on ss10 hb
  have ox011 := Li.own_on ox010 hb
  have ox111 := Li.own_on ox110 hb
  have ii11 := Li.own_on ii10 hb
  clear hb ss10 ox010 ox110 ii10
  go_wp2_with fail
  refine (Ln.markIntS_z (z := 1) ox011 ⟨_, rfl⟩ HL0.out (by omega) (by omega)).mono ?_
  rintro e w12 ⟨rfl, om12, gw⟩
  clear ox011
  have HB12 := Lib.hid (HB11.out.grown gw HB11.out.size (fun k hk => by have e : some x0 = some k := hk; injection e with e; have := HX0.out.1; have := HB3.out.size; have := HZ4.out; have := HZ5.out; omega))
  have ss12 := ss11.kept gw (Ln.keep_apart (W := w) (g := x0) HSV.out (_root_.Or.inr (by have := HX0.out.1; have := HZ4.out; have := HZ5.out; omega)))
  have ox112 := ox111.kept gw (Ln.keep_apart (W := w) (g := x0) ox111 (_root_.Or.inl HX0.out.2))
  have ii12 := ii11.kept gw (Ln.keep_apart (W := w) (g := x0) HIV.out (_root_.Or.inl (by have := HX0.out.2; have := HZ4.out; have := HZ5.out; omega)))
  clear gw ss11 ox111 ii11
  clear om12
  go_wp2_with fail
  refine (Ln.markIntS_z (z := (1 + (len0 : Int))) ox112 ⟨_, rfl⟩ HL1.out (by have := HN0.out; omega) (by have := HN0.out; omega)).mono ?_
  rintro e w13 ⟨rfl, om13, gw⟩
  clear ox112
  have HB13 := Lib.hid (HB12.out.grown gw HB12.out.size (fun k hk => by have e : some x1 = some k := hk; injection e with e; have := HX1.out.1; have := HB3.out.size; have := HZ4.out; have := HZ5.out; omega))
  have ss13 := ss12.kept gw (Ln.keep_apart (W := w) (g := x1) HSV.out (_root_.Or.inr (by have := HX1.out.1; have := HZ4.out; have := HZ5.out; omega)))
  have ii13 := ii12.kept gw (Ln.keep_apart (W := w) (g := x1) HIV.out (_root_.Or.inl (by have := HX1.out.2; have := HZ4.out; have := HZ5.out; omega)))
  clear gw ss12 ii12
  clear om13
  go_wp2_with fail
  refine (Ln.eqIntS_n ii13 ss13 HO.out).mono ?_
  rintro e w14 ⟨rfl, hb⟩
  have HB14 := Lib.hid (HB13.out.trans (Ln.below_le hb HB13.out.size))
  have HZ14 := Lib.hid hb.size
  have ss14 := Li.own_on ss13 hb
  have ii14 := Li.own_on ii13 hb
  clear hb ss13 ii13
  go_wp2_with fail
  refine (Li.markIntS_own ii14 HO.out).mono ?_
  rintro e w15 ⟨rfl, mm15, gw⟩
  clear ii14
  have HB15 := Lib.hid (HB14.out.grown gw HB14.out.size (fun k hk => HVB.out k hk))
  have ss15 := ss14.kept gw HD.out
  clear gw ss14
  go_wp2_with fail
  refine (Li.heldIntS_own mm15 HO.out).mono ?_
  rintro e w' ⟨rfl, rfl⟩
  go_wp2_with fail
  refine (Il.toIntS_any (HC0.out.on HB15.out)).mono ?_
  rintro e w16 ⟨h0, rfl, oh016, hb⟩
  have HB16 := Lib.hid (HB15.out.trans (Ln.below_le hb HB15.out.size))
  have HZ16 := Lib.hid hb.size
  have ss16 := Li.own_on ss15 hb
  have mm16 := Li.own_on mm15 hb
  clear hb ss15 mm15
  go_wp2_with fail
  refine (Il.toIntS_any (HC1.out.on HB16.out)).mono ?_
  rintro e w17 ⟨h1, rfl, oh117, hb⟩
  have HB17 := Lib.hid (HB16.out.trans (Ln.below_le hb HB16.out.size))
  have HZ17 := Lib.hid hb.size
  have ss17 := Li.own_on ss16 hb
  have mm17 := Li.own_on mm16 hb
  have oh017 := Li.own_on oh016 hb
  clear hb ss16 mm16 oh016
  go_wp2_with fail
  refine (HI.out _ _ _ _ _ oh017 oh117).mono ?_
  rintro e w18 ⟨vh, rfl, hh18, hb⟩
  clear oh017
  clear oh117
  have HB18 := Lib.hid (HB17.out.trans (Ln.below_le hb HB17.out.size))
  have HZ18 := Lib.hid hb.size
  have ss18 := Li.own_on ss17 hb
  have mm18 := Li.own_on mm17 hb
  clear hb ss17 mm17
  go_wp2_with fail
  refine (Ln.eqIntS_n hh18 ss18 HO.out).mono ?_
  rintro e w19 ⟨rfl, hb⟩
  clear hh18
  clear ss18
  have HB19 := Lib.hid (HB18.out.trans (Ln.below_le hb HB18.out.size))
  have HZ19 := Lib.hid hb.size
  have mm19 := Li.own_on mm18 hb
  clear hb mm18
  go_wp2_with fail
  refine (Li.heldIntS_own mm19 HO.out).mono ?_
  rintro e w' ⟨rfl, rfl⟩
  go_wp2
  go_ret
  exact ⟨rfl, HB19.out⟩
theorem long0 (a0 : Option Addr) (len0 cap0 : Nat) (a1 : Option Addr) (len1 cap1 : Nat) (hl : ¬ (len0 : Int) ≤ 1048576) (hm : len0 ≤ maxLen) (w : World) :
    Calls Try.prog 9 #[.slice a0 len0 cap0, .slice a1 len1 cap1] w fun e w' => e = .returned (.bool true) ∧ Below w.heap.size w w' := by
  have t0 : (len0 : Int) ≤ 9223372036854775807 := by unfold maxLen at hm; omega
  have t1 : decide ((1048576 : Int) < (len0 : Int)) = true := by simp; omega
  clear hl hm
  go_enter Try.func9, Try.ntmps9
  go_wp2
  go_ret
  exact ⟨rfl, Below.refl _ _⟩
theorem long1 (a0 : Option Addr) (len0 cap0 : Nat) (a1 : Option Addr) (len1 cap1 : Nat) (h0 : (len0 : Int) ≤ 1048576) (hl : ¬ (len1 : Int) ≤ 1048576) (hm : len1 ≤ maxLen) (w : World) :
    Calls Try.prog 9 #[.slice a0 len0 cap0, .slice a1 len1 cap1] w fun e w' => e = .returned (.bool true) ∧ Below w.heap.size w w' := by
  have t0 : (len1 : Int) ≤ 9223372036854775807 := by unfold maxLen at hm; omega
  have t1 : decide ((1048576 : Int) < (len1 : Int)) = true := by simp; omega
  have t2 : decide ((1048576 : Int) < (len0 : Int)) = false := by simp; omega
  clear hl hm
  go_enter Try.func9, Try.ntmps9
  go_wp2
  go_ret
  exact ⟨rfl, Below.refl _ _⟩

/-! the walk -/
theorem walk (a0 : Option Addr) (len0 cap0 : Nat) (z0 : List Int) (a1 : Option Addr) (len1 cap1 : Nat) (z1 : List Int)  (w : World) (r0 : Il.Raw w a0 len0 z0) (r1 : Il.Raw w a1 len1 z1) :
    Calls Try.prog 9 #[.slice a0 len0 cap0, .slice a1 len1 cap1] w fun e w' => e = .returned (.bool true) ∧ Below w.heap.size w w' := by
  by_cases h0 : (len0 : Int) ≤ 1048576
  · by_cases h1 : (len1 : Int) ≤ 1048576
    · have hl0 : len0 ≤ 1048576 := by omega
      have hl1 : len1 ≤ 1048576 := by omega
      exact core a0 len0 cap0 z0 a1 len1 cap1 z1 w (Ln.lines z0 z1) (Ln.usZ z0 z1) (Ln.usZ_len z0 z1 (by rw [r1.1]; exact hl1)) (r0.came hl0) (r1.came hl1) (fun W b0 g0 b1 g1 h0 h1 => Ln.sUsed h0 h1 hl0 hl1) (fun W b0 g0 b1 g1 h0 h1 => Ln.iUsed h0 h1 hl0 hl1)
    · exact long1 a0 len0 cap0 a1 len1 cap1 h0 h1 r1.2.1 w
  · exact long0 a0 len0 cap0 a1 len1 cap1 h0 r0.2.1 w

/-! the row's step -/
set_option maxRecDepth 100000 in
theorem lifted (os : Os) (started : os.Started) (H : Type) (enc : TypeId × Value → H) :
    ReturnsInHanded {} Try.checked os 9 .any (Rows.fnExactWidthsUsedSpec.pre6 enc Try.prog Try.f9 Rows.fnExactWidthsUsedRow.domain false) (Rows.fnExactWidthsUsedSpec.post enc Try.prog Try.f9 false true false false) := by
  refine returnsInHanded_of_change (C := Try.checked) own started (by kernel_rfl) Try.func9
    (ChangeSpec.witness6 (enc := enc) (C := Try.checked) false ⟨#[], #[.slice none 0 0, .slice none 0 0], []⟩ 8 (by kernel_rfl) (by kernel_rfl) (by kernel_rfl) (by kernel_rfl)) ?_
  intro W base args ds gs before hval0 hW hcnd _
  have hval : ∀ (j : Nat) t v, Try.f9.params[j]? = some t → args[j]? = some v → Value.okWide Try.prog W .any base t v := hval0
  have hW' := hW
  obtain ⟨p, q, hA0, hV, rfl, hfz, hnd⟩ := hW
  have hA : DataW.TrodAll enc Try.prog W 0 (fun _ => true) true Try.f9.params.toList args.toList ds p := hA0
  rw [Try.params9] at hA hval
  obtain ⟨v0, vs0, d0, ds0, p0, q0, hargs, rfl, rfl, h0, r0⟩ := trodAll_cons hA
  obtain ⟨v1, vs1, d1, ds1, p1, q1, rfl, rfl, rfl, h1, r1⟩ := trodAll_cons r0
  obtain ⟨rfl, rfl, rfl⟩ := trodAll_nil r1
  obtain rfl : args = #[v0, v1] := by cases args; simp_all
  obtain ⟨rfl, rfl⟩ := trodVars_none hV
  obtain ⟨a0, len0, cap0, rfl⟩ := okWide_slice Try.underlying22 (hval 0 22 v0 rfl rfl)
  have k0 := h0
  have lt0 : ∀ x ∈ p0, x.block < W.heap.size := by obtain ⟨m, hm⟩ := k0; exact DataW.trod_lt m _ _ _ hm
  obtain ⟨z0, r_0⟩ : ∃ zs, Il.Raw W a0 len0 zs := by
    obtain ⟨fuel, hf⟩ := h0
    exact Il.rd_open hf
  obtain ⟨a1, len1, cap1, rfl⟩ := okWide_slice Try.underlying22 (hval 1 22 v1 rfl rfl)
  have k1 := h1
  have lt1 : ∀ x ∈ p1, x.block < W.heap.size := by obtain ⟨m, hm⟩ := k1; exact DataW.trod_lt m _ _ _ hm
  obtain ⟨z1, r_1⟩ : ∃ zs, Il.Raw W a1 len1 zs := by
    obtain ⟨fuel, hf⟩ := h1
    exact Il.rd_open hf
  clear hA0 hval0
  simp only [List.append_nil] at hW'
  refine (walk a0 len0 cap0 z0 a1 len1 cap1 z1  W r_0 r_1).mono fun e W' ⟨he, hg⟩ => ?_
  subst he
  exact ⟨_, rfl, _, _, _, [], _, [], hW', trodAll_mk1 (shut_bool Try.underlying4 _), (trodAll_cons_mk (Below.trod laidOut (by kernel_rfl) (of_decide_eq_true (by kernel_rfl)) k0 hg lt0) (trodAll_cons_mk (Below.trod laidOut (by kernel_rfl) (of_decide_eq_true (by kernel_rfl)) k1 hg lt1) trodAll_mk0)), rfl, hg.frame _, fun h => by cases h⟩

theorem over : Rows.fnExactWidthsUsedRow.holds Try.pinned (OpenSpec.ofChange Rows.fnExactWidthsUsedSpec) :=
  OpenClaim.holds_of_wide 9 Try.f9 rfl rfl rfl rfl rfl rfl rfl ⟨rfl, rfl, rfl, rfl, rfl⟩ rfl rfl rfl rfl rfl (by kernel_rfl) Try.func9 (by kernel_rfl)
    (of_decide_eq_true (by kernel_rfl)) (by unfold Func.isWrapper; first | (rw [if_pos (by decide +kernel)]; kernel_rfl) | (rw [if_neg (by decide +kernel)]; exact ⟨rfl, rfl⟩))
    (fun os started H enc _ => lifted os started H enc)

/-- the statement -/
theorem proved : Rows.FnExactWidthsUsedSaid :=
  over
#print axioms proved
end Go.Proofs.Ytdpblijmagcgiaa.fnExactWidthsUsed
