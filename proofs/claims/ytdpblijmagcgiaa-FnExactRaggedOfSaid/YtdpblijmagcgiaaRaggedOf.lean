/- FnExactRaggedOf is proved: spec.RaggedOf and impl.RaggedOf answer alike for every argument, the arguments are as they were. No condition: for every input that the parameter types allow. -/
import Derived.Test.YtdpblijmagcgiaaRows
import Derived.WalkKit
import Derived.ProofKit
import Derived.OpenShut
import Derived.Below
import Derived.Lib.SmallJoins
import Derived.Carry
import Derived.Test.YtdpblijmagcgiaaPg0
namespace Go.Proofs.Ytdpblijmagcgiaa.fnExactRaggedOf
open Go.ChangeShapes Go.WideShapes Go.ChangeAt Go.RowKit Go.Joins
set_option linter.unusedVariables false
set_option linter.unusedSimpArgs false

theorem own : ownKnob Try.prog.godebug = none := by kernel_rfl
theorem laidOut : laidOutB Try.prog = true := by kernel_rfl
set_option maxRecDepth 100000 in
set_option maxHeartbeats 4000000 in
theorem core (a0 : Option Addr) (len0 cap0 : Nat) (z0 : List Int) (a1 : Int) (a2 : Option Addr) (len2 cap2 : Nat) (z2 : List Int) (w : World) (u0 : Int) (u1 : Bool) (hc0 : Il.Came w (.slice a0 len0 cap0) len0 z0) (hc2 : Il.Came w (.slice a2 len2 cap2) len2 z2)
    (hs : ∀ (W : World) (b0 g0 : Nat) (b2 g2 : Nat), W.ownsRow b0 3 1 (.slice (some ⟨g0, 0, none⟩) len0 len0) len0 (Li.nums z0) → W.ownsRow b2 3 1 (.slice (some ⟨g2, 0, none⟩) len2 len2) len2 (Li.nums z2) → Calls Try.prog 25 #[.slice (some ⟨g0, 0, none⟩) len0 len0, .int .i64 a1, .slice (some ⟨g2, 0, none⟩) len2 len2] W (Ln.Ret (.tuple #[.int .i64 u0, .bool u1]) W))
    (hi : ∀ (W : World) (b0 g0 : Nat) (b2 g2 : Nat), W.ownsRow b0 3 1 (.slice (some ⟨g0, 0, none⟩) len0 len0) len0 (Li.nums z0) → W.ownsRow b2 3 1 (.slice (some ⟨g2, 0, none⟩) len2 len2) len2 (Li.nums z2) → Calls Try.prog 26 #[.slice (some ⟨g0, 0, none⟩) len0 len0, .int .i64 a1, .slice (some ⟨g2, 0, none⟩) len2 len2] W (Ln.Ret (.tuple #[.int .i64 u0, .bool u1]) W)) :
    Calls Try.prog 6 #[.slice a0 len0 cap0, .int .i64 a1, .slice a2 len2 cap2] w fun e w' => e = .returned (.bool true) ∧ Below w.heap.size w w' := by
  have hl0 := hc0.2.1
  have HC0 := Lib.hid hc0
  have HL0 := Lib.hid hl0
  have HN0 := Lib.hid (show (len0 : Int) ≤ 1048576 by omega)
  have hl2 := hc2.2.1
  have HC2 := Lib.hid hc2
  have HL2 := Lib.hid hl2
  have HN2 := Lib.hid (show (len2 : Int) ≤ 1048576 by omega)
  have HS := Lib.hid hs
  have HI := Lib.hid hi
  have t0 : decide ((1048576 : Int) < (len0 : Int)) = false := by simp; omega
  have t2 : decide ((1048576 : Int) < (len2 : Int)) = false := by simp; omega
  clear hs hi hc0 hl0 hc2 hl2
  go_enter Try.func6, Try.ntmps6
  go_wp2_with fail
  refine (Il.toIntS_any HC0.out).mono ?_
  rintro e w1 ⟨p0, rfl, op01, hb⟩
  have HB1 := Lib.hid (hb)
  have HZ1 := Lib.hid hb.size
  clear hb 
  go_wp2_with fail
  refine (Il.toIntS_any (HC2.out.on HB1.out)).mono ?_
  rintro e w2 ⟨p2, rfl, op22, hb⟩
  have HB2 := Lib.hid (HB1.out.trans (Ln.below_le hb HB1.out.size))
  have HZ2 := Lib.hid hb.size
  have op02 := Li.own_on op01 hb
  clear hb op01
  go_wp2_with fail
  refine (HS.out _ _ _ _ _ op02 op22).mono ?_
  rintro e w3 ⟨rfl, hb⟩
  clear op02
  clear op22
  have HB3 := Lib.hid (HB2.out.trans (Ln.below_le hb HB2.out.size))
  have HZ3 := Lib.hid hb.size
  clear hb 
  go_wp2_with fail
  refine (Il.toIntS_any (HC0.out.on HB3.out)).mono ?_
  rintro e w4 ⟨x0, rfl, ox04, hb⟩
  have HB4 := Lib.hid (HB3.out.trans (Ln.below_le hb HB3.out.size))
  have HZ4 := Lib.hid hb.size
  clear hb 
  go_wp2_with fail
  refine (Il.toIntS_any (HC2.out.on HB4.out)).mono ?_
  rintro e w5 ⟨x2, rfl, ox25, hb⟩
  have HB5 := Lib.hid (HB4.out.trans (Ln.below_le hb HB4.out.size))
  have HZ5 := Lib.hid hb.size
  have ox05 := Li.own_on ox04 hb
  clear hb ox04
  go_wp2_with fail
  refine (HI.out _ _ _ _ _ ox05 ox25).mono ?_
  rintro e w6 ⟨rfl, hb⟩
  have HB6 := Lib.hid (HB5.out.trans (Ln.below_le hb HB5.out.size))
  have HZ6 := Lib.hid hb.size
  have ox06 := Li.own_on ox05 hb
  have ox26 := Li.own_on ox25 hb
  clear hb ox05 ox25
  go_wp2_with fail
  refine (Il.toIntS_any (HC0.out.on HB6.out)).mono ?_
  rintro e w7 ⟨y0, rfl, oy07, hb⟩
  have HB7 := Lib.hid (HB6.out.trans (Ln.below_le hb HB6.out.size))
  have HZ7 := Lib.hid hb.size
  have ox07 := Li.own_on ox06 hb
  have ox27 := Li.own_on ox26 hb
  clear hb ox06 ox26
  go_wp2_with fail
  refine (Ln.eqIntS_n ox07 oy07 HL0.out).mono ?_
  rintro e w8 ⟨rfl, hb⟩
  clear oy07
  have HB8 := Lib.hid (HB7.out.trans (Ln.below_le hb HB7.out.size))
  have HZ8 := Lib.hid hb.size
  have ox08 := Li.own_on ox07 hb
  have ox28 := Li.own_on ox27 hb
  clear hb ox07 ox27
  go_wp2_with fail
  refine (Il.toIntS_any (HC2.out.on HB8.out)).mono ?_
  rintro e w9 ⟨y2, rfl, oy29, hb⟩
  have HB9 := Lib.hid (HB8.out.trans (Ln.below_le hb HB8.out.size))
  have HZ9 := Lib.hid hb.size
  have ox09 := Li.own_on ox08 hb
  have ox29 := Li.own_on ox28 hb
  clear hb ox08 ox28
  go_wp2_with fail
  refine (Ln.eqIntS_n ox29 oy29 HL2.out).mono ?_
  rintro e w10 ⟨rfl, hb⟩
  clear oy29
  have HB10 := Lib.hid (HB9.out.trans (Ln.below_le hb HB9.out.size))
  have HZ10 := Lib.hid hb.size
  have ox010 := Li.own_on ox09 hb
  have ox210 := Li.own_on ox29 hb
  clear hb ox09 ox29
  go_wp2
  go_ret
  exact ⟨rfl, HB10.out⟩
theorem long0 (a0 : Option Addr) (len0 cap0 : Nat) (a1 : Int) (a2 : Option Addr) (len2 cap2 : Nat) (hl : ¬ (len0 : Int) ≤ 1048576) (hm : len0 ≤ maxLen) (w : World) :
    Calls Try.prog 6 #[.slice a0 len0 cap0, .int .i64 a1, .slice a2 len2 cap2] w fun e w' => e = .returned (.bool true) ∧ Below w.heap.size w w' := by
  have t0 : (len0 : Int) ≤ 9223372036854775807 := by unfold maxLen at hm; omega
  have t1 : decide ((1048576 : Int) < (len0 : Int)) = true := by simp; omega
  clear hl hm
  go_enter Try.func6, Try.ntmps6
  go_wp2
  go_ret
  exact ⟨rfl, Below.refl _ _⟩
theorem long2 (a0 : Option Addr) (len0 cap0 : Nat) (a1 : Int) (a2 : Option Addr) (len2 cap2 : Nat) (h0 : (len0 : Int) ≤ 1048576) (hl : ¬ (len2 : Int) ≤ 1048576) (hm : len2 ≤ maxLen) (w : World) :
    Calls Try.prog 6 #[.slice a0 len0 cap0, .int .i64 a1, .slice a2 len2 cap2] w fun e w' => e = .returned (.bool true) ∧ Below w.heap.size w w' := by
  have t0 : (len2 : Int) ≤ 9223372036854775807 := by unfold maxLen at hm; omega
  have t1 : decide ((1048576 : Int) < (len2 : Int)) = true := by simp; omega
  have t2 : decide ((1048576 : Int) < (len0 : Int)) = false := by simp; omega
  clear hl hm
  go_enter Try.func6, Try.ntmps6
  go_wp2
  go_ret
  exact ⟨rfl, Below.refl _ _⟩

/-! the walk -/
theorem walk (a0 : Option Addr) (len0 cap0 : Nat) (z0 : List Int) (a1 : Int) (a2 : Option Addr) (len2 cap2 : Nat) (z2 : List Int) (w1 : (Lit.int .i64 a1).wf = true) (w : World) (r0 : Il.Raw w a0 len0 z0) (r2 : Il.Raw w a2 len2 z2) :
    Calls Try.prog 6 #[.slice a0 len0 cap0, .int .i64 a1, .slice a2 len2 cap2] w fun e w' => e = .returned (.bool true) ∧ Below w.heap.size w w' := by
  by_cases h0 : (len0 : Int) ≤ 1048576
  · by_cases h1 : (len2 : Int) ≤ 1048576
    · have hl0 : len0 ≤ 1048576 := by omega
      have hl2 : len2 ≤ 1048576 := by omega
      exact core a0 len0 cap0 z0 a1 a2 len2 cap2 z2 w (Ln.rgN z0 z2 a1) (Ln.rgB z0 z2 a1) (r0.came hl0) (r2.came hl2) (fun W b0 g0 b2 g2 h0 h2 => Ln.sRagged h0 h2 hl0 hl2) (fun W b0 g0 b2 g2 h0 h2 => Ln.iRagged h0 h2 hl0 hl2)
    · exact long2 a0 len0 cap0 a1 a2 len2 cap2 h0 h1 r2.2.1 w
  · exact long0 a0 len0 cap0 a1 a2 len2 cap2 h0 r0.2.1 w

/-! the row's step -/
set_option maxRecDepth 100000 in
theorem lifted (os : Os) (started : os.Started) (H : Type) (enc : TypeId × Value → H) :
    ReturnsInHanded {} Try.checked os 6 .any (Rows.fnExactRaggedOfSpec.pre6 enc Try.prog Try.f6 Rows.fnExactRaggedOfRow.domain false) (Rows.fnExactRaggedOfSpec.post enc Try.prog Try.f6 false true false false) := by
  refine returnsInHanded_of_change (C := Try.checked) own started (by kernel_rfl) Try.func6
    (ChangeSpec.witness6 (enc := enc) (C := Try.checked) false ⟨#[], #[.slice none 0 0, .int .i64 0, .slice none 0 0], []⟩ 8 (by kernel_rfl) (by kernel_rfl) (by kernel_rfl) (by kernel_rfl)) ?_
  intro W base args ds gs before hval0 hW hcnd _
  have hval : ∀ (j : Nat) t v, Try.f6.params[j]? = some t → args[j]? = some v → Value.okWide Try.prog W .any base t v := hval0
  have hW' := hW
  obtain ⟨p, q, hA0, hV, rfl, hfz, hnd⟩ := hW
  have hA : DataW.TrodAll enc Try.prog W 0 (fun _ => true) true Try.f6.params.toList args.toList ds p := hA0
  rw [Try.params6] at hA hval
  obtain ⟨v0, vs0, d0, ds0, p0, q0, hargs, rfl, rfl, h0, r0⟩ := trodAll_cons hA
  obtain ⟨v1, vs1, d1, ds1, p1, q1, rfl, rfl, rfl, h1, r1⟩ := trodAll_cons r0
  obtain ⟨v2, vs2, d2, ds2, p2, q2, rfl, rfl, rfl, h2, r2⟩ := trodAll_cons r1
  obtain ⟨rfl, rfl, rfl⟩ := trodAll_nil r2
  obtain rfl : args = #[v0, v1, v2] := by cases args; simp_all
  obtain ⟨rfl, rfl⟩ := trodVars_none hV
  obtain ⟨a0, len0, cap0, rfl⟩ := okWide_slice Try.underlying22 (hval 0 22 v0 rfl rfl)
  have k0 := h0
  have lt0 : ∀ x ∈ p0, x.block < W.heap.size := by obtain ⟨m, hm⟩ := k0; exact DataW.trod_lt m _ _ _ hm
  obtain ⟨z0, r_0⟩ : ∃ zs, Il.Raw W a0 len0 zs := by
    obtain ⟨fuel, hf⟩ := h0
    exact Il.rd_open hf
  obtain ⟨a1, rfl, rfl, rfl, w1⟩ := open_int Try.underlying3 (hval 1 3 v1 rfl rfl) h1
  obtain ⟨a2, len2, cap2, rfl⟩ := okWide_slice Try.underlying22 (hval 2 22 v2 rfl rfl)
  have k2 := h2
  have lt2 : ∀ x ∈ p2, x.block < W.heap.size := by obtain ⟨m, hm⟩ := k2; exact DataW.trod_lt m _ _ _ hm
  obtain ⟨z2, r_2⟩ : ∃ zs, Il.Raw W a2 len2 zs := by
    obtain ⟨fuel, hf⟩ := h2
    exact Il.rd_open hf
  clear hA0 hval0
  simp only [List.append_nil] at hW'
  refine (walk a0 len0 cap0 z0 a1 a2 len2 cap2 z2 w1 W r_0 r_2).mono fun e W' ⟨he, hg⟩ => ?_
  subst he
  exact ⟨_, rfl, _, _, _, [], _, [], hW', trodAll_mk1 (shut_bool Try.underlying4 _), (trodAll_cons_mk (Below.trod laidOut (by kernel_rfl) (of_decide_eq_true (by kernel_rfl)) k0 hg lt0) (trodAll_cons_mk (shut_int Try.underlying3 w1) (trodAll_cons_mk (Below.trod laidOut (by kernel_rfl) (of_decide_eq_true (by kernel_rfl)) k2 hg lt2) trodAll_mk0))), rfl, hg.frame _, fun h => by cases h⟩

theorem over : Rows.fnExactRaggedOfRow.holds Try.pinned (OpenSpec.ofChange Rows.fnExactRaggedOfSpec) :=
  OpenClaim.holds_of_wide 6 Try.f6 rfl rfl rfl rfl rfl rfl rfl ⟨rfl, rfl, rfl, rfl, rfl⟩ rfl rfl rfl rfl rfl (by kernel_rfl) Try.func6 (by kernel_rfl)
    (of_decide_eq_true (by kernel_rfl)) (by unfold Func.isWrapper; first | (rw [if_pos (by decide +kernel)]; kernel_rfl) | (rw [if_neg (by decide +kernel)]; exact ⟨rfl, rfl⟩))
    (fun os started H enc _ => lifted os started H enc)

/-- the statement -/
theorem proved : Rows.FnExactRaggedOfSaid :=
  over
#print axioms proved
end Go.Proofs.Ytdpblijmagcgiaa.fnExactRaggedOf
