/- FnExactShelvesFor is proved: spec.ShelvesFor and impl.ShelvesFor answer alike for every argument, and the arguments are as they were. No condition: for every input that the parameter types allow. -/
import Derived.Test.YtogkebbgkeffcabRows
import Derived.WalkKit
import Derived.ProofKit
import Derived.OpenShut
import Derived.Below
import Derived.Lib.SmallJoins
import Derived.Carry
import Derived.Test.YtogkebbgkeffcabOfl
import Derived.Deep.RegionHeld3
namespace Go.Proofs.Ytogkebbgkeffcab.fnExactShelvesFor
open Go.ChangeShapes Go.WideShapes Go.ChangeAt Go.RowKit Go.Joins
set_option linter.unusedVariables false
set_option linter.unusedSimpArgs false

theorem own : ownKnob Try.prog.godebug = none := by kernel_rfl
theorem laidOut : laidOutB Try.prog = true := by kernel_rfl
theorem cellsT : Try.prog.cellsOf 33 = 2 := by kernel_rfl
set_option maxRecDepth 100000 in
set_option maxHeartbeats 1000000 in
theorem core (a0 : Option Addr) (len0 cap0 : Nat) (c0 : Int) (zs : List Int) (a1 : Int) (w : World) (x0 : Int) (x1 : Bool) (hc : Il.Came w (.slice a0 len0 cap0) len0 zs)
    (hs : ∀ (W : World) (b1 g : Nat), Sh.Ow W b1 g len0 len0 zs → Calls Try.prog 20 #[Sh.V g len0 len0 c0, .int .i64 a1] W (Sh.Ret (.tuple #[.int .i64 x0, .bool x1]) W))
    (hi : ∀ (W : World) (b1 g : Nat), Sh.Ow W b1 g len0 len0 zs → Calls Try.prog 22 #[Sh.V g len0 len0 c0, .int .i64 a1] W (Sh.Ret (.tuple #[.int .i64 x0, .bool x1]) W)) :
    Calls Try.prog 6 #[.agg #[.slice a0 len0 cap0, .int .i64 c0], .int .i64 a1] w fun e w' => e = .returned (.bool true) ∧ Below w.heap.size w w' := by
  have hl := hc.2.1
  have HS := Lib.hid hs
  have HI := Lib.hid hi
  have HC := Lib.hid hc
  have t1 : decide ((1048576 : Int) - (len0 : Int) < 0) = false := by simp; omega
  have HL := Lib.hid hl
  clear hs hi hc hl
  have B := Sh.B2.new w (.slice a0 len0 cap0) (.int .i64 c0) 33
  go_enter Try.func6, Try.ntmps6
  go_wp2_with fail
  refine (Sh.sz_yes a0 len0 cap0 c0 HL.out _).mono ?_
  rintro e w1 ⟨rfl, hb⟩
  have HB := Lib.hid ((below_alloc1 w _).trans (Sh.below_le hb (by simp)))
  replace B := B.on hb
  obtain ⟨_, q0, q1⟩ := id B
  clear hb
  go_wp2_with fail
  refine (Sh.toShelf_any (HC.out.on HB.out)).mono ?_
  rintro e w2 ⟨g1, rfl, o1, hb⟩
  have HB2 := Lib.hid (HB.out.trans (Sh.below_le hb HB.out.size))
  replace B := B.on hb
  clear q0 q1 hb HB
  obtain ⟨_, q0, q1⟩ := id B
  go_wp2_with fail
  refine (HS.out _ _ _ o1).mono ?_
  rintro e w3 ⟨rfl, hb⟩
  have HB := Lib.hid (HB2.out.trans (Sh.below_le hb HB2.out.size))
  replace B := B.on hb
  clear q0 q1 hb HB2 o1
  obtain ⟨_, q0, q1⟩ := id B
  go_wp2_with fail
  refine (Sh.toShelf_any (HC.out.on HB.out)).mono ?_
  rintro e w4 ⟨g2, rfl, o2, hb⟩
  have HB2 := Lib.hid (HB.out.trans (Sh.below_le hb HB.out.size))
  replace B := B.on hb
  clear q0 q1 hb HB
  obtain ⟨_, q0, q1⟩ := id B
  go_wp2_with fail
  refine (HI.out _ _ _ (o2.alloc _)).mono ?_
  rintro e w5 ⟨rfl, hb⟩
  have hb45 : Below w4.heap.size w4 w5 := (below_alloc1 w4 _).trans (Sh.below_le hb (by simp))
  have HB := Lib.hid (HB2.out.trans (Sh.below_le hb45 HB2.out.size))
  have X := (Sh.B2.new w4 (.slice (some ⟨g2, 0, none⟩) len0 len0) (.int .i64 c0) 36).on hb
  obtain ⟨_, x0', x1'⟩ := id X
  replace B := B.on hb45
  have HO := Lib.hid (Li.own_on o2 hb45)
  clear q0 q1 hb hb45 HB2 o2
  obtain ⟨_, q0, q1⟩ := id B
  go_wp2_with fail
  obtain ⟨b0, hb0⟩ : ∃ b0, w4.heap.size = b0 := ⟨_, rfl⟩
  rw [hb0] at x0' x1' X
  simp only [hb0]
  clear hb0
  have CT := Lib.hid (fun (W : World) (hw : Below w5.heap.size w5 W) => Sh.toShelf_any (c := c0) (cap := cap0) (HC.out.on (HB.out.trans (Sh.below_le hw HB.out.size))))
  have CE := Lib.hid (fun (W : World) (b2 g' : Nat) (hw : Below w5.heap.size w5 W) (h' : Sh.Ow W b2 g' len0 len0 zs) => Sh.eqShelf_own (c := c0) (Li.own_on HO.out hw) h' HL.out)
  go_region_held3 (fun w' => w'.cell? ⟨b0, 0, none⟩ = some (.slice (some ⟨g2, 0, none⟩) len0 len0) ∧ w'.cell? ⟨b0, 1, none⟩ = some (.int .i64 c0) ∧ w'.cell? ⟨w.heap.size, 0, none⟩ = some (.slice a0 len0 cap0) ∧ w'.cell? ⟨w.heap.size, 1, none⟩ = some (.int .i64 c0))
    (first | exact ⟨x0', x1', q0, q1⟩ | exact ⟨p0, p1, p2, p3⟩ | exact ⟨s0, s1, s2, s3⟩ | go_keep)
    (first
      | (go_at_call 21; refine (CT.out _ (Below.refl w5.heap.size w5).drew).mono ?_; rintro e w6 ⟨g3, rfl, o3, hb6⟩; have BX := X.drew.on hb6; have BB := B.drew.on hb6; obtain ⟨-, p0, p1⟩ := id BX; obtain ⟨-, p2, p3⟩ := id BB)
      | (go_at_call 23; refine (CE.out _ _ _ ((Below.refl w5.heap.size w5).drew.trans (Sh.below_le hb6 (Nat.le_refl _))) o3).mono ?_; rintro e w7 ⟨rfl, hb7⟩; have BX2 := BX.on hb7; have BB2 := BB.on hb7; obtain ⟨-, s0, s1⟩ := id BX2; obtain ⟨-, s2, s3⟩ := id BB2))
  have HE := Lib.hid (HB.out.trans (Sh.below_le ((Below.refl w5.heap.size w5).drew.trans (Sh.below_le (hb6.trans (Sh.below_le hb7 hb6.size)) (Nat.le_refl _))) HB.out.size))
  clear hb6 hb7 B X BX BB BX2 BB2 p0 p1 p2 p3 s0 s1 s2 s3 q0 q1 x0' x1' o3
  go_wp2
  go_ret
  exact ⟨rfl, HE.out⟩
theorem long (a0 : Option Addr) (len0 cap0 : Nat) (c0 : Int) (a1 : Int) (hl : ¬ len0 ≤ 1048576) (hm : len0 ≤ maxLen) (w : World) :
    Calls Try.prog 6 #[.agg #[.slice a0 len0 cap0, .int .i64 c0], .int .i64 a1] w fun e w' => e = .returned (.bool true) ∧ Below w.heap.size w w' := by
  have HL := Lib.hid hl
  have HM := Lib.hid hm
  clear hl hm
  go_enter Try.func6, Try.ntmps6
  go_wp2_with fail
  refine (Sh.sz_no a0 len0 cap0 c0 HL.out HM.out _).mono ?_
  rintro e w1 ⟨rfl, hb⟩
  have HB := Lib.hid ((below_alloc1 w _).trans (Sh.below_le hb (by simp)))
  clear hb
  go_wp2
  go_ret
  exact ⟨rfl, HB.out⟩

/-! the walk -/
theorem walk (a0 : Option Addr) (len0 cap0 : Nat) (c0 : Int) (z0 : List Int) (a1 : Int) (u0 : (Lit.int .i64 c0).wf = true) (w1 : (Lit.int .i64 a1).wf = true) (w : World) (r0 : Il.Raw w a0 len0 z0) :
    Calls Try.prog 6 #[.agg #[.slice a0 len0 cap0, .int .i64 c0], .int .i64 a1] w fun e w' => e = .returned (.bool true) ∧ Below w.heap.size w w' := by
  by_cases hl : len0 ≤ 1048576
  · have hc := r0.came (cap := cap0) hl
    exact core a0 len0 cap0 c0 z0 a1 w (Sh.sfn z0 c0 a1) (Sh.fit z0 c0 a1) hc (fun W b1 g h => Sh.sFor h hl a1) (fun W b1 g h => Sh.iFor h hl a1)
  · exact long a0 len0 cap0 c0 a1 hl r0.2.1 w

/-! the row's step -/
set_option maxRecDepth 100000 in
theorem lifted (os : Os) (started : os.Started) (H : Type) (enc : TypeId × Value → H) :
    ReturnsInHanded {} Try.checked os 6 .any (Rows.fnExactShelvesForSpec.pre6 enc Try.prog Try.f6 Rows.fnExactShelvesForRow.domain false) (Rows.fnExactShelvesForSpec.post enc Try.prog Try.f6 false true false false) := by
  refine returnsInHanded_of_change (C := Try.checked) own started (by kernel_rfl) Try.func6
    (ChangeSpec.witness6 (enc := enc) (C := Try.checked) false ⟨#[], #[.agg #[.slice none 0 0, .int .i64 0], .int .i64 0], []⟩ 8 (by kernel_rfl) (by kernel_rfl) (by kernel_rfl) (by kernel_rfl)) ?_
  intro W base args ds gs before hval0 hW hcnd _
  have hval : ∀ (j : Nat) t v, Try.f6.params[j]? = some t → args[j]? = some v → Value.okWide Try.prog W .any base t v := hval0
  have hW' := hW
  obtain ⟨p, q, hA0, hV, rfl, hfz, hnd⟩ := hW
  have hA : DataW.TrodAll enc Try.prog W 0 (fun _ => true) true Try.f6.params.toList args.toList ds p := hA0
  rw [Try.params6] at hA hval
  obtain ⟨v0, vs0, d0, ds0, p0, q0, hargs, rfl, rfl, h0, r0⟩ := trodAll_cons hA
  obtain ⟨v1, vs1, d1, ds1, p1, q1, rfl, rfl, rfl, h1, r1⟩ := trodAll_cons r0
  obtain ⟨rfl, rfl, rfl⟩ := trodAll_nil r1
  obtain rfl : args = #[v0, v1] := by cases args; simp_all
  obtain ⟨rfl, rfl⟩ := trodVars_none hV
  have k0 := h0
  have lt0 : ∀ x ∈ p0, x.block < W.heap.size := by obtain ⟨m, hm⟩ := k0; exact DataW.trod_lt m _ _ _ hm
  obtain ⟨f00, f01, y00, y01, m0, rfl, rfl, rfl, hy00, hy01⟩ := open_agg2 Try.underlying33 (by kernel_rfl) cellsT (hval 0 33 v0 rfl rfl) h0
  obtain ⟨a0, len0, cap0, e00⟩ := slice_form Try.underlying22 hy00
  simp only [List.cons.injEq, and_true] at e00
  subst e00
  obtain ⟨z0, r_0⟩ : ∃ zs, Il.Raw W a0 len0 zs := Il.rd_open hy00
  obtain ⟨c0, e01, e02, u0⟩ := DataW.trod_int Try.underlying3 hy01
  obtain ⟨e01, -⟩ : f01 = .int .i64 c0 ∧ True := by simpa using e01
  subst e01
  obtain ⟨a1, rfl, rfl, rfl, w1⟩ := open_int Try.underlying3 (hval 1 3 v1 rfl rfl) h1
  clear hA0 hval0
  simp only [List.append_nil] at hW'
  refine (walk a0 len0 cap0 c0 z0 a1 u0 w1 W r_0).mono fun e W' ⟨he, hg⟩ => ?_
  subst he
  exact ⟨_, rfl, _, _, _, [], _, [], hW', trodAll_mk1 (shut_bool Try.underlying4 _), (trodAll_cons_mk (Below.trod laidOut (by kernel_rfl) (of_decide_eq_true (by kernel_rfl)) k0 hg lt0) (trodAll_cons_mk (shut_int Try.underlying3 w1) trodAll_mk0)), rfl, hg.frame _, fun h => by cases h⟩

theorem over : Rows.fnExactShelvesForRow.holds Try.pinned (OpenSpec.ofChange Rows.fnExactShelvesForSpec) :=
  OpenClaim.holds_of_wide 6 Try.f6 rfl rfl rfl rfl rfl rfl rfl ⟨rfl, rfl, rfl, rfl, rfl⟩ rfl rfl rfl rfl rfl (by kernel_rfl) Try.func6 (by kernel_rfl)
    (of_decide_eq_true (by kernel_rfl)) (by unfold Func.isWrapper; first | (rw [if_pos (by decide +kernel)]; kernel_rfl) | (rw [if_neg (by decide +kernel)]; exact ⟨rfl, rfl⟩))
    (fun os started H enc _ => lifted os started H enc)

/-- the statement -/
theorem proved : Rows.FnExactShelvesForSaid :=
  over
#print axioms proved
end Go.Proofs.Ytogkebbgkeffcab.fnExactShelvesFor
