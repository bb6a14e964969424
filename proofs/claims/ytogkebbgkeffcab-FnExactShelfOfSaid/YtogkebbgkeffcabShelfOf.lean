/- FnExactShelfOf is proved: spec.ShelfOf and impl.ShelfOf answer alike for every argument, the arguments are as they were, and the answer is memory of the call's own. No condition: for every input that the parameter types allow. -/
import Derived.Test.YtogkebbgkeffcabRows
import Derived.WalkKit
import Derived.ProofKit
import Derived.OpenShut
import Derived.Below
import Derived.Lib.SmallJoins
import Derived.Carry
import Derived.Test.YtogkebbgkeffcabOfl
import Derived.Deep.RegionHeld3
namespace Go.Proofs.Ytogkebbgkeffcab.fnExactShelfOf
open Go.ChangeShapes Go.WideShapes Go.ChangeAt Go.RowKit Go.Joins
set_option linter.unusedVariables false
set_option linter.unusedSimpArgs false

theorem own : ownKnob Try.prog.godebug = none := by kernel_rfl
theorem laidOut : laidOutB Try.prog = true := by kernel_rfl
theorem cellsT : Try.prog.cellsOf 33 = 2 := by kernel_rfl
theorem keep_apart {W w1 : World} {v : Value} {n base g : Nat} {xs : List Value} (h : w1.ownsRow base 3 1 v n xs) (hg : g < base ∨ w1.heap.size ≤ g) : v.ownBlock = none ∨ v.ownBlock ≠ some g := by
  cases hv : v.ownBlock with
  | none => exact _root_.Or.inl rfl
  | some q => exact _root_.Or.inr (fun e => by injection e with e; have a := h.lt q hv; omega)
theorem b2_grown {W W' : World} {b : Nat} {x y : Value} {row : Option Nat} (h : Sh.B2 W b x y) (hg : W.grownBy W' row) (hr : row ≠ some b) : Sh.B2 W' b x y :=
  ⟨Nat.lt_of_lt_of_le h.1 hg.size, (World.cell?_of_block (w := W) (hg.block b h.1 (fun e => hr e.symm))).trans h.2.1, (World.cell?_of_block (w := W) (hg.block b h.1 (fun e => hr e.symm))).trans h.2.2⟩
set_option maxRecDepth 100000 in
set_option maxHeartbeats 2000000 in
theorem core (a0 : Option Addr) (len0 cap0 : Nat) (c0 : Int) (zs : List Int) (a1 : Int) (w : World) (ok : Bool) (os : List Int) (ho : os.length ≤ 1048576) (hc : Il.Came w (.slice a0 len0 cap0) len0 zs)
    (hs : ∀ (W : World) (b1 g : Nat), Sh.Ow W b1 g len0 len0 zs → Calls Try.prog 24 #[Sh.V g len0 len0 c0, .int .i64 a1] W (Li.Gives ok os W))
    (hi : ∀ (W : World) (b1 g : Nat), Sh.Ow W b1 g len0 len0 zs → Calls Try.prog 25 #[Sh.V g len0 len0 c0, .int .i64 a1] W (Li.Gives ok os W)) :
    Calls Try.prog 7 #[.agg #[.slice a0 len0 cap0, .int .i64 c0], .int .i64 a1] w fun e w' => e = .returned (.bool true) ∧ Below w.heap.size w w' := by
  have hl := hc.2.1
  have HS := Lib.hid hs
  have HI := Lib.hid hi
  have HC := Lib.hid hc
  have HL := Lib.hid hl
  have hl2 : (0 : Int) ≤ os.length := by omega
  have hl3 : (os.length : Int) ≤ 1048576 := by omega
  have hn2 : (0 : Int) ≤ len0 := by omega
  have hn3 : (len0 : Int) ≤ 1048576 := by omega
  have t1 : decide ((1048576 : Int) - (len0 : Int) < 0) = false := by simp; omega
  clear hs hi hc hl
  have B := Sh.B2.new w (.slice a0 len0 cap0) (.int .i64 c0) 33
  go_enter Try.func7, Try.ntmps7
  go_wp2_with fail
  refine (Sh.sz_yes a0 len0 cap0 c0 HL.out _).mono ?_
  rintro e w1 ⟨rfl, hb⟩
  have HB := Lib.hid ((below_alloc1 w _).trans (Sh.below_le hb (by simp)))
  replace B := B.on hb
  obtain ⟨hwlt, q0, q1⟩ := id B
  have HWL := Lib.hid hwlt
  clear hb hwlt
  go_wp2_with fail
  refine (Sh.toShelf_any (HC.out.on HB.out)).mono ?_
  rintro e w2 ⟨g1, rfl, o1, hb⟩
  have HB2 := Lib.hid (HB.out.trans (Sh.below_le hb HB.out.size))
  have HS2 := Lib.hid hb.size
  replace B := B.on hb
  clear q0 q1 hb HB
  obtain ⟨_, q0, q1⟩ := id B
  go_wp2_with fail
  refine (HS.out _ _ _ o1).mono ?_
  rintro e w3 ⟨v3, rfl, s3, hb⟩
  have HB := Lib.hid (HB2.out.trans (Sh.below_le hb HB2.out.size))
  have HS3 := Lib.hid hb.size
  replace B := B.on hb
  clear q0 q1 hb HB2 o1
  obtain ⟨_, q0, q1⟩ := id B
  go_wp2_with fail
  refine (Sh.toShelf_any (HC.out.on HB.out)).mono ?_
  rintro e w4 ⟨g2, rfl, o2, hb⟩
  have HB2 := Lib.hid (HB.out.trans (Sh.below_le hb HB.out.size))
  have HS4 := Lib.hid hb.size
  have HG2 := Lib.hid (Sh.ow_lt o2)
  have HA := Lib.hid (keep_apart (W := w) s3 (_root_.Or.inr HG2.out.1))
  have HV3 := Lib.hid s3
  have s4 := Li.own_on s3 hb
  replace B := B.on hb
  clear q0 q1 hb HB s3
  obtain ⟨_, q0, q1⟩ := id B
  go_wp2_with fail
  refine (HI.out _ _ _ (o2.alloc _)).mono ?_
  rintro e w5 ⟨v5, rfl, i5, hb⟩
  have HB5B := Lib.hid (keep_apart (W := w) (g := g2) i5 (_root_.Or.inl (by have := HG2.out.2; simp; omega)))
  have HV5 := Lib.hid (show ∀ k, v5.ownBlock = some k → w.heap.size + 1 ≤ k from fun k hk => by have := (i5.lt k hk).1; have := HWL.out; have := HS2.out; have := HS3.out; have := HS4.out; simp at *; omega)
  have HD := Lib.hid (show (Value.ownBlock v3 = none ∨ v3.ownBlock ≠ v5.ownBlock) by
    cases h : v3.ownBlock with
    | none => exact _root_.Or.inl rfl
    | some q => exact _root_.Or.inr (fun e => by have a := (HV3.out.lt q h).2; have b := (i5.lt q e.symm).1; have := HS4.out; simp at b; omega))
  have hb45 : Below w4.heap.size w4 w5 := (below_alloc1 w4 _).trans (Sh.below_le hb (by simp))
  have HB := Lib.hid (HB2.out.trans (Sh.below_le hb45 HB2.out.size))
  have X := (Sh.B2.new w4 (.slice (some ⟨g2, 0, none⟩) len0 len0) (.int .i64 c0) 36).on hb
  replace B := B.on hb45
  have s5 := Li.own_on s4 hb45
  have HO := Lib.hid (Li.own_on o2 hb45)
  have HWX := Lib.hid (show g2 < w4.heap.size from HG2.out.2)
  clear q0 q1 hb hb45 HB2 o2 s4
  go_wp2_with fail
  refine (Li.eqIntS_own i5 s5 ho).mono ?_
  rintro e w6 ⟨rfl, hb⟩
  have HB6 := Lib.hid (HB.out.trans (Sh.below_le hb HB.out.size))
  have HO6 := Lib.hid (Li.own_on HO.out hb)
  have s6 := Li.own_on s5 hb
  have i6 := Li.own_on i5 hb
  replace B := B.on hb
  replace X := X.on hb
  clear hb s5 i5 HB HO
  obtain ⟨b0, hb0⟩ : ∃ b0, w4.heap.size = b0 := ⟨_, rfl⟩
  rw [hb0] at X
  have HX0 := Lib.hid hb0
  obtain ⟨_, x0', x1'⟩ := id X
  obtain ⟨_, q0, q1⟩ := id B
  go_wp2_with fail
  try simp only [hb0]
  clear hb0
  have CT := Lib.hid (fun (W : World) (hw : Below w6.heap.size w6 W) => Sh.toShelf_any (c := c0) (cap := cap0) (HC.out.on (HB6.out.trans (Sh.below_le hw HB6.out.size))))
  have CE := Lib.hid (fun (W : World) (b2 g' : Nat) (hw : Below w6.heap.size w6 W) (h' : Sh.Ow W b2 g' len0 len0 zs) => Sh.eqShelf_own (c := c0) (Li.own_on HO6.out hw) h' HL.out)
  go_region_held3 (fun w' => w'.cell? ⟨b0, 0, none⟩ = some (.slice (some ⟨g2, 0, none⟩) len0 len0) ∧ w'.cell? ⟨b0, 1, none⟩ = some (.int .i64 c0) ∧ w'.cell? ⟨w.heap.size, 0, none⟩ = some (.slice a0 len0 cap0) ∧ w'.cell? ⟨w.heap.size, 1, none⟩ = some (.int .i64 c0))
    (first | exact ⟨x0', x1', q0, q1⟩ | exact ⟨p0, p1, p2, p3⟩ | exact ⟨t0, t1', t2, t3⟩ | go_keep)
    (first
      | (go_at_call 21; refine (CT.out _ (Below.refl w6.heap.size w6).drew).mono ?_; rintro e w7 ⟨g3, rfl, o3, hb6⟩; have BX := X.drew.on hb6; have BB := B.drew.on hb6; obtain ⟨-, p0, p1⟩ := id BX; obtain ⟨-, p2, p3⟩ := id BB)
      | (go_at_call 23; refine (CE.out _ _ _ ((Below.refl w6.heap.size w6).drew.trans (Sh.below_le hb6 (Nat.le_refl _))) o3).mono ?_; rintro e w8 ⟨rfl, hb7⟩; have BX2 := BX.on hb7; have BB2 := BB.on hb7; obtain ⟨-, t0, t1'⟩ := id BX2; obtain ⟨-, t2, t3⟩ := id BB2))
  have hb68 : Below w6.heap.size w6 w8 := (Below.refl w6.heap.size w6).drew.trans (Sh.below_le (hb6.trans (Sh.below_le hb7 hb6.size)) (Nat.le_refl _))
  have HB8 := Lib.hid (HB6.out.trans (Sh.below_le hb68 HB6.out.size))
  have s8 := Li.own_on s6 hb68
  have i8 := Li.own_on i6 hb68
  have HO8 := Lib.hid (Li.own_on HO6.out hb68)
  clear hb6 hb7 B X BX BB p0 p1 p2 p3 t0 t1' t2 t3 q0 q1 x0' x1' o3 hb68 s6 i6 HO6 HB6
  have HBX := Lib.hid BX2
  have HBB := Lib.hid BB2
  obtain ⟨-, x0', x1'⟩ := id BX2
  clear BX2 BB2
  go_wp2_with fail
  refine (Sh.markShelf_own HO8.out (by have := HG2.out.1; exact HG2.out.1) HL.out).mono ?_
  rintro e w9 ⟨rfl, om, gw⟩
  have s9 := s8.kept gw HA.out
  have i9 := i8.kept gw HB5B.out
  have HB9 := Lib.hid (HB8.out.grown gw HB8.out.size (fun j hj => by injection hj with hj; have := HG2.out.1; have := HWL.out; have := HS2.out; have := HS3.out; omega))
  have HBB9 := Lib.hid (b2_grown HBB.out gw (fun e => by injection e with e; have := HG2.out.1; have := HWL.out; have := HS2.out; have := HS3.out; omega))
  clear gw om s8 i8 HB8 HBB HBX HO8 x0' x1'
  go_wp2_with fail
  refine (Li.eqIntS_own i9 s9 ho).mono ?_
  rintro e w10 ⟨rfl, hb⟩
  have s10 := Li.own_on s9 hb
  have i10 := Li.own_on i9 hb
  have HB10 := Lib.hid (HB9.out.trans (Sh.below_le hb HB9.out.size))
  have HBB10 := Lib.hid (HBB9.out.on hb)
  clear hb s9 i9 HB9 HBB9
  go_wp2_with fail
  refine (Li.markIntS_own i10 ho).mono ?_
  rintro e w11 ⟨rfl, m11, gm⟩
  have s11 := s10.kept gm HD.out
  have HB11 := Lib.hid (HB10.out.grown gm HB10.out.size (fun j hj => by have := HV5.out j hj; omega))
  have HBB11 := Lib.hid (b2_grown HBB10.out gm (fun e => by have := HV5.out _ e; omega))
  clear gm s10 i10 HB10 HBB10
  go_wp2_with fail
  refine (Li.heldIntS_own m11 ho).mono ?_
  rintro e w' ⟨rfl, rfl⟩
  obtain ⟨-, q0, q1⟩ := id HBB11.out
  go_wp2_with fail
  refine (Sh.toShelf_any (HC.out.on HB11.out)).mono ?_
  rintro e w12 ⟨g4, rfl, o4, hb⟩
  have s12 := Li.own_on s11 hb
  have m12 := Li.own_on m11 hb
  have HB12 := Lib.hid (HB11.out.trans (Sh.below_le hb HB11.out.size))
  clear hb s11 m11 HB11 HBB11 q0 q1
  go_wp2_with fail
  refine (HI.out _ _ _ o4).mono ?_
  rintro e w13 ⟨v13, rfl, i13, hb⟩
  have s13 := Li.own_on s12 hb
  have m13 := Li.own_on m12 hb
  have HB13 := Lib.hid (HB12.out.trans (Sh.below_le hb HB12.out.size))
  clear hb s12 m12 HB12 o4
  go_wp2_with fail
  refine (Li.eqIntS_own i13 s13 ho).mono ?_
  rintro e w14 ⟨rfl, hb⟩
  have m14 := Li.own_on m13 hb
  have HB14 := Lib.hid (HB13.out.trans (Sh.below_le hb HB13.out.size))
  clear hb m13 s13 i13 HB13
  go_wp2_with fail
  refine (Li.heldIntS_own m14 ho).mono ?_
  rintro e w' ⟨rfl, rfl⟩
  go_wp2
  go_ret
  exact ⟨rfl, HB14.out⟩
theorem long (a0 : Option Addr) (len0 cap0 : Nat) (c0 : Int) (a1 : Int) (hl : ¬ len0 ≤ 1048576) (hm : len0 ≤ maxLen) (w : World) :
    Calls Try.prog 7 #[.agg #[.slice a0 len0 cap0, .int .i64 c0], .int .i64 a1] w fun e w' => e = .returned (.bool true) ∧ Below w.heap.size w w' := by
  have HL := Lib.hid hl
  have HM := Lib.hid hm
  clear hl hm
  go_enter Try.func7, Try.ntmps7
  go_wp2_with fail
  refine (Sh.sz_no a0 len0 cap0 c0 HL.out HM.out _).mono ?_
  rintro e w1 ⟨rfl, hb⟩
  have HB := Lib.hid ((below_alloc1 w _).trans (Sh.below_le hb (by simp)))
  clear hb
  go_wp2
  go_ret
  exact ⟨rfl, HB.out⟩

/-! the walk -/
theorem walk (a0 : Option Addr) (len0 cap0 : Nat) (c0 : Int) (z0 : List Int) (a1 : Int) (u0 : (Lit.int .i64 c0).wf = true) (w1 : (Lit.int .i64 a1).wf = true) (w : World) (r0 : Il.Raw w a0 len0 z0) :
    Calls Try.prog 7 #[.agg #[.slice a0 len0 cap0, .int .i64 c0], .int .i64 a1] w fun e w' => e = .returned (.bool true) ∧ Below w.heap.size w w' := by
  by_cases hl : len0 ≤ 1048576
  · have hc := r0.came (cap := cap0) hl
    exact core a0 len0 cap0 c0 z0 a1 w (Sh.fit z0 c0 a1) (Sh.sfo z0 c0 a1) (Sh.sfo_le _ _ _ (by have := hc.1; omega)) hc (fun W b1 g h => Sh.sOf h hl a1) (fun W b1 g h => Sh.iOf h hl a1)
  · exact long a0 len0 cap0 c0 a1 hl r0.2.1 w

/-! the row's step -/
set_option maxRecDepth 100000 in
theorem lifted (os : Os) (started : os.Started) (H : Type) (enc : TypeId × Value → H) :
    ReturnsInHanded {} Try.checked os 7 .any (Rows.fnExactShelfOfSpec.pre6 enc Try.prog Try.f7 Rows.fnExactShelfOfRow.domain false) (Rows.fnExactShelfOfSpec.post enc Try.prog Try.f7 false true false false) := by
  refine returnsInHanded_of_change (C := Try.checked) own started (by kernel_rfl) Try.func7
    (ChangeSpec.witness6 (enc := enc) (C := Try.checked) false ⟨#[], #[.agg #[.slice none 0 0, .int .i64 0], .int .i64 0], []⟩ 8 (by kernel_rfl) (by kernel_rfl) (by kernel_rfl) (by kernel_rfl)) ?_
  intro W base args ds gs before hval0 hW hcnd _
  have hval : ∀ (j : Nat) t v, Try.f7.params[j]? = some t → args[j]? = some v → Value.okWide Try.prog W .any base t v := hval0
  have hW' := hW
  obtain ⟨p, q, hA0, hV, rfl, hfz, hnd⟩ := hW
  have hA : DataW.TrodAll enc Try.prog W 0 (fun _ => true) true Try.f7.params.toList args.toList ds p := hA0
  rw [Try.params7] at hA hval
  obtain ⟨v0, vs0, d0, ds0, p0, q0, hargs, rfl, rfl, h0, r0⟩ := trodAll_cons hA
  obtain ⟨v1, vs1, d1, ds1, p1, q1, rfl, rfl, rfl, h1, r1⟩ := trodAll_cons r0
  obtain ⟨rfl, rfl, rfl⟩ := trodAll_nil r1
  obtain rfl : args = #[v0, v1] := by cases args; simp_all
  obtain ⟨rfl, rfl⟩ := trodVars_none hV
  have k0 := h0
  have lt0 : ∀ x ∈ p0, x.block < W.heap.size := by obtain ⟨m, hm⟩ := k0; exact DataW.trod_lt m _ _ _ hm
  obtain ⟨f00, f01, y00, y01, m0, rfl, rfl, rfl, hy00, hy01⟩ := open_agg2 Try.underlying33 (by kernel_rfl) cellsT (hval 0 33 v0 rfl rfl) h0
  obtain ⟨a0, len0, cap0, e00⟩ := slice_form Try.underlying22 hy00
  simp only [List.cons.injEq, and_true] at e00
  subst e00
  obtain ⟨z0, r_0⟩ : ∃ zs, Il.Raw W a0 len0 zs := Il.rd_open hy00
  obtain ⟨c0, e01, e02, u0⟩ := DataW.trod_int Try.underlying3 hy01
  obtain ⟨e01, -⟩ : f01 = .int .i64 c0 ∧ True := by simpa using e01
  subst e01
  obtain ⟨a1, rfl, rfl, rfl, w1⟩ := open_int Try.underlying3 (hval 1 3 v1 rfl rfl) h1
  clear hA0 hval0
  simp only [List.append_nil] at hW'
  refine (walk a0 len0 cap0 c0 z0 a1 u0 w1 W r_0).mono fun e W' ⟨he, hg⟩ => ?_
  subst he
  exact ⟨_, rfl, _, _, _, [], _, [], hW', trodAll_mk1 (shut_bool Try.underlying4 _), (trodAll_cons_mk (Below.trod laidOut (by kernel_rfl) (of_decide_eq_true (by kernel_rfl)) k0 hg lt0) (trodAll_cons_mk (shut_int Try.underlying3 w1) trodAll_mk0)), rfl, hg.frame _, fun h => by cases h⟩

theorem over : Rows.fnExactShelfOfRow.holds Try.pinned (OpenSpec.ofChange Rows.fnExactShelfOfSpec) :=
  OpenClaim.holds_of_wide 7 Try.f7 rfl rfl rfl rfl rfl rfl rfl ⟨rfl, rfl, rfl, rfl, rfl⟩ rfl rfl rfl rfl rfl (by kernel_rfl) Try.func7 (by kernel_rfl)
    (of_decide_eq_true (by kernel_rfl)) (by unfold Func.isWrapper; first | (rw [if_pos (by decide +kernel)]; kernel_rfl) | (rw [if_neg (by decide +kernel)]; exact ⟨rfl, rfl⟩))
    (fun os started H enc _ => lifted os started H enc)

/-- the statement -/
theorem proved : Rows.FnExactShelfOfSaid :=
  over
#print axioms proved
end Go.Proofs.Ytogkebbgkeffcab.fnExactShelfOf
