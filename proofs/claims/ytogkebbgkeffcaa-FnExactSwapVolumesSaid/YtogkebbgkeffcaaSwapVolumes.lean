/- FnExactSwapVolumes is proved: spec.SwapVolumes and impl.SwapVolumes answer alike for every argument, the arguments are as they were, and the answer is memory of the call's own. No condition: for every input that the parameter types allow. -/
import Derived.Test.YtogkebbgkeffcaaRows
import Derived.WalkKit
import Derived.ProofKit
import Derived.OpenShut
import Derived.Below
import Derived.Lib.SmallJoins
import Derived.Carry
import Derived.Test.YtogkebbgkeffcaaLsw
import Derived.Deep.RegionHeld3
namespace Go.Proofs.Ytogkebbgkeffcaa.fnExactSwapVolumes
open Go.ChangeShapes Go.WideShapes Go.ChangeAt Go.RowKit Go.Joins
set_option linter.unusedVariables false
set_option linter.unusedSimpArgs false

theorem own : ownKnob Try.prog.godebug = none := by kernel_rfl
theorem laidOut : laidOutB Try.prog = true := by kernel_rfl
theorem cellsT : Try.prog.cellsOf 24 = 2 := by kernel_rfl
theorem keep_apart {W w1 : World} {v : Value} {n base g : Nat} {xs : List Value} (h : w1.ownsRow base 3 1 v n xs) (hg : g < base ∨ w1.heap.size ≤ g) : v.ownBlock = none ∨ v.ownBlock ≠ some g := by
  cases hv : v.ownBlock with
  | none => exact _root_.Or.inl rfl
  | some q => exact _root_.Or.inr (fun e => by injection e with e; have a := h.lt q hv; omega)
theorem b2_grown {W W' : World} {b : Nat} {x y : Value} {row : Option Nat} (h : Sh.B2 W b x y) (hg : W.grownBy W' row) (hr : row ≠ some b) : Sh.B2 W' b x y :=
  ⟨Nat.lt_of_lt_of_le h.1 hg.size, (World.cell?_of_block (w := W) (hg.block b h.1 (fun e => hr e.symm))).trans h.2.1, (World.cell?_of_block (w := W) (hg.block b h.1 (fun e => hr e.symm))).trans h.2.2⟩
set_option maxRecDepth 100000 in
set_option maxHeartbeats 2000000 in
theorem core (a0 : Option Addr) (len0 cap0 : Nat) (c0 : Int) (zs : List Int) (a1 : Int) (a2 : Int) (w : World) (ok : Bool) (os : List Int) (cc : Int) (ho : os.length ≤ 1048576) (hc : Il.Came w (.slice a0 len0 cap0) len0 zs)
    (hs : ∀ (W : World) (b1 g : Nat), Sh.Ow W b1 g len0 len0 zs → Calls Try.prog 38 #[Sh.V g len0 len0 c0, .int .i64 a1, .int .i64 a2] W (Swp.Gv ok os cc W))
    (hi : ∀ (W : World) (b1 g : Nat), Sh.Ow W b1 g len0 len0 zs → Calls Try.prog 39 #[Sh.V g len0 len0 c0, .int .i64 a1, .int .i64 a2] W (Swp.Gv ok os cc W)) :
    Calls Try.prog 11 #[.agg #[.slice a0 len0 cap0, .int .i64 c0], .int .i64 a1, .int .i64 a2] w fun e w' => e = .returned (.bool true) ∧ Below w.heap.size w w' := by
  have hl := hc.2.1
  have HS := Lib.hid hs
  have HI := Lib.hid hi
  have HC := Lib.hid hc
  have HL := Lib.hid hl
  have hl2 : (0 : Int) ≤ os.length := by omega
  have hl3 : (os.length : Int) ≤ 1048576 := by omega
  have hn2 : (0 : Int) ≤ len0 := by omega
  have hn3 : (len0 : Int) ≤ 1048576 := by omega
  have t1 : decide ((1048576 : Int) - (len0 : Int) < 0) = false := by simp; omega
  clear hs hi hc hl
  have B := Sh.B2.new w (.slice a0 len0 cap0) (.int .i64 c0) 24
  go_enter Try.func11, Try.ntmps11
  go_wp2_with fail
  refine (Sh.sz_yes a0 len0 cap0 c0 HL.out _).mono ?_
  rintro e w1 ⟨rfl, hb⟩
  have HB := Lib.hid ((below_alloc1 w _).trans (Sh.below_le hb (by simp)))
  replace B := B.on hb
  obtain ⟨hwlt, q0, q1⟩ := id B
  have HWL := Lib.hid hwlt
  clear hb hwlt
  go_wp2_with fail
  refine (Sh.toShelf_any (HC.out.on HB.out)).mono ?_
  rintro e w2 ⟨g1, rfl, o1, hb⟩
  have HB2 := Lib.hid (HB.out.trans (Sh.below_le hb HB.out.size))
  have HS2 := Lib.hid hb.size
  replace B := B.on hb
  clear q0 q1 hb HB
  obtain ⟨_, q0, q1⟩ := id B
  go_wp2_with fail
  refine (HS.out _ _ _ o1).mono ?_
  rintro e w3 ⟨v3, rfl, s3a, hb⟩
  obtain ⟨p3, cp3, rfl⟩ := Swp.own_slice s3a
  have HB := Lib.hid (HB2.out.trans (Sh.below_le hb HB2.out.size))
  have HBa := Lib.hid (HB.out.alloc HB.out.size (.cells #[.slice p3 os.length cp3, .int .i64 cc] 27))
  have HS3 := Lib.hid hb.size
  have s3 := World.ownsRow.alloc s3a (.cells #[.slice p3 os.length cp3, .int .i64 cc] 27)
  have WB := Sh.B2.new w3 (.slice p3 os.length cp3) (.int .i64 cc) 27
  replace B := B.on hb
  clear q0 q1 hb HB2 o1 s3a HB
  obtain ⟨hlt3, q0, q1⟩ := id B
  go_wp2_with fail
  refine (Sh.toShelf_any (HC.out.on HBa.out)).mono ?_
  rintro e w4 ⟨g2, rfl, o2, hb⟩
  have HB2 := Lib.hid (HBa.out.trans (Sh.below_le hb HBa.out.size))
  have HS4 := Lib.hid (show w3.heap.size + 1 ≤ w4.heap.size by have := hb.size; simpa using this)
  have HG2 := Lib.hid (Sh.ow_lt o2)
  have HG3 := Lib.hid (show w3.heap.size + 1 ≤ g2 by have := HG2.out.1; simpa using this)
  have HA := Lib.hid (keep_apart (W := w) s3 (_root_.Or.inr HG2.out.1))
  have HV3 := Lib.hid (show ∀ k, (Value.slice p3 os.length cp3).ownBlock = some k → k < w3.heap.size + 1 from fun k hk => by have := (s3.lt k hk).2; simpa using this)
  have s4 := Li.own_on s3 hb
  replace B := (B.on (below_alloc1 w3 _)).on hb
  replace WB := WB.on hb
  clear q0 q1 hb HBa s3 hlt3
  obtain ⟨hlt4, q0, q1⟩ := id B
  go_wp2_with fail
  refine (HI.out _ _ _ (o2.alloc _)).mono ?_
  rintro e w5 ⟨v5, rfl, i5a, hb⟩
  obtain ⟨p5, cp5, rfl⟩ := Swp.own_slice i5a
  have HB5B := Lib.hid (keep_apart (W := w) (g := g2) i5a (_root_.Or.inl (by have := HG2.out.2; simp; omega)))
  have HV5 := Lib.hid (show ∀ k, (Value.slice p5 os.length cp5).ownBlock = some k → w4.heap.size + 1 ≤ k ∧ k < w5.heap.size from fun k hk => by have := i5a.lt k hk; simpa using this)
  have HD := Lib.hid (show ((Value.slice p3 os.length cp3).ownBlock = none ∨ (Value.slice p3 os.length cp3).ownBlock ≠ (Value.slice p5 os.length cp5).ownBlock) by
    cases h : (Value.slice p3 os.length cp3).ownBlock with
    | none => exact _root_.Or.inl rfl
    | some q => exact _root_.Or.inr (fun e => by have a := HV3.out q h; have b := (HV5.out q e.symm).1; have := HS4.out; omega))
  have hb45 : Below w4.heap.size w4 w5 := (below_alloc1 w4 _).trans (Sh.below_le hb (by simp))
  have HS5 := Lib.hid hb45.size
  have HB := Lib.hid (HB2.out.trans (Sh.below_le hb45 HB2.out.size))
  have HBa := Lib.hid (HB.out.alloc HB.out.size (.cells #[.slice p5 os.length cp5, .int .i64 cc] 27))
  have X := (Sh.B2.new w4 (.slice (some ⟨g2, 0, none⟩) len0 len0) (.int .i64 c0) 27).on hb
  have G := Sh.B2.new w5 (.slice p5 os.length cp5) (.int .i64 cc) 27
  replace B := B.on hb45
  replace WB := WB.on hb45
  have s5 := World.ownsRow.alloc (Li.own_on s4 hb45) (.cells #[.slice p5 os.length cp5, .int .i64 cc] 27)
  have i5 := World.ownsRow.alloc i5a (.cells #[.slice p5 os.length cp5, .int .i64 cc] 27)
  have HO := Lib.hid (World.ownsRow.alloc (Li.own_on o2 hb45) (.cells #[.slice p5 os.length cp5, .int .i64 cc] 27))
  clear q0 q1 hb hb45 HB2 o2 s4 i5a hlt4
  obtain ⟨hltw, r0', r1'⟩ := id WB
  go_wp2_with fail
  refine (Swp.eqS_own i5 s5 ho).mono ?_
  rintro e w6 ⟨rfl, hb⟩
  have HB6 := Lib.hid (HBa.out.trans (Sh.below_le hb HBa.out.size))
  have HO6 := Lib.hid (Li.own_on HO.out hb)
  have s6 := Li.own_on s5 hb
  have i6 := Li.own_on i5 hb
  replace B := (B.on (below_alloc1 w5 _)).on hb
  replace X := (X.on (below_alloc1 w5 _)).on hb
  replace WB := (WB.on (below_alloc1 w5 _)).on hb
  replace G := G.on hb
  clear hb s5 i5 HB HBa HO r0' r1' hltw
  obtain ⟨b0, hb0⟩ : ∃ b0, w4.heap.size = b0 := ⟨_, rfl⟩
  rw [hb0] at X
  obtain ⟨_, x0', x1'⟩ := id X
  obtain ⟨_, q0, q1⟩ := id B
  go_wp2_with fail
  try simp only [hb0]
  have HX0 := Lib.hid hb0
  clear hb0
  have CT := Lib.hid (fun (W : World) (hw : Below w6.heap.size w6 W) => Sh.toShelf_any (c := c0) (cap := cap0) (HC.out.on (HB6.out.trans (Sh.below_le hw HB6.out.size))))
  have CE := Lib.hid (fun (W : World) (b2 g' : Nat) (hw : Below w6.heap.size w6 W) (h' : Sh.Ow W b2 g' len0 len0 zs) => Sh.eqShelf_own (c := c0) (Li.own_on HO6.out hw) h' HL.out)
  have HGB := Lib.hid G
  have HWB := Lib.hid WB
  clear G WB
  go_region_held3 (fun w' => w'.cell? ⟨b0, 0, none⟩ = some (.slice (some ⟨g2, 0, none⟩) len0 len0) ∧ w'.cell? ⟨b0, 1, none⟩ = some (.int .i64 c0) ∧ w'.cell? ⟨w.heap.size, 0, none⟩ = some (.slice a0 len0 cap0) ∧ w'.cell? ⟨w.heap.size, 1, none⟩ = some (.int .i64 c0))
    (first | exact ⟨x0', x1', q0, q1⟩ | exact ⟨p0, p1, p2, p3'⟩ | exact ⟨t0, t1', t2, t3⟩ | go_keep)
    (first
      | (go_at_call 17; refine (CT.out _ (Below.refl w6.heap.size w6).drew).mono ?_; rintro e w7 ⟨g3, rfl, o3, hb6⟩; have BX := X.drew.on hb6; have BB := B.drew.on hb6; obtain ⟨-, p0, p1⟩ := id BX; obtain ⟨-, p2, p3'⟩ := id BB)
      | (go_at_call 19; refine (CE.out _ _ _ ((Below.refl w6.heap.size w6).drew.trans (Sh.below_le hb6 (Nat.le_refl _))) o3).mono ?_; rintro e w8 ⟨rfl, hb7⟩; have BX2 := BX.on hb7; have BB2 := BB.on hb7; obtain ⟨-, t0, t1'⟩ := id BX2; obtain ⟨-, t2, t3⟩ := id BB2))
  have hb68 : Below w6.heap.size w6 w8 := (Below.refl w6.heap.size w6).drew.trans (Sh.below_le (hb6.trans (Sh.below_le hb7 hb6.size)) (Nat.le_refl _))
  have HB8 := Lib.hid (HB6.out.trans (Sh.below_le hb68 HB6.out.size))
  have s8 := Li.own_on s6 hb68
  have i8 := Li.own_on i6 hb68
  have HO8 := Lib.hid (Li.own_on HO6.out hb68)
  have G8 := Lib.hid (HGB.out.on hb68)
  have WB8 := Lib.hid (HWB.out.on hb68)
  clear hb6 hb7 B X BX BB p0 p1 p2 p3' t0 t1' t2 t3 q0 q1 x0' x1' o3 hb68 s6 i6 HO6 HB6 HGB HWB
  have HBX := Lib.hid BX2
  have HBB := Lib.hid BB2
  obtain ⟨-, x0', x1'⟩ := id BX2
  clear BX2 BB2
  go_wp2_with fail
  refine (Sh.markShelf_own HO8.out (by exact HG2.out.1) HL.out).mono ?_
  rintro e w9 ⟨rfl, om, gw⟩
  have s9 := s8.kept gw HA.out
  have i9 := i8.kept gw HB5B.out
  have HB9 := Lib.hid (HB8.out.grown gw HB8.out.size (fun j hj => by injection hj with hj; have := HG3.out; have := HWL.out; have := HS2.out; have := HS3.out; omega))
  have HBB9 := Lib.hid (b2_grown HBB.out gw (fun e => by injection e with e; have := HG3.out; have := HWL.out; have := HS2.out; have := HS3.out; omega))
  have WB9 := b2_grown WB8.out gw (fun e => by injection e with e; have := HG3.out; omega)
  have G9 := b2_grown G8.out gw (fun e => by injection e with e; have := HG2.out.2; have := HS5.out; omega)
  clear gw om s8 i8 HB8 HBB HBX HO8 x0' x1' WB8 G8
  obtain ⟨-, r0', r1'⟩ := id WB9
  obtain ⟨-, y0', y1'⟩ := id G9
  go_wp2_with fail
  refine (Swp.eqS_own i9 s9 ho).mono ?_
  rintro e w10 ⟨rfl, hb⟩
  have s10 := Li.own_on s9 hb
  have i10 := Li.own_on i9 hb
  have HB10 := Lib.hid (HB9.out.trans (Sh.below_le hb HB9.out.size))
  have HBB10 := Lib.hid (HBB9.out.on hb)
  have WB10 := Lib.hid (WB9.on hb)
  have G10 := G9.on hb
  clear hb s9 i9 HB9 HBB9 r0' r1' y0' y1' WB9 G9
  obtain ⟨-, y0', y1'⟩ := id G10
  go_wp2_with fail
  refine (Swp.markS_own i10 ho).mono ?_
  rintro e w11 ⟨rfl, m11, gm⟩
  have s11 := s10.kept gm HD.out
  have HB11 := Lib.hid (HB10.out.grown gm HB10.out.size (fun j hj => by have := (HV5.out j hj).1; have := HWL.out; have := HS2.out; have := HS3.out; have := HS4.out; omega))
  have HBB11 := Lib.hid (b2_grown HBB10.out gm (fun e => by have := (HV5.out _ e).1; have := HWL.out; have := HS2.out; have := HS3.out; have := HS4.out; omega))
  have WB11 := Lib.hid (b2_grown WB10.out gm (fun e => by have := (HV5.out _ e).1; have := HS4.out; omega))
  have G11 := b2_grown G10 gm (fun e => by have := (HV5.out _ e).2; omega)
  clear gm s10 i10 HB10 HBB10 WB10 G10 y0' y1'
  obtain ⟨-, y0', y1'⟩ := id G11
  go_wp2_with fail
  refine (Swp.heldS_own m11 ho).mono ?_
  rintro e w12 ⟨rfl, hb⟩
  have s12 := Li.own_on s11 hb
  have m12 := Li.own_on m11 hb
  have HBB12 := HBB11.out.on hb
  have HB12 := Lib.hid (HB11.out.trans (Sh.below_le hb HB11.out.size))
  have WB12 := Lib.hid (WB11.out.on hb)
  have G12 := Lib.hid (G11.on hb)
  clear hb s11 m11 HBB11 HB11 WB11 G11 y0' y1'
  obtain ⟨-, q0, q1⟩ := id HBB12
  go_wp2_with fail
  refine (Sh.toShelf_any (HC.out.on HB12.out)).mono ?_
  rintro e w13 ⟨g4, rfl, o4, hb⟩
  have s13 := Li.own_on s12 hb
  have m13 := Li.own_on m12 hb
  have HB13 := Lib.hid (HB12.out.trans (Sh.below_le hb HB12.out.size))
  have WB13 := Lib.hid (WB12.out.on hb)
  have G13 := Lib.hid (G12.out.on hb)
  clear hb s12 m12 HB12 HBB12 q0 q1 WB12 G12
  go_wp2_with fail
  refine (HI.out _ _ _ o4).mono ?_
  rintro e w14 ⟨v14, rfl, i14a, hb⟩
  obtain ⟨p14, cp14, rfl⟩ := Swp.own_slice i14a
  have s14 := World.ownsRow.alloc (Li.own_on s13 hb) (.cells #[.slice p14 os.length cp14, .int .i64 cc] 27)
  have m14 := World.ownsRow.alloc (Li.own_on m13 hb) (.cells #[.slice p14 os.length cp14, .int .i64 cc] 27)
  have i14 := World.ownsRow.alloc i14a (.cells #[.slice p14 os.length cp14, .int .i64 cc] 27)
  have HB14 := Lib.hid (HB13.out.trans (Sh.below_le hb HB13.out.size))
  have HB14a := Lib.hid (HB14.out.alloc HB14.out.size (.cells #[.slice p14 os.length cp14, .int .i64 cc] 27))
  have WB14 := WB13.out.on hb
  have G14 := Lib.hid (G13.out.on hb)
  clear hb s13 m13 HB13 o4 i14a WB13 G13 HB14
  obtain ⟨hltw, r0', r1'⟩ := id WB14
  go_wp2_with fail
  refine (Swp.eqS_own i14 s14 ho).mono ?_
  rintro e w15 ⟨rfl, hb⟩
  have m15 := Li.own_on m14 hb
  have HB15 := Lib.hid (HB14a.out.trans (Sh.below_le hb HB14a.out.size))
  have G15 := (G14.out.on (below_alloc1 w14 _)).on hb
  clear hb m14 s14 i14 HB14a WB14 G14 r0' r1' hltw
  obtain ⟨-, y0', y1'⟩ := id G15
  go_wp2_with fail
  refine (Swp.heldS_own m15 ho).mono ?_
  rintro e w16 ⟨rfl, hb⟩
  have HB16 := Lib.hid (HB15.out.trans (Sh.below_le hb HB15.out.size))
  clear hb m15 HB15 G15 y0' y1'
  go_wp2
  go_ret
  exact ⟨rfl, HB16.out⟩
theorem long (a0 : Option Addr) (len0 cap0 : Nat) (c0 : Int) (a1 : Int) (a2 : Int) (hl : ¬ len0 ≤ 1048576) (hm : len0 ≤ maxLen) (w : World) :
    Calls Try.prog 11 #[.agg #[.slice a0 len0 cap0, .int .i64 c0], .int .i64 a1, .int .i64 a2] w fun e w' => e = .returned (.bool true) ∧ Below w.heap.size w w' := by
  have HL := Lib.hid hl
  have HM := Lib.hid hm
  clear hl hm
  go_enter Try.func11, Try.ntmps11
  go_wp2_with fail
  refine (Sh.sz_no a0 len0 cap0 c0 HL.out HM.out _).mono ?_
  rintro e w1 ⟨rfl, hb⟩
  have HB := Lib.hid ((below_alloc1 w _).trans (Sh.below_le hb (by simp)))
  clear hb
  go_wp2
  go_ret
  exact ⟨rfl, HB.out⟩

/-! the walk -/
theorem walk (a0 : Option Addr) (len0 cap0 : Nat) (c0 : Int) (z0 : List Int) (a1 : Int) (a2 : Int) (u0 : (Lit.int .i64 c0).wf = true) (w1 : (Lit.int .i64 a1).wf = true) (w2 : (Lit.int .i64 a2).wf = true) (w : World) (r0 : Il.Raw w a0 len0 z0) :
    Calls Try.prog 11 #[.agg #[.slice a0 len0 cap0, .int .i64 c0], .int .i64 a1, .int .i64 a2] w fun e w' => e = .returned (.bool true) ∧ Below w.heap.size w w' := by
  by_cases hl : len0 ≤ 1048576
  · have hc := r0.came (cap := cap0) hl
    exact core a0 len0 cap0 c0 z0 a1 a2 w (Sh.both z0 c0 a1 && Sh.both z0 c0 a2) (Swp.osOf z0 c0 a1 a2) (Swp.cOf z0 c0 a1 a2) (Swp.os_len z0 c0 a1 a2 (by rw [hc.1]; exact hl)) hc (fun W b1 g h => Swp.s_fn h hl a1 a2) (fun W b1 g h => Swp.i_fn h hl a1 a2)
  · exact long a0 len0 cap0 c0 a1 a2 hl r0.2.1 w

/-! the row's step -/
set_option maxRecDepth 100000 in
theorem lifted (os : Os) (started : os.Started) (H : Type) (enc : TypeId × Value → H) :
    ReturnsInHanded {} Try.checked os 11 .any (Rows.fnExactSwapVolumesSpec.pre6 enc Try.prog Try.f11 Rows.fnExactSwapVolumesRow.domain false) (Rows.fnExactSwapVolumesSpec.post enc Try.prog Try.f11 false true false false) := by
  refine returnsInHanded_of_change (C := Try.checked) own started (by kernel_rfl) Try.func11
    (ChangeSpec.witness6 (enc := enc) (C := Try.checked) false ⟨#[], #[.agg #[.slice none 0 0, .int .i64 0], .int .i64 0, .int .i64 0], []⟩ 8 (by kernel_rfl) (by kernel_rfl) (by kernel_rfl) (by kernel_rfl)) ?_
  intro W base args ds gs before hval0 hW hcnd _
  have hval : ∀ (j : Nat) t v, Try.f11.params[j]? = some t → args[j]? = some v → Value.okWide Try.prog W .any base t v := hval0
  have hW' := hW
  obtain ⟨p, q, hA0, hV, rfl, hfz, hnd⟩ := hW
  have hA : DataW.TrodAll enc Try.prog W 0 (fun _ => true) true Try.f11.params.toList args.toList ds p := hA0
  rw [Try.params11] at hA hval
  obtain ⟨v0, vs0, d0, ds0, p0, q0, hargs, rfl, rfl, h0, r0⟩ := trodAll_cons hA
  obtain ⟨v1, vs1, d1, ds1, p1, q1, rfl, rfl, rfl, h1, r1⟩ := trodAll_cons r0
  obtain ⟨v2, vs2, d2, ds2, p2, q2, rfl, rfl, rfl, h2, r2⟩ := trodAll_cons r1
  obtain ⟨rfl, rfl, rfl⟩ := trodAll_nil r2
  obtain rfl : args = #[v0, v1, v2] := by cases args; simp_all
  obtain ⟨rfl, rfl⟩ := trodVars_none hV
  have k0 := h0
  have lt0 : ∀ x ∈ p0, x.block < W.heap.size := by obtain ⟨m, hm⟩ := k0; exact DataW.trod_lt m _ _ _ hm
  obtain ⟨f00, f01, y00, y01, m0, rfl, rfl, rfl, hy00, hy01⟩ := open_agg2 Try.underlying24 (by kernel_rfl) cellsT (hval 0 24 v0 rfl rfl) h0
  obtain ⟨a0, len0, cap0, e00⟩ := slice_form Try.underlying22 hy00
  simp only [List.cons.injEq, and_true] at e00
  subst e00
  obtain ⟨z0, r_0⟩ : ∃ zs, Il.Raw W a0 len0 zs := Il.rd_open hy00
  obtain ⟨c0, e01, e02, u0⟩ := DataW.trod_int Try.underlying3 hy01
  obtain ⟨e01, -⟩ : f01 = .int .i64 c0 ∧ True := by simpa using e01
  subst e01
  obtain ⟨a1, rfl, rfl, rfl, w1⟩ := open_int Try.underlying3 (hval 1 3 v1 rfl rfl) h1
  obtain ⟨a2, rfl, rfl, rfl, w2⟩ := open_int Try.underlying3 (hval 2 3 v2 rfl rfl) h2
  clear hA0 hval0
  simp only [List.append_nil] at hW'
  refine (walk a0 len0 cap0 c0 z0 a1 a2 u0 w1 w2 W r_0).mono fun e W' ⟨he, hg⟩ => ?_
  subst he
  exact ⟨_, rfl, _, _, _, [], _, [], hW', trodAll_mk1 (shut_bool Try.underlying4 _), (trodAll_cons_mk (Below.trod laidOut (by kernel_rfl) (of_decide_eq_true (by kernel_rfl)) k0 hg lt0) (trodAll_cons_mk (shut_int Try.underlying3 w1) (trodAll_cons_mk (shut_int Try.underlying3 w2) trodAll_mk0))), rfl, hg.frame _, fun h => by cases h⟩

theorem over : Rows.fnExactSwapVolumesRow.holds Try.pinned (OpenSpec.ofChange Rows.fnExactSwapVolumesSpec) :=
  OpenClaim.holds_of_wide 11 Try.f11 rfl rfl rfl rfl rfl rfl rfl ⟨rfl, rfl, rfl, rfl, rfl⟩ rfl rfl rfl rfl rfl (by kernel_rfl) Try.func11 (by kernel_rfl)
    (of_decide_eq_true (by kernel_rfl)) (by unfold Func.isWrapper; first | (rw [if_pos (by decide +kernel)]; kernel_rfl) | (rw [if_neg (by decide +kernel)]; exact ⟨rfl, rfl⟩))
    (fun os started H enc _ => lifted os started H enc)

/-- the statement -/
theorem proved : Rows.FnExactSwapVolumesSaid :=
  over
#print axioms proved
end Go.Proofs.Ytogkebbgkeffcaa.fnExactSwapVolumes
