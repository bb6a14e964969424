/- FnExactShelfText's walk: both texts are one. -/
import Derived.Test.YtkfoapidmockfabDoorItx
import Derived.Deep.RegionHeld3
namespace Go.Proofs.YtkfoapidmockfabDoor
open Go.RowKit Go.Joins Go.Deep Go.ChangeShapes Go.WideShapes
set_option linter.unusedVariables false
set_option linter.unusedSimpArgs false
namespace Sh
set_option maxRecDepth 100000 in
set_option maxHeartbeats 1000000 in
theorem sText_any {b1 g len cap : Nat} {zs : List Int} {c : Int} {w : World} (h : Ow w b1 g len cap zs) (hl : len ≤ 1048576) (ok : Bool) (hok : good zs c = ok) :
    Calls Tryd.prog 27 #[V g len cap c] w (Ret (res zs c ok) w) := by
  have HO0 := Lib.hid (Li.own_on h (below_alloc1 w (.cells #[.slice (some ⟨g, 0, none⟩) len cap, .int .i64 c] 45)))
  have CG := Lib.hid (sGood_any (c := c) HO0.out hl ok hok)
  cases ok
  · clear h
    go_enter Tryd.func27, Tryd.ntmps27
    go_wp2_with fail
    refine CG.out.mono ?_
    rintro e w' ⟨rfl, hb0⟩
    go_wp2_with fail
    go_ret2
    exact ⟨rfl, bs_out hb0⟩
  · have HK := Lib.hid ((good_iff zs c).1 hok)
    clear h hok
    go_enter Tryd.func27, Tryd.ntmps27
    go_wp2_with fail
    refine CG.out.mono ?_
    rintro e w0 ⟨rfl, hb0⟩
    have B0 := (B2.new w (.slice (some ⟨g, 0, none⟩) len cap) (.int .i64 c) 45).on hb0
    obtain ⟨_, q0, q1⟩ := id B0
    go_wp2_with fail
    refine (shText_any (Li.own_on HO0.out hb0) HK.out).mono ?_
    rintro e w1 ⟨rfl, hb1⟩
    go_wp2_with fail
    go_ret2
    exact ⟨rfl, bs_out (Li.below_next hb0 hb1)⟩
namespace Lst
set_option maxRecDepth 100000 in
set_option maxHeartbeats 1000000 in
theorem core (a0 : Option Addr) (len0 cap0 : Nat) (c0 : Int) (zs : List Int) (w : World) (s : ByteArray) (ok : Bool) (hT : TabOn w) (hc : Il.Came w (.slice a0 len0 cap0) len0 zs)
    (hs : ∀ (W : World) (b1 g : Nat), Sh.Ow W b1 g len0 len0 zs → Calls Tryd.prog 27 #[Sh.V g len0 len0 c0] W (Sh.Ret (.tuple #[.string s, .bool ok]) W))
    (hi : ∀ (W : World) (b1 g : Nat), TabOn W → Sh.Ow W b1 g len0 len0 zs → Calls Tryd.prog 29 #[Sh.V g len0 len0 c0] W (Sh.Ret (.tuple #[.string s, .bool ok]) W)) :
    Calls Tryd.prog 7 #[.agg #[.slice a0 len0 cap0, .int .i64 c0]] w fun e w' => e = .returned (.bool true) ∧ Below w.heap.size w w' := by
  have hl := hc.2.1
  have HS := Lib.hid hs
  have HT := Lib.hid hT
  have HI := Lib.hid hi
  have HC := Lib.hid hc
  have t1 : decide ((1048576 : Int) - (len0 : Int) < 0) = false := by simp; omega
  have HL := Lib.hid hl
  clear hs hi hc hl hT
  have B := Sh.B2.new w (.slice a0 len0 cap0) (.int .i64 c0) 42
  go_enter Tryd.func7, Tryd.ntmps7
  go_wp2_with fail
  refine (Sh.sz_yes a0 len0 cap0 c0 HL.out _).mono ?_
  rintro e w1 ⟨rfl, hb⟩
  have HB := Lib.hid ((below_alloc1 w _).trans (Sh.below_le hb (by simp)))
  replace B := B.on hb
  obtain ⟨_, q0, q1⟩ := id B
  clear hb
  go_wp2_with fail
  refine (Sh.toShelf_any (HC.out.on HB.out)).mono ?_
  rintro e w2 ⟨g1, rfl, o1, hb⟩
  have HB2 := Lib.hid (HB.out.trans (Sh.below_le hb HB.out.size))
  replace B := B.on hb
  clear q0 q1 hb HB
  obtain ⟨_, q0, q1⟩ := id B
  go_wp2_with fail
  refine (HS.out _ _ _ o1).mono ?_
  rintro e w3 ⟨rfl, hb⟩
  have HB := Lib.hid (HB2.out.trans (Sh.below_le hb HB2.out.size))
  replace B := B.on hb
  clear q0 q1 hb HB2 o1
  obtain ⟨_, q0, q1⟩ := id B
  go_wp2_with fail
  refine (Sh.toShelf_any (HC.out.on HB.out)).mono ?_
  rintro e w4 ⟨g2, rfl, o2, hb⟩
  have HB2 := Lib.hid (HB.out.trans (Sh.below_le hb HB.out.size))
  replace B := B.on hb
  clear q0 q1 hb HB
  obtain ⟨_, q0, q1⟩ := id B
  go_wp2_with fail
  refine (HI.out _ _ _ (fun W' h => HT.out W' ((HB2.out.trans (below_alloc1 w4 _ |> fun q => Sh.below_le q HB2.out.size)).trans (Sh.below_le h (by have := HB2.out.size; simp; omega)))) (o2.alloc _)).mono ?_
  rintro e w5 ⟨rfl, hb⟩
  have hb45 : Below w4.heap.size w4 w5 := (below_alloc1 w4 _).trans (Sh.below_le hb (by simp))
  have HB := Lib.hid (HB2.out.trans (Sh.below_le hb45 HB2.out.size))
  have X := (Sh.B2.new w4 (.slice (some ⟨g2, 0, none⟩) len0 len0) (.int .i64 c0) 45).on hb
  obtain ⟨_, x0', x1'⟩ := id X
  replace B := B.on hb45
  have HO := Lib.hid (Li.own_on o2 hb45)
  clear q0 q1 hb hb45 HB2 o2
  obtain ⟨_, q0, q1⟩ := id B
  go_wp2_with fail
  obtain ⟨b0, hb0⟩ : ∃ b0, w4.heap.size = b0 := ⟨_, rfl⟩
  rw [hb0] at x0' x1' X
  simp only [hb0]
  clear hb0
  have CT := Lib.hid (fun (W : World) (hw : Below w5.heap.size w5 W) => Sh.toShelf_any (c := c0) (cap := cap0) (HC.out.on (HB.out.trans (Sh.below_le hw HB.out.size))))
  have CE := Lib.hid (fun (W : World) (b2 g' : Nat) (hw : Below w5.heap.size w5 W) (h' : Sh.Ow W b2 g' len0 len0 zs) => Sh.eqShelf_own (c := c0) (Li.own_on HO.out hw) h' HL.out)
  go_region_held3 (fun w' => w'.cell? ⟨b0, 0, none⟩ = some (.slice (some ⟨g2, 0, none⟩) len0 len0) ∧ w'.cell? ⟨b0, 1, none⟩ = some (.int .i64 c0) ∧ w'.cell? ⟨w.heap.size, 0, none⟩ = some (.slice a0 len0 cap0) ∧ w'.cell? ⟨w.heap.size, 1, none⟩ = some (.int .i64 c0))
    (first | exact ⟨x0', x1', q0, q1⟩ | exact ⟨p0, p1, p2, p3⟩ | exact ⟨s0, s1, s2, s3⟩ | go_keep)
    (first
      | (go_at_call 28; refine (CT.out _ (Below.refl w5.heap.size w5).drew).mono ?_; rintro e w6 ⟨g3, rfl, o3, hb6⟩; have BX := X.drew.on hb6; have BB := B.drew.on hb6; obtain ⟨-, p0, p1⟩ := id BX; obtain ⟨-, p2, p3⟩ := id BB)
      | (go_at_call 30; refine (CE.out _ _ _ ((Below.refl w5.heap.size w5).drew.trans (Sh.below_le hb6 (Nat.le_refl _))) o3).mono ?_; rintro e w7 ⟨rfl, hb7⟩; have BX2 := BX.on hb7; have BB2 := BB.on hb7; obtain ⟨-, s0, s1⟩ := id BX2; obtain ⟨-, s2, s3⟩ := id BB2))
  have HE := Lib.hid (HB.out.trans (Sh.below_le ((Below.refl w5.heap.size w5).drew.trans (Sh.below_le (hb6.trans (Sh.below_le hb7 hb6.size)) (Nat.le_refl _))) HB.out.size))
  clear hb6 hb7 B X BX BB BX2 BB2 p0 p1 p2 p3 s0 s1 s2 s3 q0 q1 x0' x1' o3
  go_wp2
  go_ret
  exact ⟨rfl, HE.out⟩
theorem long (a0 : Option Addr) (len0 cap0 : Nat) (c0 : Int) (hl : ¬ len0 ≤ 1048576) (hm : len0 ≤ maxLen) (w : World) :
    Calls Tryd.prog 7 #[.agg #[.slice a0 len0 cap0, .int .i64 c0]] w fun e w' => e = .returned (.bool true) ∧ Below w.heap.size w w' := by
  have HL := Lib.hid hl
  have HM := Lib.hid hm
  clear hl hm
  go_enter Tryd.func7, Tryd.ntmps7
  go_wp2_with fail
  refine (Sh.sz_no a0 len0 cap0 c0 HL.out HM.out _).mono ?_
  rintro e w1 ⟨rfl, hb⟩
  have HB := Lib.hid ((below_alloc1 w _).trans (Sh.below_le hb (by simp)))
  clear hb
  go_wp2
  go_ret
  exact ⟨rfl, HB.out⟩

theorem law_st (a0 : Option Addr) (len0 cap0 : Nat) (c0 : Int) (z0 : List Int) (w : World) (hT : TabOn w) (r0 : Il.Raw w a0 len0 z0) :
    Calls Tryd.prog 7 #[.agg #[.slice a0 len0 cap0, .int .i64 c0]] w fun e w' => e = .returned (.bool true) ∧ Below w.heap.size w w' := by
  by_cases hl : len0 ≤ 1048576
  · have hc := r0.came (cap := cap0) hl
    cases hv : good z0 c0 with
    | false => exact core a0 len0 cap0 c0 z0 w _ _ hT hc (fun W b1 g h => sText_any h hl _ hv) (fun W b1 g ht h => iText_any ht h hl _ hv)
    | true => exact core a0 len0 cap0 c0 z0 w _ _ hT hc (fun W b1 g h => sText_any h hl _ hv) (fun W b1 g ht h => iText_any ht h hl _ hv)
  · exact long a0 len0 cap0 c0 hl r0.2.1 w
end Lst
end Sh
end Go.Proofs.YtkfoapidmockfabDoor
