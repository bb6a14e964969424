/- Faces of pages, and the ways of worms, from both sides. -/
import Derived.Test.YtogkebbgkeffcaaSw3
namespace Go.Proofs.Ytogkebbgkeffcaa
open Go.RowKit Go.Joins Go.Deep Go.ChangeShapes Go.WideShapes
set_option linter.unusedVariables false
set_option linter.unusedSimpArgs false
namespace Sh
theorem shLeft_L {b1 g len cap : Nat} {zs : List Int} {c : Int} {w : World} (h : Ow w b1 g len cap zs) (ho : Ok zs c) (k : Nat) (hk : k ≤ len) (L : Int) (hL : lf c zs k = L) :
    Calls Try.prog 50 #[V g len cap c, .int .i64 (k : Int)] w (Ret (.int .i64 L) w) := hL ▸ shLeft_any h ho k hk
set_option maxRecDepth 100000 in
set_option maxHeartbeats 1000000 in
theorem shFace_any {b1 g len cap : Nat} {zs : List Int} {c : Int} {w : World} (h : Ow w b1 g len cap zs) (ho : Ok zs c) (k : Nat) (hk : k < len) (b : Bool) :
    Calls Try.prog 54 #[V g len cap c, .int .i64 (k : Int), .bool b] w (Ret (.int .i64 (face c zs k b)) w) := by
  have HO := Lib.hid (bx_ow h c)
  have HB0 := Lib.hid (bx_below w g len cap c)
  have B := bx_b2 w g len cap c
  have hz := ow_len h
  obtain ⟨-, q0, q1⟩ := id B
  have hs1 := ho.2.2.1 k (by omega)
  have c1 := ho.2.2.2.1
  have c2 := ho.2.2.2.2
  have l1 := lf_big ho k (by omega)
  have HK := Lib.hid ho
  obtain ⟨z, hzk⟩ : ∃ z, zs.getD k 0 = z := ⟨_, rfl⟩
  obtain ⟨L, hL⟩ : ∃ L, lf c zs k = L := ⟨_, rfl⟩
  rw [hzk] at hs1
  rw [hL] at l1
  have t1 := hs1.1
  have t2 := hs1.2
  have l1a := l1.1
  have l1b := l1.2
  have HL := Lib.hid hL
  have HZ2 := Lib.hid hzk
  have w1L : IntKind.i64.wrap (L + c) = L + c := by rw [IntKind.wrap_i64]; omega
  have HW := Lib.hid w1L
  have EF := Lib.hid (show face c zs k b = L + c + (if b then 0 else z) by unfold face; rw [hL, hzk])
  rw [EF.out]
  clear h ho hz hs1 l1 hzk hL w1L
  cases b
  all_goals
    go_enter Try.func54, Try.ntmps54
    go_wp2_with fail
    have w1L := HW.out
    go_region_held3 (fun w' => w'.cell? ⟨w.heap.size, 0, none⟩ = some (.slice (some ⟨g, 0, none⟩) len cap) ∧ w'.cell? ⟨w.heap.size, 1, none⟩ = some (.int .i64 c))
      (first | exact ⟨q0, q1⟩ | exact ⟨r0, r1⟩ | go_keep)
      (first | (go_at_call 50; refine (shLeft_L (Li.own_on HO.out (Below.refl (bx w g len cap c).heap.size (bx w g len cap c)).drew) HK.out k (Nat.le_of_lt hk) L HL.out).mono ?_; rintro e w2 ⟨rfl, hb2⟩; have BB := B.drew.on hb2; obtain ⟨-, r0, r1⟩ := id BB))
    have HB := Lib.hid (below_drew_then HB0.out hb2)
    have HO2 := Lib.hid (Li.own_on HO.out ((Below.refl (bx w g len cap c).heap.size (bx w g len cap c)).drew.trans (below_le hb2 (Nat.le_refl _))))
    have hz2 := ow_cell HO2.out hk
    rw [HZ2.out] at hz2
    clear hb2 B q0 q1 w1L
    go_wp2
    go_ret
    exact ⟨by first | rfl | (simp), HB.out⟩
end Sh
end Go.Proofs.Ytogkebbgkeffcaa
