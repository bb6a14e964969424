/- On which shelf each volume stands, from the model's side. -/
import Derived.Test.YtogkebbgkeffcabSw
import Derived.Test.YtogkebbgkeffcabNsm
import Derived.Maps.AppendAt
namespace Go.Proofs.Ytogkebbgkeffcab
open Go.RowKit Go.Joins Go.Deep Go.ChangeShapes Go.WideShapes
set_option linter.unusedVariables false
set_option linter.unusedSimpArgs false
namespace Sh
def fitB (zs : List Int) (c wide : Int) : Bool := (List.range zs.length).all fun k => decide (Sf.own zs c k ≤ wide)
theorem fitB_iff (zs : List Int) (c wide : Int) : fitB zs c wide = true ↔ Sf.Fit zs c wide := by
  unfold fitB Sf.Fit
  simp only [List.all_eq_true, List.mem_range, decide_eq_true_eq]
def fit (zs : List Int) (c wide : Int) : Bool := good zs c && (decide (1 ≤ wide) && decide (wide ≤ 2000)) && fitB zs c wide
def sfo (zs : List Int) (c wide : Int) : List Int := if fit zs c wide = true then Sf.list zs c wide zs.length else []
theorem sfo_le (zs : List Int) (c wide : Int) (h : zs.length ≤ 1048576) : (sfo zs c wide).length ≤ 1048576 := by
  unfold sfo
  split
  · rw [Sf.list_len]; exact h
  · simp
theorem own_in {zs : List Int} {c : Int} (h : Ok zs c) (k : Nat) (hk : k < zs.length) : 1 ≤ Sf.own zs c k ∧ Sf.own zs c k ≤ 120 := by
  have := h.2.2.1 k hk
  have := h.2.2.2
  unfold Sf.own
  omega
theorem own_more {W : World} {base : Nat} {v : Value} {zs ys : List Int} {x : Int} (h : W.ownsRow base 3 1 v (zs.length + 1) (Li.nums zs ++ [.int .i64 x])) (e : ys = zs ++ [x]) : W.ownsRow base 3 1 v ys.length (Li.nums ys) := by
  subst e; simpa [Li.nums] using h
theorem own_eq {W : World} {base : Nat} {v : Value} {zs ys : List Int} (h : W.ownsRow base 3 1 v zs.length (Li.nums zs)) (e : ys = zs) : W.ownsRow base 3 1 v ys.length (Li.nums ys) := by
  subst e; exact h
theorem gives_none {W w' : World} {zs : List Int} (e : zs = []) (hb : Below W.heap.size W w') : Li.Gives false zs W (.returned (.tuple #[.slice none 0 0, .bool false])) w' := by
  subst e
  exact Li.Gives.none hb
theorem bcell2 {w : World} {x y : Value} {T : TypeId} {k : Nat} (h : k = w.heap.size) : (w.alloc (.cells #[x, y] T)).cell? ⟨k, 1, none⟩ = some y := by subst h; simp
/-- the box of a shelf in a new block -/
abbrev bx (w : World) (g len cap : Nat) (c : Int) : World := w.alloc (.cells #[.slice (some ⟨g, 0, none⟩) len cap, .int .i64 c] 36)
theorem bx_b2 (w : World) (g len cap : Nat) (c : Int) : B2 (bx w g len cap c) w.heap.size (.slice (some ⟨g, 0, none⟩) len cap) (.int .i64 c) := B2.new _ _ _ _
theorem bx_below (w : World) (g len cap : Nat) (c : Int) : Below w.heap.size w (bx w g len cap c) := below_alloc1 _ _
theorem bx_ow {w : World} {b1 g len cap : Nat} {zs : List Int} (h : Ow w b1 g len cap zs) (c : Int) : Ow (bx w g len cap c) b1 g len cap zs := Li.own_on h (bx_below _ _ _ _ _)
theorem below_drew_then {W w1 w2 : World} (hB : Below W.heap.size W w1) (hb : Below w1.drew.heap.size w1.drew w2) : Below W.heap.size W w2 :=
  hB.trans (below_le ((Below.refl w1.heap.size w1).drew.trans (below_le hb (Nat.le_refl _))) hB.size)
set_option maxRecDepth 100000 in
set_option maxHeartbeats 2000000 in
theorem shOn_any {b1 g len cap : Nat} {zs : List Int} {c : Int} {w : World} (h : Ow w b1 g len cap zs) (ho : Ok zs c) (wide : Int) (hw1 : 1 ≤ wide) (hw2 : wide ≤ 2000) (ok : Bool) (hok : fitB zs c wide = ok) (os : List Int) (hos : (if ok = true then Sf.list zs c wide zs.length else []) = os) :
    Calls Try.prog 39 #[V g len cap c, .int .i64 wide] w (Li.Gives ok os w) := by
  obtain ⟨i0, hi, hz0, hz1, hz2⟩ := info_parts Li.info3
  have HO := Lib.hid (bx_ow h c)
  have hz := ow_len h
  have HB0 := Lib.hid (bx_below w g len cap c)
  have hl8 : len ≤ 8 := by have := ho.2.1; omega
  have c1 := ho.2.2.2.1
  have c2 := ho.2.2.2.2
  have HK := Lib.hid ho
  have HZ := Lib.hid hz
  have HOK := Lib.hid hok
  have HOS := Lib.hid hos
  have B := bx_b2 w g len cap c
  obtain ⟨-, q0, q1⟩ := id B
  have HBX := Lib.hid B
  clear h ho hz hok hos B
  go_enter Try.func39, Try.ntmps39
  go_wp2
  clear q0 q1
  go_loopw [6, 7, 8, 16] (fun v a l i wr => ∃ k : Nat, k ≤ len ∧ i = .int .i64 (k : Int) ∧ a = .int .i64 (Sf.st zs c wide k).1 ∧ l = .int .i64 (Sf.st zs c wide k).2 ∧ (∀ j, j < k → Sf.own zs c j ≤ wide) ∧ wr.ownsRow (bx w g len cap c).heap.size 3 1 v (Sf.list zs c wide k).length (Li.nums (Sf.list zs c wide k)) ∧ Below (bx w g len cap c).heap.size (bx w g len cap c) wr) (fun _ _ _ i _ => ((len : Int) - intOf i).toNat)
  case atStart => exact ⟨0, by omega, rfl, rfl, rfl, fun j hj => by omega, World.ownsRow_nil _ _ _ _, Below.refl _ _⟩
  case round =>
    obtain ⟨k, hk, rfl, rfl, rfl, hall, hown, hb⟩ := hrel
    have hst := Sf.st_in zs c wide (by omega) k (by rw [HZ.out]; omega) (fun j hj => ⟨by have := own_in HK.out j (by rw [HZ.out]; omega); omega, hall j hj⟩)
    have s1 := hst.1
    have s2 : (Sf.st zs c wide k).1 ≤ 8 := by have := hst.2.1; omega
    have s3 := hst.2.2.1
    have s4 := hst.2.2.2
    have hlen : (Sf.list zs c wide k).length ≤ 8 := by rw [Sf.list_len]; omega
    have HA := Lib.hid hall
    have HOWN := Lib.hid hown
    have HBB := Lib.hid hb
    have HB3 := Lib.hid (HB0.out.trans (below_le hb HB0.out.size))
    clear hall hst hown hb
    by_cases hlt : (k : Int) < len
    · have hk2 : k < len := by omega
      obtain ⟨z, HZK, hc⟩ := ow_at (Li.own_on HO.out HBB.out) hk2
      have ht := HK.out.2.2.1 k (by rw [HZ.out]; omega)
      rw [HZK.out] at ht
      have t1 := ht.1
      have t2 := ht.2
      have EO := Lib.hid (show Sf.own zs c k = z + 2 * c by unfold Sf.own; rw [HZK.out])
      have ES : Sf.st zs c wide (k + 1) = if (Sf.st zs c wide k).2 < Sf.own zs c k then ((Sf.st zs c wide k).1 + 1, wide - Sf.own zs c k) else ((Sf.st zs c wide k).1, (Sf.st zs c wide k).2 - Sf.own zs c k) := rfl
      rw [EO.out] at ES
      have EL := Lib.hid (Sf.list_succ zs c wide k)
      have B := HBX.out.on HBB.out
      obtain ⟨-, q0, q1⟩ := id B
      obtain ⟨a, hA⟩ : ∃ a, (Sf.st zs c wide k).1 = a := ⟨_, rfl⟩
      obtain ⟨l, hL⟩ : ∃ l, (Sf.st zs c wide k).2 = l := ⟨_, rfl⟩
      rw [hA, hL] at ES
      rw [hA] at s1 s2
      rw [hL] at s3 s4
      rw [hA, hL]
      have HES := Lib.hid ES
      clear ht ES hA hL B
      by_cases hw : wide < z + 2 * c
      · have E := Lib.hid (show ok = false by
          rw [← HOK.out]
          cases h2 : fitB zs c wide with
          | false => rfl
          | true =>
            have := (fitB_iff zs c wide).1 h2 k (by rw [HZ.out]; omega)
            rw [EO.out] at this
            omega)
        have E2 := Lib.hid (show os = [] by rw [← HOS.out, E.out]; rfl)
        go_wp2
        go_ret2
        rw [E.out]
        exact gives_none E2.out HB3.out
      · have HAN := Lib.hid (show ∀ j, j < k + 1 → Sf.own zs c j ≤ wide from fun j hj => by
          by_cases e : j = k
          · subst e; rw [EO.out]; omega
          · exact HA.out j (by omega))
        have t3 : decide (wide < z + 2 * c) = false := by simpa using hw
        have hown := HOWN.out
        have hsz := HBB.out.size
        have hsz2 : w.heap.size + 1 ≤ wr.heap.size := by simpa using hsz
        clear HOWN hw
        by_cases hl2 : l < z + 2 * c
        · have E1 := Lib.hid (show (Sf.st zs c wide (k + 1)) = (a + 1, wide - (z + 2 * c)) by rw [HES.out, if_pos hl2])
          have E2 := Lib.hid (show Sf.on zs c wide k = a + 1 by unfold Sf.on; rw [E1.out])
          go_wp2_with (first | (at_builtin; refine wpList_append_own _ rfl _ _ 22 rfl (bx w g len cap c).heap.size 3 i0 (.int .i64 0) 1 8 Try.underlying22 hi hz0 hz1 hz2 rfl (by decide) _ _ _ rfl (hown.alloc _) ⟨wr.heap.size, 0, none⟩ 1 1 [.int .i64 (a + 1)] rfl rfl (cell_one_new _ _ _) (fun x hx => by simp at hx; subst hx; rfl) (by unfold maxLen; omega) (by omega) (by simp; omega) ?_; intro v' w6 hown2 hgrow2 hnil2))
          have O := Lib.hid (own_more hown2 (EL.out.trans (by rw [E2.out])))
          have BB := Lib.hid ((HBB.out.alloc HBB.out.size _).grown hgrow2 (by simp; omega) (fun j hj => (hown.lt j hj).1))
          clear hown2 hgrow2 hnil2 hown
          go_roundw
          case rel => exact ⟨k + 1, by omega, by go_num, by rw [E1.out], by rw [E1.out], HAN.out, O.out, BB.out⟩
          case measure => simp [intOf]; omega
        · have t4 : decide (l < z + 2 * c) = false := by simpa using hl2
          have E1 := Lib.hid (show (Sf.st zs c wide (k + 1)) = (a, l - (z + 2 * c)) by rw [HES.out, if_neg hl2])
          have E2 := Lib.hid (show Sf.on zs c wide k = a by unfold Sf.on; rw [E1.out])
          clear hl2
          go_wp2_with (first | (at_builtin; refine wpList_append_own _ rfl _ _ 22 rfl (bx w g len cap c).heap.size 3 i0 (.int .i64 0) 1 8 Try.underlying22 hi hz0 hz1 hz2 rfl (by decide) _ _ _ rfl (hown.alloc _) ⟨wr.heap.size, 0, none⟩ 1 1 [.int .i64 a] rfl rfl (cell_one_new _ _ _) (fun x hx => by simp at hx; subst hx; rfl) (by unfold maxLen; omega) (by omega) (by simp; omega) ?_; intro v' w6 hown2 hgrow2 hnil2))
          have O := Lib.hid (own_more hown2 (EL.out.trans (by rw [E2.out])))
          have BB := Lib.hid ((HBB.out.alloc HBB.out.size _).grown hgrow2 (by simp; omega) (fun j hj => (hown.lt j hj).1))
          clear hown2 hgrow2 hnil2 hown
          go_roundw
          case rel => exact ⟨k + 1, by omega, by go_num, by rw [E1.out], by rw [E1.out], HAN.out, O.out, BB.out⟩
          case measure => simp [intOf]; omega
    · have EK := Lib.hid (show k = len by omega)
      have E := Lib.hid (show ok = true by
        rw [← HOK.out]
        exact (fitB_iff zs c wide).2 fun j hj => HA.out j (by rw [HZ.out] at hj; omega))
      have E2 := Lib.hid (show os = Sf.list zs c wide k by rw [← HOS.out, E.out, HZ.out, EK.out]; rfl)
      have O := Lib.hid (own_eq (Li.own_le HOWN.out HB0.out.size) E2.out)
      go_wp2
      go_ret2
      rw [E.out]
      exact ⟨_, rfl, O.out, HB3.out⟩
end Sh
end Go.Proofs.Ytogkebbgkeffcab
