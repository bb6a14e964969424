/- When there are a shelf and a volume of it, asked from both sides. -/
import Derived.Test.YtkfoapidmockfabDoorSh
namespace Go.Proofs.YtkfoapidmockfabDoor
open Go.RowKit Go.Joins Go.Deep Go.ChangeShapes Go.WideShapes
set_option linter.unusedVariables false
set_option linter.unusedSimpArgs false
namespace Sh
/-- a list of the call's own -/
abbrev Ow (W : World) (b1 g len cap : Nat) (zs : List Int) : Prop := W.ownsRow b1 3 1 (.slice (some ⟨g, 0, none⟩) len cap) len (Li.nums zs)
theorem ow_len {W : World} {b1 g len cap : Nat} {zs : List Int} (h : Ow W b1 g len cap zs) : zs.length = len := by have := h.1; simpa [Li.nums] using this
theorem ow_cell {W : World} {b1 g len cap : Nat} {zs : List Int} (h : Ow W b1 g len cap zs) {k : Nat} (hk : k < len) : W.cell? ⟨g, k, none⟩ = some (.int .i64 (zs.getD k 0)) := by
  have e := ow_len h
  rw [World.ownsRow.cellAt h k (by omega)]
  simp [Li.nums, List.getD, List.getElem?_eq_getElem (show k < zs.length by omega)]
theorem ow_at {W : World} {b1 g len cap : Nat} {zs : List Int} (h : Ow W b1 g len cap zs) {k : Nat} (hk : k < len) : ∃ z, Hid (zs.getD k 0 = z) ∧ W.cell? ⟨g, k, none⟩ = some (.int .i64 z) := ⟨_, Lib.hid rfl, ow_cell h hk⟩
theorem ow_lt {W : World} {b1 g len cap : Nat} {zs : List Int} (h : Ow W b1 g len cap zs) : b1 ≤ g ∧ g < W.heap.size := World.ownsRow.lt h g rfl
theorem ow_cap {W : World} {b1 g len cap : Nat} {zs : List Int} (h : Ow W b1 g len cap zs) : len ≤ cap ∧ cap ≤ maxLen := by
  rcases h.2 with ⟨h1, _⟩ | ⟨g', cap', cur, h1, _, _, h4, h5, _⟩
  · cases h1
  · injection h1 with _ _ h3
    subst h3
    exact ⟨h4, h5⟩
theorem rb {v v' : Bool} {x : Value} (e : v = v') (h : x = .bool v') : Ending.returned x = .returned (.bool v) := by rw [h, e]
def allB (zs : List Int) (lo hi : Int) : Bool := zs.all fun z => decide (lo ≤ z) && decide (z ≤ hi)
theorem allB_iff (zs : List Int) (lo hi : Int) : allB zs lo hi = true ↔ ∀ k, k < zs.length → lo ≤ zs.getD k 0 ∧ zs.getD k 0 ≤ hi := by
  unfold allB
  simp only [List.all_eq_true, Bool.and_eq_true, decide_eq_true_eq]
  constructor
  · intro h k hk
    have := h zs[k] (List.getElem_mem hk)
    simpa [List.getD, List.getElem?_eq_getElem hk] using this
  · intro h x hx
    obtain ⟨k, hk, rfl⟩ := List.getElem_of_mem hx
    have := h k hk
    simpa [List.getD, List.getElem?_eq_getElem hk] using this
theorem good_parts (zs : List Int) (c : Int) : good zs c = ((decide (1 ≤ (zs.length : Int)) && decide ((zs.length : Int) ≤ 8)) && allB zs 1 100 && (decide (0 ≤ c) && decide (c ≤ 10))) := by
  rw [Bool.eq_iff_iff, good_iff]
  simp only [Bool.and_eq_true, decide_eq_true_eq, allB_iff]
  unfold Ok
  constructor
  · rintro ⟨a, b, d, e, f⟩; exact ⟨⟨⟨by omega, by omega⟩, d⟩, e, f⟩
  · rintro ⟨⟨⟨a, b⟩, d⟩, e, f⟩; exact ⟨by omega, by omega, d, e, f⟩
set_option maxRecDepth 100000 in
set_option maxHeartbeats 1000000 in
theorem l1All_any {b1 g len cap : Nat} {zs : List Int} {w : World} (lo hi : Int) (h : Ow w b1 g len cap zs) (hl : len ≤ 1048576) (v : Bool) (hv : allB zs lo hi = v) :
    Calls Tryd.prog 67 #[.slice (some ⟨g, 0, none⟩) len cap, .int .i64 lo, .int .i64 hi] w fun e w' => e = .returned (.bool v) ∧ w = w' := by
  have hz := ow_len h
  have HO := Lib.hid h
  have HV := Lib.hid hv
  have HZ := Lib.hid hz
  clear h hv hz
  go_enter Tryd.func67, Tryd.ntmps67
  go_wp2
  go_loop [11] (fun i => ∃ k : Nat, k ≤ len ∧ i = .int .i64 (k : Int) ∧ ∀ j, j < k → lo ≤ zs.getD j 0 ∧ zs.getD j 0 ≤ hi) (fun i => ((len : Int) - intOf i).toNat)
  case atStart => exact ⟨0, by omega, rfl, fun j hj => by omega⟩
  case round =>
    obtain ⟨k, hk, rfl, hall⟩ := hrel
    have HA := Lib.hid hall
    clear hall
    by_cases hlt : (k : Int) < len
    · obtain ⟨z, HZK, hc⟩ := ow_at HO.out (k := k) (by omega)
      obtain ⟨x, hx⟩ : ∃ x, (decide (lo ≤ z) && decide (z ≤ hi)) = x := ⟨_, rfl⟩
      have HX := Lib.hid hx
      clear hx
      cases x
      · have E := Lib.hid (show v = false by
          rw [← HV.out]
          cases h2 : allB zs lo hi with
          | false => rfl
          | true =>
            have h3 := (allB_iff zs lo hi).1 h2 k (by rw [HZ.out]; omega)
            rw [HZK.out] at h3
            have := HX.out
            simp [h3.1] at this
            omega)
        go_wp2_with (first | (go_at_call 37; refine (l1In_any _ _ _ false HX.out _).mono ?_; rintro e w' ⟨rfl, rfl⟩))
        go_ret
        exact ⟨rb E.out rfl, rfl⟩
      · have HS := Lib.hid (show lo ≤ zs.getD k 0 ∧ zs.getD k 0 ≤ hi by rw [HZK.out]; have := HX.out; simpa using this)
        go_wp2_with (first | (go_at_call 37; refine (l1In_any _ _ _ true HX.out _).mono ?_; rintro e w' ⟨rfl, rfl⟩))
        go_round
        case rel => exact ⟨k + 1, by omega, by go_num, fun j hj => by
          by_cases e : j = k
          · subst e; exact HS.out
          · exact HA.out j (by omega)⟩
        case measure => simp [intOf]; omega
    · have E := Lib.hid (show v = true by
        rw [← HV.out]
        exact (allB_iff zs lo hi).2 fun j hj => HA.out j (by rw [HZ.out] at hj; omega))
      go_wp2
      go_ret
      exact ⟨rb E.out rfl, rfl⟩
set_option maxRecDepth 100000 in
set_option maxHeartbeats 1000000 in
theorem sGood_any {b1 g len cap : Nat} {zs : List Int} {c : Int} {w : World} (h : Ow w b1 g len cap zs) (hl : len ≤ 1048576) (v : Bool) (hv : good zs c = v) :
    Calls Tryd.prog 54 #[V g len cap c] w (Ret (.bool v) w) := by
  have hz := ow_len h
  obtain ⟨x1, hx1⟩ : ∃ x, (decide ((1 : Int) ≤ (len : Int)) && decide ((len : Int) ≤ 8)) = x := ⟨_, rfl⟩
  obtain ⟨x2, hx2⟩ : ∃ x, allB zs 1 100 = x := ⟨_, rfl⟩
  obtain ⟨x3, hx3⟩ : ∃ x, (decide (0 ≤ c) && decide (c ≤ 10)) = x := ⟨_, rfl⟩
  have e : v = (x1 && x2 && x3) := by rw [← hv, good_parts, hz, hx1, hx2, hx3]
  subst e
  have HX1 := Lib.hid hx1
  have HX2 := Lib.hid hx2
  have HX3 := Lib.hid hx3
  have HO := Lib.hid (Li.own_on h (below_alloc1 w (.cells #[.slice (some ⟨g, 0, none⟩) len cap, .int .i64 c] 45)))
  clear h hv hz hx1 hx2 hx3
  cases x1
  · go_enter Tryd.func54, Tryd.ntmps54
    go_wp2_with (first | (go_at_call 37; refine (l1In_any _ _ _ false HX1.out _).mono ?_; rintro e w' ⟨rfl, rfl⟩))
    go_ret
    exact ⟨rfl, below_alloc1 _ _⟩
  · cases x2
    · go_enter Tryd.func54, Tryd.ntmps54
      go_wp2_with (first | (go_at_call 37; refine (l1In_any _ _ _ true HX1.out _).mono ?_; rintro e w' ⟨rfl, rfl⟩) | (go_at_call 67; refine (l1All_any _ _ HO.out hl false HX2.out).mono ?_; rintro e w' ⟨rfl, rfl⟩))
      go_ret
      exact ⟨rfl, below_alloc1 _ _⟩
    · cases x3
      all_goals
        go_enter Tryd.func54, Tryd.ntmps54
        go_wp2_with fail
        refine (l1In_any _ _ _ true HX1.out _).mono ?_
        rintro e w' ⟨rfl, rfl⟩
        go_wp2_with fail
        refine (l1All_any _ _ HO.out hl true HX2.out).mono ?_
        rintro e w' ⟨rfl, rfl⟩
        go_wp2_with fail
        refine (l1In_any _ _ _ _ HX3.out _).mono ?_
        rintro e w' ⟨rfl, rfl⟩
        go_wp2
        go_ret
        exact ⟨rfl, below_alloc1 _ _⟩
set_option maxRecDepth 100000 in
set_option maxHeartbeats 1000000 in
theorem iGood_any {b1 g len cap : Nat} {zs : List Int} {c : Int} {w : World} (h : Ow w b1 g len cap zs) (hl : len ≤ 1048576) (v : Bool) (hv : good zs c = v) :
    Calls Tryd.prog 56 #[V g len cap c] w (Ret (.bool v) w) := by
  have hz := ow_len h
  have HZ := Lib.hid hz
  have HV := Lib.hid hv
  have HO := Lib.hid (Li.own_on h (below_alloc1 w (.cells #[.slice (some ⟨g, 0, none⟩) len cap, .int .i64 c] 45)))
  clear h hv hz
  have NO : ¬ Ok zs c → v = false := fun hn => by
    cases h2 : v with
    | false => rfl
    | true => exact absurd ((good_iff zs c).1 (HV.out.trans h2)) hn
  have HN := Lib.hid NO
  clear NO
  by_cases c1 : (len : Int) < 1
  · have E := Lib.hid (HN.out fun ho => by have := ho.1; rw [HZ.out] at this; omega)
    go_enter Tryd.func56, Tryd.ntmps56
    go_wp2
    go_ret
    exact ⟨rb E.out rfl, below_alloc1 _ _⟩
  by_cases c2 : (8 : Int) < len
  · have E := Lib.hid (HN.out fun ho => by have := ho.2.1; rw [HZ.out] at this; omega)
    go_enter Tryd.func56, Tryd.ntmps56
    go_wp2
    go_ret
    exact ⟨rb E.out rfl, below_alloc1 _ _⟩
  go_enter Tryd.func56, Tryd.ntmps56
  go_wp2
  go_loop [18] (fun i => ∃ k : Nat, k ≤ len ∧ i = .int .i64 (k : Int) ∧ ∀ j, j < k → 1 ≤ zs.getD j 0 ∧ zs.getD j 0 ≤ 100) (fun i => ((len : Int) - intOf i).toNat)
  case atStart => exact ⟨0, by omega, rfl, fun j hj => by omega⟩
  case round =>
    obtain ⟨k, hk, rfl, hall⟩ := hrel
    have HA := Lib.hid hall
    clear hall
    by_cases hlt : (k : Int) < len
    · obtain ⟨z, HZK, hc⟩ := ow_at HO.out (k := k) (by omega)
      by_cases d1 : z < 1
      · have E := Lib.hid (HN.out fun ho => by have := ho.2.2.1 k (by rw [HZ.out]; omega); rw [HZK.out] at this; omega)
        go_wp2
        go_ret
        exact ⟨rb E.out rfl, below_alloc1 _ _⟩
      · by_cases d2 : 100 < z
        · have E := Lib.hid (HN.out fun ho => by have := ho.2.2.1 k (by rw [HZ.out]; omega); rw [HZK.out] at this; omega)
          go_wp2
          go_ret
          exact ⟨rb E.out rfl, below_alloc1 _ _⟩
        · have HS := Lib.hid (show 1 ≤ zs.getD k 0 ∧ zs.getD k 0 ≤ 100 by rw [HZK.out]; omega)
          go_wp2
          go_round
          case rel => exact ⟨k + 1, by omega, by go_num, fun j hj => by
            by_cases e : j = k
            · subst e; exact HS.out
            · exact HA.out j (by omega)⟩
          case measure => simp [intOf]; omega
    · by_cases d1 : 0 ≤ c
      · by_cases d2 : c ≤ 10
        · have E := Lib.hid (show v = true by
            rw [← HV.out]
            exact (good_iff zs c).2 ⟨by rw [HZ.out]; omega, by rw [HZ.out]; omega, fun j hj => HA.out j (by rw [HZ.out] at hj; omega), d1, d2⟩)
          go_wp2
          go_ret
          exact ⟨rb E.out rfl, below_alloc1 _ _⟩
        · have E := Lib.hid (HN.out fun ho => d2 ho.2.2.2.2)
          go_wp2
          go_ret
          exact ⟨rb E.out rfl, below_alloc1 _ _⟩
      · have E := Lib.hid (HN.out fun ho => d1 ho.2.2.2.1)
        go_wp2
        go_ret
        exact ⟨rb E.out rfl, below_alloc1 _ _⟩
end Sh
end Go.Proofs.YtkfoapidmockfabDoor
