/- When there are chapters, asked from both sides. -/
import Derived.Test.YtkfoapidmockfabDoorSh2
namespace Go.Proofs.YtkfoapidmockfabDoor
open Go.RowKit Go.Joins Go.Deep Go.ChangeShapes Go.WideShapes
set_option linter.unusedVariables false
set_option linter.unusedSimpArgs false
namespace Ch
open Sh hiding Ok good good_iff sGood_any iGood_any
/-- there are chapters -/
def Ok (zs : List Int) : Prop := 1 ≤ zs.length ∧ zs.length ≤ 12 ∧ ∀ k, k < zs.length → 1 ≤ zs.getD k 0 ∧ zs.getD k 0 ≤ 120
def good (zs : List Int) : Bool := (decide (1 ≤ (zs.length : Int)) && decide ((zs.length : Int) ≤ 12)) && allB zs 1 120
theorem good_iff (zs : List Int) : good zs = true ↔ Ok zs := by
  unfold good Ok
  simp only [Bool.and_eq_true, decide_eq_true_eq, allB_iff]
  constructor
  · rintro ⟨⟨a, b⟩, c⟩; exact ⟨by omega, by omega, c⟩
  · rintro ⟨a, b, c⟩; exact ⟨⟨by omega, by omega⟩, c⟩
set_option maxRecDepth 100000 in
set_option maxHeartbeats 1000000 in
theorem sGood_any {b1 g len cap : Nat} {zs : List Int} {w : World} (h : Ow w b1 g len cap zs) (hl : len ≤ 1048576) (v : Bool) (hv : good zs = v) :
    Calls Tryd.prog 43 #[.slice (some ⟨g, 0, none⟩) len cap] w fun e w' => e = .returned (.bool v) ∧ w = w' := by
  have hz := ow_len h
  obtain ⟨x1, hx1⟩ : ∃ x, (decide ((1 : Int) ≤ (len : Int)) && decide ((len : Int) ≤ 12)) = x := ⟨_, rfl⟩
  obtain ⟨x2, hx2⟩ : ∃ x, allB zs 1 120 = x := ⟨_, rfl⟩
  have e : v = (x1 && x2) := by rw [← hv]; unfold good; rw [hz, hx1, hx2]
  subst e
  have HX1 := Lib.hid hx1
  have HX2 := Lib.hid hx2
  have HO := Lib.hid h
  clear h hv hz hx1 hx2
  cases x1
  · go_enter Tryd.func43, Tryd.ntmps43
    go_wp2_with (first | (go_at_call 37; refine (l1In_any _ _ _ false HX1.out _).mono ?_; rintro e w' ⟨rfl, rfl⟩))
    go_ret
    exact ⟨rfl, rfl⟩
  · go_enter Tryd.func43, Tryd.ntmps43
    go_wp2_with (first | (go_at_call 37; refine (l1In_any _ _ _ true HX1.out _).mono ?_; rintro e w' ⟨rfl, rfl⟩) | (go_at_call 67; refine (l1All_any _ _ HO.out hl x2 HX2.out).mono ?_; rintro e w' ⟨rfl, rfl⟩))
    go_ret
    exact ⟨rfl, rfl⟩
set_option maxRecDepth 100000 in
set_option maxHeartbeats 1000000 in
theorem iGood_any {b1 g len cap : Nat} {zs : List Int} {w : World} (h : Ow w b1 g len cap zs) (hl : len ≤ 1048576) (v : Bool) (hv : good zs = v) :
    Calls Tryd.prog 48 #[.slice (some ⟨g, 0, none⟩) len cap] w fun e w' => e = .returned (.bool v) ∧ w = w' := by
  have hz := ow_len h
  have HZ := Lib.hid hz
  have HV := Lib.hid hv
  have HO := Lib.hid h
  clear h hv hz
  have NO : ¬ Ok zs → v = false := fun hn => by
    cases h2 : v with
    | false => rfl
    | true => exact absurd ((good_iff zs).1 (HV.out.trans h2)) hn
  have HN := Lib.hid NO
  clear NO
  by_cases c1 : (len : Int) < 1
  · have E := Lib.hid (HN.out fun ho => by have := ho.1; rw [HZ.out] at this; omega)
    go_enter Tryd.func48, Tryd.ntmps48
    go_wp2
    go_ret
    exact ⟨rb E.out rfl, rfl⟩
  by_cases c2 : (12 : Int) < len
  · have E := Lib.hid (HN.out fun ho => by have := ho.2.1; rw [HZ.out] at this; omega)
    go_enter Tryd.func48, Tryd.ntmps48
    go_wp2
    go_ret
    exact ⟨rb E.out rfl, rfl⟩
  go_enter Tryd.func48, Tryd.ntmps48
  go_wp2
  go_loop [15] (fun i => ∃ k : Nat, k ≤ len ∧ i = .int .i64 (k : Int) ∧ ∀ j, j < k → 1 ≤ zs.getD j 0 ∧ zs.getD j 0 ≤ 120) (fun i => ((len : Int) - intOf i).toNat)
  case atStart => exact ⟨0, by omega, rfl, fun j hj => by omega⟩
  case round =>
    obtain ⟨k, hk, rfl, hall⟩ := hrel
    have HA := Lib.hid hall
    clear hall
    by_cases hlt : (k : Int) < len
    · obtain ⟨z, HZK, hc⟩ := ow_at HO.out (k := k) (by omega)
      by_cases d1 : z < 1
      · have E := Lib.hid (HN.out fun ho => by have := ho.2.2 k (by rw [HZ.out]; omega); rw [HZK.out] at this; omega)
        go_wp2
        go_ret
        exact ⟨rb E.out rfl, rfl⟩
      · by_cases d2 : 120 < z
        · have E := Lib.hid (HN.out fun ho => by have := ho.2.2 k (by rw [HZ.out]; omega); rw [HZK.out] at this; omega)
          go_wp2
          go_ret
          exact ⟨rb E.out rfl, rfl⟩
        · have HS := Lib.hid (show 1 ≤ zs.getD k 0 ∧ zs.getD k 0 ≤ 120 by rw [HZK.out]; omega)
          go_wp2
          go_round
          case rel => exact ⟨k + 1, by omega, by go_num, fun j hj => by
            by_cases e : j = k
            · subst e; exact HS.out
            · exact HA.out j (by omega)⟩
          case measure => simp [intOf]; omega
    · have E := Lib.hid (show v = true by
        rw [← HV.out]
        exact (good_iff zs).2 ⟨by rw [HZ.out]; omega, by rw [HZ.out]; omega, fun j hj => HA.out j (by rw [HZ.out] at hj; omega)⟩)
      go_wp2
      go_ret
      exact ⟨rb E.out rfl, rfl⟩
end Ch
end Go.Proofs.YtkfoapidmockfabDoor
