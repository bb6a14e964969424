/- FewestNeighbours from both sides: pairs that fall. -/
import Derived.Test.YtogkebbgkeffcabSo2
namespace Go.Proofs.Ytogkebbgkeffcab
open Go.RowKit Go.Joins Go.Deep Go.ChangeShapes Go.WideShapes
set_option linter.unusedVariables false
set_option linter.unusedSimpArgs false
namespace So
open Sh
def nb (zs : List Int) : Int := if Ns.good zs = true then (Ns.up zs zs.length : Int) else 0
theorem nb_no {zs : List Int} (h : Ns.good zs = false) : nb zs = 0 := by unfold nb; rw [h]; rfl
theorem nb_up {zs : List Int} (h : Ns.good zs = true) : nb zs = (Ns.up zs zs.length : Int) := by unfold nb; rw [h]; rfl
theorem nb_dn {zs : List Int} (h : Ns.good zs = true) : nb zs = (Ns.dn zs zs.length zs.length : Int) := by rw [nb_up h, Ns.same]
set_option maxRecDepth 100000 in
set_option maxHeartbeats 2000000 in
theorem sNeighbours {b1 g len cap : Nat} {zs : List Int} {w : World} (h : Ow w b1 g len cap zs) (hl : len ≤ 1048576) :
    Calls Try.prog 13 #[.slice (some ⟨g, 0, none⟩) len cap] w (Ret (.tuple #[.int .i64 (nb zs), .bool (Ns.good zs)]) w) := by
  have HO := Lib.hid h
  have hz := ow_len h
  have hcap := (ow_cap h).1
  have hcap2 := (ow_cap h).2
  unfold maxLen at hcap2
  cases hg : Ns.good zs with
  | false =>
    have HG := Lib.hid hg
    have E := Lib.hid (nb_no hg)
    clear h hz hg
    rw [E.out]
    go_enter Try.func13, Try.ntmps13
    go_wp2_with fail
    refine (sStands_any HO.out hl false HG.out).mono ?_
    rintro e w' ⟨rfl, rfl⟩
    go_wp2
    go_ret2
    exact ⟨rfl, Below.refl _ _⟩
  | true =>
    have HG := Lib.hid hg
    have hok := (Ns.good_iff zs).1 hg
    have E := Lib.hid (show nb zs = (Ns.up zs len : Int) by rw [nb_up hg, hz])
    have hl8 : len ≤ 8 := by have := hok.2.1; omega
    clear h hz hg hok
    rw [E.out]
    go_enter Try.func13, Try.ntmps13
    go_wp2_with fail
    refine (sStands_any HO.out hl true HG.out).mono ?_
    rintro e w' ⟨rfl, rfl⟩
    go_wp2
    go_loop [4, 14] (fun n i => ∃ k : Nat, k ≤ len ∧ i = .int .i64 (k : Int) ∧ n = .int .i64 ((Ns.up zs k : Nat) : Int)) (fun _ i => ((len : Int) - intOf i).toNat)
    case atStart => exact ⟨0, by omega, rfl, rfl⟩
    case round =>
      obtain ⟨k, hk, rfl, rfl⟩ := hrel
      have hu : Ns.up zs k ≤ 64 := Nat.le_trans (Ns.up_le zs k) (Nat.mul_le_mul (show k ≤ 8 by omega) (show k ≤ 8 by omega))
      by_cases hlt : (k : Int) < len
      · obtain ⟨z, HZK, hc⟩ := ow_at HO.out (k := k) (by omega)
        have EU := Lib.hid (show Ns.up zs (k + 1) = Ns.up zs k + Ns.gt zs k k from rfl)
        obtain ⟨U, hU⟩ : ∃ U, Ns.up zs k = U := ⟨_, rfl⟩
        rw [hU] at hu ⊢
        have HU := Lib.hid hU
        have hkc : k ≤ cap := by omega
        clear hU
        go_wp2
        go_loop [4, 23] (fun n i => ∃ j : Nat, j ≤ k ∧ i = .int .i64 (j : Int) ∧ n = .int .i64 ((U + Ns.gt zs k j : Nat) : Int)) (fun _ i => ((k : Int) - intOf i).toNat)
        case atStart => exact ⟨0, by omega, rfl, rfl⟩
        case round =>
          obtain ⟨j, hj, rfl, rfl⟩ := hrel
          have hgj := Ns.gt_le zs k j
          by_cases hlt2 : (j : Int) < k
          · obtain ⟨y, HYK, hcy⟩ := ow_at HO.out (k := j) (by omega)
            have EG := Lib.hid (show Ns.gt zs k (j + 1) = Ns.gt zs k j + (if z < y then 1 else 0) by rw [← HZK.out, ← HYK.out]; rfl)
            obtain ⟨G, hG⟩ : ∃ G, Ns.gt zs k j = G := ⟨_, rfl⟩
            rw [hG] at hgj ⊢
            have HG2 := Lib.hid hG
            clear hG
            by_cases hzy : z < y
            · have HZY := Lib.hid hzy
              go_wp2
              go_round
              case rel => exact ⟨j + 1, by omega, by go_num, by rw [EG.out, HG2.out, if_pos HZY.out]; go_num⟩
              case measure => simp [intOf]; omega
            · have HZY := Lib.hid hzy
              have t1 : decide (z < y) = false := by simpa using hzy
              clear hzy
              go_wp2
              go_round
              case rel => exact ⟨j + 1, by omega, by go_num, by rw [EG.out, HG2.out, if_neg HZY.out]; go_num⟩
              case measure => simp [intOf]; omega
          · have EJ := Lib.hid (show j = k by omega)
            go_wp2
            go_round
            case rel => exact ⟨k + 1, by omega, by go_num, by rw [EU.out, HU.out, EJ.out]⟩
            case measure => simp [intOf]; omega
      · have EK := Lib.hid (show k = len by omega)
        go_wp2
        go_ret2
        exact ⟨by rw [← EK.out]; rfl, Below.refl _ _⟩
end So
end Go.Proofs.Ytogkebbgkeffcab
