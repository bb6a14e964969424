/- FewestNeighbours, from the program's side. -/
import Derived.Test.YtogkebbgkeffcabNb
import Derived.Laws.Slices
namespace Go.Proofs.Ytogkebbgkeffcab
open Go.RowKit Go.Joins Go.Deep Go.ChangeShapes Go.WideShapes
set_option linter.unusedVariables false
set_option linter.unusedSimpArgs false
namespace So
open Sh
theorem from_run (go n cp a m : Nat) (ai : Int) (hai : ai = (a : Int)) (hm : a + m = n) (hc : n ≤ cp) : ∃ ad : Addr, (∀ W, (Instr.slice 22 (.slice (some ⟨go, 0, none⟩) n cp) (some (.int .i64 ai)) none none).run Try.prog W = .ok (.slice (some ad) m (cp - a)) W) ∧ (0 < m → ad = ⟨go, a, none⟩) := by
  subst hai
  refine ⟨if cp = a then ⟨go, 0, none⟩ else ⟨go, a, none⟩, fun W => ?_, fun hj => ?_⟩
  · rw [run_slice_l W 22 (some ⟨go, 0, none⟩) n cp (by kernel_rfl) .i64 (a : Int) (by omega) (by omega)]
    have e : (sizeOf (Try.prog.elem 22)).run Try.prog W = .ok 1 W := by kernel_rfl
    rw [e]
    simp only [Result.andThen, sliced, Int.toNat_natCast, Nat.mul_one]
    rw [show n - a = m by omega]
    by_cases h : cp = a
    · simp [h]
    · simp [h, Addr.add]
      intro h2
      exact h2.symm
  · rw [if_neg (by omega)]
set_option maxRecDepth 100000 in
set_option maxHeartbeats 2000000 in
theorem iNeighbours {b1 g len cap : Nat} {zs : List Int} {w : World} (h : Ow w b1 g len cap zs) (hl : len ≤ 1048576) :
    Calls Try.prog 14 #[.slice (some ⟨g, 0, none⟩) len cap] w (Ret (.tuple #[.int .i64 (nb zs), .bool (Ns.good zs)]) w) := by
  have HO0 := Lib.hid h
  have hz := ow_len h
  have hcap := (ow_cap h).1
  have hcap2 := (ow_cap h).2
  unfold maxLen at hcap2
  cases hg : Ns.good zs with
  | false =>
    have HG := Lib.hid hg
    have E := Lib.hid (nb_no hg)
    clear h hz hg
    rw [E.out]
    go_enter Try.func14, Try.ntmps14
    go_wp2_with fail
    refine (iStands_any HO0.out hl false HG.out).mono ?_
    rintro e w1 ⟨rfl, hb⟩
    have HB := Lib.hid hb
    clear hb
    go_wp2
    go_ret2
    exact ⟨rfl, HB.out⟩
  | true =>
    have HG := Lib.hid hg
    have hok := (Ns.good_iff zs).1 hg
    have E := Lib.hid (show nb zs = (Ns.dn zs len len : Int) by rw [nb_dn hg, hz])
    have hl8 : len ≤ 8 := by have := hok.2.1; omega
    clear h hz hg hok
    rw [E.out]
    go_enter Try.func14, Try.ntmps14
    go_wp2_with fail
    refine (iStands_any HO0.out hl true HG.out).mono ?_
    rintro e w1 ⟨rfl, hb⟩
    have HB := Lib.hid hb
    have HO := Lib.hid (Li.own_on HO0.out hb)
    clear hb
    go_wp2
    go_loop [4, 14] (fun n i => ∃ k : Nat, k ≤ len ∧ i = .int .i64 (k : Int) ∧ n = .int .i64 ((Ns.dn zs len k : Nat) : Int)) (fun _ i => ((len : Int) - intOf i).toNat)
    case atStart => exact ⟨0, by omega, rfl, rfl⟩
    case round =>
      obtain ⟨k, hk, rfl, rfl⟩ := hrel
      have hu : Ns.dn zs len k ≤ 64 := Nat.le_trans (Ns.dn_le zs len k hk) (Nat.mul_le_mul (show k ≤ 8 by omega) hl8)
      by_cases hlt : (k : Int) < len
      · obtain ⟨z, HZK, hc⟩ := ow_at HO.out (k := k) (by omega)
        have EU := Lib.hid (show Ns.dn zs len (k + 1) = Ns.dn zs len k + Ns.ls zs k (len - (k + 1)) from rfl)
        obtain ⟨U, hU⟩ : ∃ U, Ns.dn zs len k = U := ⟨_, rfl⟩
        rw [hU] at hu ⊢
        have HU := Lib.hid hU
        obtain ⟨m, hm⟩ : ∃ m, (k + 1) + m = len := ⟨len - (k + 1), by omega⟩
        have HM := Lib.hid (show len - (k + 1) = m by omega)
        obtain ⟨ad, hrun, had⟩ := from_run g len cap (k + 1) m ((k : Int) + 1) (by omega) hm hcap
        have HAD := Lib.hid had
        have hm8 : m ≤ 8 := by omega
        have HKM := Lib.hid hm
        clear hU had hm
        go_wp2
        clear hrun
        go_loop [4, 24] (fun n i => ∃ j : Nat, j ≤ m ∧ i = .int .i64 (j : Int) ∧ n = .int .i64 ((U + Ns.ls zs k j : Nat) : Int)) (fun _ i => ((m : Int) - intOf i).toNat)
        case atStart => exact ⟨0, by omega, rfl, rfl⟩
        case round =>
          obtain ⟨j, hj, rfl, rfl⟩ := hrel
          have hgj := Ns.ls_le zs k j
          by_cases hlt2 : (j : Int) < m
          · obtain rfl := HAD.out (by omega)
            obtain ⟨y, HYK, hcy⟩ := ow_at HO.out (k := k + 1 + j) (by have := HKM.out; omega)
            have EG := Lib.hid (show Ns.ls zs k (j + 1) = Ns.ls zs k j + (if y < z then 1 else 0) by rw [← HZK.out, ← HYK.out]; rfl)
            obtain ⟨G, hG⟩ : ∃ G, Ns.ls zs k j = G := ⟨_, rfl⟩
            rw [hG] at hgj ⊢
            have HG2 := Lib.hid hG
            clear hG
            by_cases hzy : y < z
            · have HZY := Lib.hid hzy
              go_wp2
              go_round
              case rel => exact ⟨j + 1, by omega, by go_num, by rw [EG.out, HG2.out, if_pos HZY.out]; go_num⟩
              case measure => simp [intOf]; omega
            · have HZY := Lib.hid hzy
              have t1 : decide (y < z) = false := by simpa using hzy
              clear hzy
              go_wp2
              go_round
              case rel => exact ⟨j + 1, by omega, by go_num, by rw [EG.out, HG2.out, if_neg HZY.out]; go_num⟩
              case measure => simp [intOf]; omega
          · have EJ := Lib.hid (show j = m by omega)
            go_wp2
            go_round
            case rel => exact ⟨k + 1, by have := HKM.out; omega, by go_num, by rw [EU.out, HU.out, HM.out, EJ.out]⟩
            case measure => simp [intOf]; omega
      · have EK := Lib.hid (show k = len by omega)
        go_wp2
        go_ret2
        exact ⟨by rw [← EK.out]; rfl, HB.out⟩
end So
end Go.Proofs.Ytogkebbgkeffcab
