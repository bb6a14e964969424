/- The rank of a binding, by the program: the method, and the function. -/
import Derived.Test.YtabnjoohojojnaaCd
namespace Go.Proofs.Ytabnjoohojojnaa
open Go.RowKit Go.Joins Go.Deep Go.ChangeShapes Go.WideShapes
set_option linter.unusedVariables false
set_option linter.unusedSimpArgs false
namespace Ln
theorem slice_lm (g l n m c : Nat) (hl : l ≤ n) (hn : n ≤ 8) (hl8 : l < 8) (hm : n - l = m) (hc : 8 - l = c) (W : World) : (Instr.sliceAt 52 (.pointer (some ⟨g, 0, none⟩)) (some (.int .i64 (l : Int))) (some (.int .i64 (n : Int))) none).run Try.prog W = .ok (.slice (some ⟨g, l * 2, none⟩) m c) W := by
  subst hm hc
  exact slice_lh g l n hl hn hl8 _ _ rfl rfl W
set_option maxRecDepth 100000 in
set_option maxHeartbeats 4000000 in
theorem rankM_any (n : Nat) (zs : List Int) (hn : n ≤ 8) (hP : Pre zs n n) (w : World) :
    Calls Try.prog 64 #[.agg (bkA n zs)] w (Ret (.int .i64 (rk zs n n : Int)) w) := by
  obtain ⟨R, hR⟩ : ∃ R, rk zs n n = R := ⟨_, rfl⟩
  have HR := Lib.hid hR
  rw [hR]
  have HP := Lib.hid hP
  clear hR hP
  go_enter Try.func64, Try.ntmps64
  go_wp2
  go_loopw [3, 10] (fun r i wr => ∃ (k K : Nat), k ≤ n ∧ i = .int .i64 (k : Int) ∧ r = .int .i64 (K : Int) ∧ Hid (K = rk zs n k) ∧ Hid (Arr wr w.heap.size 54 (bkA n zs)) ∧ Hid (Below w.heap.size w wr)) (fun _ i _ => ((n : Int) - intOf i).toNat)
  case atStart => exact ⟨0, 0, by omega, rfl, rfl, Lib.hid rfl, Lib.hid (Arr.new _ _ _), Lib.hid (below_alloc1 _ _)⟩
  case round =>
    obtain ⟨k, K, hk, rfl, rfl, HK, HA, HB⟩ := hrel
    obtain ⟨wo, rfl⟩ : ∃ wo : World, wo = wr := ⟨_, rfl⟩
    have hq16 := HA.out.cell (A17_many (nb zs) (tb zs) (n : Int))
    have hsw := HB.out.size
    by_cases hlt : (k : Int) < n
    · have hkn : k < n := by omega
      obtain ⟨M, hM⟩ : ∃ M, n - k = M := ⟨_, rfl⟩
      obtain ⟨c8, hc8⟩ : ∃ c, 8 - k = c := ⟨_, rfl⟩
      have hs := slice_lm w.heap.size k n M c8 (by omega) hn (by omega) hM hc8
      have hM1 : 1 ≤ M := by omega
      have hM8 : M ≤ 8 := by omega
      have hMc : M ≤ c8 := by omega
      have HMK := Lib.hid (show k + M = n by omega)
      have hK : K ≤ 10321920 := by rw [HK.out]; exact rk_8 hn (by omega) (pre_le HP.out (by omega))
      obtain ⟨P, hPP⟩ : ∃ P, K * (2 * M) = P := ⟨_, rfl⟩
      have hP2 : P ≤ 10321920 * (2 * 8) := by rw [← hPP]; exact Nat.mul_le_mul hK (by omega)
      have HX := Lib.hid (show wrap64 ((K : Int) * (2 * (M : Int))) = (P : Int) by
        rw [show (K : Int) * (2 * (M : Int)) = ((K * (2 * M) : Nat) : Int) by push_cast; rfl, hPP]
        exact IntWalk.wrap64_in _ (by omega))
      have HNX := Lib.hid (show (rk zs n (k + 1) : Int) = (P : Int) + wsum zs (zs.getD k 0) k M by
        rw [rk_sum HP.out hkn, ← HK.out, hM, ← hPP]
        push_cast
        rfl)
      obtain ⟨z, hz⟩ : ∃ z, zs.getD k 0 = z := ⟨_, rfl⟩
      have hzb := HP.out k hkn
      rw [hz] at HNX hzb
      have HZ := Lib.hid hz
      have hz1 : -8 ≤ z := by omega
      have hz2 : z ≤ 8 := by omega
      clear hM hc8 hPP hz hzb
      go_wp2
      clear hs hq16
      go_loopw [3, 25] (fun r j wr => ∃ (m S : Nat), m ≤ M ∧ j = .int .i64 (m : Int) ∧ r = .int .i64 (S : Int) ∧ S ≤ 165150720 + 2 * m ∧ Hid ((S : Int) = (P : Int) + wsum zs z k m) ∧ Hid (Arr wr w.heap.size 54 (bkA n zs)) ∧ Hid (Below w.heap.size w wr)) (fun _ j _ => ((M : Int) - intOf j).toNat)
      case atStart => exact ⟨0, P, by omega, rfl, by first | rfl | rw [HX.out], by omega, Lib.hid (by simp [wsum]), HA, HB⟩
      case round =>
        clear HA HB hsw
        obtain ⟨m, S, hm, rfl, rfl, hS, HS, HA, HB⟩ := hrel
        have hsw := HB.out.size
        have hsA := HA.out.lt
        by_cases hlt2 : (m : Int) < M
        · have hmM : m < M := by omega
          have HST := Lib.hid (wsum_step zs z k m)
          obtain ⟨q0, q1⟩ := lf_cells HA.out (k := k + m) (by have := HMK.out; omega)
          obtain ⟨r0, r1⟩ := lf_cells HA.out (k := k) (by omega)
          rw [show (k + m) * 2 = k * 2 + m * 2 by omega] at q0 q1
          rw [HZ.out] at r0 r1
          obtain ⟨y, hy⟩ : ∃ y, zs.getD (k + m) 0 = y := ⟨_, rfl⟩
          have hyb := HP.out (k + m) (by have := HMK.out; omega)
          rw [hy] at q0 q1 HST hyb
          obtain ⟨a, ha⟩ : ∃ a, ab y = a := ⟨_, rfl⟩
          have hab := ab_8 (z := y) (by omega) (by omega)
          rw [ha] at q0 HST hab
          have hwb := wb_bd z a
          have CW := Lib.hid (fun W => ways_any z a hz1 hz2 hab.1 hab.2 W)
          obtain ⟨V, hV⟩ : ∃ V, wb z a = V := ⟨_, rfl⟩
          rw [hV] at CW HST hwb
          obtain ⟨v, rfl⟩ := Int.eq_ofNat_of_zero_le hwb.1
          have hv2 : v ≤ 2 := by omega
          obtain ⟨b, hb⟩ : ∃ b, ab z = b := ⟨_, rfl⟩
          obtain ⟨t, ht⟩ : ∃ t, decide (z < 0) = t := ⟨_, rfl⟩
          obtain ⟨u, hu⟩ : ∃ u, decide (y < 0) = u := ⟨_, rfl⟩
          rw [hb] at r0 CW
          rw [ht] at r1 CW
          rw [hu] at q1
          have HNS := Lib.hid (show ((S + v : Nat) : Int) = (P : Int) + wsum zs z k (m + 1) by rw [HST.out]; have := HS.out; push_cast; omega)
          have HB1 := Lib.hid (HB.out.alloc HB.out.size (.cells #[.int .i64 a, .bool u] 50))
          have HA1 := Lib.hid (HA.out.on (below_alloc1 wr (.cells #[.int .i64 a, .bool u] 50)))
          have hS3 : S3 (wr.alloc (.cells #[.int .i64 a, .bool u] 50)) ⟨w.heap.size, k * 2, none⟩ ⟨w.heap.size, k * 2 + 1, none⟩ ⟨wr.heap.size, 0, none⟩ (.int .i64 b) (.bool t) (.int .i64 a) :=
            ⟨cell_alloc r0 _, cell_alloc r1 _, (Arr.new wr _ _).cell rfl⟩
          have HS3 := Lib.hid hS3
          have e1 : IntKind.i64.wrap ((S : Int) + (v : Int)) = ((S + v : Nat) : Int) := by rw [IntWalk.i64_in _ (by omega)]; push_cast; rfl
          have hMi : (0 : Int) < (M : Int) := by omega
          have hMn : 0 < M := by omega
          clear hy ha hab hwb hV hb ht hu hyb hS3
          go_wp2_with fail
          go_region_held3 (fun w' => w'.cell? ⟨w.heap.size, k * 2, none⟩ = some (.int .i64 b) ∧ w'.cell? ⟨w.heap.size, k * 2 + 1, none⟩ = some (.bool t) ∧ w'.cell? ⟨wr.heap.size, 0, none⟩ = some (.int .i64 a))
            (first | exact HS3.out | exact hs5 | go_keep)
            (first
              | (go_at_call 83; refine (CW.out _).mono ?_; rintro e w5 ⟨rfl, hb5⟩; have hs5 := HS3.out.on hb5 rfl))
          have HE := Lib.hid (HB1.out.drew.trans (hb5.mono HB1.out.size))
          have HA5 := Lib.hid ((HA1.out.drew).on hb5)
          clear hb5 hs5 e1
          go_wp2_with fail
          go_roundw
          case rel => exact ⟨m + 1, S + v, by omega, by go_num, by go_num, by omega, HNS, HA5, HE⟩
          case measure => simp [intOf]; omega
        · have HE := Lib.hid (show S = rk zs n (k + 1) by have h1 := HNX.out; have h2 := HS.out; rw [show M = m by omega] at h1; omega)
          go_wp2
          go_roundw
          case rel => exact ⟨k + 1, S, by omega, by go_num, rfl, HE, HA, HB⟩
          case measure => simp [intOf]; omega
    · have HE := Lib.hid (show K = R by rw [HK.out, ← HR.out, show k = n by omega])
      go_wp2
      go_ret
      exact ⟨by rw [HE.out] <;> rfl, HB.out⟩
set_option maxRecDepth 100000 in
theorem iRankOfBinding {b1 g len cap : Nat} {zs : List Int} {w : World} (h : Ow w b1 g len cap zs) (hl : len ≤ 1048576) :
    Calls Try.prog 36 #[.slice (some ⟨g, 0, none⟩) len cap] w (Ret (.tuple #[.int .i64 (rnN zs), .bool (bnd zs)]) w) := by
  have hz := ow_len h
  cases hv : bnd zs
  · rw [show rnN zs = 0 by unfold rnN; rw [hv]; rfl]
    have C := Lib.hid (toldI_no 64 h hl hv)
    clear h hv
    go_enter Try.func36, Try.ntmps36
    go_wp2_with fail
    refine C.out.mono ?_
    rintro e w1 ⟨rfl, hb⟩
    go_wp2
    go_ret2
    exact ⟨rfl, hb⟩
  · rw [show rnN zs = (rk zs len len : Int) by unfold rnN; rw [hv, hz]; rfl]
    have B := (bnd_iff zs).1 hv
    have h8 : len ≤ 8 := by have := B.2.1; omega
    have C := Lib.hid (toldI_yes 64 (rk zs len len : Int) h hl hv (enters_of Try.func64 (by kernel_rfl) rfl) (fun W => rankM_any len zs h8 (by have := pre_of B; rw [hz] at this; exact this) W))
    obtain ⟨R, hR⟩ : ∃ R, rk zs len len = R := ⟨_, rfl⟩
    rw [hR] at C ⊢
    clear h hv hR hz B
    go_enter Try.func36, Try.ntmps36
    go_wp2_with fail
    refine C.out.mono ?_
    rintro e w1 ⟨rfl, hb⟩
    go_wp2
    go_ret2
    exact ⟨rfl, hb⟩
end Ln
end Go.Proofs.Ytabnjoohojojnaa
