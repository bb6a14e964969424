/- How many lines of each page are left empty: the model. -/
import Derived.Test.YtdpblijmagcgiaaPq0a
namespace Go.Proofs.Ytdpblijmagcgiaa
open Go.RowKit Go.Joins Go.Deep Go.ChangeShapes Go.WideShapes
set_option linter.unusedVariables false
set_option linter.unusedSimpArgs false
namespace Ln
theorem own_some {W : World} {base n : Nat} {v : Value} {xs : List Value} (h : W.ownsRow base 3 1 v (n + 1) xs) : ∃ g cp, v = .slice (some ⟨g, 0, none⟩) (n + 1) cp := by
  rcases Li.own_forms h with ⟨_, h0⟩ | h1
  · omega
  · exact h1
theorem pbB_ok {zs : List Int} {n : Int} (h : pbB zs n = true) : Okp zs := by
  unfold pbB at h
  rw [Bool.and_eq_true] at h
  exact (pags_ok h.1).1
set_option maxRecDepth 100000 in
set_option maxHeartbeats 8000000 in
theorem sOver {b1 g len cap : Nat} {zs : List Int} {n : Int} {w : World} (h : Ow w b1 g len cap zs) (hl : len ≤ 1048576) :
    Calls Try.prog 41 #[.slice (some ⟨g, 0, none⟩) len cap, .int .i64 n] w (Gives (pbB zs n) (loZ zs n) w) := by
  have C := Lib.hid (sParB (n := n) h hl)
  obtain ⟨ok, hok⟩ : ∃ ok, pbB zs n = ok := ⟨_, rfl⟩
  rw [hok] at C ⊢
  cases ok
  · have he := enZ_no hok
    rw [show loZ zs n = [] by unfold loZ; rw [he]; rfl]
    clear h hok he
    go_enter Try.func41, Try.ntmps41
    go_wp2_with fail
    refine C.out.mono ?_
    rintro e w1 ⟨v, rfl, ho, hb⟩
    clear ho
    go_wp2
    go_ret2
    exact ⟨_, rfl, World.ownsRow_nil _ _ _ _, hb⟩
  · have hpo := pbB_ok hok
    have hz := ow_len h
    have HOW := Lib.hid h
    have h12 : len ≤ 12 := by have := hpo.2.1; omega
    have HA := Lib.hid (fun k (hk : k < len) => hpo.2.2 k (by omega))
    have HPS := Lib.hid (fun k (hk : k ≤ len) => by have := psum_bd hpo.2.2 0 k (by omega); rw [Nat.zero_add, show psum zs 0 = 0 from rfl] at this; exact this)
    obtain ⟨L', e1, e4⟩ := enZ_ok hok
    have e2 : pbZ zs n = L' := by unfold pbZ; rw [e1, List.dropLast_concat]
    have e3 := enZ_len zs n
    have hn := pbB_n hok
    have hn1 := hn.1
    have hn2 := hn.2
    have HLO := Lib.hid (show loZ zs n = lox (enZ zs n) n (enZ zs n).length from rfl)
    rw [e2] at C
    rw [hz] at e1
    obtain ⟨OS, hOS⟩ : ∃ OS, enZ zs n = OS := ⟨_, rfl⟩
    rw [hOS] at e1 e3 e4 HLO
    obtain ⟨R, hR⟩ : ∃ R, loZ zs n = R := ⟨_, rfl⟩
    rw [hR] at HLO ⊢
    have hlen : OS.length = L'.length + 1 := by rw [e1, List.length_append]; rfl
    have HE := Lib.hid e4
    have HBE := Lib.hid (show ∀ k, k ≤ OS.length → 0 ≤ bef OS k ∧ bef OS k ≤ 720 from fun k hk => by
      by_cases e : k = 0
      · subst e; exact ⟨Int.le_refl _, by unfold bef; simp⟩
      · obtain ⟨j, rfl⟩ : ∃ j, k = j + 1 := ⟨k - 1, by omega⟩
        rw [bef_at]
        have := e4 j (by omega)
        omega)
    have HOS := Lib.hid e1
    obtain ⟨m, hm⟩ : ∃ m, L'.length = m := ⟨_, rfl⟩
    rw [hm] at hlen
    have HML := Lib.hid hm
    rw [hlen] at e3 HE HBE HLO
    have HLN := Lib.hid hlen
    obtain ⟨i0, hi, hz0, hz1, hz2⟩ := info_parts Li.info3
    unfold Gives at C
    rw [hm] at C
    clear h hok hn hpo e1 e2 e4 hOS hR hlen hm hz
    go_enter Try.func41, Try.ntmps41
    go_wp2_with fail
    refine C.out.mono ?_
    rintro e w1 ⟨v1, rfl, ho, hb1⟩
    have HB1 := Lib.hid hb1
    have CO := Lib.hid (l1Own_any ho (by omega))
    clear ho hb1
    go_wp2
    go_loop [8, 25] (fun s i => ∃ (k : Nat) (S : Int), k ≤ len ∧ i = .int .i64 (k : Int) ∧ s = .int .i64 S ∧ Hid (S = psum zs k)) (fun _ i => ((len : Int) - intOf i).toNat)
    case atStart => exact ⟨0, 0, by omega, rfl, rfl, Lib.hid rfl⟩
    case round =>
      obtain ⟨k, S, hk, rfl, rfl, HS⟩ := hrel
      have hb := HPS.out k hk
      rw [← HS.out] at hb
      have s1 : 0 ≤ S := by omega
      have s2 : S ≤ 720 := by omega
      clear hb
      by_cases hlt : (k : Int) < len
      · obtain ⟨z, HZK, hc⟩ := ow_at (Li.own_on HOW.out HB1.out) (k := k) (by omega)
        have hza := HA.out k (by omega)
        rw [HZK.out] at hza
        have z1 := hza.1
        have z2 := hza.2
        have HS2 := Lib.hid (show S + z = psum zs (k + 1) by rw [psum_step, HS.out, HZK.out])
        clear hza
        go_wp2
        go_round
        case rel => exact ⟨k + 1, S + z, by omega, by go_num, by first | rfl | go_num, HS2⟩
        case measure => simp [intOf] <;> omega
      · have HOS2 := Lib.hid (show OS = L' ++ [S] by rw [HOS.out, HS.out, show k = len by omega])
        clear HS
        go_wp2_with fail
        refine CO.out.mono ?_
        rintro e w2 ⟨v2, rfl, ho2, hb2⟩
        have HB2 := Lib.hid (HB1.out.trans (below_le hb2 HB1.out.size))
        have HB12 := Lib.hid hb2
        have HOw := Lib.hid (ho2.alloc (.cells #[.int .i64 S] 3))
        have HLT := Lib.hid (fun j hj => (ho2.lt j hj).1)
        have hsw := hb2.size
        clear ho2 hb2
        go_wp2_with (first | (at_builtin; refine wpList_append_own _ rfl _ _ 22 rfl w1.heap.size 3 i0 (.int .i64 0) 1 8 Try.underlying22 hi hz0 hz1 hz2 rfl (by decide) _ _ _ rfl HOw.out ⟨_, 0, none⟩ 1 1 [.int .i64 S] rfl rfl (cell_one_new _ _ _) (fun x hx => by simp at hx; subst hx; rfl) (by unfold maxLen; omega) (by omega) (by simp; omega) ?_; intro v3 w3 hown3 hgrow3 _; obtain ⟨g3, cp3, rfl⟩ := own_some hown3))
        have hq13 : Below w1.heap.size w1 w3 := Below.grown (HB12.out.alloc HB12.out.size (.cells #[.int .i64 S] 3)) hgrow3 (by simp; omega) HLT.out
        have HB3 := Lib.hid (HB1.out.trans (below_le hq13 HB1.out.size))
        have HO3 := Lib.hid (show Ow w3 w1.heap.size g3 (m + 1) cp3 OS by rw [HOS2.out]; unfold Ow; rw [nums_snoc]; exact hown3)
        clear hown3 hgrow3 hq13 HOw
        go_wp2
        go_loopw [9, 12, 39] (fun a v i wr => ∃ (k : Nat) (P : Int) (vv : Value), vv = v ∧ k ≤ m + 1 ∧ i = .int .i64 (k : Int) ∧ a = .int .i64 P ∧ Hid (P = bef OS k) ∧ wr.ownsRow w3.heap.size 3 1 vv k (Li.nums (lox OS n k)) ∧ Below w3.heap.size w3 wr) (fun _ _ i _ => ((m : Int) + 1 - intOf i).toNat)
        case atStart => exact ⟨0, 0, _, rfl, by omega, rfl, rfl, Lib.hid rfl, World.ownsRow_nil _ _ _ _, Below.refl _ _⟩
        case round =>
          obtain ⟨k, P, vv, rfl, hk, rfl, rfl, HP, hown, hb⟩ := hrel
          have HB := Lib.hid hb
          have hsw := hb.size
          clear hb
          by_cases hlt : k < m + 1
          · have hlt2 : (k : Int) < ((m + 1 : Nat) : Int) := by omega
            have hlt3 : (k : Int) < (m : Int) + 1 := by omega
            obtain ⟨z, HZ, hc⟩ := ow_at (Li.own_on HO3.out HB.out) (k := k) hlt
            have hz := HE.out k hlt
            rw [HZ.out] at hz
            have hp := HBE.out k (by omega)
            rw [← HP.out] at hp
            have z1 := hz.1
            have z2 := hz.2
            have p1 := hp.1
            have p2 := hp.2
            have HN := Lib.hid (lox_next OS n k)
            rw [HZ.out, ← HP.out] at HN
            have HP2 := Lib.hid (show z = bef OS (k + 1) by rw [bef_at, HZ.out])
            have HEQ := Lib.hid (show n - z + P = n - (z - P) by omega)
            have HOw := Lib.hid (hown.alloc (.cells #[.int .i64 (n - z + P)] 3))
            have HLT := Lib.hid (fun j hj => (hown.lt j hj).1)
            clear hz hp hown
            go_wp2_with (first | (at_builtin; refine wpList_append_own _ rfl _ _ 22 rfl w3.heap.size 3 i0 (.int .i64 0) 1 8 Try.underlying22 hi hz0 hz1 hz2 rfl (by decide) _ _ _ rfl HOw.out ⟨_, 0, none⟩ 1 1 [.int .i64 (n - z + P)] rfl rfl (cell_one_new _ _ _) (fun x hx => by simp at hx; subst hx; rfl) (by unfold maxLen; omega) (by omega) (by simp; omega) ?_; intro v4 w4 hown4 hgrow4 _))
            have HB4 := Lib.hid (Below.grown (HB.out.alloc HB.out.size (.cells #[.int .i64 (n - z + P)] 3)) hgrow4 (by simp; omega) HLT.out)
            have HO4 := Lib.hid (show w4.ownsRow w3.heap.size 3 1 v4 (k + 1) (Li.nums (lox OS n (k + 1))) by rw [HN.out, nums_snoc, ← HEQ.out]; exact hown4)
            clear hown4 hgrow4
            go_roundw
            case rel => exact ⟨k + 1, z, _, rfl, by omega, by go_num, rfl, HP2, HO4.out, HB4.out⟩
            case measure => simp [intOf] <;> omega
          · have HK := Lib.hid (show k = m + 1 by omega)
            have hlt2 : ¬ (k : Int) < ((m + 1 : Nat) : Int) := by omega
            have hlt3 : ¬ (k : Int) < (m : Int) + 1 := by omega
            have HOw := Lib.hid hown
            clear hown
            go_wp2
            go_ret2
            exact ⟨_, rfl, by rw [HLO.out, lox_len, ← HK.out]; exact Li.own_le HOw.out HB3.out.size, HB3.out.trans (below_le HB.out HB3.out.size)⟩
end Ln
end Go.Proofs.Ytdpblijmagcgiaa
