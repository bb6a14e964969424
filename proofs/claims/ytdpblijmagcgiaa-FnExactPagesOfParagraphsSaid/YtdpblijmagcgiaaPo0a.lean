/- The pages of paragraphs: the model. -/
import Derived.Test.YtdpblijmagcgiaaPn0a
import Derived.Laws.AppendOwnNone
import Derived.Maps.AppendAt
namespace Go.Proofs.Ytdpblijmagcgiaa
open Go.RowKit Go.Joins Go.Deep Go.ChangeShapes Go.WideShapes
set_option linter.unusedVariables false
set_option linter.unusedSimpArgs false
namespace Ln
theorem l1Most_any (a b : Int) (w : World) : Calls Try.prog 76 #[.int .i64 a, .int .i64 b] w fun e w' => e = .returned (.int .i64 (max a b)) ∧ w = w' := by
  by_cases h : b < a
  · have E := Lib.hid (show max a b = a by omega)
    rw [E.out]
    go_enter Try.func76, Try.ntmps76
    go_wp2
    go_ret
    exact ⟨rfl, rfl⟩
  · have E := Lib.hid (show max a b = b by omega)
    rw [E.out]
    have t := decide_eq_false h
    clear h
    go_enter Try.func76, Try.ntmps76
    go_wp2
    go_ret
    exact ⟨rfl, rfl⟩
/-- the model's breaks: without the last one -/
def bkZ (zs : List Int) (n : Int) : List Int := ((ends zs n).getD []).dropLast
set_option maxRecDepth 100000 in
set_option maxHeartbeats 8000000 in
theorem lnBreaks_any {b1 g len cap : Nat} {zs : List Int} {n : Int} {w : World} (h : Ow w b1 g len cap zs) (hok : Okp zs) (hn0 : 2 ≤ n) (hn1 : n ≤ 60) :
    Calls Try.prog 66 #[.slice (some ⟨g, 0, none⟩) len cap, .int .i64 n] w (Gives (ends zs n).isSome (bkZ zs n) w) := by
  have hz := ow_len h
  have HO := Lib.hid h
  have HZ := Lib.hid hz
  have h12 : len ≤ 12 := by have := hok.2.1; omega
  have HA := Lib.hid (fun k (hk : k < len) => hok.2.2 k (by omega))
  have HPS := Lib.hid (fun k (hk : k ≤ len) => by have := psum_bd hok.2.2 0 k (by omega); rw [Nat.zero_add, show psum zs 0 = 0 from rfl] at this; exact this)
  have hib := ib_ok hok
  have hal := alA_all (fun k hk => (hok.2.2 k hk).1) hok.1
  have hbk : bkZ zs n = ((pg (ibA zs zs.length) n 0).getD []).dropLast := rfl
  have hen : (ends zs n).isSome = (pg (ibA zs zs.length) n 0).isSome := rfl
  have C3 := Lib.hid (fun (W : World) (hW : Below w.heap.size w W) => lnAllowed_any (Li.own_on h hW) hok)
  rw [hz] at hib hal hbk hen
  obtain ⟨B, hB⟩ : ∃ B, ibA zs len = B := ⟨_, rfl⟩
  rw [hB] at hib hal hbk hen
  obtain ⟨A, hAe⟩ : ∃ A, alA zs len = A := ⟨_, rfl⟩
  rw [hAe] at hal C3
  obtain ⟨T, hT⟩ : ∃ T, psum zs len = T := ⟨_, rfl⟩
  rw [hT] at hib hal
  have HT := Lib.hid hT
  have HBK := Lib.hid hbk
  have HEN := Lib.hid hen
  have HI := Lib.hid hib.1
  have HBE := Lib.hid hib.2.2.2.1
  have HTB := Lib.hid hib.2.2.2.2
  have hm2 := hib.2.2.1
  obtain ⟨m, hm⟩ : ∃ m, A.length = m := ⟨_, rfl⟩
  have hBm : B.length = m + 1 := by rw [hal, List.length_append, hm]; rfl
  have HML := Lib.hid hBm
  have HAB := Lib.hid (show ∀ j, j < m → A.getD j 0 = B.getD j 0 from fun j hj => by rw [hal, getD_app_l _ _ _ _ (by omega)])
  rw [hBm] at HBE HTB hm2
  have htb := HBE.out (m + 1) (by omega)
  rw [HTB.out] at htb
  have ht1 := htb.1
  have ht2 := htb.2
  have HAL := Lib.hid hm
  rw [hm] at C3
  obtain ⟨OS, hOS⟩ : ∃ x, bkZ zs n = x := ⟨_, rfl⟩
  obtain ⟨OK, hOK⟩ : ∃ x, (ends zs n).isSome = x := ⟨_, rfl⟩
  rw [hOS] at HBK ⊢
  rw [hOK] at HEN ⊢
  obtain ⟨i0, hi, hz0, hz1, hz2⟩ := info_parts Li.info3
  clear h hok hib hal hbk hen hB hAe hT hm hBm hOS hOK htb hz
  go_enter Try.func66, Try.ntmps66
  go_wp2
  go_loop [6, 17] (fun s i => ∃ (k : Nat) (S : Int), k ≤ len ∧ i = .int .i64 (k : Int) ∧ s = .int .i64 S ∧ Hid (S = psum zs k)) (fun _ i => ((len : Int) - intOf i).toNat)
  case atStart => exact ⟨0, 0, by omega, rfl, rfl, Lib.hid rfl⟩
  case round =>
    obtain ⟨k, S, hk, rfl, rfl, HS⟩ := hrel
    have hb := HPS.out k hk
    rw [← HS.out] at hb
    have s1 : 0 ≤ S := by omega
    have s2 : S ≤ 720 := by omega
    clear hb
    by_cases hlt : (k : Int) < len
    · obtain ⟨z, HZK, hc⟩ := ow_at HO.out (k := k) (by omega)
      have hza := HA.out k (by omega)
      rw [HZK.out] at hza
      have z1 := hza.1
      have z2 := hza.2
      have HS2 := Lib.hid (show S + z = psum zs (k + 1) by rw [psum_step, HS.out, HZK.out])
      clear hza
      go_wp2
      go_round
      case rel => exact ⟨k + 1, S + z, by omega, by go_num, by first | rfl | go_num, HS2⟩
      case measure => simp [intOf] <;> omega
    · have hST : S = T := by rw [HS.out, ← HT.out, show k = len by omega]
      subst hST
      clear HS
      go_wp2_with fail
      refine (C3.out _ (Below.refl _ _)).mono ?_
      rintro e w1 ⟨v9, rfl, hr, hb1⟩
      have HRO := Lib.hid hr
      have HB1 := Lib.hid hb1
      obtain ⟨a9, cp9, rfl⟩ : ∃ a cp, v9 = .slice a m cp := own_val hr
      have HA9 := Lib.hid (show m = 0 ∨ ∃ gq, a9 = some ⟨gq, 0, none⟩ from by
        rcases Li.own_forms hr with ⟨_, h0⟩ | ⟨gq, cp, h1⟩
        · exact _root_.Or.inl h0
        · injection h1 with h1; exact _root_.Or.inr ⟨gq, h1⟩)
      clear hr hb1
      go_wp2
      go_loopw [10, 11] (fun v a wr => ∃ (i : Nat) (L : List Int) (P : Int) (vv : Value), vv = v ∧ i ≤ m ∧ L.length ≤ i ∧ a = .int .i64 P ∧ Hid (P = bef B i) ∧ wr.ownsRow w1.heap.size 3 1 vv L.length (Li.nums L) ∧ Hid (pg B n 0 = (pg B n i).map (L ++ ·)) ∧ Below w1.heap.size w1 wr) (fun _ a _ => (721 - intOf a).toNat)
      case atStart => exact ⟨0, [], 0, _, rfl, by omega, by simp, rfl, Lib.hid rfl, World.ownsRow_nil _ _ _ _, Lib.hid (by cases pg B n 0 <;> simp), Below.refl _ _⟩
      case round =>
        obtain ⟨wo, rfl⟩ : ∃ wo : World, wo = wr := ⟨_, rfl⟩
        obtain ⟨i, L, P, vv, rfl, hi2, hLi, rfl, HP, hown, HF, hb⟩ := hrel
        have HB := Lib.hid hb
        have hsw := hb.size
        clear hb
        have hpb := HBE.out i (by omega)
        rw [← HP.out] at hpb
        have p1 := hpb.1
        have p2 := hpb.2
        have HT2 := Lib.hid (fun j (hj : j < m + 1) => rch_test HI.out (n := n) (i := i) (j := j) (by omega) (by rw [HML.out]; omega) (by rw [HML.out]; exact hj))
        have hEb := rch_bd B (bef B i + n) i (by rw [HML.out]; omega)
        have HNO := Lib.hid (fun e => pg_none (B := B) (lines := n) (i := i) (by rw [HML.out]; omega) e)
        have HST := Lib.hid (fun e => pg_step (B := B) (lines := n) (i := i) (by rw [HML.out]; omega) e)
        rw [HML.out] at hEb
        obtain ⟨E, hE⟩ : ∃ E, rch B (bef B i + n) i = E := ⟨_, rfl⟩
        rw [hE] at hEb HT2 HNO HST
        rw [← HP.out] at HT2
        have e1 := hEb.1
        have e2 := hEb.2
        have HLT := Lib.hid (fun j hj => (hown.lt j hj).1)
        have HOwn := Lib.hid hown
        have hTm := HT2.out m (by omega)
        have hTe : B.getD m 0 = S := by rw [← bef_at, HTB.out]
        rw [hTe] at hTm
        clear hE hEb hpb hown
        by_cases hgo : n < S - P
        · have hEm : E ≤ m := by
            apply Classical.byContradiction
            intro hc
            have := hTm.1 (by omega)
            omega
          have HNX0 := Lib.hid (show P = nx B i E 0 by rw [nx_start, HP.out])
          have HNXB := Lib.hid (show ∀ j, 0 ≤ nx B i E j ∧ nx B i E j ≤ 720 from fun j => by unfold nx; exact HBE.out _ (by omega))
          clear hTm hTe
          go_wp2
          go_loop [12, 35] (fun y x => ∃ (j : Nat) (Y : Int), j ≤ m ∧ x = .int .i64 (j : Int) ∧ y = .int .i64 Y ∧ Hid (Y = nx B i E j)) (fun _ x => ((m : Int) - intOf x).toNat)
          case atStart => exact ⟨0, P, by omega, rfl, rfl, HNX0⟩
          case round =>
            obtain ⟨j, Y, hj, rfl, rfl, HY⟩ := hrel
            have hyb := HNXB.out j
            rw [← HY.out] at hyb
            have y1 := hyb.1
            have y2 := hyb.2
            clear hyb
            by_cases hjm : (j : Int) < (m : Int)
            · obtain ⟨gq, rfl⟩ : ∃ gq, a9 = some ⟨gq, 0, none⟩ := by
                rcases HA9.out with h0 | h1
                · omega
                · exact h1
              obtain ⟨z, HZ9, hc⟩ := ow_at (Li.own_on HRO.out HB.out) (k := j) (by omega)
              have hzb : B.getD j 0 = z := by rw [← HAB.out j (by omega), HZ9.out]
              have htj := HT2.out j (by omega)
              rw [hzb] at htj
              have hz9 := HBE.out (j + 1) (by omega)
              rw [bef_at, hzb] at hz9
              have z1 := hz9.1
              have z2 := hz9.2
              by_cases hjE : j < E
              · have hle := htj.1 hjE
                have CM := Lib.hid (fun W => l1Most_any Y z W)
                have HY2 := Lib.hid (show max Y z = nx B i E (j + 1) by rw [HY.out, ← hzb, nx_take HI.out hjE (by rw [HML.out]; omega) (by rw [HML.out]; omega)])
                obtain ⟨X, hX⟩ : ∃ X, max Y z = X := ⟨_, rfl⟩
                rw [hX] at CM HY2
                clear htj hz9 hzb hX
                go_wp2_with fail
                refine (CM.out _).mono ?_
                rintro e w' ⟨rfl, rfl⟩
                go_wp2
                go_round
                case rel => exact ⟨j + 1, X, by omega, by go_num, rfl, HY2⟩
                case measure => simp [intOf] <;> omega
              · have hle := htj.2 hjE
                have tle : decide (z ≤ P + n) = false := decide_eq_false (by omega)
                have HY2 := Lib.hid (show Y = nx B i E (j + 1) by rw [HY.out, nx_skip hjE])
                clear htj hz9 hzb hle
                go_wp2
                go_round
                case rel => exact ⟨j + 1, Y, by omega, by go_num, rfl, HY2⟩
                case measure => simp [intOf] <;> omega
            · have hYE : Y = bef B E := by rw [HY.out, nx_end e1 (by omega)]
              by_cases hEi : E = i
              · have hYP : Y = P := by rw [hYE, hEi, HP.out]
                have tq : (Y == P) = true := by rw [beq_iff_eq]; exact hYP
                have HN := Lib.hid (show pg B n 0 = none by rw [HF.out, HNO.out hEi]; rfl)
                clear hYE hYP hEi
                go_wp2
                go_ret2
                exact gives_eq (Ln_none (HB1.out.trans (below_le HB.out HB1.out.size))) (by rw [HEN.out, HN.out]; rfl) (by rw [HBK.out, HN.out]; rfl)
              · have hPE : P < Y := by rw [hYE, HP.out]; exact bef_lt HI.out (by omega) (by rw [HML.out]; omega)
                have tq : (Y == P) = false := by rw [beq_eq_false_iff_ne]; omega
                have HYE := Lib.hid hYE
                have HNEW := Lib.hid (show pg B n 0 = (pg B n E).map ((L ++ [Y]) ++ ·) by
                  rw [HF.out, HST.out hEi, Option.map_map]
                  have h5 : B.getD (E - 1) 0 = Y := by rw [HYE.out]; unfold bef; rw [if_neg (by omega)]
                  rw [h5]
                  congr 1
                  funext l
                  simp)
                have HOw := Lib.hid (HOwn.out.alloc (.cells #[.int .i64 Y] 3))
                have hiE : i < E := by omega
                clear hYE hEi
                go_wp2_with (first | (at_builtin; refine wpList_append_own _ rfl _ _ 22 rfl w1.heap.size 3 i0 (.int .i64 0) 1 8 Try.underlying22 hi hz0 hz1 hz2 rfl (by decide) _ _ _ rfl HOw.out ⟨_, 0, none⟩ 1 1 [.int .i64 Y] rfl rfl (cell_one_new _ _ _) (fun x hx => by simp at hx; subst hx; rfl) (by unfold maxLen; omega) (by omega) (by simp; omega) ?_; intro v3 w3 hown3 hgrow3 _))
                have HB4 := Lib.hid (Below.grown (HB.out.alloc HB.out.size (.cells #[.int .i64 Y] 3)) hgrow3 (by simp; omega) HLT.out)
                have HO3 := Lib.hid (show w3.ownsRow w1.heap.size 3 1 v3 (L ++ [Y]).length (Li.nums (L ++ [Y])) by rw [nums_snoc, List.length_append]; exact hown3)
                clear hown3 hgrow3
                go_roundw
                case rel => exact ⟨E, L ++ [Y], Y, _, rfl, by omega, by simp; omega, rfl, HYE, HO3.out, HNEW, HB4.out⟩
                case measure => simp [intOf] <;> omega
        · have tgo : decide (n < S - P) = false := decide_eq_false hgo
          have HEE := Lib.hid (show pg B n 0 = some (L ++ [S]) by
            have hEm : E = m + 1 := by
              apply Classical.byContradiction
              intro hc
              exact hTm.2 (by omega) (by omega)
            rw [HF.out, HST.out (by omega), pg_end (B := B) (lines := n) (i := E) (by rw [HML.out]; omega), hEm, Nat.add_sub_cancel, hTe]
            rfl)
          clear hTm hTe
          go_wp2
          go_ret2
          exact gives_eq (ok := true) (os := L) ⟨_, rfl, Li.own_le HOwn.out HB1.out.size, HB1.out.trans (below_le HB.out HB1.out.size)⟩ (by rw [HEN.out, HEE.out]; rfl) (by rw [HBK.out, HEE.out]; simp)
end Ln
end Go.Proofs.Ytdpblijmagcgiaa
