/- When there is a text, and the lengths of its words: the model; WordsOfText from both sides. -/
import Derived.Test.YtbebojahjfnkiaaDoorTe0
namespace Go.Proofs.YtbebojahjfnkiaaDoor
open Go.RowKit Go.Joins Go.Deep Go.ChangeShapes Go.WideShapes Go.Lib
set_option linter.unusedVariables false
set_option linter.unusedSimpArgs false
namespace Ln
theorem txt_no {l : List UInt8} (h : zz true l = true) : txtB l = false := by unfold txtB; rw [h]; simp
theorem sgn_no {l : List UInt8} (h : sgn l 200 = false) : txtB l = false := by unfold txtB; rw [h]; rfl
set_option maxRecDepth 100000 in
set_option maxHeartbeats 8000000 in
theorem lnText_any (l : List UInt8) (hl : l.length ≤ 1048576) (w : World) :
    Calls Tryd.prog 9 #[.string ⟨l.toArray⟩] w fun e w' => e = .returned (.bool (txtB l)) ∧ w = w' := by
  have hsz := ba_size l
  obtain ⟨n, hn⟩ : ∃ n, l.length = n := ⟨_, rfl⟩
  have HN := Lib.hid hn
  rw [hn] at hsz hl
  obtain ⟨x, hx⟩ : ∃ x, (decide (1 ≤ (n : Int)) && decide ((n : Int) ≤ 200)) = x := ⟨_, rfl⟩
  have C1 := Lib.hid (fun W => l1In_any (n : Int) 1 200 x hx W)
  cases x
  · have E := Lib.hid (show txtB l = false from sgn_no (by unfold sgn; rw [hn, hx]; rfl))
    clear hx hn
    go_enter Tryd.func9, Tryd.ntmps9
    go_wp2_with fail
    refine (C1.out _).mono ?_
    rintro e w1 ⟨rfl, rfl⟩
    go_wp2
    go_ret
    exact ⟨rb E.out rfl, rfl⟩
  · have hx2 : 1 ≤ n ∧ n ≤ 200 := by simp only [Bool.and_eq_true, decide_eq_true_eq] at hx; omega
    have hs : sgn l 200 = asc l := by unfold sgn; rw [hn, hx]; rfl
    have n1 := hx2.1
    have n2 := hx2.2
    obtain ⟨m, hm⟩ : ∃ m, n = m + 1 := ⟨n - 1, by omega⟩
    have hnm : (n : Int) - 1 = (m : Int) := by omega
    have hl0 : 0 < l.length := by omega
    have hlm : m < l.length := by omega
    obtain ⟨b0, hb0⟩ : ∃ b, l[0]'hl0 = b := ⟨_, rfl⟩
    obtain ⟨bm, hbm⟩ : ∃ b, l[m]'hlm = b := ⟨_, rfl⟩
    have r0 : ∀ W, (Instr.index 9 (.string ⟨l.toArray⟩) (.int .i64 0)).run Tryd.prog W = .ok (.int .u8 b0.toNat) W := fun W => by
      have := idx_at l 0 (by omega) b0 hb0 W
      simpa using this
    have rm := idx_at l m (by omega) bm hbm
    have HZ0 := Lib.hid (fun (h : b0 = 32) => show txtB l = false from txt_no (by
      cases l with
      | nil => simp at hn; omega
      | cons c r =>
        have hc : c = 32 := by rw [← h, ← hb0]; rfl
        subst hc
        simp [zz]))
    have HZM := Lib.hid (fun (h : bm = 32) => show txtB l = false from txt_no (zz_last l true (by omega) (by
      have e : l.length - 1 = m := by omega
      simp only [e]
      rw [hbm]; exact h)))
    have HFirst := Lib.hid hb0
    have HS := Lib.hid hs
    have HZT := Lib.hid (show zz true l = zz true (l.drop 0) by rw [List.drop_zero])
    clear hx hx2 hs hn hb0
    by_cases c0 : b0 = 32
    · have E := Lib.hid (HZ0.out c0)
      have tq : ((b0.toNat : Int) == 32) = true := by rw [c0]; rfl
      clear c0 hbm hm
      go_enter Tryd.func9, Tryd.ntmps9
      go_wp2_with fail
      refine (C1.out _).mono ?_
      rintro e w1 ⟨rfl, rfl⟩
      go_wp2
      go_ret
      exact ⟨rb E.out rfl, rfl⟩
    · have tq : ((b0.toNat : Int) == 32) = false := by
        rw [beq_eq_false_iff_ne]
        intro e
        exact c0 (UInt8.toNat_inj.1 (by show b0.toNat = 32; omega))
      by_cases cm : bm = 32
      · have E := Lib.hid (HZM.out cm)
        have tm : ((bm.toNat : Int) == 32) = true := by rw [cm]; rfl
        clear c0 cm hbm hm
        go_enter Tryd.func9, Tryd.ntmps9
        go_wp2_with fail
        refine (C1.out _).mono ?_
        rintro e w1 ⟨rfl, rfl⟩
        go_wp2
        go_ret
        exact ⟨rb E.out rfl, rfl⟩
      · have tm : ((bm.toNat : Int) == 32) = false := by
          rw [beq_eq_false_iff_ne]
          intro e
          exact cm (UInt8.toNat_inj.1 (by show bm.toNat = 32; omega))
        have HLast := Lib.hid (show l[m]'hlm ≠ 32 by rw [hbm]; exact cm)
        have HM := Lib.hid hm
        have HC0 := Lib.hid c0
        clear c0 cm hbm hm
        go_enter Tryd.func9, Tryd.ntmps9
        go_wp2_with fail
        refine (C1.out _).mono ?_
        rintro e w1 ⟨rfl, rfl⟩
        go_wp2
        go_loop [3] (fun i => ∃ k : Nat, k ≤ n ∧ i = .int .i64 (k : Int) ∧ Hid (∀ j (h : j < l.length), j < k → 32 ≤ (l[j]).toNat ∧ (l[j]).toNat ≤ 126) ∧ Hid (∃ pb, zz true l = zz pb (l.drop k) ∧ (pb = true → k = 0 ∨ ∃ (h : k - 1 < l.length), l[k - 1] = 32) ∧ (pb = false → 0 < k ∧ ∃ (h : k - 1 < l.length), l[k - 1] ≠ 32))) (fun i => ((n : Int) - intOf i).toNat)
        case atStart => exact ⟨0, by omega, rfl, Lib.hid (fun j h hj => by omega), Lib.hid ⟨true, HZT.out, fun _ => _root_.Or.inl rfl, fun h => by cases h⟩⟩
        case round =>
          obtain ⟨k, hk, rfl, HA, HP⟩ := hrel
          by_cases hlt : k < n
          · have hlt2 : (k : Int) < (n : Int) := by omega
            have hkl : k < l.length := by have := HN.out; omega
            obtain ⟨b, hb⟩ : ∃ b, l[k] = b := ⟨_, rfl⟩
            have rk := idx_at l k hkl b hb
            have HNo := Lib.hid (fun (hq : ¬ (32 ≤ b.toNat ∧ b.toNat ≤ 126)) => show txtB l = false from sgn_no (by rw [HS.out]; exact asc_no hkl (by rw [hb]; exact hq)))
            have HYes := Lib.hid (fun (hq : 32 ≤ b.toNat ∧ b.toNat ≤ 126) => show ∀ j (h : j < l.length), j < k + 1 → 32 ≤ (l[j]).toNat ∧ (l[j]).toNat ≤ 126 from fun j h hj => by
              by_cases e : j = k
              · subst e; rw [hb]; exact hq
              · exact HA.out j h (by omega))
            have HZA := Lib.hid (fun pb => zz_at pb l k hkl)
            have HBK := Lib.hid hb
            clear hb
            by_cases d1 : (b.toNat : Int) < 32
            · have EF := Lib.hid (HNo.out (by omega))
              go_wp2
              go_ret
              exact ⟨rb EF.out rfl, rfl⟩
            · by_cases d2 : (126 : Int) < (b.toNat : Int)
              · have EF := Lib.hid (HNo.out (by omega))
                go_wp2
                go_ret
                exact ⟨rb EF.out rfl, rfl⟩
              · have HA2 := Lib.hid (HYes.out (by omega))
                have t1 : decide ((b.toNat : Int) < 32) = false := decide_eq_false d1
                have t2 : decide ((126 : Int) < (b.toNat : Int)) = false := decide_eq_false d2
                by_cases hbl : b = 32
                · have tb : ((b.toNat : Int) == 32) = true := by rw [hbl]; rfl
                  have hk0 : k ≠ 0 := by
                    intro e
                    subst e
                    exact HC0.out (by rw [← HFirst.out, HBK.out]; exact hbl)
                  obtain ⟨p, hp⟩ : ∃ p, k = p + 1 := ⟨k - 1, by omega⟩
                  have hpl : p < l.length := by omega
                  have hkp : (k : Int) - 1 = (p : Int) := by omega
                  obtain ⟨y, hy⟩ : ∃ y, l[p] = y := ⟨_, rfl⟩
                  have rp := idx_at l p hpl y hy
                  by_cases hyb : y = 32
                  · have ty : ((y.toNat : Int) == 32) = true := by rw [hyb]; rfl
                    have EF := Lib.hid (show txtB l = false from txt_no (by
                      obtain ⟨pb, e1, e2, e3⟩ := HP.out
                      cases pb
                      · obtain ⟨_, h5, e5⟩ := e3 rfl
                        subst hp
                        exact absurd (by simpa using hy.trans hyb) e5
                      · rw [e1, HZA.out true, if_pos (by rw [HBK.out]; exact hbl), if_pos rfl]))
                    clear hp hy hyb hbl hk0
                    go_wp2
                    go_ret
                    exact ⟨rb EF.out rfl, rfl⟩
                  · have ty : ((y.toNat : Int) == 32) = false := by
                      rw [beq_eq_false_iff_ne]
                      intro e
                      exact hyb (UInt8.toNat_inj.1 (by show y.toNat = 32; omega))
                    have HP2 := Lib.hid (show ∃ pb, zz true l = zz pb (l.drop (k + 1)) ∧ (pb = true → k + 1 = 0 ∨ ∃ (h : k + 1 - 1 < l.length), l[k + 1 - 1] = 32) ∧ (pb = false → 0 < k + 1 ∧ ∃ (h : k + 1 - 1 < l.length), l[k + 1 - 1] ≠ 32) by
                      obtain ⟨pb, e1, e2, e3⟩ := HP.out
                      cases pb
                      · refine ⟨true, ?_, fun _ => _root_.Or.inr ⟨by simpa using hkl, by have := HBK.out; simp only [Nat.add_sub_cancel]; rw [this]; exact hbl⟩, fun h => by cases h⟩
                        rw [e1, HZA.out false, if_pos (by rw [HBK.out]; exact hbl), if_neg (by simp)]
                      · rcases e2 rfl with h5 | ⟨h5, e5⟩
                        · exact absurd h5 hk0
                        · subst hp
                          exact absurd (by rw [← hy]; simpa using e5) hyb)
                    clear hp hy hyb hbl hk0
                    go_wp2
                    go_round
                    case rel => exact ⟨k + 1, by omega, by go_num, HA2, HP2⟩
                    case measure => simp [intOf] <;> omega
                · have tb : ((b.toNat : Int) == 32) = false := by
                    rw [beq_eq_false_iff_ne]
                    intro e
                    exact hbl (UInt8.toNat_inj.1 (by show b.toNat = 32; omega))
                  have HP2 := Lib.hid (show ∃ pb, zz true l = zz pb (l.drop (k + 1)) ∧ (pb = true → k + 1 = 0 ∨ ∃ (h : k + 1 - 1 < l.length), l[k + 1 - 1] = 32) ∧ (pb = false → 0 < k + 1 ∧ ∃ (h : k + 1 - 1 < l.length), l[k + 1 - 1] ≠ 32) by
                    obtain ⟨pb, e1, e2, e3⟩ := HP.out
                    refine ⟨false, ?_, (fun h => by cases h), fun _ => ⟨by omega, by simpa using hkl, by have := HBK.out; simp only [Nat.add_sub_cancel]; rw [this]; exact hbl⟩⟩
                    rw [e1, HZA.out pb, if_neg (by rw [HBK.out]; exact hbl)])
                  clear hbl
                  go_wp2
                  go_round
                  case rel => exact ⟨k + 1, by omega, by go_num, HA2, HP2⟩
                  case measure => simp [intOf] <;> omega
          · have hlt2 : ¬ (k : Int) < (n : Int) := by omega
            have E := Lib.hid (show txtB l = true by
              have hkn : k = m + 1 := by have := HM.out; omega
              have ha : asc l = true := (asc_iff l).2 fun j hj => HA.out j hj (by have := HN.out; omega)
              obtain ⟨pb, e1, e2, e3⟩ := HP.out
              unfold txtB
              rw [HS.out, ha, e1, List.drop_of_length_le (by have := HN.out; omega)]
              cases pb
              · rfl
              · rcases e2 rfl with h5 | ⟨h5, e5⟩
                · omega
                · subst hkn
                  exact absurd (by simpa using e5) HLast.out)
            go_wp2
            go_ret
            exact ⟨rb E.out rfl, rfl⟩
end Ln
end Go.Proofs.YtbebojahjfnkiaaDoor
