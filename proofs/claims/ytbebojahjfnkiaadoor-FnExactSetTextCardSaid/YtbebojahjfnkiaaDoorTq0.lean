/- SetText of the model. -/
import Derived.Test.YtbebojahjfnkiaaDoorTp0
namespace Go.Proofs.YtbebojahjfnkiaaDoor
open Go.RowKit Go.Joins Go.Deep Go.ChangeShapes Go.WideShapes Go.Lib
set_option linter.unusedVariables false
set_option linter.unusedSimpArgs false
namespace Ln
/-- the first word of a line, and t more -/
def lnP (ps : List (List UInt8)) (A q t : Nat) : List UInt8 := ps.getD A [] ++ Lib.joinTail [32] (((ps.drop (A + 1)).take (q - 1)).take t)
theorem lnP_zero (ps : List (List UInt8)) (A q : Nat) : lnP ps A q 0 = ps.getD A [] := by simp [lnP, Lib.joinTail]
theorem lnP_step {ps : List (List UInt8)} {A q t : Nat} {p : List UInt8} (ht : t < q - 1) (hp : ps[A + 1 + t]? = some p) : lnP ps A q (t + 1) = lnP ps A q t ++ ([32] ++ p) := by
  have hl : A + 1 + t < ps.length := by
    rcases Nat.lt_or_ge (A + 1 + t) ps.length with h | h
    · exact h
    · rw [List.getElem?_eq_none h] at hp; cases hp
  have hlen : t < ((ps.drop (A + 1)).take (q - 1)).length := by simp; omega
  have e : ((ps.drop (A + 1)).take (q - 1))[t] = p := by
    rw [List.getElem_take, List.getElem_drop]
    rw [List.getElem?_eq_getElem hl] at hp
    injection hp
  unfold lnP
  rw [List.take_succ_eq_append_getElem hlen, e]
  simp [Lib.joinTail]
theorem lnP_all {ps : List (List UInt8)} {A q : Nat} (hq : 1 ≤ q) (hA : A < ps.length) : lnP ps A q (q - 1) = Lib.join ((ps.drop A).take q) [32] := by
  obtain ⟨d, rfl⟩ : ∃ d, q = d + 1 := ⟨q - 1, by omega⟩
  rw [List.drop_eq_getElem_cons hA, List.take_succ_cons, Lib.join_cons]
  unfold lnP
  rw [Nat.add_sub_cancel, List.take_of_length_le (by simp; omega)]
  simp [List.getD, List.getElem?_eq_getElem hA]
theorem lnP_len {ps : List (List UInt8)} (hp : ∀ p ∈ ps, p.length ≤ 200) (A q t : Nat) (hq : q ≤ 30) : (lnP ps A q t).length ≤ 6500 := by
  unfold lnP
  rw [List.length_append]
  have h1 : (ps.getD A []).length ≤ 200 := by
    by_cases h : A < ps.length
    · rw [show ps.getD A [] = ps[A] by simp [List.getD, List.getElem?_eq_getElem h]]; exact hp _ (List.getElem_mem h)
    · rw [show ps.getD A [] = [] by simp [List.getD, List.getElem?_eq_none (show ps.length ≤ A by omega)]]; simp
  have h2 := joinTail_len (((ps.drop (A + 1)).take (q - 1)).take t) (fun p hx => hp p (List.mem_of_mem_drop (List.mem_of_mem_take (List.mem_of_mem_take hx))))
  have h3 : (((ps.drop (A + 1)).take (q - 1)).take t).length ≤ 30 := by simp; omega
  omega
theorem str_cap {W : World} {base g n cap : Nat} {xs : List Value} (h : W.ownsRow base 9 1 (.slice (some ⟨g, 0, none⟩) n cap) n xs) : n ≤ cap ∧ cap ≤ 9223372036854775807 := by
  rcases h.2 with ⟨h1, _⟩ | ⟨g', cap', cur, h1, _, _, h4, h5, _⟩
  · cases h1
  · injection h1 with _ _ h3
    subst h3
    exact ⟨h4, by unfold maxLen at h5; omega⟩
set_option maxRecDepth 100000 in
set_option maxHeartbeats 8000000 in
theorem sSetText (l : List UInt8) (wide : Int) (hl : l.length ≤ 1048576) (w : World) :
    Calls Tryd.prog 4 #[.string ⟨l.toArray⟩, .int .i64 wide] w (GivesS (seB l wide) (seZ l wide) w) := by
  have C1 := Lib.hid (fun W => lnText_any l hl W)
  obtain ⟨x1, hx1⟩ : ∃ x, txtB l = x := ⟨_, rfl⟩
  rw [hx1] at C1
  obtain ⟨Q, hQ⟩ : ∃ Q, seZ l wide = Q := ⟨_, rfl⟩
  obtain ⟨v, hv⟩ : ∃ v, seB l wide = v := ⟨_, rfl⟩
  have hvp : v = (x1 && fits (lens l) wide) := by rw [← hv, ← hx1]; rfl
  have hno : v = false → Q = [] := fun h => by rw [← hQ]; unfold seZ; rw [hv, h]; rfl
  rw [hQ, hv]
  cases x1
  · have hf : v = false := by rw [hvp]; rfl
    subst hf
    have hq := hno rfl
    subst hq
    clear hx1 hv hQ hvp hno
    go_enter Tryd.func4, Tryd.ntmps4
    go_wp2_with fail
    refine (C1.out _).mono ?_
    rintro e w1 ⟨rfl, rfl⟩
    go_wp2
    go_ret2
    exact GivesS.none (Below.refl _ _)
  · have htx := txt_len hx1
    have C2 := Lib.hid (fun W => lnParts_any l hl W)
    have hpn := sp_le 32 l
    have CL := Lib.hid (fun (W : World) base v (h : W.ownsRow base 9 1 v (sp 32 l).length (strs (sp 32 l))) => lnLengths_any h (by omega) (fun p hp => by have := sp_parts 32 l p hp; omega))
    rw [plens_sp] at CL
    have hsp : (sp 32 l).length = (lens l).length := by rw [← plens_sp, plens_len]
    have hl1 : 1 ≤ (lens l).length := by cases h : lens l with
      | nil => exact absurd h (lens_ne l)
      | cons a r => simp
    obtain ⟨x2, hx2⟩ : ∃ x, fits (lens l) wide = x := ⟨_, rfl⟩
    have C3 := Lib.hid (fun (W : World) base g cp (h : Ow W base g (lens l).length cp (lens l)) => lnFits_any (wide := wide) h (by omega) x2 hx2)
    rw [hsp] at C2 CL
    rw [hx2, Bool.true_and] at hvp
    subst hvp
    cases v
    · have hq := hno rfl
      subst hq
      obtain ⟨Z, hZ⟩ : ∃ Z, lens l = Z := ⟨_, rfl⟩
      rw [hZ] at C2 CL C3 hl1
      clear hx1 hv hQ hx2 htx hno hZ hsp hpn
      go_enter Tryd.func4, Tryd.ntmps4
      go_wp2_with fail
      refine (C1.out _).mono ?_
      rintro e w1 ⟨rfl, rfl⟩
      go_wp2_with fail
      refine (C2.out _).mono ?_
      rintro e w1 ⟨v1, rfl, ho1, hb1⟩
      have CL1 := Lib.hid (CL.out _ _ _ ho1)
      clear ho1
      go_wp2_with fail
      refine CL1.out.mono ?_
      rintro e w2 ⟨v2, rfl, ho2, hb2⟩
      obtain ⟨gq, cp, rfl⟩ := own_pos ho2 hl1
      have HB2 := Lib.hid (hb1.trans (below_le hb2 hb1.size))
      have CF := Lib.hid (C3.out _ _ _ _ ho2)
      clear ho2 hb1 hb2
      go_wp2_with fail
      refine CF.out.mono ?_
      rintro e w' ⟨rfl, rfl⟩
      go_wp2
      go_ret2
      exact GivesS.none HB2.out
    · have hok := fits_ok hx2
      have C4 := Lib.hid (fun (W : World) base g cp (h : Ow W base g (lens l).length cp (lens l)) => lnFill_any (wide := wide) h hok)
      have hlin := fillA_lines wide hok
      have hone := lines_one hlin
      have hQ2 : Q = setL (sp 32 l) (fillA (lens l) wide 0) (fillA (lens l) wide 0).length := by rw [← hQ]; unfold seZ; rw [hv]; rfl
      have HPL := Lib.hid (fun p hp => Nat.le_trans (sp_parts 32 l p hp) htx.2.1)
      have hps := fun k hk => part_sum hlin k hk
      have hln := lines_ok hlin
      obtain ⟨ls, hls⟩ : ∃ ls, fillA (lens l) wide 0 = ls := ⟨_, rfl⟩
      rw [hls] at C4 hone hQ2 hps hln
      obtain ⟨ps, hpe⟩ : ∃ ps, sp 32 l = ps := ⟨_, rfl⟩
      rw [hpe] at hQ2 hsp C2 CL HPL
      obtain ⟨Z, hZ⟩ : ∃ Z, lens l = Z := ⟨_, rfl⟩
      rw [hZ] at C2 CL C3 C4 hl1 hsp hps hln hok
      obtain ⟨N, hN⟩ : ∃ N, Z.length = N := ⟨_, rfl⟩
      obtain ⟨m, hm⟩ : ∃ m, ls.length = m := ⟨_, rfl⟩
      rw [hN] at C2 CL C3 C4 hl1 hsp hps hln
      rw [hm] at C4 hone hQ2 hps hln
      have HPS := Lib.hid hps
      have HLN := Lib.hid hln.2.2.1
      have hN30 : N ≤ 30 := by rw [← hN]; exact hok.2.1
      have hm30 : m ≤ 30 := by have := hln.2.1; omega
      have HQ := Lib.hid hQ2
      have HSP := Lib.hid hsp
      have HLP := Lib.hid (fun A q t hq => lnP_len HPL.out A q t hq)
      obtain ⟨i0, hi, hz0, hz1, hz2⟩ := info_parts info9
      clear hx1 hv hQ hx2 htx hok hno hlin hQ2 hsp hps hln hls hpe hZ hN hm hpn
      go_enter Tryd.func4, Tryd.ntmps4
      go_wp2_with fail
      refine (C1.out _).mono ?_
      rintro e w1 ⟨rfl, rfl⟩
      go_wp2_with fail
      refine (C2.out _).mono ?_
      rintro e w1 ⟨v1, rfl, ho1, hb1⟩
      have CL1 := Lib.hid (CL.out _ _ _ ho1)
      clear ho1
      go_wp2_with fail
      refine CL1.out.mono ?_
      rintro e w2 ⟨v2, rfl, ho2, hb2⟩
      obtain ⟨gq, cp, rfl⟩ := own_pos ho2 hl1
      have HB2 := Lib.hid (hb1.trans (below_le hb2 hb1.size))
      have CF := Lib.hid (C3.out _ _ _ _ ho2)
      clear ho2 hb1 hb2
      go_wp2_with fail
      refine CF.out.mono ?_
      rintro e w' ⟨rfl, rfl⟩
      go_wp2_with fail
      refine (C2.out _).mono ?_
      rintro e w3 ⟨v3, rfl, ho3, hb3⟩
      obtain ⟨gp, cpp, rfl⟩ : ∃ g4 cp4, v3 = .slice (some ⟨g4, 0, none⟩) N cp4 := by
        rcases str_forms ho3 with ⟨_, h0⟩ | h1
        · omega
        · exact h1
      have hcap := str_cap ho3
      have hc1 := hcap.1
      have hc2 := hcap.2
      have HB3 := Lib.hid (HB2.out.trans (below_le hb3 HB2.out.size))
      have HO3 := Lib.hid ho3
      have CL3 := Lib.hid (CL.out _ _ _ ho3)
      clear ho3 hb3 hcap
      go_wp2_with fail
      refine CL3.out.mono ?_
      rintro e w4 ⟨v4, rfl, ho4, hb4⟩
      obtain ⟨g4, cp4, rfl⟩ := own_pos ho4 hl1
      have HB4 := Lib.hid (HB3.out.trans (below_le hb4 HB3.out.size))
      have HO34 := Lib.hid (Li.own_on HO3.out hb4)
      have C4' := Lib.hid (C4.out _ _ _ _ ho4)
      clear ho4 hb4
      go_wp2_with fail
      refine C4'.out.mono ?_
      rintro e w5 ⟨v5, rfl, ho5, hb5⟩
      obtain ⟨g5, cp5, rfl⟩ := own_pos ho5 hone
      have HB5 := Lib.hid (HB4.out.trans (below_le hb5 HB4.out.size))
      have HO35 := Lib.hid (Li.own_on HO34.out hb5)
      have HO5 := Lib.hid ho5
      clear ho5 hb5
      go_wp2
      go_loopw [6, 7, 31] (fun s v i wr => ∃ (k A o : Nat) (vv : Value), vv = v ∧ k ≤ m ∧ A ≤ N ∧ (o = A ∨ N - A = 0) ∧ i = .int .i64 (k : Int) ∧ s = .slice (some ⟨gp, o, none⟩) (N - A) (cpp - A) ∧ Hid ((A : Int) = psum ls k) ∧ Hid (wr.ownsRow w5.heap.size 9 1 vv k (strs (setL ps ls k))) ∧ Hid (Below w5.heap.size w5 wr)) (fun _ _ i _ => ((m : Int) - RowKit.intOf i).toNat)
      case atStart => exact ⟨0, 0, 0, _, rfl, by omega, by omega, _root_.Or.inl rfl, rfl, by simp, Lib.hid rfl, Lib.hid (World.ownsRow_nil _ _ _ _), Lib.hid (Below.refl _ _)⟩
      case round =>
        obtain ⟨wo, rfl⟩ : ∃ wo : World, wo = wr := ⟨_, rfl⟩
        obtain ⟨k, A, o, vv, rfl, hk, hA, hoA, rfl, rfl, HS, HOW, HB⟩ := hrel
        have hsw := HB.out.size
        by_cases hlt : (k : Int) < (m : Int)
        · obtain ⟨z, HZK, hc⟩ := ow_at (Li.own_on HO5.out HB.out) (k := k) (by omega)
          have hza := HLN.out k (by omega)
          have hp1 := HPS.out (k + 1) (by omega)
          rw [psum_step, ← HS.out, HZK.out] at hp1
          rw [HZK.out] at hza
          obtain ⟨q, rfl⟩ := Int.eq_ofNat_of_zero_le (show 0 ≤ z by omega)
          have hAq : A + q ≤ N := by omega
          have hq1 : 1 ≤ q := by omega
          have hq30 : q ≤ 30 := by omega
          obtain rfl : o = A := by omega
          have hRow := Li.own_on HO35.out HB.out
          obtain ⟨p0, HP0, hc0⟩ := str_at hRow (k := o) (by omega)
          have HRW := Lib.hid hRow
          have HS2 := Lib.hid (show ((o + q : Nat) : Int) = psum ls (k + 1) by rw [psum_step, ← HS.out, HZK.out]; simp)
          have HT := Lib.hid (show lnT ps ls k = lnP ps o q (q - 1) by
            rw [lnP_all hq1 (by rw [HSP.out]; omega)]
            unfold lnT
            rw [← HS.out, HZK.out, Int.toNat_natCast, Int.toNat_natCast])
          have HZ0 := Lib.hid (show lnP ps o q 0 = p0 by rw [lnP_zero]; simp [List.getD, HP0.out])
          have HN := Lib.hid (setL_next ps ls k)
          obtain ⟨o1, r1, ho1⟩ := slh_run gp o (N - o) (cpp - o) 1 q 1 (q : Int) rfl rfl (by omega) (by omega)
          obtain ⟨o2, r2, ho2⟩ := scut_run gp o (N - o) (cpp - o) q (q : Int) rfl (by omega) (by omega)
          have hN1 : (0 : Int) < ((N - o : Nat) : Int) := by omega
          clear hza hp1 hoA hRow
          go_wp2
          go_loop [10, 42] (fun s i => ∃ t : Nat, t ≤ q - 1 ∧ i = .int .i64 (t : Int) ∧ s = .string ⟨(lnP ps o q t).toArray⟩) (fun _ i => (((q - 1 : Nat) : Int) - RowKit.intOf i).toNat)
          case atStart => exact ⟨0, by omega, rfl, by rw [HZ0.out]⟩
          case round =>
            obtain ⟨t, ht, rfl, rfl⟩ := hrel
            have hll := HLP.out o q t hq30
            have hls2 := ba_size (lnP ps o q t)
            by_cases htl : t < q - 1
            · have htl2 : (t : Int) < ((q - 1 : Nat) : Int) := by omega
              obtain ⟨p, HPK, hcp⟩ := str_at HRW.out (k := o + 1 + t) (by omega)
              have ho1' : o1 = o + 1 := by omega
              have hcp' : wo.cell? ⟨gp, o1 + t, none⟩ = some (.string ⟨p.toArray⟩) := by rw [ho1']; exact hcp
              have hpl := HPL.out p (List.mem_of_getElem? HPK.out)
              have hps2 := ba_size p
              have HST := Lib.hid (show (⟨(lnP ps o q t).toArray⟩ : ByteArray) ++ ((⟨#[32]⟩ : ByteArray) ++ ⟨p.toArray⟩) = ⟨(lnP ps o q (t + 1)).toArray⟩ by
                rw [show (⟨#[32]⟩ : ByteArray) = ⟨[32].toArray⟩ from rfl, mk_append', mk_append', lnP_step htl HPK.out])
              obtain ⟨L1, hL1⟩ : ∃ L1, (⟨(lnP ps o q t).toArray⟩ : ByteArray) = L1 := ⟨_, rfl⟩
              obtain ⟨P1, hP1⟩ : ∃ P1, (⟨p.toArray⟩ : ByteArray) = P1 := ⟨_, rfl⟩
              rw [hL1] at hls2 HST ⊢
              rw [hP1] at hps2 HST hcp'
              have b1 : L1.size ≤ 6500 := by omega
              have b2 : P1.size ≤ 200 := by omega
              have b3 : ((⟨#[32]⟩ : ByteArray) ++ P1).size ≤ 201 := by rw [ByteArray.size_append]; show 1 + P1.size ≤ 201; omega
              clear hcp ho1' hL1 hP1
              go_wp2
              go_round
              case rel => exact ⟨t + 1, by omega, by go_num, by rw [← HST.out]⟩
              case measure => simp [RowKit.intOf] <;> omega
            · have htl2 : ¬ (t : Int) < ((q - 1 : Nat) : Int) := by omega
              have HT2 := Lib.hid (show lnT ps ls k = lnP ps o q t by rw [HT.out, show t = q - 1 by omega])
              obtain ⟨T, hT⟩ : ∃ T, lnP ps o q t = T := ⟨_, rfl⟩
              rw [hT] at HT2 ⊢
              have HOa := Lib.hid (HOW.out.alloc (.cells #[.string ⟨T.toArray⟩] 9))
              have HLT := Lib.hid (fun j hj => (HOW.out.lt j hj).1)
              clear hT hll hls2
              go_wp2_with (first | (at_builtin; refine wpList_append_own _ rfl _ _ 22 rfl w5.heap.size 9 i0 (.string ByteArray.empty) 1 16 Tryd.underlying22 hi hz0 hz1 hz2 rfl (by decide) _ _ _ rfl HOa.out ⟨_, 0, none⟩ 1 1 [.string ⟨T.toArray⟩] rfl rfl (cell_one_new _ _ _) (fun x hx => by simp at hx; subst hx; rfl) (by unfold maxLen; omega) (by omega) (by simp; omega) ?_; intro v6 w6 hown6 hgrow6 _))
              have HB6 := Lib.hid (Below.grown (HB.out.alloc HB.out.size (.cells #[.string ⟨T.toArray⟩] 9)) hgrow6 (by simp; omega) HLT.out)
              have HO6 := Lib.hid (show w6.ownsRow w5.heap.size 9 1 v6 (k + 1) (strs (setL ps ls (k + 1))) by rw [HN.out, HT2.out, strs_snoc]; exact hown6)
              clear hown6 hgrow6
              go_roundw
              case rel => exact ⟨k + 1, o + q, o2, _, rfl, by omega, by omega, by omega, by go_num, by first | (congr 1 <;> omega) | trace_state, HS2, HO6, HB6⟩
              case measure => simp [RowKit.intOf] <;> omega
        · have HK := Lib.hid (show k = m by omega)
          go_wp2
          go_ret2
          exact ⟨_, rfl, by rw [HQ.out, setL_len]; exact Li.own_le (by have := HOW.out; rw [HK.out] at this; exact this) HB5.out.size, HB5.out.trans (below_le HB.out HB5.out.size)⟩
end Ln
end Go.Proofs.YtbebojahjfnkiaaDoor
