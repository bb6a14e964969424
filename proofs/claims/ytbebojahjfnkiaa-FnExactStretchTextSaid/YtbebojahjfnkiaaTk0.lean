/- A text with its blanks stretched: the model. -/
import Derived.Test.YtbebojahjfnkiaaTj0
namespace Go.Proofs.Ytbebojahjfnkiaa
open Go.RowKit Go.Joins Go.Deep Go.ChangeShapes Go.WideShapes Go.Lib
set_option linter.unusedVariables false
set_option linter.unusedSimpArgs false
namespace Ln
def catR : List (List UInt8) → List Int → List UInt8
  | [], _ => []
  | p :: ps, ss => bl (ss.headD 0).toNat ++ (p ++ catR ps ss.tail)
theorem st_cat : ∀ (l : List UInt8) (ss : List Int), st l ss = (sp 32 l).headD [] ++ catR (sp 32 l).tail ss := by
  intro l
  induction l with
  | nil => intro ss; rfl
  | cons b l ih =>
    intro ss
    by_cases e : b = 32
    · subst e
      rw [sp, if_pos rfl, st, if_pos rfl, ih ss.tail]
      cases h : sp 32 l with
      | nil => exact absurd h (sp_ne 32 l)
      | cons p ps => simp [catR]
    · rw [sp, if_neg e, st, if_neg e, ih ss]
      rfl
theorem catR_snoc : ∀ (ps : List (List UInt8)) (p : List UInt8) (ss : List Int), catR (ps ++ [p]) ss = catR ps ss ++ (bl (ss.getD ps.length 0).toNat ++ p) := by
  intro ps
  induction ps with
  | nil => intro p ss; cases ss <;> simp [catR]
  | cons q ps ih =>
    intro p ss
    rw [List.cons_append, catR, ih, catR]
    cases ss <;> simp
/-- the first part, and k more with their blanks ahead -/
def cpre (ps : List (List UInt8)) (ss : List Int) : Nat → List UInt8
  | 0 => ps.headD []
  | k + 1 => cpre ps ss k ++ (bl (ss.getD k 0).toNat ++ ps.getD (k + 1) [])
theorem cpre_cat (ps : List (List UInt8)) (ss : List Int) : ∀ k, k ≤ ps.tail.length → cpre ps ss k = ps.headD [] ++ catR (ps.tail.take k) ss := by
  intro k
  induction k with
  | zero => intro _; simp [cpre, catR]
  | succ k ih =>
    intro hk
    have e : ps.getD (k + 1) [] = ps.tail[k]'(by omega) := by
      cases ps with
      | nil => simp at hk
      | cons p ps =>
        simp only [List.tail_cons, List.length_cons] at hk ⊢
        rw [List.getD_cons_succ]
        simp [List.getD, List.getElem?_eq_getElem (show k < ps.length by omega)]
    rw [cpre, ih (by omega), List.take_succ_eq_append_getElem (by omega : k < ps.tail.length), catR_snoc, List.length_take, Nat.min_eq_left (by omega), e, List.append_assoc]
theorem cpre_st (l : List UInt8) (ss : List Int) : cpre (sp 32 l) ss (blk l) = st l ss := by
  have h := sp_blk l
  rw [st_cat, cpre_cat _ _ _ (by rw [List.length_tail, h]; omega), List.take_of_length_le (by rw [List.length_tail, h]; omega)]
theorem cpre_len {ps : List (List UInt8)} {ss : List Int} (hp : ∀ p ∈ ps, p.length ≤ 200) (hs : ∀ x ∈ ss, 0 ≤ x ∧ x ≤ 120) : ∀ k, (cpre ps ss k).length ≤ 200 + 320 * k := by
  have h1 : ∀ k, (ps.getD k []).length ≤ 200 := fun k => by
    by_cases h : k < ps.length
    · rw [show ps.getD k [] = ps[k] by simp [List.getD, List.getElem?_eq_getElem h]]; exact hp _ (List.getElem_mem h)
    · rw [show ps.getD k [] = [] by simp [List.getD, List.getElem?_eq_none (show ps.length ≤ k by omega)]]; simp
  have h2 : ∀ k, (ss.getD k 0).toNat ≤ 120 := fun k => by
    by_cases h : k < ss.length
    · rw [show ss.getD k 0 = ss[k] by simp [List.getD, List.getElem?_eq_getElem h]]; have := hs _ (List.getElem_mem h); omega
    · rw [show ss.getD k 0 = 0 by simp [List.getD, List.getElem?_eq_none (show ss.length ≤ k by omega)]]; simp
  intro k
  induction k with
  | zero =>
    have : cpre ps ss 0 = ps.getD 0 [] := by cases ps <;> rfl
    rw [this]
    have := h1 0
    omega
  | succ k ih =>
    rw [cpre, List.length_append, List.length_append, bl_len]
    have := h1 (k + 1)
    have := h2 k
    omega
theorem str_val {W : World} {base n : Nat} {v : Value} {xs : List Value} (h : W.ownsRow base 9 1 v n xs) : ∃ a cap, v = .slice a n cap := by
  rcases str_forms h with ⟨rfl, rfl⟩ | ⟨g, cap, rfl⟩ <;> exact ⟨_, _, rfl⟩
theorem stB_parts (l : List UInt8) (wide : Int) : stB l wide = (((txtB l && fits (lens l) wide) && !decide ((lens l).length = 1)) && decide ((l.length : Int) ≤ wide)) := by
  unfold stB wtB ssB
  rw [need_text]
  cases h : fits (lens l) wide with
  | false => simp
  | true =>
    have hg : good (lens l) = true := (good_iff _).2 (fits_ok h)
    rw [hg]
    simp [Bool.and_assoc]
set_option maxRecDepth 100000 in
set_option maxHeartbeats 8000000 in
theorem sStretchText (l : List UInt8) (wide : Int) (hl : l.length ≤ 1048576) (w : World) :
    Calls Try.prog 11 #[.string ⟨l.toArray⟩, .int .i64 wide] w (Ret (.tuple #[.string (stT l wide), .bool (stB l wide)]) w) := by
  have C1 := Lib.hid (fun W => lnText_any l hl W)
  obtain ⟨x1, hx1⟩ : ∃ x, txtB l = x := ⟨_, rfl⟩
  rw [hx1] at C1
  obtain ⟨T, hT⟩ : ∃ T, stT l wide = T := ⟨_, rfl⟩
  obtain ⟨v, hv⟩ : ∃ v, stB l wide = v := ⟨_, rfl⟩
  rw [hT, hv]
  have hparts := stB_parts l wide
  rw [hv, hx1] at hparts
  cases x1
  · have hf : v = false := by rw [hparts]; rfl
    subst hf
    have HT := Lib.hid (show (⟨#[]⟩ : ByteArray) = T by rw [← hT, st_no hv])
    clear hx1 hv hT hparts
    go_enter Try.func11, Try.ntmps11
    go_wp2_with fail
    refine (C1.out _).mono ?_
    rintro e w1 ⟨rfl, rfl⟩
    go_wp2
    go_ret2
    exact ⟨rsb HT.out rfl, Below.refl _ _⟩
  · have htx := txt_len hx1
    have hsz := ba_size l
    have C2 := Lib.hid (fun W => lnParts_any l hl W)
    have hpn := sp_le 32 l
    have CL := Lib.hid (fun (W : World) base v (h : W.ownsRow base 9 1 v (sp 32 l).length (strs (sp 32 l))) => lnLengths_any h (by omega) (fun p hp => by have := sp_parts 32 l p hp; omega))
    rw [plens_sp] at CL
    have hpl : (sp 32 l).length = (lens l).length := by rw [← plens_sp, plens_len]
    have hl1 : 1 ≤ (lens l).length := by rw [lens_blk]; omega
    obtain ⟨x2, hx2⟩ : ∃ x, fits (lens l) wide = x := ⟨_, rfl⟩
    have C3 := Lib.hid (fun (W : World) base g cp (h : Ow W base g (lens l).length cp (lens l)) => lnFits_any (wide := wide) h (by omega) x2 hx2)
    rw [hpl] at C2 CL
    rw [hx2, Bool.true_and] at hparts
    obtain ⟨N, hN⟩ : ∃ N, (lens l).length = N := ⟨_, rfl⟩
    have HNB := Lib.hid (show N = blk l + 1 by rw [← hN, lens_blk])
    rw [hN] at C2 CL C3 hl1 hparts
    have hN2 : N ≤ 1048576 := by omega
    cases x2
    · have hf : v = false := by rw [hparts]; rfl
      subst hf
      have HT := Lib.hid (show (⟨#[]⟩ : ByteArray) = T by rw [← hT, st_no hv])
      obtain ⟨Z, hZ⟩ : ∃ Z, lens l = Z := ⟨_, rfl⟩
      rw [hZ] at C3 CL
      clear hx1 hv hT hparts hx2 hpl hN hZ hpn htx
      go_enter Try.func11, Try.ntmps11
      go_wp2_with fail
      refine (C1.out _).mono ?_
      rintro e w1 ⟨rfl, rfl⟩
      go_wp2_with fail
      refine (C2.out _).mono ?_
      rintro e w1 ⟨v1, rfl, ho1, hb1⟩
      have CL1 := Lib.hid (CL.out _ _ _ ho1)
      clear ho1
      go_wp2_with fail
      refine CL1.out.mono ?_
      rintro e w2 ⟨v2, rfl, ho2, hb2⟩
      obtain ⟨gq, cp, rfl⟩ := own_pos ho2 hl1
      have HB2 := Lib.hid (hb1.trans (below_le hb2 hb1.size))
      have CF := Lib.hid (C3.out _ _ _ _ ho2)
      clear ho2 hb1 hb2
      go_wp2_with fail
      refine CF.out.mono ?_
      rintro e w' ⟨rfl, rfl⟩
      go_wp2
      go_ret2
      exact ⟨rsb HT.out rfl, HB2.out⟩
    · have hok := fits_ok hx2
      have hw80 := wide80 hx2
      by_cases c1 : N = 1
      · have hf : v = false := by rw [hparts, c1]; rfl
        subst hf
        have HT := Lib.hid (show (⟨#[]⟩ : ByteArray) = T by rw [← hT, st_no hv])
        subst c1
        obtain ⟨Z, hZ⟩ : ∃ Z, lens l = Z := ⟨_, rfl⟩
        rw [hZ] at C3 CL
        clear hx1 hv hT hparts hx2 hpl hN hZ hpn htx hok
        go_enter Try.func11, Try.ntmps11
        go_wp2_with fail
        refine (C1.out _).mono ?_
        rintro e w1 ⟨rfl, rfl⟩
        go_wp2_with fail
        refine (C2.out _).mono ?_
        rintro e w1 ⟨v1, rfl, ho1, hb1⟩
        have CL1 := Lib.hid (CL.out _ _ _ ho1)
        clear ho1
        go_wp2_with fail
        refine CL1.out.mono ?_
        rintro e w2 ⟨v2, rfl, ho2, hb2⟩
        obtain ⟨gq, cp, rfl⟩ := own_pos ho2 hl1
        have HB2 := Lib.hid (hb1.trans (below_le hb2 hb1.size))
        have CF := Lib.hid (C3.out _ _ _ _ ho2)
        clear ho2 hb1 hb2
        go_wp2_with fail
        refine CF.out.mono ?_
        rintro e w' ⟨rfl, rfl⟩
        go_wp2_with fail
        refine (C2.out _).mono ?_
        rintro e w3 ⟨v3, rfl, ho3, hb3⟩
        have HB3 := Lib.hid (HB2.out.trans (below_le hb3 HB2.out.size))
        obtain ⟨a3, cp3, rfl⟩ := str_val ho3
        clear ho3 hb3
        go_wp2
        go_ret2
        exact ⟨rsb HT.out rfl, HB3.out⟩
      · have tq : ((N : Int) == 1) = false := by rw [beq_eq_false_iff_ne]; omega
        obtain ⟨n, hn⟩ : ∃ n, l.length = n := ⟨_, rfl⟩
        rw [hn] at hsz hparts
        by_cases c2 : wide < (n : Int)
        · have hf : v = false := by rw [hparts, show decide ((n : Int) ≤ wide) = false by simp; omega, Bool.and_false]
          subst hf
          have HT := Lib.hid (show (⟨#[]⟩ : ByteArray) = T by rw [← hT, st_no hv])
          obtain ⟨Z, hZ⟩ : ∃ Z, lens l = Z := ⟨_, rfl⟩
          rw [hZ] at C3 CL
          clear hx1 hv hT hparts hx2 hpl hN hZ hpn htx hok hn c1
          go_enter Try.func11, Try.ntmps11
          go_wp2_with fail
          refine (C1.out _).mono ?_
          rintro e w1 ⟨rfl, rfl⟩
          go_wp2_with fail
          refine (C2.out _).mono ?_
          rintro e w1 ⟨v1, rfl, ho1, hb1⟩
          have CL1 := Lib.hid (CL.out _ _ _ ho1)
          clear ho1
          go_wp2_with fail
          refine CL1.out.mono ?_
          rintro e w2 ⟨v2, rfl, ho2, hb2⟩
          obtain ⟨gq, cp, rfl⟩ := own_pos ho2 hl1
          have HB2 := Lib.hid (hb1.trans (below_le hb2 hb1.size))
          have CF := Lib.hid (C3.out _ _ _ _ ho2)
          clear ho2 hb1 hb2
          go_wp2_with fail
          refine CF.out.mono ?_
          rintro e w' ⟨rfl, rfl⟩
          go_wp2_with fail
          refine (C2.out _).mono ?_
          rintro e w3 ⟨v3, rfl, ho3, hb3⟩
          have HB3 := Lib.hid (HB2.out.trans (below_le hb3 HB2.out.size))
          obtain ⟨a3, cp3, rfl⟩ := str_val ho3
          clear ho3 hb3
          go_wp2
          go_ret2
          exact ⟨rsb HT.out rfl, HB3.out⟩
        · have hf : v = true := by rw [hparts, decide_eq_false c1, show decide ((n : Int) ≤ wide) = true by simp; omega]; rfl
          subst hf
          have tc : decide (wide < (n : Int)) = false := decide_eq_false c2
          have hssb : ssB (lens l) wide = true := by
            unfold stB at hv
            rw [Bool.and_eq_true] at hv
            exact hv.2
          have hneed : need (lens l) 0 (lens l).length ≤ wide := by rw [need_text, hn]; omega
          have C4 := Lib.hid (fun (W : World) base g cp (h : Ow W base g N cp (lens l)) => lnStretch_any (wide := wide) h hok hneed hw80)
          have hz : ssZ (lens l) wide = sht (wide - need (lens l) 0 (lens l).length + (N : Int) - 1) (N - 1) := by unfold ssZ; rw [hssb, hN]; rfl
          rw [← hz] at C4
          have hel : ∀ x ∈ ssZ (lens l) wide, 0 ≤ x ∧ x ≤ 120 := by
            rw [hz, need_text, hn]
            intro x hx
            have := hok.2.1
            have := sht_el _ _ (by omega) (by omega) x hx
            omega
          have hsl : (ssZ (lens l) wide).length = N - 1 := by rw [hz, sht_len]
          have HT := Lib.hid (show (⟨(st l (ssZ (lens l) wide)).toArray⟩ : ByteArray) = T by rw [← hT]; unfold stT; rw [hv]; rfl)
          have h30 : N ≤ 30 := by have := hok.2.1; omega
          obtain ⟨m, hm⟩ : ∃ m, N = m + 1 := ⟨N - 1, by omega⟩
          have hm1 : 1 ≤ m := by omega
          have HPL := Lib.hid (fun p hp => Nat.le_trans (sp_parts 32 l p hp) htx.2.1)
          have HCP := Lib.hid (cpre_len (ps := sp 32 l) (ss := ssZ (lens l) wide) (fun p hp => Nat.le_trans (sp_parts 32 l p hp) htx.2.1) hel)
          have HCS := Lib.hid (cpre_st l (ssZ (lens l) wide))
          have HMB := Lib.hid (show blk l = m by have := HNB.out; omega)
          have HPN := Lib.hid (show (sp 32 l).length = m + 1 by rw [hpl, hN, hm])
          obtain ⟨ss, hss⟩ : ∃ ss, ssZ (lens l) wide = ss := ⟨_, rfl⟩
          rw [hss] at C4 hel hsl HT HCP HCS
          obtain ⟨Z, hZ⟩ : ∃ Z, lens l = Z := ⟨_, rfl⟩
          rw [hZ] at C3 CL C4
          obtain ⟨ps, hps⟩ : ∃ ps, sp 32 l = ps := ⟨_, rfl⟩
          rw [hps] at C2 CL HPL HCP HCS HPN
          have HEL := Lib.hid hel
          have HSL := Lib.hid (show ss.length = m by rw [hsl, hm]; rfl)
          subst hm
          rw [Nat.add_sub_cancel] at C4
          clear hx1 hv hT hparts hx2 hpl hN hZ hpn htx hok hn c1 c2 hssb hneed hz hel hsl hss hps
          go_enter Try.func11, Try.ntmps11
          go_wp2_with fail
          refine (C1.out _).mono ?_
          rintro e w1 ⟨rfl, rfl⟩
          go_wp2_with fail
          refine (C2.out _).mono ?_
          rintro e w1 ⟨v1, rfl, ho1, hb1⟩
          have CL1 := Lib.hid (CL.out _ _ _ ho1)
          clear ho1
          go_wp2_with fail
          refine CL1.out.mono ?_
          rintro e w2 ⟨v2, rfl, ho2, hb2⟩
          obtain ⟨gq, cp, rfl⟩ := own_pos ho2 hl1
          have HB2 := Lib.hid (hb1.trans (below_le hb2 hb1.size))
          have CF := Lib.hid (C3.out _ _ _ _ ho2)
          clear ho2 hb1 hb2
          go_wp2_with fail
          refine CF.out.mono ?_
          rintro e w' ⟨rfl, rfl⟩
          go_wp2_with fail
          refine (C2.out _).mono ?_
          rintro e w3 ⟨v3, rfl, ho3, hb3⟩
          have HB3 := Lib.hid (HB2.out.trans (below_le hb3 HB2.out.size))
          obtain ⟨a3, cp3, rfl⟩ := str_val ho3
          clear ho3 hb3
          go_wp2_with fail
          refine (C2.out _).mono ?_
          rintro e w4 ⟨v4, rfl, ho4, hb4⟩
          obtain ⟨g4, cp4, rfl⟩ : ∃ g4 cp4, v4 = .slice (some ⟨g4, 0, none⟩) (m + 1) cp4 := by
            rcases str_forms ho4 with ⟨_, h0⟩ | h1
            · omega
            · exact h1
          have HB4 := Lib.hid (HB3.out.trans (below_le hb4 HB3.out.size))
          have HO4 := Lib.hid ho4
          obtain ⟨p0, HP0, hc0⟩ := str_at ho4 (k := 0) (by omega)
          have HCL := Lib.hid (CL.out _ _ _ ho4)
          clear ho4 hb4
          go_wp2_with fail
          refine HCL.out.mono ?_
          rintro e w5 ⟨v5, rfl, ho5, hb5⟩
          obtain ⟨g5, cp5, rfl⟩ := own_pos ho5 hl1
          have HB5 := Lib.hid (HB4.out.trans (below_le hb5 HB4.out.size))
          have HO45 := Lib.hid (Li.own_on HO4.out hb5)
          have CS := Lib.hid (C4.out _ _ _ _ ho5)
          clear ho5 hb5
          go_wp2_with fail
          refine CS.out.mono ?_
          rintro e w6 ⟨v6, rfl, ho6, hb6⟩
          obtain ⟨g6, cp6, rfl⟩ := own_pos ho6 hm1
          have HB6 := Lib.hid (HB5.out.trans (below_le hb6 HB5.out.size))
          have HO46 := Lib.hid (Li.own_on HO45.out hb6)
          have HO6 := Lib.hid ho6
          have HS0 := Lib.hid (show cpre ps ss 0 = p0 by
            show ps.headD [] = p0
            have := HP0.out
            cases ps with
            | nil => simp at this
            | cons a r => simpa using this)
          clear ho6 hb6
          go_wp2
          go_loop [7, 43] (fun s i => ∃ k : Nat, k ≤ m ∧ i = .int .i64 (k : Int) ∧ s = .string ⟨(cpre ps ss k).toArray⟩) (fun _ i => ((m : Int) - RowKit.intOf i).toNat)
          case atStart => exact ⟨0, by omega, rfl, by rw [HS0.out]⟩
          case round =>
            obtain ⟨k, hk, rfl, rfl⟩ := hrel
            by_cases hlt : k < m
            · have hlt2 : (k : Int) < (m : Int) := by omega
              obtain ⟨z, HZK, hc⟩ := ow_at HO6.out (k := k) hlt
              have hzb := HEL.out (ss.getD k 0) (by
                have hkl : k < ss.length := by rw [HSL.out]; exact hlt
                rw [show ss.getD k 0 = ss[k] by simp [List.getD, List.getElem?_eq_getElem hkl]]
                exact List.getElem_mem hkl)
              rw [HZK.out] at hzb
              obtain ⟨q, rfl⟩ := Int.eq_ofNat_of_zero_le hzb.1
              have hq : q ≤ 120 := by omega
              obtain ⟨p, HPK, hcp⟩ := str_at HO46.out (k := k + 1) (by omega)
              have hpl2 := HPL.out p (List.mem_of_getElem? HPK.out)
              have HNX := Lib.hid (show cpre ps ss (k + 1) = cpre ps ss k ++ (bl q ++ p) by
                rw [cpre, HZK.out, Int.toNat_natCast]
                rw [show ps.getD (k + 1) [] = p by simp [List.getD, HPK.out]])
              have hlen := HCP.out k
              obtain ⟨S, hS⟩ : ∃ S, cpre ps ss k = S := ⟨_, rfl⟩
              rw [hS] at HNX hlen ⊢
              have HAP := Lib.hid (mk_append (S ++ bl q) p)
              have HSP := Lib.hid (show cpre ps ss (k + 1) = (S ++ bl q) ++ p by rw [HNX.out, List.append_assoc])
              have hs1 := ba_size p
              have hs2 := ba_size (S ++ bl q)
              rw [List.length_append, bl_len] at hs2
              have hs1b : (⟨p.toArray⟩ : ByteArray).size ≤ 200 := by rw [hs1]; exact hpl2
              have hs2b : (⟨(S ++ bl q).toArray⟩ : ByteArray).size ≤ 20000 := by rw [hs2]; omega
              have hk1 : (k : Int) + 1 < (m : Int) + 1 := by omega
              have hk2 : (k : Int) + 1 < ((m + 1 : Nat) : Int) := by omega
              clear hzb hS
              go_wp2
              go_loop [7, 9] (fun s x => ∃ j : Nat, j ≤ q ∧ x = .int .i64 ((j : Nat) : Int) ∧ s = .string ⟨(S ++ bl (q - j)).toArray⟩) (fun _ x => (RowKit.intOf x).toNat)
              case atStart => exact ⟨q, Nat.le_refl _, rfl, by rw [Nat.sub_self]; simp [bl]⟩
              case round =>
                obtain ⟨j, hj, rfl, rfl⟩ := hrel
                by_cases hj0 : 0 < j
                · have hj2 : (0 : Int) < (j : Int) := by omega
                  have HN2 := Lib.hid (show (⟨(S ++ bl (q - j)).toArray⟩ : ByteArray) ++ ⟨#[32]⟩ = ⟨(S ++ bl (q - (j - 1))).toArray⟩ by
                    rw [show (⟨#[32]⟩ : ByteArray) = ⟨[32].toArray⟩ from rfl, mk_append, show q - (j - 1) = (q - j) + 1 by omega, ← bl_snoc, List.append_assoc])
                  have hsj := ba_size (S ++ bl (q - j))
                  rw [List.length_append, bl_len] at hsj
                  obtain ⟨B, hB⟩ : ∃ B, (⟨(S ++ bl (q - j)).toArray⟩ : ByteArray) = B := ⟨_, rfl⟩
                  rw [hB] at HN2 hsj ⊢
                  have hsjb : B.size ≤ 20000 := by rw [hsj]; omega
                  clear hB
                  go_wp2
                  go_round
                  case rel => exact ⟨j - 1, by omega, by first | (congr 1; omega) | go_num, by rw [← HN2.out]⟩
                  case measure => simp [RowKit.intOf] <;> omega
                · obtain rfl : j = 0 := by omega
                  rw [Nat.sub_zero]
                  obtain ⟨B, hB⟩ : ∃ B, (⟨(S ++ bl q).toArray⟩ : ByteArray) = B := ⟨_, rfl⟩
                  rw [hB] at HAP hs2b ⊢
                  clear hB hs2
                  go_wp2
                  go_round
                  case rel => exact ⟨k + 1, by omega, by go_num, by rw [HSP.out, ← HAP.out]⟩
                  case measure => simp [RowKit.intOf] <;> omega
            · have hlt2 : ¬ (k : Int) < (m : Int) := by omega
              have HF := Lib.hid (show (⟨(cpre ps ss k).toArray⟩ : ByteArray) = T by rw [← HT.out, ← HCS.out, HMB.out, show k = m by omega])
              go_wp2
              go_ret2
              exact ⟨rsb HF.out rfl, HB6.out⟩
theorem iStretchTextB (a : ByteArray) (h : a.size ≤ 1048576) (n : Int) (W : World) : Calls Try.prog 12 #[.string a, .int .i64 n] W (Ret (.tuple #[.string (stT a.data.toList n), .bool (stB a.data.toList n)]) W) := by
  have := iStretchText a.data.toList n (by rw [mk_len]; exact h) W
  rwa [mk_self] at this
theorem sStretchTextB (a : ByteArray) (h : a.size ≤ 1048576) (n : Int) (W : World) : Calls Try.prog 11 #[.string a, .int .i64 n] W (Ret (.tuple #[.string (stT a.data.toList n), .bool (stB a.data.toList n)]) W) := by
  have := sStretchText a.data.toList n (by rw [mk_len]; exact h) W
  rwa [mk_self] at this
end Ln
end Go.Proofs.Ytbebojahjfnkiaa
