/- SetText of the program. -/
import Derived.Test.YtbebojahjfnkiaaDoorTo0
namespace Go.Proofs.YtbebojahjfnkiaaDoor
open Go.RowKit Go.Joins Go.Deep Go.ChangeShapes Go.WideShapes Go.Lib
set_option linter.unusedVariables false
set_option linter.unusedSimpArgs false
namespace Ln
theorem lines_one {zs ls : List Int} (h : lines zs ls = true) : 1 ≤ ls.length := by
  have ho := lines_ok h
  have := ho.1.1
  cases hl : ls.length with
  | zero => have h2 := ho.2.2.2; rw [hl] at h2; simp [psum] at h2; omega
  | succ n => omega
theorem areN0 (a : Option Addr) (cap : Nat) (many most : Int) (w : World) :
    Calls Tryd.prog 37 #[.slice a 0 cap, .int .i64 many, .int .i64 most] w fun e w' => e = .returned (.bool false) ∧ w = w' := by
  go_enter Tryd.func37, Tryd.ntmps37
  go_wp2
  go_ret
  exact ⟨rfl, rfl⟩
theorem areW0 (a : Option Addr) (cap : Nat) (w : World) :
    Calls Tryd.prog 28 #[.slice a 0 cap] w fun e w' => e = .returned (.bool false) ∧ w = w' := by
  have C := Lib.hid (fun W => areN0 a cap 30 80 W)
  go_enter Tryd.func28, Tryd.ntmps28
  go_wp2_with fail
  refine (C.out _).mono ?_
  rintro e w' ⟨rfl, rfl⟩
  go_wp2
  go_ret
  exact ⟨rfl, rfl⟩
theorem canBeSet0 (a : Option Addr) (cap : Nat) (wide : Int) (w : World) :
    Calls Tryd.prog 29 #[.slice a 0 cap, .int .i64 wide] w fun e w' => e = .returned (.bool false) ∧ w = w' := by
  have C := Lib.hid (fun W => areW0 a cap W)
  go_enter Tryd.func29, Tryd.ntmps29
  go_wp2_with fail
  refine (C.out _).mono ?_
  rintro e w' ⟨rfl, rfl⟩
  go_wp2
  go_ret
  exact ⟨rfl, rfl⟩
theorem iFill0 (a : Option Addr) (cap : Nat) (wide : Int) (w : World) :
    Calls Tryd.prog 15 #[.slice a 0 cap, .int .i64 wide] w (Gives false [] w) := by
  have C := Lib.hid (fun W => canBeSet0 a cap wide W)
  go_enter Tryd.func15, Tryd.ntmps15
  go_wp2_with fail
  refine (C.out _).mono ?_
  rintro e w' ⟨rfl, rfl⟩
  go_wp2
  go_ret2
  exact ⟨_, rfl, World.ownsRow_nil _ _ _ _, Below.refl _ _⟩
theorem seB_parts (l : List UInt8) (wide : Int) : seB l wide = (wtB l && fits (lens l) wide) := by
  unfold seB wtB
  cases h : fits (lens l) wide with
  | false => simp
  | true => rw [(good_iff _).2 (fits_ok h)]; simp
set_option maxRecDepth 100000 in
set_option maxHeartbeats 8000000 in
theorem iSetText (l : List UInt8) (wide : Int) (hl : l.length ≤ 1048576) (w : World) (hE : Env w) :
    Calls Tryd.prog 5 #[.string ⟨l.toArray⟩, .int .i64 wide] w (GivesS (seB l wide) (seZ l wide) w) := by
  have C1 := Lib.hid (fun W => iWords l hl W)
  obtain ⟨x1, hx1⟩ : ∃ x, wtB l = x := ⟨_, rfl⟩
  obtain ⟨Q, hQ⟩ : ∃ Q, seZ l wide = Q := ⟨_, rfl⟩
  obtain ⟨v, hv⟩ : ∃ v, seB l wide = v := ⟨_, rfl⟩
  have hvp := seB_parts l wide
  rw [hv, hx1] at hvp
  have hno : v = false → Q = [] := fun h => by rw [← hQ]; unfold seZ; rw [hv, h]; rfl
  rw [hQ, hv]
  cases x1
  · have hf : v = false := by rw [hvp]; rfl
    subst hf
    have hq := hno rfl
    subst hq
    rw [hx1, show wtZ l = [] by unfold wtZ; rw [hx1]; rfl] at C1
    have C2 := Lib.hid (fun a cap W => iFill0 a cap wide W)
    clear hx1 hv hQ hvp hno hE
    go_enter Tryd.func5, Tryd.ntmps5
    go_wp2_with fail
    refine (C1.out _).mono ?_
    rintro e w1 ⟨v, rfl, ho, hb⟩
    obtain ⟨a, cp, rfl⟩ := own_val ho
    clear ho
    go_wp2_with fail
    refine (C2.out _ _ _).mono ?_
    rintro e w2 ⟨v, rfl, ho, hb2⟩
    have HB2 := Lib.hid (hb.trans (below_le hb2 hb.size))
    clear ho hb hb2
    go_wp2
    go_ret2
    exact GivesS.none HB2.out
  · have hwt : txtB l = true ∧ good (lens l) = true := by unfold wtB at hx1; rw [Bool.and_eq_true] at hx1; exact hx1
    have htx := txt_len hwt.1
    have hok := (good_iff _).1 hwt.2
    rw [hx1, show wtZ l = lens l by unfold wtZ; rw [hx1]; rfl] at C1
    obtain ⟨x2, hx2⟩ : ∃ x, fits (lens l) wide = x := ⟨_, rfl⟩
    have C2 := Lib.hid (fun (W : World) base g cp (h : Ow W base g (lens l).length cp (lens l)) => iFill (wide := wide) h (by have := hok.2.1; omega))
    rw [hx2] at C2
    rw [hx2, Bool.true_and] at hvp
    subst hvp
    have hl1 : 1 ≤ (lens l).length := hok.1
    cases v
    · have hq := hno rfl
      subst hq
      rw [show flZ (lens l) wide = [] by unfold flZ; rw [hx2]; rfl] at C2
      obtain ⟨Z, hZ⟩ : ∃ Z, lens l = Z := ⟨_, rfl⟩
      rw [hZ] at C1 C2 hl1
      clear hx1 hv hQ hx2 hwt htx hok hno hZ hE
      go_enter Tryd.func5, Tryd.ntmps5
      go_wp2_with fail
      refine (C1.out _).mono ?_
      rintro e w1 ⟨v, rfl, ho, hb⟩
      obtain ⟨gq, cp, rfl⟩ := own_pos ho hl1
      have CC := Lib.hid (C2.out _ _ _ _ ho)
      clear ho
      go_wp2_with fail
      refine CC.out.mono ?_
      rintro e w2 ⟨v, rfl, ho, hb2⟩
      have HB2 := Lib.hid (hb.trans (below_le hb2 hb.size))
      clear ho hb hb2
      go_wp2
      go_ret2
      exact GivesS.none HB2.out
    · rw [show flZ (lens l) wide = fillA (lens l) wide 0 by unfold flZ; rw [hx2]; rfl] at C2
      have hlin := fillA_lines wide hok
      have hone := lines_one hlin
      have hQ2 : Q = setL (sp 32 l) (fillA (lens l) wide 0) (fillA (lens l) wide 0).length := by rw [← hQ]; unfold seZ; rw [hv]; rfl
      have hsp : (sp 32 l).length = (lens l).length := by rw [← plens_sp, plens_len]
      have C3 := Lib.hid (fun (W : World) (h : Env W) => iParts l htx.2.1 W h)
      have HPL := Lib.hid (fun p hp => Nat.le_trans (sp_parts 32 l p hp) htx.2.1)
      have hps := fun k hk => part_sum hlin k hk
      have hln := lines_ok hlin
      have C4 := Lib.hid (fun (W : World) b2 g g' cap cap' (hc : (lens l).length ≤ cap) (hcm : cap ≤ 9223372036854775807) (h' : Ow W b2 g' (fillA (lens l) wide 0).length cap' (fillA (lens l) wide 0)) => inLinesS_any (g := g) rfl hc hcm h' hlin)
      obtain ⟨ls, hls⟩ : ∃ ls, fillA (lens l) wide 0 = ls := ⟨_, rfl⟩
      rw [hls] at C2 C4 hone hQ2 hps hln
      obtain ⟨ps, hpe⟩ : ∃ ps, sp 32 l = ps := ⟨_, rfl⟩
      rw [hpe] at hQ2 hsp C3 HPL
      rw [hsp] at C3
      obtain ⟨Z, hZ⟩ : ∃ Z, lens l = Z := ⟨_, rfl⟩
      rw [hZ] at C1 C2 C3 C4 hl1 hsp hps hln hok
      obtain ⟨N, hN⟩ : ∃ N, Z.length = N := ⟨_, rfl⟩
      obtain ⟨m, hm⟩ : ∃ m, ls.length = m := ⟨_, rfl⟩
      unfold Gives at C1 C2
      rw [hN] at C1 C2 C3 C4 hl1 hsp hps hln
      rw [hm] at C2 C4 hone hQ2 hps hln
      have HPS := Lib.hid hps
      have HLN := Lib.hid hln.2.2.1
      have hN30 : N ≤ 30 := by rw [← hN]; exact hok.2.1
      have hm30 : m ≤ 30 := by have := hln.2.1; omega
      have HQ := Lib.hid hQ2
      have HE := Lib.hid hE
      obtain ⟨i0, hi, hz0, hz1, hz2⟩ := info_parts info9
      clear hx1 hv hQ hx2 hwt htx hok hno hlin hQ2 hsp hps hln hls hpe hZ hN hm hE
      go_enter Tryd.func5, Tryd.ntmps5
      go_wp2_with fail
      refine (C1.out _).mono ?_
      rintro e w1 ⟨v, rfl, ho, hb⟩
      obtain ⟨gq, cp, rfl⟩ := own_pos ho hl1
      have CC := Lib.hid (C2.out _ _ _ _ ho)
      clear ho
      go_wp2_with fail
      refine CC.out.mono ?_
      rintro e w2 ⟨v, rfl, ho2, hb2⟩
      have HB2 := Lib.hid (hb.trans (below_le hb2 hb.size))
      obtain ⟨gl, cl, rfl⟩ := own_pos ho2 hone
      have HO2 := Lib.hid ho2
      have C3' := Lib.hid (C3.out _ (HE.out.below HB2.out))
      clear ho2 hb hb2
      go_wp2_with fail
      refine C3'.out.mono ?_
      rintro e w3 ⟨gp, cpp, rfl, ho3, hb3⟩
      have hcc := ho3.2
      have hcap : N ≤ cpp ∧ cpp ≤ 9223372036854775807 := by
        rcases hcc with ⟨h1, _⟩ | ⟨g', cap', cur, h1, _, _, h4, h5, _⟩
        · cases h1
        · injection h1 with _ _ h3
          subst h3
          exact ⟨h4, by unfold maxLen at h5; omega⟩
      have HB3 := Lib.hid (HB2.out.trans (below_le hb3 HB2.out.size))
      have HO3 := Lib.hid ho3
      have C4' := Lib.hid (C4.out w3 _ gp _ _ _ hcap.1 hcap.2 (Li.own_on HO2.out hb3))
      clear ho3 hb3 hcc hcap
      go_wp2_with fail
      refine C4'.out.mono ?_
      rintro e w4 ⟨v4, rfl, ho4, hb4⟩
      obtain ⟨g4, cp4, rfl⟩ : ∃ g4 cp4, v4 = .slice (some ⟨g4, 0, none⟩) m cp4 := by
        rcases Li.own_forms ho4 with ⟨_, h0⟩ | h1
        · omega
        · exact h1
      have HB4 := Lib.hid (HB3.out.trans (below_le hb4 HB3.out.size))
      have HO34 := Lib.hid (Li.own_on HO3.out hb4)
      have HO4 := Lib.hid ho4
      clear ho4 hb4
      go_wp2
      go_loopw [10, 31] (fun v i wr => ∃ (k : Nat) (vv : Value), vv = v ∧ k ≤ m ∧ i = .int .i64 (k : Int) ∧ Hid (wr.ownsRow w4.heap.size 9 1 vv k (strs (setL ps ls k))) ∧ Hid (Below w4.heap.size w4 wr)) (fun _ i _ => ((m : Int) - RowKit.intOf i).toNat)
      case atStart => exact ⟨0, _, rfl, by omega, rfl, Lib.hid (World.ownsRow_nil _ _ _ _), Lib.hid (Below.refl _ _)⟩
      case round =>
        obtain ⟨k, vv, rfl, hk, rfl, HOW, HB⟩ := hrel
        have hsw := HB.out.size
        by_cases hlt : (k : Int) < (m : Int)
        · have hc : wr.cell? ⟨g4, k, none⟩ = some (subV gp cpp ls k) := by
            have hR := Li.own_on HO4.out HB.out
            rw [hR.cellAt k (by omega), subs_at gp cpp ls m k (by omega)]
          have hza := HLN.out k (by omega)
          have hp1 := HPS.out (k + 1) (by omega)
          have hp0 := HPS.out k (by omega)
          rw [psum_step] at hp1
          obtain ⟨A, hA⟩ := Int.eq_ofNat_of_zero_le (show 0 ≤ psum ls k by omega)
          obtain ⟨q, hq⟩ := Int.eq_ofNat_of_zero_le (show 0 ≤ ls.getD k 0 by omega)
          have hs : subV gp cpp ls k = .slice (some ⟨gp, A, none⟩) q (cpp - A) := by unfold subV; rw [hA, hq, Int.toNat_natCast, Int.toNat_natCast]
          rw [hs] at hc
          have hAq : A + q ≤ N := by omega
          have hq1 : 1 ≤ q := by omega
          have hT : lnT ps ls k = Lib.join ((ps.drop A).take q) [32] := by unfold lnT; rw [hA, hq, Int.toNat_natCast, Int.toNat_natCast]
          have hON := Li.own_on HO34.out HB.out
          have hcap2 : N ≤ cpp := by
            rcases HO3.out.2 with ⟨h1, _⟩ | ⟨g', cap', cur, h1, _, _, h4, h5, _⟩
            · cases h1
            · injection h1 with _ _ h3
              subst h3
              exact h4
          have CJ := Lib.hid (join_at (o := A) (m := q) (cq := cpp - A) hON (by omega) (by omega) HPL.out (by omega))
          have HN := Lib.hid (setL_next ps ls k)
          rw [hT] at HN
          obtain ⟨T, hTT⟩ : ∃ T, Lib.join ((ps.drop A).take q) [32] = T := ⟨_, rfl⟩
          rw [hTT] at CJ HN
          clear hza hp1 hp0 hA hq hs hT hON hcap2 hTT
          go_wp2_with fail
          refine CJ.out.mono ?_
          rintro e w5 ⟨rfl, hb5⟩
          have HB5 := Lib.hid (HB.out.trans (below_le hb5 HB.out.size))
          have HO5 := Lib.hid (Li.own_on HOW.out hb5)
          have HOa := Lib.hid (HO5.out.alloc (.cells #[.string ⟨T.toArray⟩] 9))
          have HLT := Lib.hid (fun j hj => (HO5.out.lt j hj).1)
          have hsw5 := HB5.out.size
          clear hb5
          go_wp2_with (first | (at_builtin; refine wpList_append_own _ rfl _ _ 22 rfl w4.heap.size 9 i0 (.string ByteArray.empty) 1 16 Tryd.underlying22 hi hz0 hz1 hz2 rfl (by decide) _ _ _ rfl HOa.out ⟨_, 0, none⟩ 1 1 [.string ⟨T.toArray⟩] rfl rfl (cell_one_new _ _ _) (fun x hx => by simp at hx; subst hx; rfl) (by unfold maxLen; omega) (by omega) (by simp; omega) ?_; intro v6 w6 hown6 hgrow6 _))
          have HB6 := Lib.hid (Below.grown (HB5.out.alloc HB5.out.size (.cells #[.string ⟨T.toArray⟩] 9)) hgrow6 (by simp; omega) HLT.out)
          have HO6 := Lib.hid (show w6.ownsRow w4.heap.size 9 1 v6 (k + 1) (strs (setL ps ls (k + 1))) by rw [HN.out, strs_snoc]; exact hown6)
          clear hown6 hgrow6
          go_roundw
          case rel => exact ⟨k + 1, _, rfl, by omega, by go_num, HO6, HB6⟩
          case measure => simp [RowKit.intOf] <;> omega
        · have HK := Lib.hid (show k = m by omega)
          go_wp2
          go_ret2
          exact ⟨_, rfl, by rw [HQ.out, setL_len]; exact Li.own_le (by have := HOW.out; rw [HK.out] at this; exact this) HB4.out.size, HB4.out.trans (below_le HB.out HB4.out.size)⟩
end Ln
end Go.Proofs.YtbebojahjfnkiaaDoor
