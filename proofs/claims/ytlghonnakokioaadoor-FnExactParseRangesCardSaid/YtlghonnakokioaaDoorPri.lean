/- Ranges read back out of their text, by the program. -/
import Derived.Test.YtlghonnakokioaaDoorPrs
namespace Go.Proofs.YtlghonnakokioaaDoor
open Go.RowKit Go.Joins Go.Deep Go.ChangeShapes Go.WideShapes
set_option linter.unusedVariables false
set_option linter.unusedSimpArgs false
namespace Pr
open Rg Gm Sr Lr
open P hiding idx_at sl_from
set_option maxRecDepth 100000 in
set_option maxHeartbeats 4000000 in
theorem iParse (l : List UInt8) (hl : l.length ≤ 1048576) (w : World) (hE : Env w) (hT : TabOn w) :
    Calls Tryd.prog 21 #[.string ⟨l.toArray⟩] w (Gives (pok l) (pn l) (pz l) w) := by
  have HEn := Lib.hid (fun W (h : Below w.heap.size w W) => hE.on h)
  have HT := Lib.hid hT
  have HE0 := Lib.hid hE
  clear hE hT
  by_cases h0 : l = []
  · subst h0
    go_enter Tryd.func21, Tryd.ntmps21
    go_wp2
    go_ret2
    exact gives_none c_nil (Below.refl _ _)
  · have q0 : (l == []) = false := by rw [beq_eq_false_iff_ne]; exact h0
    have q1 : l.isEmpty = false := by cases l with | nil => exact absurd rfl h0 | cons a r => rfl
    by_cases h2 : l.length ≤ 200
    · have h2' : (l.length : Int) ≤ 200 := by omega
      have CP := Lib.hid (fun W h => iParts l h2 W h)
      have CL := Lib.hid (fun (q : List UInt8) (hq : q.length ≤ 1048576) W h1 h2 => iLong_any q hq W h1 h2)
      have hn1 := sp_pos 44 l
      have hn2 := sp_le 44 l
      have PL := Lib.hid (fun k (hk : k < (sp 44 l).length) => part_le 44 l _ (Lr.getD_mem (sp 44 l) k hk))
      have BAD := Lib.hid (fun k (hk : k < (sp 44 l).length) (h : lok ((sp 44 l).getD k []) = false) => c_bad h0 hk h)
      have ALL := Lib.hid (c_all h0 h2)
      have NX := Lib.hid (fun k q hk hq => @pr_next l k q hk hq)
      have PRL := Lib.hid (pr_len l)
      obtain ⟨i0, hi, hz0, hz1, hz2⟩ := info_parts infoR
      obtain ⟨L, hL⟩ : ∃ L, sp 44 l = L := ⟨_, rfl⟩
      obtain ⟨n, hn⟩ : ∃ n, L.length = n := ⟨_, rfl⟩
      unfold Parts at CP
      rw [hL] at CP hn1 hn2 PL BAD ALL NX PRL
      rw [hn] at CP hn1 hn2 PL BAD ALL NX PRL
      have HN := Lib.hid hn
      clear hL hn h0 h2 hl
      go_enter Tryd.func21, Tryd.ntmps21
      go_wp2_with fail
      refine (CP.out _ HE0.out).mono ?_
      rintro e w1 ⟨g, cap, rfl, o1, hb1⟩
      have O1 := Lib.hid o1
      have HB1 := Lib.hid hb1
      have hw1 := (o1.lt g rfl)
      clear o1 hb1
      go_wp2
      go_loopw [4, 17] (fun p i wr => ∃ k : Nat, k ≤ n ∧ i = .int .i64 (k : Int) ∧ wr.ownsRow w1.heap.size 26 2 p k (Li.nums (flat ((pr l).take k))) ∧ wr.ownsRow w.heap.size 9 1 (.slice (some ⟨g, 0, none⟩) n cap) n (P.strs L) ∧ Below w.heap.size w wr ∧ w1.heap.size ≤ wr.heap.size ∧ ∀ j, j < k → lok (L.getD j []) = true) (fun _ i _ => ((n : Int) - intOf i).toNat)
      case atStart => exact ⟨0, by omega, rfl, World.ownsRow_nil _ _ _ _, O1.out, HB1.out, Nat.le_refl _, fun j hj => by omega⟩
      case round =>
        obtain ⟨k, hk, rfl, hown, hparts, hb, hsz, hall⟩ := hrel
        have HB := Lib.hid hb
        have HA := Lib.hid hall
        clear hb hall
        by_cases hlt : (k : Int) < n
        · have hk2 : k < n := by omega
          obtain ⟨q, HQ, hcq⟩ := part_at hparts HN.out hk2
          have hql := PL.out k hk2
          rw [HQ.out] at hql
          have C1 := Lib.hid (CL.out q (by omega))
          have NXK := Lib.hid (NX.out k q hk2 HQ.out)
          have BADK := Lib.hid (BAD.out k hk2)
          rw [HQ.out] at BADK
          obtain ⟨f, hf⟩ : ∃ f, lF q = f := ⟨_, rfl⟩
          obtain ⟨t, ht⟩ : ∃ t, lT q = t := ⟨_, rfl⟩
          obtain ⟨v, hv⟩ : ∃ v, lok q = v := ⟨_, rfl⟩
          rw [hf, ht, hv] at C1
          rw [hf, ht] at NXK
          rw [hv] at BADK
          have HV := Lib.hid (show lok (L.getD k []) = v by rw [HQ.out, hv])
          have HPw := Lib.hid hparts
          have HOw := Lib.hid hown
          clear hf ht hv hparts hown
          go_wp2_with fail
          refine (C1.out _ (HEn.out _ HB.out) (tabOn_next HT.out HB.out)).mono ?_
          rintro e w2 ⟨rfl, hb2⟩
          have X := B2.new w2 (.int .i64 f) (.int .i64 t) 26
          obtain ⟨-, x0, x1⟩ := id X
          have hB2 := below_next HB.out hb2
          have hO2 := Li.own_on HOw.out hb2
          have HP2 := Lib.hid (World.ownsRow.alloc (World.ownsRow.alloc (Li.own_on HPw.out hb2) (.cells #[.int .i64 f, .int .i64 t] 26)) (.cells #[.int .i64 f, .int .i64 t] 26))
          have hs2 : w1.heap.size ≤ w2.heap.size := Nat.le_trans hsz hb2.size
          have hw0 := HB1.out.size
          clear hb2 X
          cases v
          · have BK := Lib.hid (BADK.out rfl)
            have HBK := Lib.hid (hB2.alloc hB2.size (.cells #[.int .i64 f, .int .i64 t] 26))
            clear hB2 hO2 HP2
            go_wp2
            go_ret2
            exact gives_none BK.out HBK.out
          · have HLT := Lib.hid (fun j hj => (hO2.lt j hj).1)
            have HOX := Lib.hid (World.ownsRow.alloc (World.ownsRow.alloc hO2 (.cells #[.int .i64 f, .int .i64 t] 26)) (.cells #[.int .i64 f, .int .i64 t] 26))
            have hBA := hB2.alloc hB2.size (.cells #[.int .i64 f, .int .i64 t] 26)
            have HBX := Lib.hid (hBA.alloc hBA.size (.cells #[.int .i64 f, .int .i64 t] 26))
            have hsz3 := hB2.size
            clear hO2 hB2 hBA
            go_wp2_with (first | (at_builtin; refine wpList_append_own _ rfl _ _ 36 rfl w1.heap.size 26 i0 (.agg #[.int .i64 0, .int .i64 0]) 2 16 Tryd.underlying36 hi hz0 hz1 hz2 rfl (by decide) _ _ _ rfl HOX.out ⟨w2.heap.size + 1, 0, none⟩ 1 1 [.int .i64 f, .int .i64 t] rfl rfl (news2' _ _ _ _ _) (fun u hu => by simp at hu; rcases hu with rfl | rfl <;> rfl) (by unfold maxLen; omega) (by omega) (by simp; omega) ?_; intro v3 w3 hown3 hgrow3 _))
            have HB4 := Lib.hid (HBX.out.grown hgrow3 (by simp; omega) (fun j hj => Nat.le_trans hw0 (HLT.out j hj)))
            have HO3 := Lib.hid (show w3.ownsRow w1.heap.size 26 2 v3 (k + 1) (Li.nums (flat ((pr l).take (k + 1)))) by rw [NXK.out, nums_app]; exact hown3)
            have HP3 := Lib.hid (HP2.out.kept hgrow3 (_root_.Or.inr (fun e => by have := HLT.out g e.symm; have := hw1.2; omega)))
            have HS3 := Lib.hid (show w1.heap.size ≤ w3.heap.size by have := hgrow3.size; simp at this; omega)
            clear hown3 hgrow3
            go_roundw
            case rel => exact ⟨k + 1, by omega, by go_num, HO3.out, HP3.out, HB4.out, HS3.out, fun j hj => by
              by_cases e : j = k
              · subst e; exact HV.out
              · exact HA.out j (by omega)⟩
            case measure => simp [intOf]; omega
        · have ek : k = n := by omega
          subst ek
          rw [List.take_of_length_le (show (pr l).length ≤ k by rw [PRL.out]; exact Nat.le_refl _)] at hown
          rcases Li.own_forms hown with ⟨_, h0⟩ | ⟨gz, cz, rfl⟩
          · omega
          obtain ⟨v, hv⟩ : ∃ v, good (flat (pr l)) k = v := ⟨_, rfl⟩
          have AV := Lib.hid (ALL.out HA.out v hv)
          have CG := Lib.hid (Gw.areRanges_some hown (by omega) v hv)
          have HOW := Lib.hid hown
          have hw0 := HB1.out.size
          clear hown hparts hv
          cases v
          · have BK := Lib.hid (AV.out.2 rfl)
            go_wp2_with fail
            refine CG.out.mono ?_
            rintro e w5 ⟨rfl, hb5⟩
            have HB5 := Lib.hid (below_next HB.out hb5)
            go_wp2
            go_ret2
            exact gives_none BK.out HB5.out
          · have BK := Lib.hid (AV.out.1 rfl)
            go_wp2_with fail
            refine CG.out.mono ?_
            rintro e w5 ⟨rfl, hb5⟩
            have HB5 := Lib.hid (below_next HB.out hb5)
            have HO5 := Lib.hid (Li.own_le (Li.own_on HOW.out hb5) hw0)
            go_wp2
            go_ret2
            exact gives_some BK.out HO5.out HB5.out
    · have h2' : (200 : Int) < (l.length : Int) := by omega
      have BK := Lib.hid (c_long h0 h2)
      clear h2
      go_enter Tryd.func21, Tryd.ntmps21
      go_wp2
      go_ret2
      exact gives_none BK.out (Below.refl _ _)
end Pr
end Go.Proofs.YtlghonnakokioaaDoor
