/- The union, by the program. -/
import Derived.Test.YtdapdiciejlejaaUn
namespace Go.Proofs.Ytdapdiciejlejaa
open Go.RowKit Go.Joins Go.Deep Go.ChangeShapes Go.WideShapes
set_option linter.unusedVariables false
set_option linter.unusedSimpArgs false
namespace Gw
open Rg Gm
theorem pagesIn_none (w : World) : Calls Try.prog 40 #[.slice none 0 0] w (SetR (has (prs [])) w) := by
  have hmm := @run_makeMap Try.prog
  have h0 := Lib.hid (Mp.HasSet.same (m' := has (prs [])) ((Mp.made w).mono (n' := 200000) (by omega)) (fun p => rfl))
  have hb0 := Lib.hid (below_alloc1 w (.map #[] 0))
  go_enter Try.func40, Try.ntmps40
  go_wp2
  refine wp_loop_rounds 1 ?_
  rw [rounds_succ]
  go_wp2
  go_ret
  exact ⟨_, rfl, Nat.le_refl _, h0.out, hb0.out⟩
theorem iMerge_none (w : World) : Calls Try.prog 14 #[.slice none 0 0] w (Ans (mgC [] 0) (mgR []) w) := by
  have MO := Lib.hid (mgR_ok (zs := []) (n := 0) rfl (fun k hk => by omega))
  have HCC := Lib.hid (show mgC [] 0 = true from rfl)
  have C1 := Lib.hid (pagesIn_none w)
  generalize mgR [] = R at *
  generalize mgC [] 0 = c at *
  go_enter Try.func14, Try.ntmps14
  go_wp2
  refine wp_loop_rounds 1 ?_
  rw [rounds_succ]
  go_wp2_with fail
  refine C1.out.mono ?_
  rintro e w2 ⟨b, rfl, hbb, hset, hb2⟩
  have HB2 := Lib.hid hb2
  have HBB := Lib.hid hbb
  have C2 := Lib.hid (takeRanges_some (hset.same MO.out.2.2) MO.out.1 MO.out.2.1)
  clear hset hb2 hbb
  go_wp2_with fail
  refine C2.out.mono ?_
  rintro e w3 ⟨v, rfl, ho, hg⟩
  have HH := Lib.hid (takeR_on HB2.out HBB.out ⟨v, rfl, ho, hg⟩)
  clear ho hg
  go_wp2
  go_ret2
  exact Ans.yes HCC.out HH.out
theorem prs_app (rs : PR) (z1 : List Int) : prs (flat rs ++ z1) = rs ++ prs z1 := by
  induction rs with
  | nil => rfl
  | cons q r ih => obtain ⟨f, t⟩ := q; show (f, t) :: prs (flat r ++ z1) = (f, t) :: (r ++ prs z1); rw [ih]
theorem prs_append {z0 : List Int} {n0 : Nat} (h : z0.length = 2 * n0) (z1 : List Int) : prs (z0 ++ z1) = prs z0 ++ prs z1 := by
  have e := (prs_len n0 z0 h).2
  have h2 := prs_app (prs z0) z1
  rw [e] at h2
  exact h2
theorem mgR_app {z0 : List Int} {n0 : Nat} (h : z0.length = 2 * n0) (z1 : List Int) : mgR (z0 ++ z1) = boR 0 z0 z1 := by
  unfold mgR boR
  refine runs_same 2002 (fun k _ => ?_)
  rw [prs_append h, has_append]
  rfl
theorem mgC_app {z0 z1 : List Int} {n0 n1 : Nat} (h0 : z0.length = 2 * n0) (h1 : z1.length = 2 * n1) (g0 : good z0 n0 = true) (g1 : good z1 n1 = true) : mgC (z0 ++ z1) (n0 + n1) = true := by
  obtain ⟨a1, a2⟩ := all_rng g0
  obtain ⟨b1, b2⟩ := all_rng g1
  refine (mgC_iff _ _).2 ⟨by omega, fun k hk => ?_⟩
  by_cases c : k < n0
  · have e1 : (z0 ++ z1).getD (k * 2) 0 = z0.getD (k * 2) 0 := by simp [List.getD, List.getElem?_append_left (show k * 2 < z0.length by omega)]
    have e2 : (z0 ++ z1).getD (k * 2 + 1) 0 = z0.getD (k * 2 + 1) 0 := by simp [List.getD, List.getElem?_append_left (show k * 2 + 1 < z0.length by omega)]
    rw [e1, e2]
    exact a2 k c
  · have e1 : (z0 ++ z1).getD (k * 2) 0 = z1.getD ((k - n0) * 2) 0 := by
      simp only [List.getD]
      rw [List.getElem?_append_right (by omega), show k * 2 - z0.length = (k - n0) * 2 by omega]
    have e2 : (z0 ++ z1).getD (k * 2 + 1) 0 = z1.getD ((k - n0) * 2 + 1) 0 := by
      simp only [List.getD]
      rw [List.getElem?_append_right (by omega), show k * 2 + 1 - z0.length = (k - n0) * 2 + 1 by omega]
    rw [e1, e2]
    exact b2 (k - n0) (by omega)
theorem ans_on {c : Bool} {rs : PR} {W W1 w' : World} {e : Ending} (hb : Below W.heap.size W W1) (h : Ans c rs W1 e w') : Ans c rs W e w' := gives_on hb h
set_option maxRecDepth 100000 in
set_option maxHeartbeats 4000000 in
theorem iUnion {b0 b1 g0 g1 len0 cap0 len1 cap1 : Nat} {z0 z1 : List Int} {w : World} (h0 : Own w b0 (.slice (some ⟨g0, 0, none⟩) len0 cap0) len0 z0) (h1 : Own w b1 (.slice (some ⟨g1, 0, none⟩) len1 cap1) len1 z1) (hl0 : len0 ≤ 1048576) (hl1 : len1 ≤ 1048576) :
    Calls Try.prog 19 #[.slice (some ⟨g0, 0, none⟩) len0 cap0, .slice (some ⟨g1, 0, none⟩) len1 cap1] w (Ans (boC z0 len0 z1 len1) (boR 0 z0 z1) w) := by
  obtain ⟨x0, hx0⟩ : ∃ x, good z0 len0 = x := ⟨_, rfl⟩
  obtain ⟨x1, hx1⟩ : ∃ x, good z1 len1 = x := ⟨_, rfl⟩
  have C0 := Lib.hid (areRanges_some h0 hl0 x0 hx0)
  have HO0 := Lib.hid h0
  have HO1 := Lib.hid h1
  have HX0 := Lib.hid hx0
  have HX1 := Lib.hid hx1
  have C1 := Lib.hid (fun (W : World) (hw : Below w.heap.size w W) => areRanges_some (Li.own_on HO1.out hw) hl1 x1 hx1)
  clear h0 h1 hx0 hx1
  cases x0
  · have EC := Lib.hid (show boC z0 len0 z1 len1 = false by unfold boC; rw [HX0.out]; rfl)
    go_enter Try.func19, Try.ntmps19
    go_wp2_with fail
    refine C0.out.mono ?_
    rintro e w1 ⟨rfl, hb⟩
    go_wp2
    go_ret2
    exact Ans.no EC.out hb
  · cases x1
    · have EC := Lib.hid (show boC z0 len0 z1 len1 = false by unfold boC; rw [HX0.out, HX1.out]; rfl)
      go_enter Try.func19, Try.ntmps19
      go_wp2_with fail
      refine C0.out.mono ?_
      rintro e w1 ⟨rfl, hb⟩
      have HB := Lib.hid hb
      clear hb
      go_wp2_with fail
      refine (C1.out _ HB.out).mono ?_
      rintro e w2 ⟨rfl, hb2⟩
      have HB2 := Lib.hid (below_t HB.out hb2)
      clear hb2
      go_wp2
      go_ret2
      exact Ans.no EC.out HB2.out
    · have EC := Lib.hid (show boC z0 len0 z1 len1 = true by unfold boC; rw [HX0.out, HX1.out]; rfl)
      have HS0 := Lib.hid (own_size HO0.out)
      have HS1 := Lib.hid (own_size HO1.out)
      have MC := Lib.hid (mgC_app HS0.out HS1.out HX0.out HX1.out)
      have MR := Lib.hid (mgR_app HS0.out z1)
      have HA0 := Lib.hid (all_rng HX0.out).1
      have HA1 := Lib.hid (all_rng HX1.out).1
      go_enter Try.func19, Try.ntmps19
      go_wp2_with fail
      refine C0.out.mono ?_
      rintro e w1 ⟨rfl, hb⟩
      have HB := Lib.hid hb
      clear hb
      go_wp2_with fail
      refine (C1.out _ HB.out).mono ?_
      rintro e w2 ⟨rfl, hb2⟩
      have HB2 := Lib.hid (below_t HB.out hb2)
      have HBA := Lib.hid (HB2.out.alloc HB2.out.size (.cells #[.slice (some ⟨g0, 0, none⟩) len0 cap0, .slice (some ⟨g1, 0, none⟩) len1 cap1] 24))
      have HC0 := Lib.hid (B2.new w2 (.slice (some ⟨g0, 0, none⟩) len0 cap0) (.slice (some ⟨g1, 0, none⟩) len1 cap1) 24)
      have CC := Lib.hid (concat_any (Li.own_on HO0.out HBA.out) (Li.own_on HO1.out HBA.out) HA0.out HA1.out HC0.out.2.1 HC0.out.2.2)
      clear hb2
      go_wp2_with fail
      refine CC.out.mono ?_
      rintro e w3 ⟨vc, rfl, hoc, hb3⟩
      have HB3 := Lib.hid (below_t HBA.out hb3)
      have HE := Lib.hid (show ∀ (e : Ending) (w' : World), Ans (mgC (z0 ++ z1) (len0 + len1)) (mgR (z0 ++ z1)) w3 e w' → Ans (boC z0 len0 z1 len1) (boR 0 z0 z1) w e w' from fun e w' h => by
        rw [MC.out, MR.out] at h
        rw [EC.out]
        exact ans_on HB3.out h)
      rcases Li.own_forms hoc with ⟨rfl, hz⟩ | ⟨gc, cp, rfl⟩
      · have ez : z0 ++ z1 = [] := List.eq_nil_of_length_eq_zero (by have := own_size hoc; omega)
        have CM := Lib.hid (show Calls Try.prog 14 #[.slice none 0 0] w3 (Ans (mgC (z0 ++ z1) (len0 + len1)) (mgR (z0 ++ z1)) w3) from by rw [hz, ez]; exact iMerge_none w3)
        clear hoc hb3 hz ez
        go_wp2_with fail
        refine CM.out.mono ?_
        rintro e w4 ⟨v, rfl, ho, hb4⟩
        have HH := Lib.hid (HE.out _ _ ⟨v, rfl, ho, hb4⟩)
        have HOK := Lib.hid (show aOk (mgC (z0 ++ z1) (len0 + len1)) (mgR (z0 ++ z1)) = aOk (mgC (z0 ++ z1) (len0 + len1)) (mgR (z0 ++ z1)) from rfl)
        clear ho hb4
        go_wp2
        go_ret2
        exact HH.out
      · have CM := Lib.hid (iMerge hoc (by have := HA0.out; have := HA1.out; omega))
        clear hoc hb3
        go_wp2_with fail
        refine CM.out.mono ?_
        rintro e w4 ⟨v, rfl, ho, hb4⟩
        have HH := Lib.hid (HE.out _ _ ⟨v, rfl, ho, hb4⟩)
        clear ho hb4
        go_wp2
        go_ret2
        exact HH.out
end Gw
end Go.Proofs.Ytdapdiciejlejaa
