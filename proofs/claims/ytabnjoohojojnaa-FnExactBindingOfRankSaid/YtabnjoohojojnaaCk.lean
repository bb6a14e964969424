/- The binding of a rank, by the program. -/
import Derived.Test.YtabnjoohojojnaaCj
namespace Go.Proofs.Ytabnjoohojojnaa
open Go.RowKit Go.Joins Go.Deep Go.ChangeShapes Go.WideShapes
set_option linter.unusedVariables false
set_option linter.unusedSimpArgs false
namespace Ln
theorem lft_next {n k : Nat} {o : List Int} {y : Int} (h : Pre (o ++ [y]) n (k + 1)) (hl : o.length = k) : kpt y (lft (fr o n k) n (2 * n + 1)) = lft (fr (o ++ [y]) n (k + 1)) n (2 * n + 1) := by
  have hat : (o ++ [y]).getD k 0 = y := by have := snoc_at o y; rw [hl] at this; exact this
  refine kpt_lft n y (2 * n + 1) (fun d hd => ?_) (2 * n + 1) (Nat.le_refl _)
  rw [fr_next h d hd, hat]
  congr 1
  exact fr_same (fun j hj => snoc_lt o y (by omega)) d
theorem own_apt {W W' : World} {base g size n : Nat} {e : TypeId} {v : Value} {xs : List Value} (h : W.ownsRow base e size v n xs) (ha : Apt g W W') (hg : g < base) : W'.ownsRow base e size v n xs := by
  obtain ⟨hl, h | ⟨g', cap', cur, hv, hbase, hheap, h1, h2, h3, h4⟩⟩ := h
  · exact ⟨hl, _root_.Or.inl h⟩
  · exact ⟨hl, _root_.Or.inr ⟨g', cap', cur, hv, hbase, (ha.2 g' (by omega)).trans hheap, h1, h2, h3, h4⟩⟩
set_option maxRecDepth 100000 in
set_option maxHeartbeats 2000000 in
theorem iOf_no (n r : Int) (w : World) (hv : orB n r = false) : Calls Try.prog 38 #[.int .i64 n, .int .i64 r] w (Ret (.tuple #[.slice none 0 0, .bool false]) w) := by
  have C1 := Lib.hid (fun w => iCountBindings n w)
  cases hx1 : inN n
  · rw [hx1, show cbN n = 0 by unfold cbN; rw [hx1]; rfl] at C1
    clear hv hx1
    go_enter Try.func38, Try.ntmps38
    go_wp2_with fail
    refine (C1.out _).mono ?_
    rintro e w' ⟨rfl, rfl⟩
    go_wp2
    go_ret2
    exact ⟨rfl, Below.refl _ _⟩
  · have h18 : 1 ≤ n ∧ n ≤ 8 := by unfold inN at hx1; simpa using hx1
    obtain ⟨m, rfl⟩ := Int.eq_ofNat_of_zero_le (show 0 ≤ n by omega)
    rw [hx1, show cbN (m : Int) = (al m : Int) by unfold cbN; rw [hx1]; simp] at C1
    have hf : r < 0 ∨ (al m : Int) ≤ r := by
      unfold orB at hv
      rw [hx1] at hv
      rcases Int.lt_or_le r 0 with c | c
      · exact _root_.Or.inl c
      · right
        simp only [Bool.true_and, Bool.and_eq_false_iff, decide_eq_false_iff_not] at hv
        rcases hv with h | h
        · exact absurd c h
        · simpa using h
    obtain ⟨R, hR⟩ : ∃ R, al m = R := ⟨_, rfl⟩
    rw [hR] at C1 hf
    clear hv hx1 h18 hR
    by_cases c : r < 0
    · go_enter Try.func38, Try.ntmps38
      go_wp2_with fail
      refine (C1.out _).mono ?_
      rintro e w' ⟨rfl, rfl⟩
      go_wp2
      go_ret2
      exact ⟨rfl, Below.refl _ _⟩
    · have c2 : (R : Int) ≤ r := by omega
      clear hf
      go_enter Try.func38, Try.ntmps38
      go_wp2_with fail
      refine (C1.out _).mono ?_
      rintro e w' ⟨rfl, rfl⟩
      go_wp2
      go_ret2
      exact ⟨rfl, Below.refl _ _⟩
set_option maxRecDepth 100000 in
set_option maxHeartbeats 4000000 in
theorem iOf_yes (n r : Nat) (h1 : 1 ≤ n) (h8 : n ≤ 8) (hr : r < al n) (w : World) :
    Calls Try.prog 38 #[.int .i64 (n : Int), .int .i64 (r : Int)] w (Gives true (dc n r n).1 w) := by
  obtain ⟨i0, hi, hz0, hz1, hz2⟩ := info_parts Li.info3
  have hx1 : inN (n : Int) = true := by unfold inN; simp; omega
  have C1 := Lib.hid (fun w => iCountBindings (n : Int) w)
  rw [hx1, show cbN (n : Int) = (al n : Int) by unfold cbN; rw [hx1]; simp] at C1
  have C2 := Lib.hid (fun w => ways2_any n h8 w)
  have hal := al_8 h8
  have hrb : r ≤ 10321920 := by omega
  have HDC := Lib.hid (fun i (hi : i ≤ n) => dc_ok hr i hi)
  have HA := Lib.hid (show al n = al (n - 0) from rfl)
  have HCN := Lib.hid (show cn (fr [] n 0) (2 * n + 1) = 2 * n from fr_count 0 (by omega) (fun k hk => absurd hk (Nat.not_lt_zero _)))
  rw [HCN.out] at C2
  have HLE := Lib.hid (show (dc n r n).1.length = n from (dc_ok hr n (Nat.le_refl _)).1)
  obtain ⟨LA, hLA⟩ : ∃ LA, al n = LA := ⟨_, rfl⟩
  rw [hLA] at C1 HA hal hr
  have hrI : (r : Int) < (LA : Int) := by omega
  clear hr hLA hx1
  go_enter Try.func38, Try.ntmps38
  go_wp2_with fail
  refine (C1.out _).mono ?_
  rintro e w' ⟨rfl, rfl⟩
  go_wp2_with fail
  refine (C2.out _).mono ?_
  rintro e w1 ⟨v, rfl, ho, hb⟩
  obtain ⟨g, cp, rfl⟩ := own_pos ho (by omega)
  have hgl := World.ownsRow.lt ho g rfl
  have HLF := Lib.hid ho
  have HB1 := Lib.hid hb
  have hs1 := hb.size
  have hg2 := hgl.2
  have hg1 := hgl.1
  clear ho hb hgl
  go_wp2
  go_loopw [1, 6, 8, 9] (fun q' b' v l wr => ∃ (k q L M2 : Nat) (vv : Value), vv = v ∧ k ≤ n ∧ q' = .int .i64 (q : Int) ∧ b' = .int .i64 (L : Int) ∧ l = .slice (some ⟨g, 0, none⟩) M2 cp ∧ Hid (M2 = 2 * (n - k)) ∧ M2 ≤ 16 ∧ Hid (Ow wr w.heap.size g M2 cp (lft (fr (dc n r k).1 n k) n (2 * n + 1))) ∧ Hid (wr.ownsRow w1.heap.size 3 1 vv k (Li.nums (dc n r k).1)) ∧ Hid (Below w.heap.size w wr) ∧ Hid (w1.heap.size ≤ wr.heap.size) ∧ Hid (q = (dc n r k).2 ∧ L = al (n - k))) (fun _ _ _ l _ => (match l with | .slice _ m _ => m | _ => 0))
  case atStart => exact ⟨0, r, LA, 2 * n, _, rfl, by omega, rfl, rfl, rfl, Lib.hid (by omega), by omega, HLF, Lib.hid (World.ownsRow_nil _ _ _ _), HB1, Lib.hid (Nat.le_refl _), Lib.hid ⟨rfl, HA.out⟩⟩
  case round =>
    obtain ⟨k, q, L, M2, v, rfl, hk, rfl, rfl, rfl, HM2, hM16, HLW, HOW, HB, HS1, HQ⟩ := hrel
    obtain ⟨wo, rfl⟩ : ∃ wo : World, wo = wr := ⟨_, rfl⟩
    have hsw := HB.out.size
    have hs2 := HS1.out
    by_cases hlt : 0 < M2
    · have hkn : k < n := by have := HM2.out; omega
      obtain ⟨o, ho⟩ : ∃ o, (dc n r k).1 = o := ⟨_, rfl⟩
      obtain ⟨d1, d2, d3, d4⟩ := HDC.out k (by omega)
      obtain ⟨d1', d2', d3', d4'⟩ := HDC.out (k + 1) (by omega)
      have hst := dc_step n r k
      rw [← HQ.out.1] at d3 hst
      rw [ho] at d1 d2 hst HOW HLW
      obtain ⟨L2, hL2⟩ : ∃ L2, al (n - (k + 1)) = L2 := ⟨_, rfl⟩
      have hL3 : L = L2 * M2 := by rw [HQ.out.2, al_down (by omega), hL2, HM2.out]
      have hL4 : 1 ≤ L2 := by rw [← hL2]; exact al_pos _
      have hL5 : L2 ≤ 10321920 := by rw [← hL2]; exact al_8 (by omega)
      have hLb : L ≤ 10321920 := by rw [HQ.out.2]; exact al_8 (by omega)
      have hqb : q ≤ 10321920 := by rw [← HQ.out.2] at d3; omega
      have e2 : (L : Int) / (M2 : Int) = (L2 : Int) := by
        rw [hL3, show ((L2 * M2 : Nat) : Int) = (L2 : Int) * (M2 : Int) by push_cast; rfl]
        exact Int.mul_ediv_cancel _ (by omega)
      obtain ⟨A0, hA0⟩ : ∃ A0, q / L2 = A0 := ⟨_, rfl⟩
      obtain ⟨q2, hq2⟩ : ∃ q2, q % L2 = q2 := ⟨_, rfl⟩
      have e3 : (q : Int) / (L2 : Int) = (A0 : Int) := by rw [← hA0]; exact (Int.natCast_ediv q L2).symm
      have e4 : (q : Int) % (L2 : Int) = (q2 : Int) := by rw [← hq2]; exact (Int.natCast_emod q L2).symm
      have hA2 : A0 < M2 := by
        rw [← HQ.out.2, hL3] at d3
        rw [← hA0]
        exact Nat.div_lt_of_lt_mul d3
      have hcn : cn (fr o n k) (2 * n + 1) = M2 := by rw [HM2.out]; exact fr_count k (by omega) d2
      have hat := lft_at (fr o n k) n (a := A0) (2 * n + 1) (by omega)
      have hnx : nxt n k o q = sel (fr o n k) A0 (2 * n + 1) := by unfold nxt; rw [hL2, hA0]
      obtain ⟨y, hy⟩ : ∃ y, (sel (fr o n k) A0 (2 * n + 1) : Int) - (n : Int) = y := ⟨_, rfl⟩
      rw [hy] at hat
      have hE1 : (dc n r (k + 1)).1 = o ++ [y] := by rw [hst, hnx, hy]
      have hE2 : (dc n r (k + 1)).2 = q2 := by rw [hst, hL2, hq2]
      rw [hE1] at d2'
      have hyb := d2' k (by omega)
      rw [show (o ++ [y]).getD k 0 = y by have := snoc_at o y; rw [d1] at this; exact this] at hyb
      have y1 : -8 ≤ y := by omega
      have y2 : y ≤ 8 := by omega
      have HNX := Lib.hid (lft_next d2' d1)
      have HE := Lib.hid (show (dc n r (k + 1)).1 = o ++ [y] ∧ (q2 = (dc n r (k + 1)).2 ∧ L2 = al (n - (k + 1))) from ⟨hE1, hE2.symm, hL2.symm⟩)
      have hcell := ow_cell HLW.out hA2
      rw [hat] at hcell
      have hlen2 : (lft (fr (o ++ [y]) n (k + 1)) n (2 * n + 1)).length = 2 * (n - (k + 1)) := by rw [lft_len]; exact fr_count (k + 1) (by omega) d2'
      have HLN := Lib.hid hlen2
      have hAI : (A0 : Int) < (M2 : Int) := by omega
      clear hst d1 d2 d3 d4 d1' d2' d3' d4' hL2 hL3 hA0 hq2 ho hat hnx hy hE1 hE2 hyb hlen2 hcn hA2
      have HBa := Lib.hid (HB.out.alloc HB.out.size (.cells #[.int .i64 y] 3))
      have HBb := Lib.hid (HBa.out.alloc HBa.out.size (.cells #[.int .i64 y] 3))
      have HOw := Lib.hid ((HOW.out.alloc (.cells #[.int .i64 y] 3)).alloc (.cells #[.int .i64 y] 3))
      have HLw := Lib.hid (World.ownsRow.alloc (World.ownsRow.alloc HLW.out (.cells #[.int .i64 y] 3)) (.cells #[.int .i64 y] 3))
      have HCy := Lib.hid (show ((wo.alloc (.cells #[.int .i64 y] 3)).alloc (.cells #[.int .i64 y] 3)).cell? ⟨wo.heap.size, 0, none⟩ = some (.int .i64 y) from cell_alloc ((Arr.new wo _ _).cell rfl) _)
      have HLT := Lib.hid (fun j hj => HOW.out.lt j hj)
      go_wp2_with (first | (at_builtin; refine wpList_append_own _ rfl _ _ 22 rfl w1.heap.size 3 i0 (.int .i64 0) 1 8 Try.underlying22 hi hz0 hz1 hz2 rfl (by decide) _ _ _ rfl HOw.out ⟨_, 0, none⟩ 1 1 [.int .i64 y] rfl rfl (cell_one_b _ _ _ _ (by simp)) (fun x hx => by simp at hx; subst hx; rfl) (by unfold maxLen; omega) (by omega) (by simp; omega) ?_; intro v3 w3 hown3 hgrow3 _))
      have HB3 := Lib.hid (Below.grown HBb.out hgrow3 (by simp; omega) (fun j hj => by have := (HLT.out j hj).1; omega))
      have HO3 := Lib.hid (show w3.ownsRow w1.heap.size 3 1 v3 (k + 1) (Li.nums (dc n r (k + 1)).1) by rw [HE.out.1, nums_snoc]; exact hown3)
      have HL3 := Lib.hid (show Ow w3 w.heap.size g M2 cp (lft (fr o n k) n (2 * n + 1)) from HLw.out.kept hgrow3 (_root_.Or.inr (fun e => by have := (HLT.out g e.symm).1; omega)))
      have HC3 := Lib.hid (show w3.cell? ⟨wo.heap.size, 0, none⟩ = some (.int .i64 y) from (World.cell?_of_block (w := (wo.alloc (.cells #[.int .i64 y] 3)).alloc (.cells #[.int .i64 y] 3)) (hgrow3.block wo.heap.size (by simp; omega) (fun e => by have := (HLT.out _ e.symm).2; omega))).trans HCy.out)
      have hs3 : w1.heap.size ≤ w3.heap.size := by have := hgrow3.size; simp at this; omega
      have CD := Lib.hid (delete_any y1 y2 HL3.out (by omega) HC3.out (show wo.heap.size ≠ g by omega))
      clear hown3 hgrow3 e2 e3 e4
      go_wp2_with fail
      refine CD.out.mono ?_
      rintro e w4 ⟨rfl, ho4, hp4⟩
      rw [HNX.out, HLN.out] at ho4 ⊢
      have HL4 := Lib.hid ho4
      have HB4 := Lib.hid (hp4.1 w.heap.size w HB3.out hg1)
      have HO4 := Lib.hid (own_apt HO3.out hp4 (by omega))
      have hs4 := (hp4.1 0 w3 (Below.refl _ _) (Nat.zero_le _)).size
      have HS4 := Lib.hid (show w1.heap.size ≤ w4.heap.size by omega)
      clear ho4 hp4 hs4
      go_wp2_with fail
      go_roundw
      case rel => exact ⟨k + 1, q2, L2, 2 * (n - (k + 1)), _, rfl, by omega, rfl, rfl, rfl, Lib.hid rfl, by omega, Lib.hid (by rw [HE.out.1]; exact HL4.out), HO4, HB4, HS4, Lib.hid HE.out.2⟩
      case measure => have := HM2.out; simp; omega
    · have HE := Lib.hid (show k = n by have := HM2.out; omega)
      go_wp2
      go_ret2
      exact ⟨_, rfl, by rw [HLE.out]; have h := HOW.out; rw [HE.out] at h; exact Li.own_le h hs1, HB.out⟩
theorem iBindingOfRank (n r : Int) (w : World) : Calls Try.prog 38 #[.int .i64 n, .int .i64 r] w (Gives (orB n r) (orZ n r) w) := by
  cases hv : orB n r
  · rw [show orZ n r = [] by unfold orZ; rw [hv]; rfl]
    exact (iOf_no n r w hv).mono fun e w' h => ⟨_, h.1, World.ownsRow_nil _ _ _ _, h.2⟩
  · obtain ⟨N, R, rfl, rfl, h1, h8, hR⟩ := orB_ok hv
    rw [orZ_at hv]
    exact iOf_yes N R h1 h8 hR w
end Ln
end Go.Proofs.Ytabnjoohojojnaa
