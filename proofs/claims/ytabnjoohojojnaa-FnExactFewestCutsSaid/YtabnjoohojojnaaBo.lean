/- The binding of a rank, by the model. -/
import Derived.Test.YtabnjoohojojnaaBm
namespace Go.Proofs.Ytabnjoohojojnaa
open Go.RowKit Go.Joins Go.Deep Go.ChangeShapes Go.WideShapes
set_option linter.unusedVariables false
set_option linter.unusedSimpArgs false
namespace Ln
theorem sel_at {p : Nat → Bool} {a d N : Nat} (hd : d < N) (hp : p d = true) (hc : cn p d = a) : sel p a N = d := by
  have h1 := cn_lt p hd hp
  obtain ⟨a1, a2, a3⟩ := sel_ok (p := p) (a := a) N (by omega)
  rcases Nat.lt_trichotomy (sel p a N) d with c | c | c
  · have := cn_lt p c a1; omega
  · exact c
  · have := cn_lt p c hp; omega
set_option maxRecDepth 100000 in
theorem l1Has_nil (x : Int) (w : World) : Calls Try.prog 73 #[.slice none 0 0, .int .i64 x] w fun e w' => e = .returned (.bool false) ∧ w = w' := by
  go_enter Try.func73, Try.ntmps73
  go_wp2
  refine wp_loop_rounds 1 ?_
  rw [rounds_succ]
  go_wp2
  go_ret
  exact ⟨rfl, rfl⟩
theorem l1Has_own {base n : Nat} {v : Value} {zs : List Int} {w : World} (x : Int) (h : w.ownsRow base 3 1 v n (Li.nums zs)) (hl : n ≤ 1048576) (r : Bool) (hr : hasTo zs x n = r) :
    Calls Try.prog 73 #[v, .int .i64 x] w fun e w' => e = .returned (.bool r) ∧ w = w' := by
  rcases Li.own_forms h with ⟨rfl, rfl⟩ | ⟨go, cap, rfl⟩
  · have : r = false := by rw [← hr]; rfl
    rw [this]
    exact l1Has_nil x w
  · exact l1Has_any x h hl n (Nat.le_refl _) r hr
set_option maxRecDepth 100000 in
set_option maxHeartbeats 4000000 in
theorem biOf_any (n r : Nat) (h1 : 1 ≤ n) (h8 : n ≤ 8) (hr : r < al n) (w : World) :
    Calls Try.prog 67 #[.int .i64 (n : Int), .int .i64 (r : Int)] w fun e w' => ∃ v, e = .returned v ∧ w'.ownsRow w.heap.size 3 1 v n (Li.nums (dc n r n).1) ∧ Below w.heap.size w w' := by
  obtain ⟨i0, hi, hz0, hz1, hz2⟩ := info_parts Li.info3
  have hal := al_8 h8
  have hrb : r ≤ 10321920 := by omega
  have C0 := Lib.hid (fun w => biAll_any n h8 w)
  have HDC := Lib.hid (fun i (hi : i ≤ n) => dc_ok hr i hi)
  have HA := Lib.hid (show al n = al (n - 0) from rfl)
  obtain ⟨LA, hLA⟩ : ∃ LA, al n = LA := ⟨_, rfl⟩
  rw [hLA] at C0 HA hal
  clear hr hLA
  go_enter Try.func67, Try.ntmps67
  go_wp2_with fail
  refine (C0.out _).mono ?_
  rintro e w' ⟨rfl, rfl⟩
  go_wp2
  go_loopw [1, 5, 6, 7] (fun q' v l i wr => ∃ (k q L : Nat) (vv : Value), vv = v ∧ k ≤ n ∧ i = .int .i64 (k : Int) ∧ q' = .int .i64 (q : Int) ∧ l = .int .i64 (L : Int) ∧ wr.ownsRow w.heap.size 3 1 vv k (Li.nums (dc n r k).1) ∧ Below w.heap.size w wr ∧ Hid (q = (dc n r k).2 ∧ L = al (n - k))) (fun q' v l i _ => ((n : Int) - intOf i).toNat)
  case atStart => exact ⟨0, r, LA, _, rfl, by omega, rfl, rfl, rfl, World.ownsRow_nil _ _ _ _, Below.refl _ _, Lib.hid ⟨rfl, HA.out⟩⟩
  case round =>
    obtain ⟨k, q, L, v, rfl, hk, rfl, rfl, rfl, hown, hb, HQ⟩ := hrel
    obtain ⟨wo, rfl⟩ : ∃ wo : World, wo = wr := ⟨_, rfl⟩
    have HB := Lib.hid hb
    have HOW := Lib.hid hown
    have hsw := hb.size
    clear hb hown
    by_cases hlt : (k : Int) < n
    · obtain ⟨o, ho⟩ : ∃ o, (dc n r k).1 = o := ⟨_, rfl⟩
      obtain ⟨d1, d2, d3, d4⟩ := HDC.out k (by omega)
      have hst := dc_step n r k
      rw [← HQ.out.1] at d3 hst
      rw [ho] at d1 d2 hst HOW
      obtain ⟨M, hM⟩ : ∃ M, n - k = M := ⟨_, rfl⟩
      obtain ⟨L2, hL2⟩ : ∃ L2, al (n - (k + 1)) = L2 := ⟨_, rfl⟩
      have hL3 : L = L2 * (2 * M) := by rw [HQ.out.2, al_down (by omega), hL2, hM]
      have hL4 : 1 ≤ L2 := by rw [← hL2]; exact al_pos _
      have hL5 : L2 ≤ 10321920 := by rw [← hL2]; exact al_8 (by omega)
      have hLb : L ≤ 10321920 := by rw [HQ.out.2]; exact al_8 (by omega)
      have hqb : q ≤ 10321920 := by rw [← HQ.out.2] at d3; omega
      have hM1 : 1 ≤ M := by omega
      have hM2 : M ≤ 8 := by omega
      have e1 : (n : Int) - (k : Int) = (M : Int) := by omega
      have e2 : (L : Int) / (2 * (M : Int)) = (L2 : Int) := by
        rw [hL3, show ((L2 * (2 * M) : Nat) : Int) = (L2 : Int) * (2 * (M : Int)) by push_cast; rfl]
        exact Int.mul_ediv_cancel _ (by omega)
      have e2' : (L : Int).tdiv (2 * (M : Int)) = (L2 : Int) := by rw [Int.tdiv_eq_ediv_of_nonneg (by omega)]; exact e2
      obtain ⟨A0, hA0⟩ : ∃ A0, q / L2 = A0 := ⟨_, rfl⟩
      obtain ⟨q2, hq2⟩ : ∃ q2, q % L2 = q2 := ⟨_, rfl⟩
      have e3 : (q : Int) / (L2 : Int) = (A0 : Int) := by rw [← hA0]; exact (Int.natCast_ediv q L2).symm
      have e3' : (q : Int).tdiv (L2 : Int) = (A0 : Int) := by rw [Int.tdiv_eq_ediv_of_nonneg (by omega)]; exact e3
      have e4 : (q : Int) % (L2 : Int) = (q2 : Int) := by rw [← hq2]; exact (Int.natCast_emod q L2).symm
      have e4' : (q : Int).tmod (L2 : Int) = (q2 : Int) := by rw [Int.tmod_eq_emod_of_nonneg (by omega)]; exact e4
      have hq3 : q2 ≤ 10321920 := by have := Nat.mod_le q L2; omega
      have hA1 : A0 ≤ 10321920 := by have := Nat.div_le_self q L2; omega
      have HFC := Lib.hid (show cn (fr o n k) (2 * n + 1) = 2 * M by rw [← hM]; exact fr_count k (by omega) d2)
      have HA2 := Lib.hid (show A0 < 2 * M by
        rw [← HQ.out.2, hL3] at d3
        rw [← hA0]
        exact Nat.div_lt_of_lt_mul d3)
      have HST := Lib.hid (show ∀ D : Nat, D < 2 * n + 1 → fr o n k D = true → cn (fr o n k) D = A0 → (dc n r (k + 1)).1 = o ++ [(D : Int) - (n : Int)] ∧ q2 = (dc n r (k + 1)).2 ∧ L2 = al (n - (k + 1)) from fun D hD hf hc => by
        have hn : nxt n k o q = D := by unfold nxt; rw [hL2, hA0]; exact sel_at hD hf hc
        rw [hst, hn, hL2, hq2]
        exact ⟨rfl, rfl, rfl⟩)
      have HLN := Lib.hid d1
      clear hst d1 d2 d3 d4 hL2 hL3 hA0 hq2 hM ho
      go_wp2
      clear e1 e2 e2' e3 e3' e4 e4'
      go_loop [5, 8, 9] (fun v' a x => ∃ (d A : Nat) (y : Int), (y ≤ (n : Int) + 1 ∧ -(n : Int) ≤ y) ∧ A ≤ 10321920 ∧ x = .int .i64 y ∧ a = .int .i64 (A : Int) ∧ v' = v ∧ Hid (y = (d : Int) - (n : Int) ∧ A + cn (fr o n k) d = A0)) (fun v' a x => ((n : Int) + 1 - intOf x).toNat)
      case atStart => exact ⟨0, A0, -(n : Int), ⟨by omega, by omega⟩, by omega, rfl, rfl, rfl, Lib.hid ⟨by omega, by simp [cn]⟩⟩
      case round =>
        obtain ⟨d, A, y, ⟨hy1, hy2⟩, hA, rfl, rfl, rfl, HY⟩ := hrel
        by_cases hyn : y ≤ (n : Int)
        · have HD := Lib.hid (show d < 2 * n + 1 by have := HY.out.1; omega)
          have HN := Lib.hid (cn_step (fr o n k) d)
          obtain ⟨x3, hx3⟩ : ∃ x, hasTo o y k = x := ⟨_, rfl⟩
          obtain ⟨x4, hx4⟩ : ∃ x, hasTo o (-y) k = x := ⟨_, rfl⟩
          have HF := Lib.hid (fr_of o n k d y HY.out.1)
          rw [hx3, hx4] at HF
          have C3 := Lib.hid (l1Has_own y HOW.out (by omega) x3 hx3)
          have C4 := Lib.hid (l1Has_own (-y) HOW.out (by omega) x4 hx4)
          have y1 : -8 ≤ y := by omega
          have y2 : y ≤ 8 := by omega
          clear hx3 hx4
          by_cases c0 : y = 0
          · have HE := Lib.hid (show A + cn (fr o n k) (d + 1) = A0 by rw [HN.out, HF.out]; simp [c0]; exact HY.out.2)
            have t0 : (y == 0) = true := by simpa using c0
            clear c0
            go_wp2
            go_round
            case rel => exact ⟨d + 1, A, y + 1, ⟨by omega, by omega⟩, hA, rfl, rfl, rfl, Lib.hid ⟨by have := HY.out.1; omega, HE.out⟩⟩
            case measure => simp [intOf]; omega
          · have HF2 := Lib.hid (show fr o n k d = (!x3 && !x4) by rw [HF.out]; simp [c0])
            have t0 : (y == 0) = false := by simpa using c0
            clear c0
            cases x3
            · cases x4
              · by_cases cA : A = 0
                · obtain ⟨E1, E2, E3⟩ := HST.out d HD.out (by rw [HF2.out]; rfl) (by have := HY.out.2; omega)
                  rw [← HY.out.1] at E1
                  have HOw := Lib.hid (HOW.out.alloc (.cells #[.int .i64 y] 3))
                  have HLT := Lib.hid (fun j hj => (HOW.out.lt j hj).1)
                  have HE1 := Lib.hid E1
                  have HE2 := Lib.hid (show q2 = (dc n r (k + 1)).2 ∧ L2 = al (n - (k + 1)) from ⟨E2, E3⟩)
                  have t1 : ((A : Int) == 0) = true := by simp; omega
                  clear E1 E2 E3 cA
                  go_wp2_with fail
                  refine C3.out.mono ?_
                  rintro e w' ⟨rfl, rfl⟩
                  go_wp2_with fail
                  refine C4.out.mono ?_
                  rintro e w' ⟨rfl, rfl⟩
                  go_wp2_with (first | (at_builtin; refine wpList_append_own _ rfl _ _ 22 rfl w.heap.size 3 i0 (.int .i64 0) 1 8 Try.underlying22 hi hz0 hz1 hz2 rfl (by decide) _ _ _ rfl HOw.out ⟨_, 0, none⟩ 1 1 [.int .i64 y] rfl rfl (cell_one_new _ _ _) (fun x hx => by simp at hx; subst hx; rfl) (by unfold maxLen; omega) (by omega) (by simp; omega) ?_; intro v3 w3 hown3 hgrow3 _))
                  have HB4 := Lib.hid (Below.grown (HB.out.alloc HB.out.size (.cells #[.int .i64 y] 3)) hgrow3 (by simp; omega) HLT.out)
                  have HO3 := Lib.hid (show w3.ownsRow w.heap.size 3 1 v3 (k + 1) (Li.nums (dc n r (k + 1)).1) by rw [HE1.out, nums_snoc]; exact hown3)
                  clear hown3 hgrow3
                  go_roundw
                  case rel => exact ⟨k + 1, q2, L2, _, rfl, by omega, by go_num, rfl, rfl, HO3.out, HB4.out, HE2⟩
                  case measure => simp [intOf]; omega
                · have HE := Lib.hid (show (A - 1) + cn (fr o n k) (d + 1) = A0 by rw [HN.out, HF2.out]; have := HY.out.2; simp; omega)
                  have t1 : ((A : Int) == 0) = false := by simp; omega
                  have t2 : (A : Int) - 1 = ((A - 1 : Nat) : Int) := by omega
                  have HT2 := Lib.hid t2
                  clear cA t2
                  go_wp2_with fail
                  refine C3.out.mono ?_
                  rintro e w' ⟨rfl, rfl⟩
                  go_wp2_with fail
                  refine C4.out.mono ?_
                  rintro e w' ⟨rfl, rfl⟩
                  go_wp2
                  go_round
                  case rel => exact ⟨d + 1, A - 1, y + 1, ⟨by omega, by omega⟩, by omega, rfl, by rw [HT2.out], rfl, Lib.hid ⟨by have := HY.out.1; omega, HE.out⟩⟩
                  case measure => simp [intOf]; omega
              · have HE := Lib.hid (show A + cn (fr o n k) (d + 1) = A0 by rw [HN.out, HF2.out]; simp; exact HY.out.2)
                go_wp2_with fail
                refine C3.out.mono ?_
                rintro e w' ⟨rfl, rfl⟩
                go_wp2_with fail
                refine C4.out.mono ?_
                rintro e w' ⟨rfl, rfl⟩
                go_wp2
                go_round
                case rel => exact ⟨d + 1, A, y + 1, ⟨by omega, by omega⟩, hA, rfl, rfl, rfl, Lib.hid ⟨by have := HY.out.1; omega, HE.out⟩⟩
                case measure => simp [intOf]; omega
            · have HE := Lib.hid (show A + cn (fr o n k) (d + 1) = A0 by rw [HN.out, HF2.out]; simp; exact HY.out.2)
              go_wp2_with fail
              refine C3.out.mono ?_
              rintro e w' ⟨rfl, rfl⟩
              go_wp2
              go_round
              case rel => exact ⟨d + 1, A, y + 1, ⟨by omega, by omega⟩, hA, rfl, rfl, rfl, Lib.hid ⟨by have := HY.out.1; omega, HE.out⟩⟩
              case measure => simp [intOf]; omega
        · exfalso
          have h3 := HY.out.1
          have h4 := HY.out.2
          have h5 := HFC.out
          have h6 := HA2.out
          have h7 := cn_mono (fr o n k) (show 2 * n + 1 ≤ d by omega)
          omega
    · have HE := Lib.hid (show k = n by omega)
      go_wp2
      go_ret
      exact ⟨_, rfl, by rw [← HE.out]; rw [← HE.out] at HOW; exact HOW.out, HB.out⟩
/-- the binding of a rank, if there is one -/
def orB (n r : Int) : Bool := inN n && (decide (0 ≤ r) && decide (r < (al n.toNat : Int)))
def orZ (n r : Int) : List Int := if orB n r = true then (dc n.toNat r.toNat n.toNat).1 else []
theorem orB_ok {n r : Int} (h : orB n r = true) : ∃ N R : Nat, n = N ∧ r = R ∧ 1 ≤ N ∧ N ≤ 8 ∧ R < al N := by
  unfold orB inN at h
  simp only [Bool.and_eq_true, decide_eq_true_eq] at h
  obtain ⟨N, rfl⟩ := Int.eq_ofNat_of_zero_le (show 0 ≤ n by omega)
  obtain ⟨R, rfl⟩ := Int.eq_ofNat_of_zero_le h.2.1
  exact ⟨N, R, rfl, rfl, by omega, by omega, by simpa using h.2.2⟩
theorem orZ_at {N R : Nat} (h : orB (N : Int) (R : Int) = true) : orZ (N : Int) (R : Int) = (dc N R N).1 := by unfold orZ; rw [h]; simp
theorem orZ_len (n r : Int) : (orZ n r).length ≤ 1048576 := by
  by_cases c : orB n r = true
  · obtain ⟨N, R, rfl, rfl, h1, h8, hR⟩ := orB_ok c
    rw [orZ_at c, (dc_ok hR N (Nat.le_refl _)).1]
    omega
  · unfold orZ; rw [if_neg c]; simp
set_option maxRecDepth 100000 in
set_option maxHeartbeats 2000000 in
theorem sBindingOfRank (n r : Int) (w : World) : Calls Try.prog 37 #[.int .i64 n, .int .i64 r] w (Gives (orB n r) (orZ n r) w) := by
  obtain ⟨v, hv⟩ : ∃ v, orB n r = v := ⟨_, rfl⟩
  obtain ⟨x1, hx1⟩ : ∃ x, inN n = x := ⟨_, rfl⟩
  have C1 := Lib.hid (fun w => biLeaves_any n x1 hx1 w)
  cases v
  · rw [hv, show orZ n r = [] by unfold orZ; rw [hv]; rfl]
    cases x1
    · clear hv hx1
      go_enter Try.func37, Try.ntmps37
      go_wp2_with fail
      refine (C1.out _).mono ?_
      rintro e w' ⟨rfl, rfl⟩
      go_wp2
      go_ret2
      exact ⟨_, rfl, World.ownsRow_nil _ _ _ _, Below.refl _ _⟩
    · have h18 : 1 ≤ n ∧ n ≤ 8 := by unfold inN at hx1; simpa using hx1
      obtain ⟨m, rfl⟩ := Int.eq_ofNat_of_zero_le (show 0 ≤ n by omega)
      have C2 := Lib.hid (fun w => biAll_any m (by omega) w)
      have hf : r < 0 ∨ (al m : Int) ≤ r := by
        unfold orB at hv
        rw [hx1] at hv
        rcases Int.lt_or_le r 0 with c | c
        · exact _root_.Or.inl c
        · right
          simp only [Bool.true_and, Bool.and_eq_false_iff, decide_eq_false_iff_not] at hv
          rcases hv with h | h
          · exact absurd c h
          · simpa using h
      obtain ⟨R, hR⟩ : ∃ R, al m = R := ⟨_, rfl⟩
      rw [hR] at C2 hf
      clear hv hx1 h18 hR
      by_cases c : r < 0
      · go_enter Try.func37, Try.ntmps37
        go_wp2_with fail
        refine (C1.out _).mono ?_
        rintro e w' ⟨rfl, rfl⟩
        go_wp2
        go_ret2
        exact ⟨_, rfl, World.ownsRow_nil _ _ _ _, Below.refl _ _⟩
      · have c2 : (R : Int) ≤ r := by omega
        clear hf
        go_enter Try.func37, Try.ntmps37
        go_wp2_with fail
        refine (C1.out _).mono ?_
        rintro e w' ⟨rfl, rfl⟩
        go_wp2_with fail
        refine (C2.out _).mono ?_
        rintro e w' ⟨rfl, rfl⟩
        go_wp2
        go_ret2
        exact ⟨_, rfl, World.ownsRow_nil _ _ _ _, Below.refl _ _⟩
  · obtain ⟨N, R, rfl, rfl, h1, h8, hR⟩ := orB_ok hv
    rw [orZ_at hv, hv]
    have hx : x1 = true := by rw [← hx1]; unfold inN; simp; omega
    subst hx
    have C2 := Lib.hid (fun w => biAll_any N h8 w)
    have C3 := Lib.hid (fun w => biOf_any N R h1 h8 hR w)
    have HL := Lib.hid (dc_ok hR N (Nat.le_refl _)).1
    obtain ⟨A, hA⟩ : ∃ A, al N = A := ⟨_, rfl⟩
    rw [hA] at C2 hR
    have hR2 : (R : Int) < (A : Int) := by omega
    clear hv hx1 hA
    go_enter Try.func37, Try.ntmps37
    go_wp2_with fail
    refine (C1.out _).mono ?_
    rintro e w' ⟨rfl, rfl⟩
    go_wp2_with fail
    refine (C2.out _).mono ?_
    rintro e w' ⟨rfl, rfl⟩
    go_wp2_with fail
    refine (C3.out _).mono ?_
    rintro e w1 ⟨v, rfl, ho, hb⟩
    have HO := Lib.hid ho
    clear ho
    go_wp2
    go_ret2
    exact ⟨_, rfl, by rw [HL.out]; exact HO.out, hb⟩
end Ln
end Go.Proofs.Ytabnjoohojojnaa
