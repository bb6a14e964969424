/- The binding of a rank, by the program: the numbers that are left. -/
import Derived.Test.YtabnjoohojojnaaCd
import Derived.Test.YtabnjoohojojnaaBz
namespace Go.Proofs.Ytabnjoohojojnaa
open Go.RowKit Go.Joins Go.Deep Go.ChangeShapes Go.WideShapes
set_option linter.unusedVariables false
set_option linter.unusedSimpArgs false
namespace Ln
/-- the numbers d - n that are so, in their order -/
def lft (p : Nat → Bool) (n : Nat) : Nat → List Int
  | 0 => []
  | d + 1 => if p d = true then lft p n d ++ [(d : Int) - (n : Int)] else lft p n d
theorem lft_step (p : Nat → Bool) (n d : Nat) : lft p n (d + 1) = if p d = true then lft p n d ++ [(d : Int) - (n : Int)] else lft p n d := rfl
theorem lft_len (p : Nat → Bool) (n : Nat) : ∀ d, (lft p n d).length = cn p d
  | 0 => rfl
  | d + 1 => by
    rw [lft_step, cn_step]
    split
    · rw [List.length_append, lft_len p n d]; rfl
    · rw [lft_len p n d]; rfl
theorem lft_at (p : Nat → Bool) (n : Nat) {a : Nat} : ∀ N, a < cn p N → (lft p n N).getD a 0 = (sel p a N : Int) - (n : Int) := by
  intro N
  induction N with
  | zero => intro h; exact absurd h (Nat.not_lt_zero _)
  | succ N ih =>
    intro h
    rw [lft_step]
    show _ = ((if p N = true ∧ cn p N = a then N else sel p a N : Nat) : Int) - (n : Int)
    have hl := lft_len p n N
    by_cases hp : p N = true
    · rw [if_pos hp]
      by_cases hc : cn p N = a
      · rw [if_pos ⟨hp, hc⟩]
        subst hc
        rw [← hl]
        simp [List.getD]
      · rw [if_neg (fun h => hc h.2)]
        rw [cn_step, if_pos hp] at h
        rw [← ih (by omega)]
        simp [List.getD, List.getElem?_append_left (show a < (lft p n N).length by omega)]
    · rw [if_neg hp, if_neg (fun h => hp h.1)]
      rw [cn_step, if_neg hp] at h
      exact ih (by omega)
/-- those that are not the number y nor -y -/
def kpt (y : Int) (l : List Int) : List Int := l.filter fun x => !(decide (x = y) || decide (x = -y))
theorem kpt_lft {p q : Nat → Bool} (n : Nat) (y : Int) (N : Nat) (hq : ∀ d, d < N → q d = (p d && !(decide ((d : Int) - (n : Int) = y) || decide ((d : Int) - (n : Int) = -y)))) : ∀ d, d ≤ N → kpt y (lft p n d) = lft q n d := by
  intro d
  induction d with
  | zero => intro _; rfl
  | succ d ih =>
    intro hd
    rw [lft_step, lft_step, hq d (by omega)]
    by_cases hp : p d = true
    · rw [if_pos hp, hp]
      unfold kpt at ih ⊢
      rw [List.filter_append, ih (by omega), Bool.true_and]
      cases hb : (decide ((d : Int) - (n : Int) = y) || decide ((d : Int) - (n : Int) = -y))
      · have e : List.filter (fun x => !(decide (x = y) || decide (x = -y))) [(d : Int) - (n : Int)] = [(d : Int) - (n : Int)] := by
          simp only [List.filter_cons, hb]
          rfl
        rw [e]
        simp
      · have e : List.filter (fun x => !(decide (x = y) || decide (x = -y))) [(d : Int) - (n : Int)] = [] := by
          simp only [List.filter_cons, hb]
          rfl
        rw [e]
        simp
    · rw [if_neg hp, ih (by omega)]
      simp [hp]
theorem fr_zero (n d : Nat) (zs : List Int) : fr zs n 0 d = !(decide ((d : Int) - (n : Int) = 0)) := by
  rw [Bool.eq_iff_iff, fr_iff]
  simp
theorem fr_next {zs : List Int} {n i : Nat} (h : Pre zs n (i + 1)) : ∀ d, d < 2 * n + 1 → fr zs n (i + 1) d = (fr zs n i d && !(decide ((d : Int) - (n : Int) = zs.getD i 0) || decide ((d : Int) - (n : Int) = -zs.getD i 0))) := by
  intro d hd
  have hz := h i (by omega)
  rw [fr_step h, Bool.and_assoc]
  congr 1
  rw [← Bool.not_or]
  congr 1
  congr 1
  · rw [decide_eq_decide]; omega
  · rw [decide_eq_decide]; omega
set_option maxRecDepth 100000 in
set_option maxHeartbeats 2000000 in
theorem ways2_any (n : Nat) (h8 : n ≤ 8) (w : World) :
    Calls Try.prog 68 #[.int .i64 (n : Int)] w fun e w' => ∃ v, e = .returned v ∧ w'.ownsRow w.heap.size 3 1 v (cn (fr [] n 0) (2 * n + 1)) (Li.nums (lft (fr [] n 0) n (2 * n + 1))) ∧ Below w.heap.size w w' := by
  obtain ⟨i0, hi, hz0, hz1, hz2⟩ := info_parts Li.info3
  obtain ⟨p, hp⟩ : ∃ p, fr [] n 0 = p := ⟨_, rfl⟩
  have HP := Lib.hid (show ∀ d, p d = !(decide ((d : Int) - (n : Int) = 0)) from fun d => by rw [← hp]; exact fr_zero n d [])
  rw [hp]
  clear hp
  go_enter Try.func68, Try.ntmps68
  go_wp2
  go_loopw [3, 4] (fun v x wr => ∃ (d : Nat) (y : Int) (c : Nat) (vv : Value), vv = v ∧ d ≤ 2 * n + 1 ∧ x = .int .i64 y ∧ (-8 ≤ y ∧ y ≤ 9) ∧ Hid (y = (d : Int) - (n : Int) ∧ c = cn p d) ∧ c ≤ d ∧ Hid (wr.ownsRow w.heap.size 3 1 vv c (Li.nums (lft p n d))) ∧ Hid (Below w.heap.size w wr)) (fun _ x _ => ((n : Int) + 1 - intOf x).toNat)
  case atStart => exact ⟨0, -(n : Int), 0, _, rfl, by omega, rfl, ⟨by omega, by omega⟩, Lib.hid ⟨by omega, rfl⟩, by omega, Lib.hid (World.ownsRow_nil _ _ _ _), Lib.hid (Below.refl _ _)⟩
  case round =>
    obtain ⟨d, y, c, v, rfl, hd, rfl, ⟨y1, y2⟩, HY, hcd, HO, HB⟩ := hrel
    have hsw := HB.out.size
    by_cases hyn : y ≤ (n : Int)
    · have HD := Lib.hid (show d + 1 ≤ 2 * n + 1 by have := HY.out.1; omega)
      have HL := Lib.hid (lft_step p n d)
      have HC := Lib.hid (cn_step p d)
      have HPD := Lib.hid (HP.out d)
      rw [← HY.out.1] at HPD HL
      have hd17 : d ≤ 17 := by omega
      by_cases c0 : y = 0
      · have hp0 : p d = false := by rw [HPD.out]; simp [c0]
        have HL2 := Lib.hid (show lft p n (d + 1) = lft p n d by rw [HL.out, hp0]; rfl)
        have HC2 := Lib.hid (show c = cn p (d + 1) by rw [HC.out, hp0, HY.out.2]; rfl)
        have t0 : (y != 0) = false := by simp [c0]
        have t1 : (y == 0) = true := by simp [c0]
        clear c0 hp0
        go_wp2
        go_roundw
        case rel => exact ⟨d + 1, y + 1, c, _, rfl, HD.out, rfl, ⟨by omega, by omega⟩, Lib.hid ⟨by have := HY.out.1; omega, HC2.out⟩, by omega, Lib.hid (by rw [HL2.out]; exact HO.out), HB⟩
        case measure => simp [intOf]; omega
      · have hp0 : p d = true := by rw [HPD.out]; simp [c0]
        have HL2 := Lib.hid (show lft p n (d + 1) = lft p n d ++ [y] by rw [HL.out, if_pos hp0])
        have HC2 := Lib.hid (show c + 1 = cn p (d + 1) by rw [HC.out, hp0, HY.out.2]; rfl)
        have t0 : (y != 0) = true := by simpa using c0
        have t1 : (y == 0) = false := by simpa using c0
        have HOw := Lib.hid (HO.out.alloc (.cells #[.int .i64 y] 3))
        have HLT := Lib.hid (fun j hj => (HO.out.lt j hj).1)
        clear c0 hp0
        go_wp2_with (first | (at_builtin; refine wpList_append_own _ rfl _ _ 22 rfl w.heap.size 3 i0 (.int .i64 0) 1 8 Try.underlying22 hi hz0 hz1 hz2 rfl (by decide) _ _ _ rfl HOw.out ⟨_, 0, none⟩ 1 1 [.int .i64 y] rfl rfl (cell_one_b _ _ _ _ (by simp)) (fun x hx => by simp at hx; subst hx; rfl) (by unfold maxLen; omega) (by omega) (by simp; omega) ?_; intro v3 w3 hown3 hgrow3 _))
        have HB4 := Lib.hid (Below.grown (HB.out.alloc HB.out.size (.cells #[.int .i64 y] 3)) hgrow3 (by simp; omega) HLT.out)
        have HO3 := Lib.hid (show w3.ownsRow w.heap.size 3 1 v3 (c + 1) (Li.nums (lft p n (d + 1))) by rw [HL2.out, nums_snoc]; exact hown3)
        clear hown3 hgrow3
        go_wp2_with fail
        go_roundw
        case rel => exact ⟨d + 1, y + 1, c + 1, _, rfl, HD.out, rfl, ⟨by omega, by omega⟩, Lib.hid ⟨by have := HY.out.1; omega, HC2.out⟩, by omega, HO3, HB4⟩
        case measure => simp [intOf]; omega
    · have HE := Lib.hid (show d = 2 * n + 1 by have := HY.out.1; omega)
      go_wp2
      go_ret
      exact ⟨_, rfl, by have h := HO.out; rw [HY.out.2, HE.out] at h; exact h, HB.out⟩
end Ln
end Go.Proofs.Ytabnjoohojojnaa
