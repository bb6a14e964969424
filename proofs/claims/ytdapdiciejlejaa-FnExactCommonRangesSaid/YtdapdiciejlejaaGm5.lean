/- Ranges whose small gaps are added: the model's list, and that it has what the program's list has. -/
import Derived.Test.YtdapdiciejlejaaGm4
namespace Go.Proofs.Ytdapdiciejlejaa
set_option linter.unusedVariables false
set_option linter.unusedSimpArgs false
namespace Gm
/-- where the last pair ends -/
def fin : Int → PR → Int
  | d, [] => d
  | _, (_, t) :: r => fin t r
theorem fin_app (d : Int) (l : PR) (f t : Int) : fin d (l ++ [(f, t)]) = t := by
  induction l generalizing d with
  | nil => rfl
  | cons q r ih => obtain ⟨a, b⟩ := q; exact ih b
theorem fin_set (d : Int) (l : PR) (h : l ≠ []) (v : Int) : fin d (setLast l v) = v := by
  induction l generalizing d with
  | nil => exact absurd rfl h
  | cons q r ih =>
    obtain ⟨a, b⟩ := q
    by_cases hr : r = []
    · subst hr; rfl
    · rw [setLast_cons _ hr]; exact ih b hr
theorem ch_app {l : PR} {lo f t : Int} (h : Ch lo l) (hf : fin (lo - 2) l + 2 ≤ f) (ht : f ≤ t) : Ch lo (l ++ [(f, t)]) := by
  induction l generalizing lo with
  | nil => exact ⟨by have : fin (lo - 2) [] = lo - 2 := rfl
                     omega, ht, trivial⟩
  | cons q r ih =>
    obtain ⟨a, b⟩ := q
    refine ⟨h.1, h.2.1, ih h.2.2 ?_⟩
    have : fin (lo - 2) ((a, b) :: r) = fin b r := rfl
    rw [this] at hf
    rw [show b + 2 - 2 = b by omega]
    exact hf
theorem ch_set {l : PR} {lo d v : Int} (h : Ch lo l) (hl : l ≠ []) (hv : fin d l ≤ v) : Ch lo (setLast l v) := by
  induction l generalizing lo d with
  | nil => exact absurd rfl hl
  | cons q r ih =>
    obtain ⟨a, b⟩ := q
    by_cases hr : r = []
    · subst hr
      have : fin d [(a, b)] = b := rfl
      exact ⟨h.1, by have := h.2.1; omega, trivial⟩
    · rw [setLast_cons _ hr]
      exact ⟨h.1, h.2.1, ih (d := b) h.2.2 hr hv⟩
theorem has_set {l : PR} {lo d v : Int} (h : Ch lo l) (hl : l ≠ []) (hv : fin d l ≤ v) (p : Int) : has (setLast l v) p = (has l p || (decide (fin d l < p) && decide (p ≤ v))) := by
  induction l generalizing lo d with
  | nil => exact absurd rfl hl
  | cons q r ih =>
    obtain ⟨a, b⟩ := q
    by_cases hr : r = []
    · subst hr
      have e : fin d [(a, b)] = b := rfl
      rw [e] at hv ⊢
      have h2 := h.2.1
      show (decide (a ≤ p) && decide (p ≤ v) || false) = ((decide (a ≤ p) && decide (p ≤ b) || false) || (decide (b < p) && decide (p ≤ v)))
      rw [Bool.or_false, Bool.or_false, Bool.eq_iff_iff]
      simp only [Bool.or_eq_true, Bool.and_eq_true, decide_eq_true_eq]
      omega
    · rw [setLast_cons _ hr]
      show (_ || has (setLast r v) p) = ((_ || has r p) || _)
      rw [ih (d := b) h.2.2 hr hv, Bool.or_assoc]
      rfl
/-- small enough a gap ahead of the range k -/
def near (zs : List Int) (gap : Int) (k : Nat) : Bool := decide (zs.getD (k * 2) 0 - zs.getD ((k - 1) * 2 + 1) 0 - 1 ≤ gap)
/-- the model's list behind k ranges -/
def jl (zs : List Int) (gap : Int) : Nat → PR
  | 0 => []
  | k + 1 => if (decide (0 < k) && near zs gap k) = true then setLast (jl zs gap k) (zs.getD (k * 2 + 1) 0) else jl zs gap k ++ [(zs.getD (k * 2) 0, zs.getD (k * 2 + 1) 0)]
/-- the gaps that are added, ahead of the first k + 1 ranges -/
def jg (zs : List Int) (gap : Int) : Nat → PR
  | 0 => []
  | k + 1 => if near zs gap (k + 1) = true then jg zs gap k ++ [(zs.getD (k * 2 + 1) 0 + 1, zs.getD ((k + 1) * 2) 0 - 1)] else jg zs gap k
theorem jg_len (zs : List Int) (gap : Int) (k : Nat) : (jg zs gap k).length ≤ k := by
  induction k with
  | zero => exact Nat.le_refl _
  | succ k ih => unfold jg; split
                 · rw [List.length_append]; simp; omega
                 · omega
theorem jl_len (zs : List Int) (gap : Int) (k : Nat) : (jl zs gap k).length ≤ k ∧ (0 < k → jl zs gap k ≠ []) := by
  induction k with
  | zero => exact ⟨Nat.le_refl _, fun h => by omega⟩
  | succ k ih =>
    unfold jl
    split
    · rename_i h
      simp only [Bool.and_eq_true, decide_eq_true_eq] at h
      have hn := ih.2 h.1
      have := flat_setLast (jl zs gap k) (zs.getD (k * 2 + 1) 0) hn
      refine ⟨by omega, fun _ e => ?_⟩
      have h2 := this.2
      rw [e] at h2
      exact hn (List.eq_nil_of_length_eq_zero h2.symm)
    · refine ⟨by rw [List.length_append]; simp; omega, fun _ e => ?_⟩
      simp at e
theorem jl_ok {zs : List Int} {n : Nat} (hz : zs.length = 2 * n) (h : ∀ k, k < n → okk zs k = true) (gap : Int) (k : Nat) (hk : k < n) :
    Ch 1 (jl zs gap (k + 1)) ∧ (∀ d, fin d (jl zs gap (k + 1)) = zs.getD (k * 2 + 1) 0) ∧ ∀ p, has (jl zs gap (k + 1)) p = (has ((prs zs).take (k + 1)) p || has (jg zs gap k) p) := by
  induction k with
  | zero =>
    have h1 := ((okk_iff zs 0).1 (h 0 hk)).1
    refine ⟨⟨h1.1, h1.2.1, trivial⟩, fun d => rfl, fun p => ?_⟩
    rw [take_at zs n 0 hz hk]
    show has [(zs.getD (0 * 2) 0, zs.getD (0 * 2 + 1) 0)] p = (has ([] ++ [(zs.getD (0 * 2) 0, zs.getD (0 * 2 + 1) 0)]) p || false)
    rw [Bool.or_false]
    rfl
  | succ k ih =>
    obtain ⟨i1, i2, i3⟩ := ih (by omega)
    have h1 := (okk_iff zs (k + 1)).1 (h (k + 1) hk)
    have h2 := h1.2 (by omega)
    rw [show k + 1 - 1 = k by omega] at h2
    have hn := (jl_len zs gap (k + 1)).2 (by omega)
    have e : ∀ l, jl zs gap (k + 1 + 1) = l ↔ (if (decide (0 < k + 1) && near zs gap (k + 1)) = true then setLast (jl zs gap (k + 1)) (zs.getD ((k + 1) * 2 + 1) 0) else jl zs gap (k + 1) ++ [(zs.getD ((k + 1) * 2) 0, zs.getD ((k + 1) * 2 + 1) 0)]) = l := fun l => Iff.rfl
    have hj : jg zs gap (k + 1) = (if near zs gap (k + 1) = true then jg zs gap k ++ [(zs.getD (k * 2 + 1) 0 + 1, zs.getD ((k + 1) * 2) 0 - 1)] else jg zs gap k) := rfl
    have ht := take_at zs n (k + 1) hz hk
    by_cases hc : near zs gap (k + 1) = true
    · have E : jl zs gap (k + 1 + 1) = setLast (jl zs gap (k + 1)) (zs.getD ((k + 1) * 2 + 1) 0) := by
        rw [e, if_pos (by rw [hc]; simp)]
      have hle : fin 0 (jl zs gap (k + 1)) ≤ zs.getD ((k + 1) * 2 + 1) 0 := by rw [i2 0]; omega
      rw [E, hj, if_pos hc]
      refine ⟨ch_set i1 hn hle, fun d => fin_set d _ hn _, fun p => ?_⟩
      rw [has_set i1 hn hle, i3 p, i2 0, ht, has_append, has_append]
      show _ = ((_ || (decide (zs.getD ((k + 1) * 2) 0 ≤ p) && decide (p ≤ zs.getD ((k + 1) * 2 + 1) 0) || false)) || (_ || (decide (zs.getD (k * 2 + 1) 0 + 1 ≤ p) && decide (p ≤ zs.getD ((k + 1) * 2) 0 - 1) || false)))
      have h3 := h1.1.2.1
      generalize has ((prs zs).take (k + 1)) p = A
      generalize has (jg zs gap k) p = B
      rw [Bool.eq_iff_iff]
      simp only [Bool.or_eq_true, Bool.and_eq_true, decide_eq_true_eq, Bool.false_eq_true, or_false]
      constructor
      · rintro ((a | b) | ⟨c, d⟩)
        · exact .inl (.inl a)
        · exact .inr (.inl b)
        · by_cases q : zs.getD ((k + 1) * 2) 0 ≤ p
          · exact .inl (.inr ⟨q, d⟩)
          · exact .inr (.inr ⟨by omega, by omega⟩)
      · rintro ((a | ⟨c, d⟩) | (b | ⟨c, d⟩))
        · exact .inl (.inl a)
        · exact .inr ⟨by omega, d⟩
        · exact .inl (.inr b)
        · exact .inr ⟨by omega, by omega⟩
    · have E : jl zs gap (k + 1 + 1) = jl zs gap (k + 1) ++ [(zs.getD ((k + 1) * 2) 0, zs.getD ((k + 1) * 2 + 1) 0)] := by
        rw [e, if_neg (by intro q; simp only [Bool.and_eq_true] at q; exact hc q.2)]
      rw [E, hj, if_neg hc]
      refine ⟨ch_app i1 (by rw [i2]; omega) h1.1.2.1, fun d => fin_app d _ _ _, fun p => ?_⟩
      rw [has_append, i3 p, ht, has_append]
      generalize has ((prs zs).take (k + 1)) p = A
      generalize has (jg zs gap k) p = B
      generalize has [(zs.getD ((k + 1) * 2) 0, zs.getD ((k + 1) * 2 + 1) 0)] p = C
      cases A <;> cases B <;> cases C <;> rfl
end Gm
end Go.Proofs.Ytdapdiciejlejaa
