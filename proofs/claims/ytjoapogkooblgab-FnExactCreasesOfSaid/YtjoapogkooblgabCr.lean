/- Plain mathematics on the creases of a strip: the two ways to write them down agree for up to seven folds. No program in sight. -/
import Derived.Lib.Hide
namespace Go.Proofs.Ytjoapogkooblgab
namespace C
def vm (j : Nat) : List UInt8 := if j % 2 = 0 then [118] else [109]
/-- the first j steps of weaving new creases between those of s -/
def wv (s : List UInt8) : Nat → List UInt8
  | 0 => []
  | j + 1 => wv s j ++ vm j ++ (s.drop j).take 1
def cr : Nat → List UInt8
  | 0 => []
  | k + 1 => wv (cr k) ((cr k).length + 1)
def flip (c : UInt8) : UInt8 := if c = 118 then 109 else 118
/-- the creases of l from right to left, seen from below -/
def tn (l : List UInt8) : List UInt8 := (l.map flip).reverse
def ci : Nat → List UInt8
  | 0 => []
  | k + 1 => ci k ++ (118 :: tn (ci k))
theorem tn_length (l : List UInt8) : (tn l).length = l.length := by simp [tn]
theorem ci_length (k : Nat) : (ci k).length + 1 = 2 ^ k := by
  induction k with
  | zero => rfl
  | succ k ih => simp only [ci, List.length_append, List.length_cons, tn_length]; rw [Nat.pow_succ]; omega
theorem wv_length (s : List UInt8) (j : Nat) (h : j ≤ s.length) : (wv s j).length = 2 * j := by
  induction j with
  | zero => rfl
  | succ j ih =>
    have := ih (by omega)
    have hv : (vm j).length = 1 := by unfold vm; split <;> rfl
    simp only [wv, List.length_append, List.length_take, List.length_drop, hv]; omega
theorem wv_le (s : List UInt8) (j : Nat) : (wv s j).length ≤ 2 * j := by
  induction j with
  | zero => exact Nat.le_refl _
  | succ j ih =>
    have hv : (vm j).length = 1 := by unfold vm; split <;> rfl
    simp only [wv, List.length_append, List.length_take, List.length_drop, hv]; omega
theorem cr_ci : ∀ k, k < 8 → cr k = ci k := by decide +kernel
theorem flip_two (c : UInt8) : flip c = 118 ∨ flip c = 109 := by unfold flip; split <;> simp
theorem ci_two (k : Nat) : ∀ c ∈ ci k, c = 118 ∨ c = 109 := by
  induction k with
  | zero => intro c h; simp [ci] at h
  | succ k ih =>
    intro c h
    simp only [ci, List.mem_append, List.mem_cons, tn, List.mem_reverse, List.mem_map] at h
    rcases h with h | rfl | ⟨d, _, rfl⟩
    · exact ih c h
    · exact Or.inl rfl
    · exact flip_two d
theorem cr_le (k : Nat) (h : k < 8) : (cr k).length + 1 ≤ 128 := by
  rw [cr_ci k h, ci_length]
  exact Nat.le_trans (Nat.pow_le_pow_right (by omega) (show k ≤ 7 by omega)) (by decide)
theorem tn_snoc (l : List UInt8) (k : Nat) (h : k < l.length) : tn (l.take (k + 1)) = flip l[k] :: tn (l.take k) := by
  unfold tn
  rw [List.take_succ_eq_append_getElem h, List.map_append, List.reverse_append]
  rfl
theorem wv_even (s : List UInt8) (j : Nat) (h : j % 2 = 0) : wv s (j + 1) = wv s j ++ [118] ++ (s.drop j).take 1 := by simp [wv, vm, h]
theorem wv_odd (s : List UInt8) (j : Nat) (h : ¬ j % 2 = 0) : wv s (j + 1) = wv s j ++ [109] ++ (s.drop j).take 1 := by simp [wv, vm, h]
end C
end Go.Proofs.Ytjoapogkooblgab
