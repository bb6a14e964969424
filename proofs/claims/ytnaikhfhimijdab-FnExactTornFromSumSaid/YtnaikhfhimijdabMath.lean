/- Plain mathematics on triangular numbers and torn leaves, for the proofs about TornLeaf, CountTornTwo, FirstTornTwo, TornFromSum: no program in sight. No condition. -/
namespace Go.Proofs.Ytnaikhfhimijdab.M

def tri (p : Int) : Int := p * (p + 1) / 2

theorem tri_succ (p : Int) : tri (p + 1) = tri p + (p + 1) := by
  unfold tri
  have h : (p + 1) * (p + 1 + 1) = p * (p + 1) + 2 * (p + 1) := by
    rw [Int.mul_add (p + 1) (p + 1) 1, Int.add_mul p 1 (p + 1)]
    omega
  rw [h]
  omega

theorem tri_one : tri 1 = 1 := by decide

theorem tri_lo (k : Nat) : 1 ≤ tri (k + 1) ∧ (k : Int) + 1 ≤ tri (k + 1) := by
  induction k with
  | zero => exact ⟨by decide, by decide⟩
  | succ k ih =>
    have := tri_succ ((k : Int) + 1)
    have e : ((k + 1 : Nat) : Int) = (k : Int) + 1 := by omega
    rw [e]
    omega

theorem mul_hi (k : Nat) (h : k ≤ 2000) : ((k : Int)) * (k + 1) ≤ 4002000 := by
  have h1 : ((k : Int)) * (k + 1) = ((k * (k + 1) : Nat) : Int) := by simp
  rw [h1]
  have : k * (k + 1) ≤ 2000 * 2001 := Nat.mul_le_mul h (by omega)
  omega

theorem mul_lo (k : Nat) : 0 ≤ ((k : Int)) * (k + 1) := by
  have h1 : ((k : Int)) * (k + 1) = ((k * (k + 1) : Nat) : Int) := by simp
  rw [h1]
  omega

theorem mul_bd (p : Int) (h1 : 0 ≤ p) (h2 : p ≤ 2000) : 0 ≤ p * (p + 1) ∧ p * (p + 1) ≤ 4002000 := by
  obtain ⟨k, rfl⟩ := Int.eq_ofNat_of_zero_le h1
  exact ⟨mul_lo k, mul_hi k (by omega)⟩

theorem tri_bd (p : Int) (h1 : 0 ≤ p) (h2 : p ≤ 2000) : 0 ≤ tri p ∧ tri p ≤ 2001000 := by
  have := mul_bd p h1 h2
  unfold tri
  omega

/-- the leaf whose two numbers have the sum s, of a book of p pages; 0 if there is none -/
def torn (p s : Int) : Int := if 3 ≤ s ∧ (s + 1) % 4 = 0 ∧ (s + 1) / 4 ≤ p / 2 then (s + 1) / 4 else 0

theorem torn_yes {p s : Int} (h1 : 3 ≤ s) (h2 : (s + 1) % 4 = 0) (h3 : (s + 1) / 4 ≤ p / 2) : torn p s = (s + 1) / 4 := by
  unfold torn; rw [if_pos ⟨h1, h2, h3⟩]
theorem torn_no {p s : Int} (h : ¬ (3 ≤ s ∧ (s + 1) % 4 = 0 ∧ (s + 1) / 4 ≤ p / 2)) : torn p s = 0 := by
  unfold torn; rw [if_neg h]
theorem torn_bd (p s : Int) (h : 0 ≤ p) : 0 ≤ torn p s ∧ torn p s ≤ p / 2 := by
  unfold torn; split <;> omega
theorem torn_cases (p s : Int) : torn p s = 0 ∨ (3 ≤ s ∧ (s + 1) % 4 = 0 ∧ (s + 1) / 4 ≤ p / 2) := by
  unfold torn; split <;> simp_all
theorem torn_far (p s : Int) (h : 2 * p < s) : torn p s = 0 := by
  apply torn_no; omega
theorem torn_one (s : Int) : torn 1 s = 0 := by
  apply torn_no; omega

/-- one more leaf looked at: a, b the first pair, n how many -/
def step (p r : Int) (l : Int) (x : Int × Int × Int) : Int × Int × Int :=
  if torn p (r - (4 * l - 1)) ≤ l then x
  else (if x.2.2 = 0 then l else x.1, if x.2.2 = 0 then torn p (r - (4 * l - 1)) else x.2.1, x.2.2 + 1)
def st (p r : Int) : Nat → Int × Int × Int
  | 0 => (0, 0, 0)
  | k + 1 => step p r ((k : Int) + 1) (st p r k)

theorem st_n (p r : Int) (k : Nat) : 0 ≤ (st p r k).2.2 ∧ (st p r k).2.2 ≤ k := by
  induction k with
  | zero => exact ⟨by simp [st], by simp [st]⟩
  | succ k ih =>
    unfold st step
    split
    · omega
    · simp only; omega

theorem st_skip {p r : Int} {k : Nat} (h : torn p (r - (4 * ((k : Int) + 1) - 1)) ≤ (k : Int) + 1) : st p r (k + 1) = st p r k := by
  show step p r ((k : Int) + 1) (st p r k) = _
  unfold step; rw [if_pos h]
theorem st_first {p r : Int} {k : Nat} (h : (k : Int) + 1 < torn p (r - (4 * ((k : Int) + 1) - 1))) (hn : (st p r k).2.2 = 0) :
    st p r (k + 1) = ((k : Int) + 1, torn p (r - (4 * ((k : Int) + 1) - 1)), 1) := by
  show step p r ((k : Int) + 1) (st p r k) = _
  unfold step; rw [if_neg (by omega), if_pos hn, if_pos hn, hn]; rfl
theorem st_more {p r : Int} {k : Nat} (h : (k : Int) + 1 < torn p (r - (4 * ((k : Int) + 1) - 1))) (hn : ¬ (st p r k).2.2 = 0) :
    st p r (k + 1) = ((st p r k).1, (st p r k).2.1, (st p r k).2.2 + 1) := by
  show step p r ((k : Int) + 1) (st p r k) = _
  unfold step; rw [if_neg (by omega), if_neg hn, if_neg hn]
end Go.Proofs.Ytnaikhfhimijdab.M
