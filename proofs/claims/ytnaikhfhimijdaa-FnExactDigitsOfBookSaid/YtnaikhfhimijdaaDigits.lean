/- Plain mathematics on the digits of numbers: how often a digit is in a number, and in the numbers of a range. No program in sight. No condition. -/
namespace Go.Proofs.Ytnaikhfhimijdaa.D

/-- how often the digit d is in the number n, written in decimal (0 has no digits) -/
def cnt (n : Nat) (d : Int) : Int := if n = 0 then 0 else (if ((n % 10 : Nat) : Int) = d then 1 else 0) + cnt (n / 10) d
termination_by n
decreasing_by omega

theorem cnt_zero (d : Int) : cnt 0 d = 0 := by rw [cnt]; rfl
theorem cnt_yes {n : Nat} {d : Int} (h : 0 < n) (e : ((n % 10 : Nat) : Int) = d) : cnt n d = 1 + cnt (n / 10) d := by
  rw [cnt, if_neg (by omega), if_pos e]
theorem cnt_no {n : Nat} {d : Int} (h : 0 < n) (e : ¬ ((n % 10 : Nat) : Int) = d) : cnt n d = cnt (n / 10) d := by
  rw [cnt, if_neg (by omega), if_neg e]; omega
theorem cnt_step (n : Nat) (d : Int) : 0 ≤ cnt n d ∧ cnt n d ≤ 1 + cnt (n / 10) d ∧ cnt (n / 10) d ≤ cnt n d := by
  induction n using Nat.strongRecOn with
  | ind n ih =>
    by_cases h : n = 0
    · subst h; simp [cnt_zero]
    · have := ih (n / 10) (by omega)
      by_cases e : ((n % 10 : Nat) : Int) = d
      · rw [cnt_yes (by omega) e]; omega
      · rw [cnt_no (by omega) e]; omega
theorem cnt_le (n : Nat) (d : Int) (h : n < 100000) : 0 ≤ cnt n d ∧ cnt n d ≤ 5 := by
  have h0 := cnt_step n d
  have h1 := cnt_step (n / 10) d
  have h2 := cnt_step (n / 10 / 10) d
  have h3 := cnt_step (n / 10 / 10 / 10) d
  have h4 := cnt_step (n / 10 / 10 / 10 / 10) d
  have h5 : n / 10 / 10 / 10 / 10 / 10 = 0 := by omega
  rw [h5, cnt_zero] at h4
  omega

/-- how often the digit d is in the k numbers from f on -/
def cs (f : Nat) : Nat → Int → Int
  | 0, _ => 0
  | k + 1, d => cs f k d + cnt (f + k) d
theorem cs_succ (f k : Nat) (d : Int) : cs f (k + 1) d = cs f k d + cnt (f + k) d := rfl
theorem cs_one (f : Nat) (d : Int) : cs f 1 d = cnt f d := by show 0 + cnt (f + 0) d = _; simp
theorem cs_bd (f k : Nat) (d : Int) (h : f + k < 100001) : 0 ≤ cs f k d ∧ cs f k d ≤ 5 * k := by
  induction k with
  | zero => exact ⟨by simp [cs], by simp [cs]⟩
  | succ k ih =>
    have := ih (by omega)
    have := cnt_le (f + k) d (by omega)
    rw [cs_succ]
    omega
theorem cs_mono (f : Nat) (d : Int) (a b : Nat) (h : a ≤ b) : cs f a d ≤ cs f b d := by
  induction b with
  | zero => have : a = 0 := by omega
            subst this; exact Int.le_refl _
  | succ b ih =>
    by_cases e : a = b + 1
    · subst e; exact Int.le_refl _
    · have := ih (by omega)
      have := cnt_step (f + b) d
      rw [cs_succ]; omega
/-- p is the greatest number of pages, up to 2000, that many types of d number -/
def Most (d many : Int) (p : Nat) : Prop := p ≤ 2000 ∧ cs 1 p d ≤ many ∧ (p = 2000 ∨ many < cs 1 (p + 1) d)
theorem most_one {d many : Int} {p q : Nat} (h : Most d many p) (g : Most d many q) : p = q := by
  obtain ⟨h1, h2, h3⟩ := h
  obtain ⟨g1, g2, g3⟩ := g
  by_cases c : p < q
  · have := cs_mono 1 d (p + 1) q (by omega); omega
  · by_cases c' : q < p
    · have := cs_mono 1 d (q + 1) p (by omega); omega
    · omega
theorem cs_next (p : Nat) (d : Int) : cs 1 (p + 1) d = cs 1 p d + cnt (p + 1) d := by
  rw [cs_succ, Nat.add_comm 1 p]
end Go.Proofs.Ytnaikhfhimijdaa.D
