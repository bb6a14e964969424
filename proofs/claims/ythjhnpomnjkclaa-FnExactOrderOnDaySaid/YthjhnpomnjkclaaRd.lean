/- Readers: on how many days something is read, up to which page, and when. -/
namespace Go.Proofs.Ythjhnpomnjkclaa
namespace Rd
/-- a reader's numbers are fine -/
def good (m d r : Int) : Bool := decide (0 ≤ m ∧ m ≤ 2000 ∧ 1 ≤ d ∧ d ≤ 200 ∧ (r = 0 ∨ (2 ≤ r ∧ r ≤ 60)))
/-- .. and its mark is in the book -/
def inb (p m d r : Int) : Bool := decide (1 ≤ p ∧ p ≤ 2000 ∧ (0 ≤ m ∧ m ≤ 2000 ∧ 1 ≤ d ∧ d ≤ 200 ∧ (r = 0 ∨ (2 ≤ r ∧ r ≤ 60))) ∧ m ≤ p)
/-- on how many of the days 1 .. k something is read -/
def wd (r : Int) (k : Nat) : Int := if 0 < r then (k : Int) - (k : Int) / r else k
/-- up to which page it is read behind day k -/
def fr (m d r : Int) (k : Nat) : Int := m + wd r k * d
theorem wd_zero (r : Int) : wd r 0 = 0 := by unfold wd; split <;> simp
theorem wd_step {r : Int} (hr : r = 0 ∨ 2 ≤ r) (k : Nat) : wd r (k + 1) = wd r k ∨ wd r (k + 1) = wd r k + 1 := by
  unfold wd
  rcases hr with rfl | hr
  · right; simp
  · rw [if_pos (by omega), if_pos (by omega)]
    have e : ((k : Int) + r) / r = (k : Int) / r + 1 := by
      have := Int.add_mul_ediv_right (k : Int) 1 (show r ≠ 0 by omega)
      rwa [Int.one_mul] at this
    have a : (k : Int) / r ≤ ((k : Int) + 1) / r := Int.ediv_le_ediv (by omega) (by omega)
    have b : ((k : Int) + 1) / r ≤ ((k : Int) + r) / r := Int.ediv_le_ediv (by omega) (by omega)
    rw [e] at b
    rw [Int.natCast_succ]
    omega
theorem wd_le {r : Int} (hr : r = 0 ∨ 2 ≤ r) (k : Nat) : 0 ≤ wd r k ∧ wd r k ≤ k := by
  induction k with
  | zero => rw [wd_zero]; simp
  | succ k ih => rcases wd_step hr k with h | h <;> rw [h] <;> omega
theorem wd_far {r : Int} (hr : r = 0 ∨ 2 ≤ r) : 2000 ≤ wd r 4000 := by
  unfold wd
  rcases hr with rfl | hr
  · simp
  · rw [if_pos (by omega)]
    have : ((4000 : Nat) : Int) / r ≤ 2000 := by
      have h := Int.mul_ediv_add_emod ((4000 : Nat) : Int) r
      have h2 := Int.emod_nonneg ((4000 : Nat) : Int) (show r ≠ 0 by omega)
      have hx : ¬ 2001 ≤ ((4000 : Nat) : Int) / r := fun hq => by
        have := Int.mul_le_mul hr hq (by omega) (by omega)
        omega
      omega
    omega
theorem fr_zero (m d r : Int) : fr m d r 0 = m := by unfold fr; rw [wd_zero]; simp
theorem fr_step {m d r : Int} (hr : r = 0 ∨ 2 ≤ r) (k : Nat) : fr m d r (k + 1) = fr m d r k ∨ fr m d r (k + 1) = fr m d r k + d := by
  unfold fr
  rcases wd_step hr k with h | h <;> rw [h]
  · exact Or.inl rfl
  · right; rw [Int.add_mul]; omega
theorem fr_mono {m d r : Int} (hr : r = 0 ∨ 2 ≤ r) (hd : 1 ≤ d) {a b : Nat} (h : a ≤ b) : fr m d r a ≤ fr m d r b := by
  induction b with
  | zero => obtain rfl : a = 0 := by omega
            exact Int.le_refl _
  | succ b ih =>
    rcases Nat.lt_or_ge b a with h1 | h1
    · obtain rfl : a = b + 1 := by omega
      exact Int.le_refl _
    · have := ih h1
      rcases fr_step (m := m) (d := d) hr b with h | h <;> omega
theorem fr_le {m d r : Int} (hr : r = 0 ∨ 2 ≤ r) (hd : 1 ≤ d) (hd2 : d ≤ 200) (k : Nat) (hk : k ≤ 4001) : m ≤ fr m d r k ∧ fr m d r k ≤ m + 800200 := by
  have ⟨h1, h2⟩ := wd_le hr k
  have a := Int.mul_nonneg h1 (show 0 ≤ d by omega)
  have b := Int.mul_le_mul (show wd r k ≤ 4001 by omega) hd2 (by omega) (by omega)
  unfold fr
  omega
theorem fr_far {m d r : Int} (hr : r = 0 ∨ 2 ≤ r) (hd : 1 ≤ d) : m + 2000 ≤ fr m d r 4000 := by
  have := Int.mul_le_mul (wd_far hr) hd (by omega) (by have := wd_far hr; omega)
  unfold fr
  omega
/-- the first day behind which a page is read -/
def dy (m d r p : Int) : Nat := (List.range 4000).countP (fun i => !decide (p ≤ fr m d r i))
theorem dy_le (m d r p : Int) : dy m d r p ≤ 4000 := by
  have := List.countP_le_length (p := fun i => !decide (p ≤ fr m d r i)) (l := List.range 4000)
  rwa [List.length_range] at this
/-- counting a boundary -/
theorem count_to (f : Nat → Bool) (n : Nat) (hm : ∀ a b, a ≤ b → b < n → f b = true → f a = true) (k : Nat) (hk : k ≤ n) : ((List.range n).countP f ≤ k ↔ (k = n ∨ (k < n ∧ f k = false))) := by
  induction n generalizing k with
  | zero => obtain rfl : k = 0 := by omega
            simp
  | succ n ih =>
    have ihh := ih (fun a b h1 h2 => hm a b h1 (by omega))
    rw [List.range_succ, List.countP_append]
    have hl : (List.range n).countP f ≤ n := by have := List.countP_le_length (p := f) (l := List.range n); rwa [List.length_range] at this
    cases hn : f n with
    | true =>
      have all : ∀ a, a < n → f a = true := fun a ha => hm a n (by omega) (by omega) hn
      have e : (List.range n).countP f = n := by
        have : (List.range n).countP f = (List.range n).length := List.countP_eq_length.2 (fun a ha => all a (List.mem_range.1 ha))
        rwa [List.length_range] at this
      have e1 : List.countP f [n] = 1 := by simp [hn]
      rw [e, e1]
      constructor
      · intro h; left; omega
      · rintro (h | ⟨h1, h2⟩)
        · omega
        · rcases Nat.lt_or_ge k n with h3 | h3
          · rw [all k h3] at h2; cases h2
          · obtain rfl : k = n := by omega
            rw [hn] at h2; cases h2
    | false =>
      have e1 : List.countP f [n] = 0 := by simp [hn]
      rw [e1, Nat.add_zero]
      rcases Nat.lt_or_ge n k with h3 | h3
      · obtain rfl : k = n + 1 := by omega
        constructor
        · intro; exact Or.inl rfl
        · intro; omega
      · rw [ihh k h3]
        constructor
        · rintro (rfl | ⟨h1, h2⟩)
          · exact Or.inr ⟨by omega, hn⟩
          · exact Or.inr ⟨by omega, h2⟩
        · rintro (h1 | ⟨h1, h2⟩)
          · omega
          · rcases Nat.lt_or_ge k n with h4 | h4
            · exact Or.inr ⟨h4, h2⟩
            · exact Or.inl (by omega)
theorem dy_iff {m d r p : Int} (hr : r = 0 ∨ 2 ≤ r) (hd : 1 ≤ d) (hm : 0 ≤ m) (hp : p ≤ 2000) (k : Nat) (hk : k ≤ 4000) : dy m d r p ≤ k ↔ p ≤ fr m d r k := by
  unfold dy
  rw [count_to (fun i => !decide (p ≤ fr m d r i)) 4000 (fun a b h1 h2 h3 => by
    simp only [Bool.not_eq_true', decide_eq_false_iff_not] at h3 ⊢
    have := fr_mono (m := m) hr hd h1
    omega) k hk]
  constructor
  · rintro (rfl | ⟨h1, h2⟩)
    · have := fr_far (m := m) hr hd; omega
    · simpa using h2
  · intro h
    rcases Nat.lt_or_ge k 4000 with h4 | h4
    · exact Or.inr ⟨h4, by simpa using h⟩
    · exact Or.inl (by omega)
theorem dy_at {m d r p : Int} (hr : r = 0 ∨ 2 ≤ r) (hd : 1 ≤ d) (hm : 0 ≤ m) (hp : p ≤ 2000) : p ≤ fr m d r (dy m d r p) :=
  (dy_iff hr hd hm hp _ (dy_le _ _ _ _)).1 (Nat.le_refl _)
end Rd
end Go.Proofs.Ythjhnpomnjkclaa
