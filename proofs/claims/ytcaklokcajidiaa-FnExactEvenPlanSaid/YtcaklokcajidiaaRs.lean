/- Plans with more pages on each next day: what is left, and when it is at its end. -/
namespace Go.Proofs.Ytcaklokcajidiaa
set_option linter.unusedVariables false
namespace Rs
/-- what is to be read on day k + 1 .. -/
def nx (f q : Int) : Nat → Int
  | 0 => f
  | k + 1 => nx f q k + q
/-- .. and what is left behind day k -/
def lf (p f q : Int) : Nat → Int
  | 0 => p
  | k + 1 => lf p f q k - min (lf p f q k) (nx f q k)
/-- the pages of the first k days -/
def li (p f q : Int) : Nat → List Int
  | 0 => []
  | k + 1 => li p f q k ++ [min (lf p f q k) (nx f q k)]
/-- how many pages k whole days are -/
def su (f q : Int) : Nat → Int
  | 0 => 0
  | k + 1 => su f q k + nx f q k
theorem li_len (p f q : Int) (k : Nat) : (li p f q k).length = k := by
  induction k with
  | zero => rfl
  | succ k ih => unfold li; rw [List.length_append, ih]; rfl
theorem nx_in {f q : Int} (hf : 1 ≤ f) (hf2 : f ≤ 200) (hq : 0 ≤ q) (hq2 : q ≤ 200) (k : Nat) : 1 ≤ nx f q k ∧ nx f q k ≤ 200 + 200 * k := by
  induction k with
  | zero => unfold nx; omega
  | succ k ih => unfold nx; omega
theorem lf_in {p f q : Int} (hp : 0 ≤ p) (hf : 1 ≤ f) (hf2 : f ≤ 200) (hq : 0 ≤ q) (hq2 : q ≤ 200) (k : Nat) : 0 ≤ lf p f q k ∧ lf p f q k ≤ p := by
  induction k with
  | zero => unfold lf; omega
  | succ k ih => have := nx_in hf hf2 hq hq2 k; unfold lf; omega
theorem lf_down {p f q : Int} (hp : 0 ≤ p) (hf : 1 ≤ f) (hf2 : f ≤ 200) (hq : 0 ≤ q) (hq2 : q ≤ 200) (k : Nat) (h : ∀ j, j < k → 0 < lf p f q j) : lf p f q k + k ≤ p := by
  induction k with
  | zero => unfold lf; omega
  | succ k ih =>
    have := ih (fun j hj => h j (by omega))
    have := h k (by omega)
    have := nx_in hf hf2 hq hq2 k
    unfold lf; omega
theorem su_pos {f q : Int} (hf : 1 ≤ f) (hf2 : f ≤ 200) (hq : 0 ≤ q) (hq2 : q ≤ 200) (k : Nat) : 0 ≤ su f q k := by
  induction k with
  | zero => unfold su; omega
  | succ k ih => have := nx_in hf hf2 hq hq2 k; unfold su; omega
theorem lf_su {p f q : Int} (hp : 0 ≤ p) (hf : 1 ≤ f) (hf2 : f ≤ 200) (hq : 0 ≤ q) (hq2 : q ≤ 200) (k : Nat) : lf p f q k = if su f q k ≤ p then p - su f q k else 0 := by
  induction k with
  | zero => unfold lf su; rw [if_pos hp]; omega
  | succ k ih =>
    have := nx_in hf hf2 hq hq2 k
    unfold lf su
    rw [ih]
    split <;> split <;> omega
theorem least (P : Nat → Prop) (n : Nat) (h : ¬ P n) : ∃ K, K ≤ n ∧ ¬ P K ∧ ∀ j, j < K → P j := by
  induction n using Nat.strongRecOn with
  | _ n ih =>
    by_cases h1 : ∀ j, j < n → P j
    · exact ⟨n, Nat.le_refl _, h, h1⟩
    · obtain ⟨j, hj⟩ := Classical.not_forall.1 h1
      obtain ⟨hj1, hj2⟩ := Classical.not_imp.1 hj
      obtain ⟨K, a, b, c⟩ := ih j hj1 hj2
      exact ⟨K, by omega, b, c⟩
theorem ends {p f q : Int} (hp : 0 ≤ p) (hp2 : p ≤ 2000) (hf : 1 ≤ f) (hf2 : f ≤ 200) (hq : 0 ≤ q) (hq2 : q ≤ 200) : ∃ K, K ≤ 2000 ∧ lf p f q K = 0 ∧ ∀ j, j < K → 0 < lf p f q j := by
  by_cases h0 : 0 < lf p f q 2000
  · exfalso
    have key : ∀ k, k ≤ 2000 → 0 < lf p f q k := by
      intro k hk
      apply Classical.byContradiction
      intro hn
      have st : ∀ j, lf p f q (k + j) ≤ 0 := by
        intro j
        induction j with
        | zero => simpa using hn
        | succ j ihj => have := nx_in hf hf2 hq hq2 (k + j); have := lf_in hp hf hf2 hq hq2 (k + j); rw [show k + (j + 1) = (k + j) + 1 by omega]; unfold lf; omega
      have := st (2000 - k)
      rw [show k + (2000 - k) = 2000 by omega] at this
      omega
    have := lf_down hp hf hf2 hq hq2 2000 (fun j hj => key j (by omega))
    omega
  · obtain ⟨K, a, b, c⟩ := least (fun k => 0 < lf p f q k) 2000 h0
    have := lf_in hp hf hf2 hq hq2 K
    exact ⟨K, a, by omega, c⟩
/-- nothing is left behind day n just if the plan is at its end -/
theorem end_iff {p f q : Int} (hp : 0 ≤ p) (hf : 1 ≤ f) (hf2 : f ≤ 200) (hq : 0 ≤ q) (hq2 : q ≤ 200) {K : Nat} (h0 : lf p f q K = 0) (hl : ∀ j, j < K → 0 < lf p f q j) (n : Nat) : K ≤ n ↔ p ≤ su f q n := by
  have mono : ∀ a b, su f q a ≤ su f q (a + b) := by
    intro a b
    induction b with
    | zero => exact Int.le_refl _
    | succ b ih => have := nx_in hf hf2 hq hq2 (a + b); rw [show a + (b + 1) = (a + b) + 1 by omega, show su f q (a + b + 1) = su f q (a + b) + nx f q (a + b) from rfl]; omega
  have e := lf_su hp hf hf2 hq hq2 K
  constructor
  · intro h
    have := mono K (n - K)
    rw [show K + (n - K) = n by omega] at this
    rw [h0] at e
    split at e <;> omega
  · intro h
    apply Classical.byContradiction
    intro hn
    have := hl n (by omega)
    rw [lf_su hp hf hf2 hq hq2 n] at this
    split at this <;> omega
theorem nx_eq (f q : Int) (k : Nat) : nx f q k = f + q * k := by
  induction k with
  | zero => unfold nx; simp
  | succ k ih => unfold nx; rw [ih, Int.natCast_succ, Int.mul_add]; omega
/-- the sum of the numbers up to n - 1 -/
def tr : Nat → Int
  | 0 => 0
  | k + 1 => tr k + k
theorem su_eq (f q : Int) (k : Nat) : su f q k = f * k + q * tr k := by
  induction k with
  | zero => unfold su tr; simp
  | succ k ih => unfold su tr; rw [ih, nx_eq, Int.natCast_succ, Int.mul_add, Int.mul_add]; omega
theorem tr_eq (k : Nat) : 2 * tr (k + 1) = (k : Int) * (k + 1) := by
  induction k with
  | zero => unfold tr tr; simp
  | succ k ih =>
    rw [show tr (k + 1 + 1) = tr (k + 1) + ((k + 1 : Nat) : Int) from rfl, Int.mul_add, ih, Int.natCast_succ, ← Int.add_mul, Int.mul_comm]
    first | rfl | (congr 1; omega)
end Rs
end Go.Proofs.Ytcaklokcajidiaa
