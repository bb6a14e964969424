/- Parts of what is left: what is read on each day, and when nothing is left. -/
namespace Go.Proofs.Ythjhnpomnjkclaa
set_option linter.unusedVariables false
namespace Pa
/-- what is read of l pages -/
def rd (n d l : Int) : Int := (l * n + d - 1).tdiv d
/-- what is left behind day k -/
def lf (p n d : Int) : Nat → Int
  | 0 => p
  | k + 1 => lf p n d k - rd n d (lf p n d k)
/-- the pages of the first k days -/
def li (p n d : Int) : Nat → List Int
  | 0 => []
  | k + 1 => li p n d k ++ [rd n d (lf p n d k)]
theorem li_len (p n d : Int) (k : Nat) : (li p n d k).length = k := by
  induction k with
  | zero => rfl
  | succ k ih => unfold li; rw [List.length_append, ih]; rfl
theorem prod_in {n d l : Int} (h0 : 0 ≤ l) (h2 : l ≤ 2000) (h1 : 1 ≤ n) (h3 : n < d) (h4 : d ≤ 200) : l ≤ l * n ∧ l * n ≤ l * d ∧ l * d ≤ 400000 := by
  have a := Int.mul_le_mul_of_nonneg_left h1 h0
  have b := Int.mul_le_mul_of_nonneg_left (show n ≤ d by omega) h0
  have c := Int.mul_le_mul h2 h4 (by omega) (by omega)
  omega
theorem rd_in {n d l : Int} (h0 : 0 ≤ l) (h2 : l ≤ 2000) (h1 : 1 ≤ n) (h3 : n < d) (h4 : d ≤ 200) : 0 ≤ rd n d l ∧ rd n d l ≤ l ∧ (0 < l → 1 ≤ rd n d l) := by
  have ⟨a, b, c⟩ := prod_in h0 h2 h1 h3 h4
  unfold rd
  rw [Int.tdiv_eq_ediv_of_nonneg (by omega)]
  have hd : 0 < d := by omega
  have x := (@Int.ediv_lt_iff_lt_mul (l * n + d - 1) (l + 1) d hd).2 (by rw [Int.add_mul, Int.one_mul]; omega)
  refine ⟨Int.ediv_nonneg (by omega) (by omega), by omega, fun hl => ?_⟩
  have y := (@Int.le_ediv_iff_mul_le 1 (l * n + d - 1) d hd).2 (by omega)
  exact y
theorem lf_in {p n d : Int} (h0 : 0 ≤ p) (h2 : p ≤ 2000) (h1 : 1 ≤ n) (h3 : n < d) (h4 : d ≤ 200) (k : Nat) : 0 ≤ lf p n d k ∧ lf p n d k ≤ p := by
  induction k with
  | zero => unfold lf; omega
  | succ k ih => have := rd_in (n := n) (d := d) ih.1 (by omega) h1 h3 h4; unfold lf; omega
theorem lf_down {p n d : Int} (h0 : 0 ≤ p) (h2 : p ≤ 2000) (h1 : 1 ≤ n) (h3 : n < d) (h4 : d ≤ 200) (k : Nat) (h : ∀ j, j < k → 0 < lf p n d j) : lf p n d k + k ≤ p := by
  induction k with
  | zero => unfold lf; omega
  | succ k ih =>
    have a := ih (fun j hj => h j (by omega))
    have b := h k (by omega)
    have c := lf_in h0 h2 h1 h3 h4 k
    have e := (rd_in (n := n) (d := d) c.1 (by omega) h1 h3 h4).2.2 b
    unfold lf; omega
theorem least (P : Nat → Prop) (n : Nat) (h : ¬ P n) : ∃ K, K ≤ n ∧ ¬ P K ∧ ∀ j, j < K → P j := by
  induction n using Nat.strongRecOn with
  | _ n ih =>
    by_cases h1 : ∀ j, j < n → P j
    · exact ⟨n, Nat.le_refl _, h, h1⟩
    · obtain ⟨j, hj⟩ := Classical.not_forall.1 h1
      obtain ⟨hj1, hj2⟩ := Classical.not_imp.1 hj
      obtain ⟨K, a, b, c⟩ := ih j hj1 hj2
      exact ⟨K, by omega, b, c⟩
theorem ends {p n d : Int} (h0 : 0 ≤ p) (h2 : p ≤ 2000) (h1 : 1 ≤ n) (h3 : n < d) (h4 : d ≤ 200) : ∃ K, K ≤ 2000 ∧ lf p n d K = 0 ∧ ∀ j, j < K → 0 < lf p n d j := by
  have : ∃ m, m ≤ 2000 ∧ ¬ 0 < lf p n d m := by
    apply Classical.byContradiction
    intro hn
    have key : ∀ k, k ≤ 2000 → 0 < lf p n d k := fun k hk => Classical.byContradiction fun h => hn ⟨k, hk, h⟩
    have := lf_down h0 h2 h1 h3 h4 2000 (fun j hj => key j (by omega))
    have := key 2000 (by omega)
    omega
  obtain ⟨m, hm, hz⟩ := this
  obtain ⟨K, a, b, c⟩ := least (fun k => 0 < lf p n d k) m hz
  have := lf_in h0 h2 h1 h3 h4 K
  exact ⟨K, by omega, by omega, c⟩
end Pa
end Go.Proofs.Ythjhnpomnjkclaa
