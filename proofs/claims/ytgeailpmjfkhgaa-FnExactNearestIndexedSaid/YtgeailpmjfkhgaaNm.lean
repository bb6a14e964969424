/- The nearest page: mathematics. -/
import Derived.Test.YtgeailpmjfkhgaaGm6
namespace Go.Proofs.Ytgeailpmjfkhgaa
set_option linter.unusedVariables false
set_option linter.unusedSimpArgs false
namespace Gm
def ab (z : Int) : Int := if 0 ≤ z then z else -z
theorem ab_in {z : Int} (h : -2000 ≤ z) (h2 : z ≤ 2000) : 0 ≤ ab z ∧ ab z ≤ 2000 := by unfold ab; split <;> omega
/-- the nearer of two, the first of equals -/
def nr1 (p b x : Int) : Int := if ab (x - p) < ab (b - p) then x else b
def nr (p : Int) (xs : List Int) (b : Int) : Int := xs.foldl (nr1 p) b
theorem nr_snoc (p : Int) (xs : List Int) (x b : Int) : nr p (xs ++ [x]) b = nr1 p (nr p xs b) x := by unfold nr; rw [List.foldl_append]; rfl
theorem nr_in {p : Int} {xs : List Int} {b lo hi : Int} (hb : lo ≤ b ∧ b ≤ hi) (h : ∀ x ∈ xs, lo ≤ x ∧ x ≤ hi) : lo ≤ nr p xs b ∧ nr p xs b ≤ hi := by
  unfold nr
  induction xs generalizing b with
  | nil => exact hb
  | cons x r ih =>
    rw [List.foldl_cons]
    refine ih ?_ (fun y hy => h y (by simp [hy]))
    unfold nr1
    split
    · exact h x (by simp)
    · exact hb
theorem nr_head (p x : Int) (xs : List Int) : nr p (x :: xs) x = nr p xs x := by
  unfold nr
  rw [List.foldl_cons]
  congr 1
  unfold nr1
  split <;> rfl
theorem rise_eq : ∀ (a b : List Int), a.Pairwise (· < ·) → b.Pairwise (· < ·) → (∀ x, x ∈ a ↔ x ∈ b) → a = b
  | [], [], _, _, _ => rfl
  | [], y :: ys, _, _, h => by have := (h y).2 (by simp); cases this
  | x :: xs, [], _, _, h => by have := (h x).1 (by simp); cases this
  | x :: xs, y :: ys, ha, hb, h => by
    obtain ⟨a1, a2⟩ := List.pairwise_cons.1 ha
    obtain ⟨b1, b2⟩ := List.pairwise_cons.1 hb
    have e : x = y := by
      have h1 := (h x).1 (by simp)
      have h2 := (h y).2 (by simp)
      rcases List.mem_cons.1 h1 with e | h1
      · exact e
      · rcases List.mem_cons.1 h2 with e | h2
        · exact e.symm
        · have := a1 y h2; have := b1 x h1; omega
    subst e
    congr 1
    refine rise_eq xs ys a2 b2 fun z => ⟨fun hz => ?_, fun hz => ?_⟩
    · have := a1 z hz
      rcases List.mem_cons.1 ((h z).1 (by simp [hz])) with e | h1
      · omega
      · exact h1
    · have := b1 z hz
      rcases List.mem_cons.1 ((h z).2 (by simp [hz])) with e | h1
      · omega
      · exact h1
/-- what is marked ahead of k, as a list -/
def mkd (m : Nat → Bool) (k : Nat) : List Int := ((List.range k).filter m).map (fun i : Nat => (i : Int))
theorem mkd_step (m : Nat → Bool) (k : Nat) : mkd m (k + 1) = if m k = true then mkd m k ++ [(k : Int)] else mkd m k := by
  unfold mkd
  rw [List.range_succ, List.filter_append, List.map_append]
  by_cases h : m k = true
  · rw [if_pos h]; simp [h]
  · rw [if_neg h]; simp [h]
theorem mkd_pg {rs : PR} {N : Nat} (h : Ch 1 rs) (hN : ∀ q ∈ rs, q.2 < (N : Int)) : mkd (fun k : Nat => has rs (k : Int)) N = pg rs := by
  refine rise_eq _ _ ?_ (pg_rise h) fun x => ?_
  · unfold mkd
    rw [List.pairwise_map]
    exact (List.pairwise_lt_range.filter _).imp (fun h => by omega)
  · rw [mem_pg]
    unfold mkd
    simp only [List.mem_map, List.mem_filter, List.mem_range]
    constructor
    · rintro ⟨i, ⟨_, h1⟩, rfl⟩; exact h1
    · intro hx
      have hb : 0 ≤ x ∧ x < (N : Int) := by
        by_cases c : x < 1 ∨ (N : Int) ≤ x
        · rw [has_out h hN c] at hx; cases hx
        · omega
      exact ⟨x.toNat, ⟨by omega, by rw [show ((x.toNat : Nat) : Int) = x by omega]; exact hx⟩, by omega⟩
theorem nr_step {m : Nat → Bool} (p b : Int) (k : Nat) : nr p (mkd m (k + 1)) b = if m k = true then nr1 p (nr p (mkd m k) b) (k : Int) else nr p (mkd m k) b := by
  rw [mkd_step]
  split
  · exact nr_snoc p _ _ b
  · rfl
theorem mkd_mem {m : Nat → Bool} {k : Nat} {x : Int} (h : x ∈ mkd m k) : 0 ≤ x ∧ x < (k : Int) := by
  unfold mkd at h
  simp only [List.mem_map, List.mem_filter, List.mem_range] at h
  obtain ⟨i, ⟨h1, _⟩, rfl⟩ := h
  omega
theorem nr_mkd {m : Nat → Bool} {k : Nat} {p f : Int} (hf : 1 ≤ f ∧ f ≤ 2000) (hk : k ≤ 2002) : 0 ≤ nr p (mkd m k) f ∧ nr p (mkd m k) f ≤ 2001 :=
  nr_in ⟨by omega, by omega⟩ fun x hx => by have := mkd_mem hx; omega
end Gm
end Go.Proofs.Ytgeailpmjfkhgaa
