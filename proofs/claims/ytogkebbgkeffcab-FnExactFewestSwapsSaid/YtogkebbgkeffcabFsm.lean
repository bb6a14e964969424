/- Exchanges that put each volume to its place: how many, and what they leave. -/
import Derived.Test.YtogkebbgkeffcabNsm
namespace Go.Proofs.Ytogkebbgkeffcab
set_option linter.unusedVariables false
namespace Ns
def rep (i : Nat) : Nat → List Int → Nat × List Int
  | 0, L => (0, L)
  | f + 1, L => if at' L i = i then (0, L) else ((rep i f (ex L i)).1 + 1, (rep i f (ex L i)).2)
def all (n : Nat) (zs : List Int) : Nat → Nat × List Int
  | 0 => (0, zs)
  | k + 1 => ((all n zs k).1 + (rep k n (all n zs k).2).1, (rep k n (all n zs k).2).2)
theorem rep_inj {n i : Nat} (hi : i < n) : ∀ (f : Nat) (L : List Int), Inj n L → Inj n (rep i f L).2
  | 0, L, h => h
  | f + 1, L, h => by
    unfold rep
    split
    · exact h
    · exact rep_inj hi f _ (ex_inj h hi)
theorem rep_le (i : Nat) : ∀ (f : Nat) (L : List Int), (rep i f L).1 ≤ f
  | 0, L => Nat.le_refl _
  | f + 1, L => by
    unfold rep
    split
    · exact Nat.zero_le _
    · have := rep_le i f (ex L i); simp only []; omega
theorem all_inj {n : Nat} {zs : List Int} (h : Inj n zs) (k : Nat) (hk : k ≤ n) : Inj n (all n zs k).2 := by
  induction k with
  | zero => exact h
  | succ k ih => exact rep_inj (by omega) n _ (ih (by omega))
theorem all_le (n : Nat) (zs : List Int) (k : Nat) : (all n zs k).1 ≤ k * n := by
  induction k with
  | zero => exact Nat.zero_le _
  | succ k ih =>
    have := rep_le k n (all n zs k).2
    unfold all
    rw [Nat.add_mul, Nat.one_mul]
    simp only []
    omega
theorem rep_done {i : Nat} {f : Nat} {L : List Int} (h : at' L i = i) : rep i f L = (0, L) := by
  cases f with
  | zero => rfl
  | succ f => unfold rep; rw [if_pos h]
theorem away_pos {L : List Int} {n i : Nat} (hi : i < n) (h : at' L i ≠ i) : 1 ≤ away L n := by
  induction n with
  | zero => omega
  | succ n ih =>
    unfold away
    by_cases e : i = n
    · subst e; rw [if_neg h]; omega
    · have := ih (by omega); omega
/-- while one place is mended -/
def Mend (n : Nat) (zs : List Int) (k : Nat) (c : Nat) (L : List Int) : Prop := ∃ f, Inj n L ∧ away L n ≤ f ∧ c + (rep k f L).1 = (all n zs (k + 1)).1 ∧ (rep k f L).2 = (all n zs (k + 1)).2
theorem mend_start {n : Nat} {zs : List Int} (h : Inj n zs) {k : Nat} (hk : k < n) : Mend n zs k (all n zs k).1 (all n zs k).2 :=
  ⟨n, all_inj h k (by omega), away_le _ _, rfl, rfl⟩
theorem mend_end {n : Nat} {zs : List Int} {k c : Nat} {L : List Int} (h : Mend n zs k c L) (e : at' L k = k) : c = (all n zs (k + 1)).1 ∧ L = (all n zs (k + 1)).2 := by
  obtain ⟨f, _, _, h1, h2⟩ := h
  rw [rep_done e] at h1 h2
  exact ⟨h1, h2⟩
theorem mend_next {n : Nat} {zs : List Int} {k c : Nat} {L : List Int} (hk : k < n) (h : Mend n zs k c L) (e : at' L k ≠ k) : Mend n zs k (c + 1) (ex L k) := by
  obtain ⟨f, hi, ha, h1, h2⟩ := h
  have p := away_pos hk e
  have q := away_ex hi hk e
  cases f with
  | zero => omega
  | succ f =>
    unfold rep at h1 h2
    rw [if_neg e] at h1 h2
    refine ⟨f, ex_inj hi hk, by omega, ?_, h2⟩
    simp only [] at h1
    omega
theorem mend_le {n : Nat} {zs : List Int} {k c : Nat} {L : List Int} (h : Mend n zs k c L) : c ≤ (k + 1) * n := by
  obtain ⟨f, _, _, h1, _⟩ := h
  have := all_le n zs (k + 1)
  omega
end Ns
end Go.Proofs.Ytogkebbgkeffcab
