/- Lines of words, and what each needs: the program. -/
import Derived.Test.YtbebojahjfnkiaaDoorAr
namespace Go.Proofs.YtbebojahjfnkiaaDoor
open Go.RowKit Go.Joins Go.Deep Go.ChangeShapes Go.WideShapes
set_option linter.unusedVariables false
set_option linter.unusedSimpArgs false
namespace Ln
/-- the first k lines have a word at least, and are not more than n words -/
def alB (n : Nat) (ls : List Int) : Nat → Bool
  | 0 => true
  | k + 1 => alB n ls k && (decide (1 ≤ ls.getD k 0) && decide (psum ls (k + 1) ≤ (n : Int)))
theorem alB_step (n : Nat) (ls : List Int) (k : Nat) : alB n ls (k + 1) = (alB n ls k && (decide (1 ≤ ls.getD k 0) && decide (psum ls (k + 1) ≤ (n : Int)))) := rfl
theorem alB_iff (n : Nat) (ls : List Int) (k : Nat) : alB n ls k = true ↔ ∀ j, j < k → 1 ≤ ls.getD j 0 ∧ psum ls (j + 1) ≤ (n : Int) := by
  induction k with
  | zero => simp [alB]
  | succ k ih =>
    rw [alB_step, Bool.and_eq_true, Bool.and_eq_true, ih, decide_eq_true_eq, decide_eq_true_eq]
    constructor
    · rintro ⟨a, b⟩ j hj
      by_cases e : j = k
      · subst e; exact b
      · exact a j (by omega)
    · intro h
      exact ⟨fun j hj => h j (by omega), h k (by omega)⟩
theorem alB_psum {n : Nat} {ls : List Int} : ∀ k, (∀ j, j < k → 1 ≤ ls.getD j 0 ∧ psum ls (j + 1) ≤ (n : Int)) → (k : Int) ≤ psum ls k ∧ psum ls k ≤ (n : Int) := by
  intro k
  induction k with
  | zero => intro _; simp [psum]
  | succ k ih =>
    intro h
    have h1 := ih (fun j hj => h j (by omega))
    have h2 := h k (by omega)
    refine ⟨?_, h2.2⟩
    rw [psum_step]
    omega
theorem lines_al (zs ls : List Int) : lines zs ls = (good zs && (alB zs.length ls ls.length && (psum ls ls.length == (zs.length : Int)))) := by
  by_cases hg : good zs = true
  · rw [hg, Bool.true_and]
    cases h : (alB zs.length ls ls.length && (psum ls ls.length == (zs.length : Int))) with
    | true =>
      simp only [Bool.and_eq_true, beq_iff_eq, alB_iff] at h
      have hp := alB_psum _ h.1
      unfold lines
      simp only [Bool.and_eq_true, decide_eq_true_eq, beq_iff_eq, allB_iff, hg, true_and]
      refine ⟨⟨by omega, fun k hk => ?_⟩, h.2⟩
      have h1 := h.1 k hk
      have h2 := alB_psum k (fun j hj => h.1 j (by omega))
      have h3 := h1.2
      rw [psum_step] at h3
      omega
    | false =>
      cases h2 : lines zs ls with
      | false => rfl
      | true =>
        have hp := part_sum h2
        have ho := lines_ok h2
        have : (alB zs.length ls ls.length && (psum ls ls.length == (zs.length : Int))) = true := by
          simp only [Bool.and_eq_true, beq_iff_eq, alB_iff]
          refine ⟨fun j hj => ⟨(ho.2.2.1 j hj).1, ?_⟩, ho.2.2.2⟩
          have := (hp (j + 1) (by omega)).2
          omega
        rw [this] at h
        cases h
  · have hg2 : good zs = false := by simpa using hg
    unfold lines
    rw [hg2]
    rfl
theorem info22 : (Tryd.prog.info? 30).map (fun i => (i.zero, i.size, i.bytes)) = some (some (.slice none 0 0), 1, 24) := by kernel_rfl
/-- the words of line j -/
def subV (g cap : Nat) (ls : List Int) (j : Nat) : Value := .slice (some ⟨g, (psum ls j).toNat, none⟩) (ls.getD j 0).toNat (cap - (psum ls j).toNat)
def subs (g cap : Nat) (ls : List Int) (k : Nat) : List Value := (List.range k).map (subV g cap ls)
theorem subs_len (g cap : Nat) (ls : List Int) (k : Nat) : (subs g cap ls k).length = k := by simp [subs]
theorem subs_next (g cap : Nat) (ls : List Int) (k : Nat) : subs g cap ls (k + 1) = subs g cap ls k ++ [subV g cap ls k] := by simp [subs, List.range_succ]
theorem subs_at (g cap : Nat) (ls : List Int) (k j : Nat) (h : j < k) : (subs g cap ls k)[j]? = some (subV g cap ls j) := by simp [subs, h]
end Ln
end Go.Proofs.YtbebojahjfnkiaaDoor
