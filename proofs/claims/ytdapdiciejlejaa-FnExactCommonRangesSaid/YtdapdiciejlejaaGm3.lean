/- The runs of marks: two apart, and what they have is what is marked. -/
import Derived.Test.YtdapdiciejlejaaGm2
namespace Go.Proofs.Ytdapdiciejlejaa
set_option linter.unusedVariables false
set_option linter.unusedSimpArgs false
namespace Gm
/-- a page ahead of pairs -/
def ahead (k : Int) : PR → PR
  | [] => [(k, k)]
  | (f, t) :: r => if f = k + 1 then (k, t) :: r else (k, k) :: (f, t) :: r
/-- the pairs of what is marked from k on, d pages -/
def up (m : Nat → Bool) : Nat → Nat → PR
  | 0, _ => []
  | d + 1, k => if m k = true then ahead (k : Int) (up m d (k + 1)) else up m d (k + 1)
theorem ahead_cons (k f t : Int) (r : PR) : ahead k ((f, t) :: r) = if f = k + 1 then (k, t) :: r else (k, k) :: (f, t) :: r := rfl
theorem ahead_ch {k : Int} {rs : PR} (h : Ch (k + 1) rs) : Ch k (ahead k rs) := by
  cases rs with
  | nil => exact ⟨Int.le_refl _, Int.le_refl _, trivial⟩
  | cons q r =>
    obtain ⟨f, t⟩ := q
    obtain ⟨h1, h2, h3⟩ := h
    rw [ahead_cons]
    by_cases e : f = k + 1
    · rw [if_pos e]; exact ⟨Int.le_refl _, by omega, h3⟩
    · rw [if_neg e]; exact ⟨Int.le_refl _, Int.le_refl _, by omega, h2, h3⟩
theorem ahead_has {k : Int} {rs : PR} (h : Ch (k + 1) rs) (p : Int) : has (ahead k rs) p = (decide (p = k) || has rs p) := by
  cases rs with
  | nil =>
    show (decide (k ≤ p) && decide (p ≤ k) || false) = (decide (p = k) || false)
    by_cases e : p = k
    · subst e; simp
    · rw [decide_eq_false e]
      by_cases c : k ≤ p
      · rw [decide_eq_false (show ¬ p ≤ k by omega)]; simp
      · rw [decide_eq_false c]; rfl
  | cons q r =>
    obtain ⟨f, t⟩ := q
    obtain ⟨h1, h2, h3⟩ := h
    rw [ahead_cons]
    by_cases e : f = k + 1
    · rw [if_pos e]
      show (decide (k ≤ p) && decide (p ≤ t) || has r p) = (decide (p = k) || (decide (f ≤ p) && decide (p ≤ t) || has r p))
      by_cases c : p = k
      · subst c; rw [decide_eq_true (show p ≤ t by omega)]; simp
      · rw [decide_eq_false c, Bool.false_or, show decide (k ≤ p) = decide (f ≤ p) from by
          by_cases d : k ≤ p
          · rw [decide_eq_true d, decide_eq_true (by omega)]
          · rw [decide_eq_false d, decide_eq_false (by omega)]]
    · rw [if_neg e]
      show (decide (k ≤ p) && decide (p ≤ k) || has ((f, t) :: r) p) = _
      congr 1
      by_cases c : p = k
      · subst c; simp
      · rw [decide_eq_false c]
        by_cases d : k ≤ p
        · rw [decide_eq_false (show ¬ p ≤ k by omega)]; simp
        · rw [decide_eq_false d]; rfl
theorem ahead_lt {k N : Int} {rs : PR} (hk : k < N) (h : ∀ q ∈ rs, q.2 < N) : ∀ q ∈ ahead k rs, q.2 < N := by
  cases rs with
  | nil => intro q hq; simp [ahead] at hq; subst hq; exact hk
  | cons q r =>
    obtain ⟨f, t⟩ := q
    rw [ahead_cons]
    intro q hq
    have ht := h (f, t) (by simp)
    split at hq
    · rcases List.mem_cons.1 hq with rfl | hq
      · exact ht
      · exact h q (by simp [hq])
    · rcases List.mem_cons.1 hq with rfl | hq
      · exact hk
      · exact h q hq
theorem up_ok (m : Nat → Bool) (d k : Nat) : Ch (k : Int) (up m d k) ∧ (∀ q ∈ up m d k, q.2 < ((k + d : Nat) : Int)) ∧ ∀ p : Nat, has (up m d k) (p : Int) = (decide (k ≤ p) && decide (p < k + d) && m p) := by
  induction d generalizing k with
  | zero =>
    refine ⟨trivial, by simp [up], fun p => ?_⟩
    show false = _
    by_cases c : k ≤ p
    · rw [decide_eq_false (show ¬ p < k + 0 by omega)]; simp
    · rw [decide_eq_false c]; rfl
  | succ d ih =>
    obtain ⟨h1, h2, h3⟩ := ih (k + 1)
    have e1 : ((k + 1 : Nat) : Int) = (k : Int) + 1 := by omega
    have h1' : Ch ((k : Int) + 1) (up m d (k + 1)) := e1 ▸ h1
    have h2' : ∀ q ∈ up m d (k + 1), q.2 < ((k + (d + 1) : Nat) : Int) := fun q hq => by have := h2 q hq; omega
    show Ch _ (if m k = true then _ else _) ∧ (∀ q ∈ (if m k = true then _ else _), _) ∧ ∀ p : Nat, has (if m k = true then _ else _) _ = _
    by_cases hm : m k = true
    · rw [if_pos hm]
      refine ⟨ahead_ch h1', ahead_lt (by omega) h2', fun p => ?_⟩
      rw [ahead_has h1', h3 p]
      by_cases c : p = k
      · subst c; simp [hm]
      · rw [decide_eq_false (show ¬ (p : Int) = (k : Int) by omega), Bool.false_or, show decide (k + 1 ≤ p) = decide (k ≤ p) from by
          by_cases d : k ≤ p
          · rw [decide_eq_true d, decide_eq_true (by omega)]
          · rw [decide_eq_false d, decide_eq_false (by omega)], show k + 1 + d = k + (d + 1) by omega]
    · rw [if_neg hm]
      refine ⟨h1'.mono (by omega), h2', fun p => ?_⟩
      rw [h3 p]
      by_cases c : p = k
      · subst c
        have hm' : m p = false := by cases h : m p with
          | false => rfl
          | true => exact absurd h hm
        rw [hm', Bool.and_false, Bool.and_false]
      · rw [show decide (k + 1 ≤ p) = decide (k ≤ p) from by
          by_cases d : k ≤ p
          · rw [decide_eq_true d, decide_eq_true (by omega)]
          · rw [decide_eq_false d, decide_eq_false (by omega)], show k + 1 + d = k + (d + 1) by omega]
/-- the runs of marks -/
theorem runs_up {m : Nat → Bool} (h0 : m 0 = false) (N : Nat) : Ch 1 (runs m N) ∧ (∀ q ∈ runs m N, q.2 < (N : Int)) ∧ (∀ p : Nat, p < N → has (runs m N) (p : Int) = m p) := by
  obtain ⟨a, b, c⟩ := up_ok m N 0
  have hc : ∀ k, k < N → m k = has (up m N 0) (k : Int) := fun k hk => by rw [c k]; simp [hk]
  have h1 : Ch 1 (up m N 0) := by
    cases N with
    | zero => trivial
    | succ d =>
      have e : up m (d + 1) 0 = up m d 1 := by
        show (if m 0 = true then _ else _) = _
        rw [if_neg (by rw [h0]; simp)]
      rw [e]
      exact (up_ok m d 1).1
  have e := runs_eq h1 hc (fun q hq => by have := b q hq; omega)
  rw [e]
  exact ⟨h1, fun q hq => by have := b q hq; omega, fun p hp => (hc p hp).symm⟩
theorem has_out {rs : PR} {N : Int} (h : Ch 1 rs) (hN : ∀ q ∈ rs, q.2 < N) {p : Int} (hp : p < 1 ∨ N ≤ p) : has rs p = false := by
  rcases hp with hp | hp
  · exact has_lo h hp
  · cases e : has rs p with
    | false => rfl
    | true =>
      obtain ⟨q, hq, _, h2⟩ := (has_mem rs p).1 e
      have := hN q hq
      omega
/-- pairs in any order: what they have lies within -/
theorem has_within {rs : PR} {lo hi : Int} (h : ∀ q ∈ rs, lo ≤ q.1 ∧ q.2 ≤ hi) {p : Int} (hp : has rs p = true) : lo ≤ p ∧ p ≤ hi := by
  obtain ⟨q, hq, h1, h2⟩ := (has_mem rs p).1 hp
  have := h q hq
  omega
/-- one page is taken from the front of a pair -/
theorem has_take1 {x t : Int} {r : PR} (h : Ch (t + 2) r) (hx : x ≤ t) (p : Int) : has ((x + 1, t) :: r) p = (has ((x, t) :: r) p && !decide (p = x)) := by
  show (decide (x + 1 ≤ p) && decide (p ≤ t) || has r p) = ((decide (x ≤ p) && decide (p ≤ t) || has r p) && !decide (p = x))
  by_cases e : p = x
  · subst e
    rw [has_lo h (by omega), decide_eq_false (show ¬ p + 1 ≤ p by omega)]
    simp
  · rw [decide_eq_false e]
    rw [show decide (x + 1 ≤ p) = decide (x ≤ p) from by
      by_cases d : x ≤ p
      · rw [decide_eq_true d, decide_eq_true (by omega)]
      · rw [decide_eq_false d, decide_eq_false (by omega)]]
    simp
theorem has_none {x t : Int} {r : PR} (hx : t < x) (p : Int) : has ((x, t) :: r) p = has r p := by
  show (decide (x ≤ p) && decide (p ≤ t) || has r p) = has r p
  by_cases c : p ≤ t
  · rw [decide_eq_false (show ¬ x ≤ p by omega)]; rfl
  · rw [decide_eq_false c]; simp
theorem prs_drop : ∀ (k : Nat) (rs : PR), k < rs.length → rs.drop k = rs.getD k (0, 0) :: rs.drop (k + 1)
  | 0, q :: r, _ => rfl
  | k + 1, q :: r, h => prs_drop k r (by simp at h; omega)
theorem ch_drop : ∀ (rs : PR) (lo : Int), Ch lo rs → ∀ k, Ch lo (rs.drop k)
  | [], _, _, k => by cases k <;> trivial
  | q :: r, lo, h, 0 => h
  | (f, t) :: r, lo, h, k + 1 => ch_drop r lo (h.2.2.mono (by have := h.1; have := h.2.1; omega)) k
theorem flat_take (rs : PR) (k : Nat) : flat (rs.take k) = (flat rs).take (k * 2) := by
  induction rs generalizing k with
  | nil => cases k <;> rfl
  | cons q r ih =>
    obtain ⟨f, t⟩ := q
    cases k with
    | zero => rfl
    | succ k =>
      show f :: t :: flat (r.take k) = _
      rw [ih, show (k + 1) * 2 = k * 2 + 1 + 1 by omega]
      rfl
theorem flat_take1 (rs : PR) (k : Nat) (hk : k < rs.length) : flat (rs.take (k + 1)) = flat (rs.take k) ++ [(rs.getD k (0, 0)).1, (rs.getD k (0, 0)).2] := by
  have e : rs.take (k + 1) = rs.take k ++ [rs.getD k (0, 0)] := by
    rw [List.take_succ_eq_append_getElem hk]
    simp [List.getD, hk]
  rw [e, flat_append]
  rfl
end Gm
end Go.Proofs.Ytdapdiciejlejaa
