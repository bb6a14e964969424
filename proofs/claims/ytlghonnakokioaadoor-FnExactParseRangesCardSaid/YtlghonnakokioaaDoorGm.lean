/- Plain mathematics of ranges: lists of pairs that lie two apart, what they have, and that the runs of marks are the one such list. -/
import Derived.Test.YtlghonnakokioaaDoorRg3
namespace Go.Proofs.YtlghonnakokioaaDoor
set_option linter.unusedVariables false
set_option linter.unusedSimpArgs false
namespace Gm
abbrev PR := List (Int × Int)
/-- pairs that lie two apart, the first of them not ahead of lo -/
def Ch : Int → PR → Prop
  | _, [] => True
  | lo, (f, t) :: r => lo ≤ f ∧ f ≤ t ∧ Ch (t + 2) r
/-- p is in one of them -/
def has : PR → Int → Bool
  | [], _ => false
  | (f, t) :: r, p => (decide (f ≤ p) && decide (p ≤ t)) || has r p
theorem has_lo {rs : PR} {lo : Int} (h : Ch lo rs) {p : Int} (hp : p < lo) : has rs p = false := by
  induction rs generalizing lo with
  | nil => rfl
  | cons q r ih =>
    obtain ⟨f, t⟩ := q
    obtain ⟨h1, h2, h3⟩ := h
    show (decide (f ≤ p) && decide (p ≤ t) || has r p) = false
    rw [ih h3 (by omega), decide_eq_false (show ¬ f ≤ p by omega)]
    rfl
theorem Ch.mono {rs : PR} {lo lo' : Int} (h : Ch lo rs) (hl : lo' ≤ lo) : Ch lo' rs := by
  cases rs with
  | nil => trivial
  | cons q r => obtain ⟨f, t⟩ := q; exact ⟨Int.le_trans hl h.1, h.2⟩
/-- the end of the last one is another number -/
def setLast : PR → Int → PR
  | [], _ => []
  | [(f, _)], v => [(f, v)]
  | q :: q' :: r, v => q :: setLast (q' :: r) v
theorem setLast_cons (q : Int × Int) {r : PR} (h : r ≠ []) (v : Int) : setLast (q :: r) v = q :: setLast r v := by
  cases r with
  | nil => exact absurd rfl h
  | cons q' r => rfl
/-- what is marked so far, taken together -/
def runs (m : Nat → Bool) : Nat → PR
  | 0 => []
  | k + 1 => if m k = false then runs m k else if decide (0 < k) && m (k - 1) then setLast (runs m k) (k : Int) else runs m k ++ [((k : Int), (k : Int))]
/-- the part of the pairs ahead of k -/
def cut : PR → Int → PR
  | [], _ => []
  | (f, t) :: r, k => if f < k then (f, if t < k then t else k - 1) :: cut r k else []
theorem cut_lo {rs : PR} {lo k : Int} (h : Ch lo rs) (hk : k ≤ lo) : cut rs k = [] := by
  cases rs with
  | nil => rfl
  | cons q r =>
    obtain ⟨f, t⟩ := q
    unfold cut
    rw [if_neg (by have := h.1; omega)]
theorem cut_in {f t k : Int} {r : PR} (h : f < k) : cut ((f, t) :: r) k = (f, if t < k then t else k - 1) :: cut r k := by
  show (if f < k then _ else _) = _
  rw [if_pos h]
theorem cut_out {f t k : Int} {r : PR} (h : ¬ f < k) : cut ((f, t) :: r) k = [] := by
  show (if f < k then _ else _) = _
  rw [if_neg h]
theorem cut_ne {rs : PR} {lo k : Int} (h : Ch lo rs) (hh : has rs (k - 1) = true) : cut rs k ≠ [] := by
  cases rs with
  | nil => cases hh
  | cons q r =>
    obtain ⟨f, t⟩ := q
    unfold cut
    by_cases hf : f < k
    · rw [if_pos hf]; exact List.cons_ne_nil _ _
    · have := has_lo (rs := (f, t) :: r) (lo := f) ⟨Int.le_refl _, h.2⟩ (p := k - 1) (by omega)
      rw [this] at hh; cases hh
theorem has_tail {f t p : Int} {r : PR} (h : t < p) : has ((f, t) :: r) p = has r p := by
  show (decide (f ≤ p) && decide (p ≤ t) || has r p) = _
  rw [decide_eq_false (show ¬ p ≤ t by omega), Bool.and_false, Bool.false_or]
theorem has_in {f t p : Int} {r : PR} (h1 : f ≤ p) (h2 : p ≤ t) : has ((f, t) :: r) p = true := by
  show (decide (f ≤ p) && decide (p ≤ t) || has r p) = _
  rw [decide_eq_true h1, decide_eq_true h2]
  rfl
theorem cut_step {rs : PR} {lo : Int} (h : Ch lo rs) (k : Int) (hl : 0 < lo) :
    cut rs (k + 1) = if has rs k = false then cut rs k else if has rs (k - 1) then setLast (cut rs k) k else cut rs k ++ [(k, k)] := by
  induction rs generalizing lo with
  | nil => rfl
  | cons q r ih =>
    obtain ⟨f, t⟩ := q
    obtain ⟨h1, h2, h3⟩ := h
    by_cases c1 : k < f
    · rw [has_lo (rs := (f, t) :: r) (lo := f) ⟨Int.le_refl _, h2, h3⟩ c1, if_pos rfl]
      unfold cut
      rw [if_neg (by omega), if_neg (by omega)]
    · by_cases c2 : k ≤ t
      · rw [has_in (by omega) c2, if_neg (by simp)]
        have e1 : cut r (k + 1) = [] := cut_lo h3 (by omega)
        have e2 : cut r k = [] := cut_lo h3 (by omega)
        have e3 : (if t < k + 1 then t else k + 1 - 1) = k := by split <;> omega
        by_cases c3 : k = f
        · rw [has_lo (rs := (f, t) :: r) (lo := f) ⟨Int.le_refl _, h2, h3⟩ (p := k - 1) (by omega), cut_in (show f < k + 1 by omega), e1, e3, cut_out (show ¬ f < k by omega), c3]
          rfl
        · rw [has_in (by omega) (by omega), if_pos rfl, cut_in (by omega), cut_in (by omega), e1, e2, e3]
          rfl
      · by_cases c3 : k = t + 1
        · subst c3
          rw [has_tail (by omega), has_lo h3 (by omega), if_pos rfl]
          rw [cut_in (by omega), cut_in (by omega), if_pos (by omega), if_pos (by omega), cut_lo h3 (by omega), cut_lo h3 (by omega)]
        · have IH := ih h3 (by omega)
          rw [has_tail (by omega), has_tail (show t < k - 1 by omega)]
          have e1 : cut ((f, t) :: r) (k + 1) = (f, t) :: cut r (k + 1) := by
            show (if f < k + 1 then _ else _) = _
            rw [if_pos (by omega), if_pos (by omega)]
          have e2 : cut ((f, t) :: r) k = (f, t) :: cut r k := by
            show (if f < k then _ else _) = _
            rw [if_pos (by omega), if_pos (by omega)]
          rw [e1, e2, IH]
          split
          · rfl
          · split
            · rename_i hb
              rw [setLast_cons _ (cut_ne h3 hb)]
            · rfl
theorem cut_all {rs : PR} {lo k : Int} (h : Ch lo rs) (hk : ∀ q ∈ rs, q.2 < k) : cut rs k = rs := by
  induction rs generalizing lo with
  | nil => rfl
  | cons q r ih =>
    obtain ⟨f, t⟩ := q
    have ht := hk (f, t) (by simp)
    have h2 := h.2.1
    unfold cut
    rw [if_pos (by simp at ht; omega), if_pos (by simpa using ht), ih h.2.2 (fun q hq => hk q (by simp [hq]))]
/-- the runs of marks are the pairs that have what is marked -/
theorem runs_cut {rs : PR} (h : Ch 1 rs) {m : Nat → Bool} {N : Nat} (hm : ∀ k, k < N → m k = has rs (k : Int)) (k : Nat) (hk : k ≤ N) : runs m k = cut rs (k : Int) := by
  induction k with
  | zero => rw [show ((0 : Nat) : Int) = 0 from rfl, cut_lo h (by omega)]; rfl
  | succ k ih =>
    have IH := ih (by omega)
    have hs := cut_step h (k : Int) (by omega)
    rw [show ((k + 1 : Nat) : Int) = (k : Int) + 1 by omega, hs]
    show (if m k = false then runs m k else if decide (0 < k) && m (k - 1) then setLast (runs m k) (k : Int) else runs m k ++ [((k : Int), (k : Int))]) = _
    rw [hm k (by omega), IH]
    by_cases h0 : 0 < k
    · rw [hm (k - 1) (by omega), show ((k - 1 : Nat) : Int) = (k : Int) - 1 by omega, decide_eq_true h0, Bool.true_and]
    · have e : k = 0 := by omega
      subst e
      rw [has_lo h (p := ((0 : Nat) : Int) - 1) (by simp), has_lo h (p := ((0 : Nat) : Int)) (by simp)]
      rfl
theorem runs_eq {rs : PR} (h : Ch 1 rs) {m : Nat → Bool} {N : Nat} (hm : ∀ k, k < N → m k = has rs (k : Int)) (hN : ∀ q ∈ rs, q.2 < N) : runs m N = rs := by
  rw [runs_cut h hm N (Nat.le_refl _), cut_all h hN]
/-- one list of pairs alone has just these -/
theorem only {rs rs' : PR} (h : Ch 1 rs) (h' : Ch 1 rs') {N : Nat} (hN : ∀ q ∈ rs, q.2 < N) (hN' : ∀ q ∈ rs', q.2 < N) (hh : ∀ k : Nat, k < N → has rs (k : Int) = has rs' (k : Int)) : rs = rs' := by
  have a := runs_eq h (m := fun k => has rs (k : Int)) (N := N) (fun _ _ => rfl) hN
  have b := runs_eq h' (m := fun k => has rs (k : Int)) (N := N) (fun k hk => hh k hk) hN'
  rw [← a, ← b]
/-- runs are pairs that lie two apart, and have what is marked -/
theorem has_append (a b : PR) (p : Int) : has (a ++ b) p = (has a p || has b p) := by
  induction a with
  | nil => rfl
  | cons q r ih => obtain ⟨f, t⟩ := q; show (_ || has (r ++ b) p) = _; rw [ih]; show _ = ((_ || has r p) || has b p); rw [Bool.or_assoc]
end Gm
end Go.Proofs.YtlghonnakokioaaDoor
