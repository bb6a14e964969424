/- Pairs as rows of numbers; when a row of numbers is a list of ranges. -/
import Derived.Test.YtlghonnakokioaaDoorGm
namespace Go.Proofs.YtlghonnakokioaaDoor
set_option linter.unusedVariables false
set_option linter.unusedSimpArgs false
namespace Gm
def flat : PR → List Int
  | [] => []
  | (f, t) :: r => f :: t :: flat r
def prs : List Int → PR
  | a :: b :: r => (a, b) :: prs r
  | _ => []
theorem prs_flat (rs : PR) : prs (flat rs) = rs := by
  induction rs with
  | nil => rfl
  | cons q r ih => obtain ⟨f, t⟩ := q; show (f, t) :: prs (flat r) = _; rw [ih]
theorem flat_len (rs : PR) : (flat rs).length = 2 * rs.length := by
  induction rs with
  | nil => rfl
  | cons q r ih => obtain ⟨f, t⟩ := q; show (flat r).length + 1 + 1 = 2 * (r.length + 1); omega
theorem flat_append (a b : PR) : flat (a ++ b) = flat a ++ flat b := by
  induction a with
  | nil => rfl
  | cons q r ih => obtain ⟨f, t⟩ := q; show f :: t :: flat (r ++ b) = f :: t :: (flat r ++ flat b); rw [ih]
theorem prs_len : ∀ (n : Nat) (zs : List Int), zs.length = 2 * n → (prs zs).length = n ∧ flat (prs zs) = zs
  | 0, zs, h => by
    have : zs = [] := List.eq_nil_of_length_eq_zero (by omega)
    subst this
    exact ⟨rfl, rfl⟩
  | n + 1, zs, h => by
    match zs, h with
    | a :: b :: r, h =>
      have := prs_len n r (by simp at h; omega)
      exact ⟨by show (prs r).length + 1 = n + 1; rw [this.1], by show a :: b :: flat (prs r) = _; rw [this.2]⟩
theorem getD_flat : ∀ (rs : PR) (k : Nat), k < rs.length → (flat rs).getD (k * 2) 0 = (rs.getD k (0, 0)).1 ∧ (flat rs).getD (k * 2 + 1) 0 = (rs.getD k (0, 0)).2
  | [], k, h => by cases h
  | (f, t) :: r, 0, _ => ⟨rfl, rfl⟩
  | (f, t) :: r, k + 1, h => by
    have := getD_flat r k (by simp at h; omega)
    rw [show (k + 1) * 2 = k * 2 + 1 + 1 by omega]
    exact this
theorem has_mem (rs : PR) (p : Int) : has rs p = true ↔ ∃ q ∈ rs, q.1 ≤ p ∧ p ≤ q.2 := by
  induction rs with
  | nil => constructor
           · intro h; cases h
           · rintro ⟨q, hq, _⟩; cases hq
  | cons q r ih =>
    obtain ⟨f, t⟩ := q
    show (decide (f ≤ p) && decide (p ≤ t) || has r p) = true ↔ _
    simp only [Bool.or_eq_true, Bool.and_eq_true, decide_eq_true_eq, ih, List.mem_cons]
    constructor
    · rintro (h | ⟨q, hq, h⟩)
      · exact ⟨_, .inl rfl, h⟩
      · exact ⟨q, .inr hq, h⟩
    · rintro ⟨q, rfl | hq, h⟩
      · exact .inl h
      · exact .inr ⟨q, hq, h⟩
theorem has_take (zs : List Int) (n : Nat) (hz : zs.length = 2 * n) (k : Nat) (hk : k < n) (p : Int) : has ((prs zs).take (k + 1)) p = (has ((prs zs).take k) p || (decide (zs.getD (k * 2) 0 ≤ p) && decide (p ≤ zs.getD (k * 2 + 1) 0))) := by
  obtain ⟨h1, h2⟩ := prs_len n zs hz
  have hg := getD_flat (prs zs) k (by omega)
  rw [h2] at hg
  have hk2 : k < (prs zs).length := by omega
  rw [List.take_succ_eq_append_getElem hk2, has_append, hg.1, hg.2]
  have e : (prs zs).getD k (0, 0) = (prs zs)[k] := by simp [List.getD, hk2]
  rw [e]
  show (_ || (_ && _ || false)) = _
  rw [Bool.or_false]
  rfl
theorem flat_setLast (rs : PR) (v : Int) (h : rs ≠ []) : flat (setLast rs v) = (flat rs).set ((rs.length - 1) * 2 + 1) v ∧ (setLast rs v).length = rs.length := by
  induction rs with
  | nil => exact absurd rfl h
  | cons q r ih =>
    obtain ⟨f, t⟩ := q
    by_cases hr : r = []
    · subst hr; exact ⟨rfl, rfl⟩
    · obtain ⟨e1, e2⟩ := ih hr
      rw [setLast_cons _ hr]
      have hl : 0 < r.length := List.length_pos_iff.2 hr
      refine ⟨?_, by show (setLast r v).length + 1 = r.length + 1; rw [e2]⟩
      show f :: t :: flat (setLast r v) = (f :: t :: flat r).set ((r.length + 1 - 1) * 2 + 1) v
      rw [e1, show (r.length + 1 - 1) * 2 + 1 = ((r.length - 1) * 2 + 1) + 1 + 1 by omega]
      rfl
/-- a range -/
def rng (f t : Int) : Bool := (decide (1 ≤ f) && decide (f ≤ 2000)) && (decide (f ≤ t) && decide (t ≤ 2000))
/-- the pair k of a row is a range, and lies two behind the one ahead of it -/
def okk (zs : List Int) (k : Nat) : Bool := rng (zs.getD (k * 2) 0) (zs.getD (k * 2 + 1) 0) && (decide (k = 0) || decide (zs.getD (k * 2 - 1) 0 + 2 ≤ zs.getD (k * 2) 0))
def good (zs : List Int) (n : Nat) : Bool := decide (n ≤ 20) && (List.range n).all (okk zs)
theorem good_iff (zs : List Int) (n : Nat) : good zs n = true ↔ n ≤ 20 ∧ ∀ k, k < n → okk zs k = true := by
  unfold good
  simp [List.all_eq_true]
/-- numbers in a list of ranges -/
def Ok (rs : PR) : Prop := rs.length ≤ 20 ∧ Ch 1 rs ∧ ∀ q ∈ rs, q.2 ≤ 2000
theorem ch_of : ∀ (rs : PR) (lo : Int), (∀ k, k < rs.length → (rs.getD k (0, 0)).1 ≤ (rs.getD k (0, 0)).2 ∧ (k = 0 → lo ≤ (rs.getD k (0, 0)).1) ∧ (0 < k → (rs.getD (k - 1) (0, 0)).2 + 2 ≤ (rs.getD k (0, 0)).1)) → Ch lo rs
  | [], _, _ => trivial
  | (f, t) :: r, lo, h => by
    have h0 := h 0 (by simp)
    refine ⟨h0.2.1 rfl, h0.1, ch_of r (t + 2) fun k hk => ?_⟩
    have h1 := h (k + 1) (by simp; omega)
    refine ⟨h1.1, fun e => ?_, fun hp => ?_⟩
    · subst e; exact h1.2.2 (by omega)
    · have h2 := h1.2.2 (by omega)
      rw [show k + 1 - 1 = (k - 1) + 1 by omega] at h2
      exact h2
theorem ch_at : ∀ (rs : PR) (lo : Int), Ch lo rs → ∀ k, k < rs.length → (rs.getD k (0, 0)).1 ≤ (rs.getD k (0, 0)).2 ∧ lo ≤ (rs.getD k (0, 0)).1 ∧ (0 < k → (rs.getD (k - 1) (0, 0)).2 + 2 ≤ (rs.getD k (0, 0)).1)
  | [], _, _, k, hk => by cases hk
  | (f, t) :: r, lo, h, 0, _ => ⟨h.2.1, h.1, fun e => by omega⟩
  | (f, t) :: r, lo, h, k + 1, hk => by
    have h1 := ch_at r (t + 2) h.2.2 k (by simp at hk; omega)
    have h2 := h.2.1
    have h3 := h.1
    refine ⟨h1.1, Int.le_trans (by omega) h1.2.1, fun _ => ?_⟩
    show (((f, t) :: r).getD k (0, 0)).2 + 2 ≤ (r.getD k (0, 0)).1
    match k with
    | 0 => exact h1.2.1
    | k + 1 => exact h1.2.2 (by omega)
theorem rng_iff (f t : Int) : rng f t = true ↔ 1 ≤ f ∧ f ≤ t ∧ t ≤ 2000 := by
  unfold rng
  simp only [Bool.and_eq_true, decide_eq_true_eq]
  omega
theorem okk_iff (zs : List Int) (k : Nat) : okk zs k = true ↔ (1 ≤ zs.getD (k * 2) 0 ∧ zs.getD (k * 2) 0 ≤ zs.getD (k * 2 + 1) 0 ∧ zs.getD (k * 2 + 1) 0 ≤ 2000) ∧ (0 < k → zs.getD ((k - 1) * 2 + 1) 0 + 2 ≤ zs.getD (k * 2) 0) := by
  unfold okk
  simp only [Bool.and_eq_true, Bool.or_eq_true, decide_eq_true_eq, rng_iff]
  constructor
  · rintro ⟨h1, h2⟩
    refine ⟨h1, fun hk => ?_⟩
    rcases h2 with h2 | h2
    · omega
    · rw [show (k - 1) * 2 + 1 = k * 2 - 1 by omega]; exact h2
  · rintro ⟨h1, h2⟩
    refine ⟨h1, ?_⟩
    by_cases hk : k = 0
    · exact .inl hk
    · have := h2 (by omega)
      rw [show (k - 1) * 2 + 1 = k * 2 - 1 by omega] at this
      exact .inr this
theorem good_ok (zs : List Int) (n : Nat) (hz : zs.length = 2 * n) : good zs n = true ↔ Ok (prs zs) := by
  obtain ⟨h1, h2⟩ := prs_len n zs hz
  have hg : ∀ k, k < n → zs.getD (k * 2) 0 = ((prs zs).getD k (0, 0)).1 ∧ zs.getD (k * 2 + 1) 0 = ((prs zs).getD k (0, 0)).2 := fun k hk => by
    have := getD_flat (prs zs) k (by omega)
    rw [h2] at this
    exact this
  rw [good_iff]
  constructor
  · rintro ⟨a, b⟩
    refine ⟨by omega, ch_of _ _ fun k hk => ?_, fun q hq => ?_⟩
    · have hb := (okk_iff zs k).1 (b k (by omega))
      have e := hg k (by omega)
      rw [e.1, e.2] at hb
      refine ⟨hb.1.2.1, fun _ => hb.1.1, fun hk0 => ?_⟩
      have e' := hg (k - 1) (by omega)
      have := hb.2 hk0
      rw [e'.2] at this
      exact this
    · obtain ⟨k, hk, rfl⟩ := List.getElem_of_mem hq
      have hb := (okk_iff zs k).1 (b k (by omega))
      have e := hg k (by omega)
      have e2 : (prs zs).getD k (0, 0) = (prs zs)[k] := by simp [List.getD, hk]
      rw [e.2, e2] at hb
      exact hb.1.2.2
  · rintro ⟨a, b, c⟩
    refine ⟨by omega, fun k hk => (okk_iff zs k).2 ?_⟩
    have hb := ch_at _ _ b k (by omega)
    have e := hg k hk
    have e2 : (prs zs).getD k (0, 0) = (prs zs)[k]'(by omega) := by simp [List.getD, show k < (prs zs).length by omega]
    have hc := c ((prs zs)[k]'(by omega)) (List.getElem_mem _)
    rw [← e2] at hc
    rw [e.1, e.2]
    refine ⟨⟨hb.2.1, hb.1, hc⟩, fun hk0 => ?_⟩
    have e' := hg (k - 1) (by omega)
    rw [e'.2]
    exact hb.2.2 hk0
end Gm
end Go.Proofs.YtlghonnakokioaaDoor
