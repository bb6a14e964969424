/- Pages of ranges one behind the other; gaps; how many pages; the longest. -/
import Derived.Test.YtdapdiciejlejaaGm3
namespace Go.Proofs.Ytdapdiciejlejaa
set_option linter.unusedVariables false
set_option linter.unusedSimpArgs false
namespace Gm
def span (f : Int) (n : Nat) : List Int := (List.range n).map (fun i : Nat => f + (i : Int))
theorem span_succ (f : Int) (n : Nat) : span f (n + 1) = span f n ++ [f + (n : Int)] := by simp [span, List.range_succ]
theorem span_len (f : Int) (n : Nat) : (span f n).length = n := by simp [span]
/-- how many pages a pair has -/
def wide (f t : Int) : Nat := (t - f + 1).toNat
def pg : PR → List Int
  | [] => []
  | (f, t) :: r => span f (wide f t) ++ pg r
theorem pg_append (a b : PR) : pg (a ++ b) = pg a ++ pg b := by
  induction a with
  | nil => rfl
  | cons q r ih => obtain ⟨f, t⟩ := q; show span f (wide f t) ++ pg (r ++ b) = (span f (wide f t) ++ pg r) ++ pg b; rw [ih, List.append_assoc]
theorem take_at (zs : List Int) (n k : Nat) (hz : zs.length = 2 * n) (hk : k < n) : (prs zs).take (k + 1) = (prs zs).take k ++ [(zs.getD (k * 2) 0, zs.getD (k * 2 + 1) 0)] := by
  obtain ⟨h1, h2⟩ := prs_len n zs hz
  have hg := getD_flat (prs zs) k (by omega)
  rw [h2] at hg
  have hk2 : k < (prs zs).length := by omega
  have e : (prs zs).getD k (0, 0) = (prs zs)[k] := by simp [List.getD, hk2]
  rw [hg.1, hg.2, e]
  exact List.take_succ_eq_append_getElem hk2
theorem take_all (zs : List Int) (n : Nat) (hz : zs.length = 2 * n) : (prs zs).take n = prs zs := List.take_of_length_le (by rw [(prs_len n zs hz).1]; exact Nat.le_refl _)
theorem pg_at (zs : List Int) (n k : Nat) (hz : zs.length = 2 * n) (hk : k < n) : pg ((prs zs).take (k + 1)) = pg ((prs zs).take k) ++ span (zs.getD (k * 2) 0) (wide (zs.getD (k * 2) 0) (zs.getD (k * 2 + 1) 0)) := by
  rw [take_at zs n k hz hk, pg_append]
  show _ ++ (_ ++ []) = _
  rw [List.append_nil]
theorem mem_span {f p : Int} {n : Nat} : p ∈ span f n ↔ f ≤ p ∧ p < f + (n : Int) := by
  unfold span
  simp only [List.mem_map, List.mem_range]
  constructor
  · rintro ⟨i, hi, rfl⟩; omega
  · rintro ⟨h1, h2⟩; exact ⟨(p - f).toNat, by omega, by omega⟩
theorem mem_pg (rs : PR) (p : Int) : p ∈ pg rs ↔ has rs p = true := by
  induction rs with
  | nil => simp [pg, has]
  | cons q r ih =>
    obtain ⟨f, t⟩ := q
    show p ∈ span f (wide f t) ++ pg r ↔ (decide (f ≤ p) && decide (p ≤ t) || has r p) = true
    rw [List.mem_append, mem_span, ih]
    unfold wide
    simp only [Bool.or_eq_true, Bool.and_eq_true, decide_eq_true_eq]
    constructor
    · rintro (h | h)
      · left; omega
      · exact .inr h
    · rintro (h | h)
      · left; omega
      · exact .inr h
theorem span_rise (f : Int) (n : Nat) : (span f n).Pairwise (· < ·) := by
  unfold span
  rw [List.pairwise_map]
  exact List.pairwise_lt_range.imp (fun h => by omega)
theorem pg_rise {rs : PR} {lo : Int} (h : Ch lo rs) : (pg rs).Pairwise (· < ·) := by
  induction rs generalizing lo with
  | nil => exact List.Pairwise.nil
  | cons q r ih =>
    obtain ⟨f, t⟩ := q
    obtain ⟨h1, h2, h3⟩ := h
    show (span f (wide f t) ++ pg r).Pairwise (· < ·)
    rw [List.pairwise_append]
    refine ⟨span_rise _ _, ih h3, fun a ha b hb => ?_⟩
    rw [mem_span] at ha
    rw [mem_pg] at hb
    unfold wide at ha
    by_cases c : b < t + 2
    · rw [has_lo h3 c] at hb; cases hb
    · omega
theorem pg_len (rs : PR) (h : ∀ q ∈ rs, 1 ≤ q.1 ∧ q.2 ≤ 2000) : (pg rs).length ≤ 2000 * rs.length := by
  induction rs with
  | nil => exact Nat.le_refl _
  | cons q r ih =>
    obtain ⟨f, t⟩ := q
    have h1 := h (f, t) (by simp)
    have := ih (fun q hq => h q (by simp [hq]))
    show (span f (wide f t) ++ pg r).length ≤ 2000 * (r.length + 1)
    rw [List.length_append, span_len]
    unfold wide
    simp only at h1
    omega
theorem mem_take {α : Type} {l : List α} {k : Nat} {x : α} (h : x ∈ l.take k) : x ∈ l := List.mem_of_mem_take h
/-- ranges: each pair lies within -/
theorem ok_in {rs : PR} (h : Ok rs) : ∀ q ∈ rs, 1 ≤ q.1 ∧ q.1 ≤ q.2 ∧ q.2 ≤ 2000 := by
  intro q hq
  obtain ⟨k, hk, rfl⟩ := List.getElem_of_mem hq
  have hb := ch_at _ _ h.2.1 k hk
  have e2 : rs.getD k (0, 0) = rs[k] := by simp [List.getD, hk]
  rw [e2] at hb
  exact ⟨hb.2.1, hb.1, h.2.2 _ hq⟩
/-- the gaps behind the first k ranges -/
def gp (zs : List Int) : Nat → List Int
  | 0 => []
  | k + 1 => gp zs k ++ [zs.getD (k * 2 + 1) 0 + 1, zs.getD ((k + 1) * 2) 0 - 1]
theorem gp_len (zs : List Int) (k : Nat) : (gp zs k).length = 2 * k := by
  induction k with
  | zero => rfl
  | succ k ih => show (_ ++ [_, _]).length = _; rw [List.length_append, ih]; simp; omega
/-- how many pages the first k ranges have -/
def cnt (zs : List Int) : Nat → Int
  | 0 => 0
  | k + 1 => cnt zs k + (zs.getD (k * 2 + 1) 0 - zs.getD (k * 2) 0 + 1)
theorem cnt_le {zs : List Int} {n : Nat} (h : ∀ k, k < n → okk zs k = true) (k : Nat) (hk : k ≤ n) : 0 ≤ cnt zs k ∧ cnt zs k ≤ 2000 * (k : Int) := by
  induction k with
  | zero => exact ⟨Int.le_refl _, Int.le_refl _⟩
  | succ k ih =>
    have := ih (by omega)
    have h1 := ((okk_iff zs k).1 (h k (by omega))).1
    show 0 ≤ cnt zs k + _ ∧ cnt zs k + _ ≤ _
    omega
/-- the place of the longest among the first k + 1 ranges -/
def lg (zs : List Int) : Nat → Nat
  | 0 => 0
  | k + 1 => if zs.getD (lg zs k * 2 + 1) 0 - zs.getD (lg zs k * 2) 0 < zs.getD ((k + 1) * 2 + 1) 0 - zs.getD ((k + 1) * 2) 0 then k + 1 else lg zs k
theorem lg_le (zs : List Int) (k : Nat) : lg zs k ≤ k := by
  induction k with
  | zero => exact Nat.le_refl _
  | succ k ih => unfold lg; split <;> omega
end Gm
end Go.Proofs.Ytdapdiciejlejaa
