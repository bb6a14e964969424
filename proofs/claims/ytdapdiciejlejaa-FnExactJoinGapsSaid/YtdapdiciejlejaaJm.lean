/- Joined gaps: the merged list is the model's. -/
import Derived.Test.YtdapdiciejlejaaUi
namespace Go.Proofs.Ytdapdiciejlejaa
set_option linter.unusedVariables false
set_option linter.unusedSimpArgs false
namespace Gw
open Rg Gm
theorem mgC_of {zs : List Int} {n : Nat} (hz : zs.length = 2 * n) (hn : n ≤ 100) (h : ∀ q ∈ prs zs, 1 ≤ q.1 ∧ q.1 ≤ q.2 ∧ q.2 ≤ 2000) : mgC zs n = true := by
  obtain ⟨h1, h2⟩ := prs_len n zs hz
  refine (mgC_iff zs n).2 ⟨hn, fun k hk => ?_⟩
  have hg := getD_flat (prs zs) k (by omega)
  rw [h2] at hg
  have hk2 : k < (prs zs).length := by omega
  have e2 : (prs zs).getD k (0, 0) = (prs zs)[k] := by simp [List.getD, hk2]
  rw [e2] at hg
  rw [rng_iff, hg.1, hg.2]
  exact h _ (List.getElem_mem _)
theorem jg_in {zs : List Int} {n : Nat} (h : ∀ k, k < n → okk zs k = true) (gap : Int) (k : Nat) (hk : k < n) : ∀ q ∈ jg zs gap k, 1 ≤ q.1 ∧ q.1 ≤ q.2 ∧ q.2 ≤ 2000 := by
  induction k with
  | zero => intro q hq; cases hq
  | succ k ih =>
    have i := ih (by omega)
    intro q hq
    unfold jg at hq
    split at hq
    · rcases List.mem_append.1 hq with h1 | h1
      · exact i q h1
      · rw [List.mem_singleton] at h1
        subst h1
        have a := (okk_iff zs k).1 (h k (by omega))
        have b := (okk_iff zs (k + 1)).1 (h (k + 1) hk)
        have c := b.2 (by omega)
        rw [show k + 1 - 1 = k by omega] at c
        show 1 ≤ zs.getD (k * 2 + 1) 0 + 1 ∧ zs.getD (k * 2 + 1) 0 + 1 ≤ zs.getD ((k + 1) * 2) 0 - 1 ∧ zs.getD ((k + 1) * 2) 0 - 1 ≤ 2000
        omega
    · exact i q hq
/-- the list that is merged -/
def joL (zs : List Int) (gap : Int) (n : Nat) : List Int := zs ++ flat (jg zs gap (n - 1))
def joN (zs : List Int) (gap : Int) (n : Nat) : Nat := n + (jg zs gap (n - 1)).length
theorem jo_both {zs : List Int} {n : Nat} (hz : zs.length = 2 * n) (hg : good zs n = true) (gap : Int) : mgC (joL zs gap n) (joN zs gap n) = true ∧ mgR (joL zs gap n) = jl zs gap n := by
  obtain ⟨h20, hk⟩ := (good_iff zs n).1 hg
  have hok := (good_ok zs n hz).1 hg
  have hjl := jg_len zs gap (n - 1)
  have ep : prs (joL zs gap n) = prs zs ++ jg zs gap (n - 1) := by
    unfold joL
    rw [prs_append hz, prs_flat]
  have hin : ∀ q ∈ prs (joL zs gap n), 1 ≤ q.1 ∧ q.1 ≤ q.2 ∧ q.2 ≤ 2000 := by
    rw [ep]
    intro q hq
    rcases List.mem_append.1 hq with h | h
    · exact ok_in hok q h
    · by_cases h0 : n = 0
      · subst h0; cases h
      · exact jg_in hk gap (n - 1) (by omega) q h
  refine ⟨mgC_of (by unfold joL joN; rw [List.length_append, flat_len]; omega) (by unfold joN; omega) hin, ?_⟩
  have hch : Ch 1 (jl zs gap n) ∧ ∀ p, has (jl zs gap n) p = has (prs (joL zs gap n)) p := by
    by_cases h0 : n = 0
    · subst h0
      have : zs = [] := List.eq_nil_of_length_eq_zero (by omega)
      subst this
      exact ⟨trivial, fun p => rfl⟩
    · obtain ⟨n0, rfl⟩ : ∃ n0, n = n0 + 1 := ⟨n - 1, by omega⟩
      obtain ⟨a, _, c⟩ := jl_ok hz hk gap n0 (by omega)
      refine ⟨a, fun p => ?_⟩
      rw [c p, ep, has_append, take_all zs (n0 + 1) hz, show n0 + 1 - 1 = n0 by omega]
  unfold mgR
  refine runs_eq hch.1 (fun k _ => (hch.2 _).symm) (fun q hq => ?_)
  obtain ⟨k, hkk, rfl⟩ := List.getElem_of_mem hq
  have hb := ch_at _ _ hch.1 k hkk
  have e2 : (jl zs gap n).getD k (0, 0) = (jl zs gap n)[k] := by simp [List.getD, hkk]
  rw [e2] at hb
  have h1 : has (jl zs gap n) ((jl zs gap n)[k]).2 = true := (has_mem _ _).2 ⟨_, hq, hb.1, Int.le_refl _⟩
  rw [hch.2] at h1
  have := has_within (fun q hq => ⟨(hin q hq).1, (hin q hq).2.2⟩) h1
  omega
theorem gp_at (zs : List Int) (m k : Nat) (h : k < m) : (gp zs m).getD (k * 2) 0 = zs.getD (k * 2 + 1) 0 + 1 ∧ (gp zs m).getD (k * 2 + 1) 0 = zs.getD ((k + 1) * 2) 0 - 1 := by
  induction m with
  | zero => omega
  | succ m ih =>
    have hl := gp_len zs m
    have e : gp zs (m + 1) = gp zs m ++ [zs.getD (m * 2 + 1) 0 + 1, zs.getD ((m + 1) * 2) 0 - 1] := rfl
    rw [e]
    by_cases c : k < m
    · have i := ih c
      have e1 : (gp zs m ++ [zs.getD (m * 2 + 1) 0 + 1, zs.getD ((m + 1) * 2) 0 - 1]).getD (k * 2) 0 = (gp zs m).getD (k * 2) 0 := by simp only [List.getD]; rw [List.getElem?_append_left (by omega)]
      have e2 : (gp zs m ++ [zs.getD (m * 2 + 1) 0 + 1, zs.getD ((m + 1) * 2) 0 - 1]).getD (k * 2 + 1) 0 = (gp zs m).getD (k * 2 + 1) 0 := by simp only [List.getD]; rw [List.getElem?_append_left (by omega)]
      rw [e1, e2]
      exact i
    · obtain rfl : k = m := by omega
      have e1 : (gp zs k ++ [zs.getD (k * 2 + 1) 0 + 1, zs.getD ((k + 1) * 2) 0 - 1]).getD (k * 2) 0 = zs.getD (k * 2 + 1) 0 + 1 := by simp only [List.getD]; rw [List.getElem?_append_right (by omega), show k * 2 - (gp zs k).length = 0 by omega]; rfl
      have e2 : (gp zs k ++ [zs.getD (k * 2 + 1) 0 + 1, zs.getD ((k + 1) * 2) 0 - 1]).getD (k * 2 + 1) 0 = zs.getD ((k + 1) * 2) 0 - 1 := by simp only [List.getD]; rw [List.getElem?_append_right (by omega), show k * 2 + 1 - (gp zs k).length = 1 by omega]; rfl
      rw [e1, e2]
      exact ⟨rfl, rfl⟩
theorem jl_small {zs : List Int} {n : Nat} (hg : good zs n = true) (gap : Int) : (jl zs gap n).length ≤ 20 := by
  have := (jl_len zs gap n).1
  have := ((good_iff zs n).1 hg).1
  omega
end Gw
end Go.Proofs.Ytdapdiciejlejaa
