/- The binding of a rank: mathematics. -/
import Derived.Test.YtabnjoohojojnaaBh
namespace Go.Proofs.Ytabnjoohojojnaa
set_option linter.unusedVariables false
set_option linter.unusedSimpArgs false
namespace Ln
theorem bef_same {zs ys : List Int} {n i : Nat} (h : ∀ k, k < i + 1 → zs.getD k 0 = ys.getD k 0) : bef zs n i = bef ys n i := by
  unfold bef
  rw [h i (by omega)]
  exact cn_congr fun d _ => fr_same (fun k hk => h k (by omega)) d
theorem rk_same {zs ys : List Int} {n : Nat} : ∀ i, (∀ k, k < i → zs.getD k 0 = ys.getD k 0) → rk zs n i = rk ys n i := by
  intro i
  induction i with
  | zero => intro _; rfl
  | succ i ih =>
    intro h
    rw [rk_step, rk_step, ih fun k hk => h k (by omega), bef_same h]
theorem snoc_lt (l : List Int) (x : Int) {k : Nat} (h : k < l.length) : (l ++ [x]).getD k 0 = l.getD k 0 := by simp [List.getD, List.getElem?_append_left h]
theorem snoc_at (l : List Int) (x : Int) : (l ++ [x]).getD l.length 0 = x := by simp [List.getD]
/-- the number that comes next, and what is left of the rank -/
def nxt (n i : Nat) (o : List Int) (q : Nat) : Nat := sel (fr o n i) (q / al (n - (i + 1))) (2 * n + 1)
def dc (n r : Nat) : Nat → List Int × Nat
  | 0 => ([], r)
  | i + 1 => ((dc n r i).1 ++ [(nxt n i (dc n r i).1 (dc n r i).2 : Int) - (n : Int)], (dc n r i).2 % al (n - (i + 1)))
theorem dc_step (n r i : Nat) : dc n r (i + 1) = ((dc n r i).1 ++ [(nxt n i (dc n r i).1 (dc n r i).2 : Int) - (n : Int)], (dc n r i).2 % al (n - (i + 1))) := rfl
theorem al_down {n i : Nat} (hi : i < n) : al (n - i) = al (n - (i + 1)) * (2 * (n - i)) := by
  obtain ⟨m, hm⟩ : ∃ m, n - i = m + 1 := ⟨n - i - 1, by omega⟩
  rw [hm, show n - (i + 1) = m by omega, al_step]
theorem nxt_ok {n i : Nat} {o : List Int} {q : Nat} (hi : i < n) (ho : Pre o n i) (hq : q < al (n - i)) : fr o n i (nxt n i o q) = true ∧ cn (fr o n i) (nxt n i o q) = q / al (n - (i + 1)) ∧ nxt n i o q < 2 * n + 1 := by
  refine sel_ok _ ?_
  rw [fr_count i (by omega) ho]
  rw [al_down hi] at hq
  exact Nat.div_lt_of_lt_mul hq
theorem dc_ok {n r : Nat} (hr : r < al n) : ∀ i, i ≤ n → (dc n r i).1.length = i ∧ Pre (dc n r i).1 n i ∧ (dc n r i).2 < al (n - i) ∧ rk (dc n r i).1 n i * al (n - i) + (dc n r i).2 = r := by
  intro i
  induction i with
  | zero => intro _; exact ⟨rfl, fun k hk => absurd hk (Nat.not_lt_zero _), by rw [Nat.sub_zero]; exact hr, by simp [dc, rk]⟩
  | succ i ih =>
    intro hi
    obtain ⟨h1, h2, h3, h4⟩ := ih (by omega)
    rw [dc_step]
    obtain ⟨o, ho⟩ : ∃ o, (dc n r i).1 = o := ⟨_, rfl⟩
    obtain ⟨q, hq⟩ : ∃ q, (dc n r i).2 = q := ⟨_, rfl⟩
    rw [ho] at h1 h2 h4 ⊢
    rw [hq] at h3 h4 ⊢
    obtain ⟨n1, n2, n3⟩ := nxt_ok (by omega) h2 h3
    obtain ⟨D, hD⟩ : ∃ D, nxt n i o q = D := ⟨_, rfl⟩
    rw [hD] at n1 n2 n3 ⊢
    have hk : ∀ k, k < i → (o ++ [(D : Int) - (n : Int)]).getD k 0 = o.getD k 0 := fun k hk => snoc_lt _ _ (by omega)
    have hat : (o ++ [(D : Int) - (n : Int)]).getD i 0 = (D : Int) - n := by
      have := snoc_at o ((D : Int) - n)
      rw [h1] at this
      exact this
    have hL := al_pos (n - (i + 1))
    refine ⟨by simp [h1], ?_, Nat.mod_lt _ (by omega), ?_⟩
    · intro k hk'
      by_cases e : k = i
      · subst e
        rw [fr_iff] at n1
        show _ ∧ _
        rw [hat]
        refine ⟨by omega, by omega, n1.1, fun j hj => ?_⟩
        rw [hk j hj]
        exact n1.2 j hj
      · have := h2 k (by omega)
        rw [← hk k (by omega)] at this
        refine ⟨this.1, this.2.1, this.2.2.1, fun j hj => ?_⟩
        rw [hk j (by omega)]
        exact this.2.2.2 j hj
    · have hb : bef (o ++ [(D : Int) - (n : Int)]) n i = q / al (n - (i + 1)) := by
        unfold bef
        rw [hat, ← n2, show ((D : Int) - n + n).toNat = D by omega]
        exact cn_congr fun d _ => fr_same hk d
      show rk (o ++ [(D : Int) - (n : Int)]) n (i + 1) * al (n - (i + 1)) + q % al (n - (i + 1)) = r
      rw [rk_step, hb, rk_same i hk, ← h4, al_down (show i < n by omega), Nat.add_mul, Nat.add_assoc]
      have e1 : q / al (n - (i + 1)) * al (n - (i + 1)) + q % al (n - (i + 1)) = q := by rw [Nat.mul_comm]; exact Nat.div_add_mod _ _
      rw [e1]
      congr 1
      rw [Nat.mul_assoc, Nat.mul_assoc, Nat.mul_comm (al (n - (i + 1)))]
      simp only [Nat.mul_assoc]
theorem dc_fin {n r : Nat} (h1 : 1 ≤ n) (h8 : n ≤ 8) (hr : r < al n) : Bnd (dc n r n).1 ∧ (dc n r n).1.length = n ∧ rk (dc n r n).1 n n = r := by
  obtain ⟨a, b, c, d⟩ := dc_ok hr n (Nat.le_refl _)
  rw [Nat.sub_self] at c d
  have c' : (dc n r n).2 = 0 := by simp [al] at c; exact c
  rw [c'] at d
  exact ⟨bnd_of b a h1 h8, a, by simpa [al] using d⟩
theorem dc_of {zs : List Int} (h : Bnd zs) : (dc zs.length (rk zs zs.length zs.length) zs.length).1 = zs := by
  have hr := rk_lt (pre_of h)
  obtain ⟨a, b, c⟩ := dc_fin h.1 h.2.1 hr
  exact rank_inj a h b (by rw [b]; exact c)
end Ln
end Go.Proofs.Ytabnjoohojojnaa
