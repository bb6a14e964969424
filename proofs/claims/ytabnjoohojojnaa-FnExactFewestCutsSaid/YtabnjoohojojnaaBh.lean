/- Ranks of bindings: mathematics. -/
import Derived.Test.YtabnjoohojojnaaBg
namespace Go.Proofs.Ytabnjoohojojnaa
set_option linter.unusedVariables false
set_option linter.unusedSimpArgs false
namespace Ln
/-- how many of the first N are so -/
def cn (p : Nat → Bool) : Nat → Nat
  | 0 => 0
  | d + 1 => cn p d + (if p d = true then 1 else 0)
theorem cn_step (p : Nat → Bool) (d : Nat) : cn p (d + 1) = cn p d + (if p d = true then 1 else 0) := rfl
theorem cn_le (p : Nat → Bool) : ∀ d, cn p d ≤ d
  | 0 => Nat.le_refl _
  | d + 1 => by have := cn_le p d; rw [cn_step]; split <;> omega
theorem cn_mono (p : Nat → Bool) {a b : Nat} (h : a ≤ b) : cn p a ≤ cn p b := by
  induction b with
  | zero => rw [show a = 0 by omega]; exact Nat.le_refl _
  | succ b ih =>
    by_cases e : a = b + 1
    · rw [e]; exact Nat.le_refl _
    · have := ih (by omega)
      rw [cn_step]
      omega
theorem cn_lt (p : Nat → Bool) {a b : Nat} (h : a < b) (hp : p a = true) : cn p a < cn p b := by
  have h1 := cn_mono p (show a + 1 ≤ b by omega)
  rw [cn_step, if_pos hp] at h1
  omega
theorem cn_congr {p q : Nat → Bool} {N : Nat} (h : ∀ d, d < N → p d = q d) : cn p N = cn q N := by
  induction N with
  | zero => rfl
  | succ N ih => rw [cn_step, cn_step, ih fun d hd => h d (by omega), h N (by omega)]
theorem cn_all (N : Nat) : cn (fun _ => true) N = N := by
  induction N with
  | zero => rfl
  | succ N ih => rw [cn_step, ih, if_pos rfl]
theorem cn_one {p : Nat → Bool} {a N : Nat} (ha : a < N) (hp : p a = true) : cn (fun d => p d && !decide (d = a)) N + 1 = cn p N := by
  induction N with
  | zero => omega
  | succ N ih =>
    rw [cn_step, cn_step]
    by_cases e : a = N
    · subst e
      rw [cn_congr (q := p) (fun d hd => by simp; intro _; omega), hp]
      simp
    · have := ih (by omega)
      have e2 : (p N && !decide (N = a)) = p N := by simp; intro _ h; exact e h.symm
      rw [e2]
      omega
theorem cn_but {p q : Nat → Bool} {a N : Nat} (ha : a < N) (hp : p a = true) (hq : ∀ d, q d = (p d && !decide (d = a))) : cn q N + 1 = cn p N := by
  rw [← cn_one ha hp, cn_congr (fun d _ => hq d)]
theorem hasTo_step (zs : List Int) (x : Int) (k : Nat) : hasTo zs x (k + 1) = (hasTo zs x k || decide (zs.getD k 0 = x)) := by
  unfold hasTo
  rw [List.range_succ, List.any_append]
  simp
/-- the number d - n is left at place i -/
def fr (zs : List Int) (n i d : Nat) : Bool := !(decide ((d : Int) - (n : Int) = 0)) && (!(hasTo zs ((d : Int) - (n : Int)) i) && !(hasTo zs (-((d : Int) - (n : Int))) i))
theorem fr_iff (zs : List Int) (n i d : Nat) : fr zs n i d = true ↔ (d : Int) - n ≠ 0 ∧ ∀ j, j < i → zs.getD j 0 ≠ (d : Int) - n ∧ zs.getD j 0 ≠ -((d : Int) - n) := by
  unfold fr
  simp only [Bool.and_eq_true, Bool.not_eq_true', decide_eq_false_iff_not, ← Bool.not_eq_true, hasTo_iff]
  constructor
  · rintro ⟨a, b, c⟩; exact ⟨fun e => a (decide_eq_true e), fun j hj => ⟨fun e => b ⟨j, hj, e⟩, fun e => c ⟨j, hj, e⟩⟩⟩
  · rintro ⟨a, b⟩; exact ⟨fun e => a (of_decide_eq_true e), fun ⟨j, hj, e⟩ => (b j hj).1 e, fun ⟨j, hj, e⟩ => (b j hj).2 e⟩
/-- the first i lie as in a binding of n -/
def Pre (zs : List Int) (n i : Nat) : Prop := ∀ k, k < i → -(n : Int) ≤ zs.getD k 0 ∧ zs.getD k 0 ≤ (n : Int) ∧ zs.getD k 0 ≠ 0 ∧ ∀ j, j < k → zs.getD j 0 ≠ zs.getD k 0 ∧ zs.getD j 0 ≠ -zs.getD k 0
theorem pre_of {zs : List Int} (h : Bnd zs) : Pre zs zs.length zs.length := fun k hk => ⟨(h.2.2.1 k hk).1, (h.2.2.1 k hk).2, (h.2.2.2 k hk).1, (h.2.2.2 k hk).2⟩
theorem pre_le {zs : List Int} {n i j : Nat} (h : Pre zs n i) (hj : j ≤ i) : Pre zs n j := fun k hk => h k (by omega)
theorem bnd_of {zs : List Int} {n : Nat} (h : Pre zs n n) (hl : zs.length = n) (h1 : 1 ≤ n) (h8 : n ≤ 8) : Bnd zs := by
  refine ⟨by omega, by omega, fun k hk => ?_, fun k hk => ⟨(h k (by omega)).2.2.1, (h k (by omega)).2.2.2⟩⟩
  rw [hl]
  exact ⟨(h k (by omega)).1, (h k (by omega)).2.1⟩
theorem fr_at {zs : List Int} {n i : Nat} (h : Pre zs n (i + 1)) : fr zs n i (zs.getD i 0 + n).toNat = true ∧ fr zs n i ((n : Int) - zs.getD i 0).toNat = true := by
  obtain ⟨a, b, c, d⟩ := h i (by omega)
  rw [fr_iff, fr_iff]
  refine ⟨⟨by omega, fun j hj => ?_⟩, ⟨by omega, fun j hj => ?_⟩⟩
  · have := d j hj
    omega
  · have := d j hj
    omega
theorem fr_step {zs : List Int} {n i : Nat} (h : Pre zs n (i + 1)) (d : Nat) : fr zs n (i + 1) d = ((fr zs n i d && !decide (d = (zs.getD i 0 + n).toNat)) && !decide (d = ((n : Int) - zs.getD i 0).toNat)) := by
  obtain ⟨a, b, c, _⟩ := h i (by omega)
  rw [Bool.eq_iff_iff]
  simp only [Bool.and_eq_true, Bool.not_eq_true', decide_eq_false_iff_not, fr_iff]
  constructor
  · rintro ⟨x, y⟩
    have := y i (by omega)
    exact ⟨⟨⟨x, fun j hj => y j (by omega)⟩, by omega⟩, by omega⟩
  · rintro ⟨⟨⟨x, y⟩, z⟩, w⟩
    refine ⟨x, fun j hj => ?_⟩
    by_cases e : j = i
    · subst e; omega
    · exact y j (by omega)
/-- so many numbers are left -/
theorem fr_count {zs : List Int} {n : Nat} : ∀ i, i ≤ n → Pre zs n i → cn (fr zs n i) (2 * n + 1) = 2 * (n - i) := by
  intro i
  induction i with
  | zero =>
    intro _ _
    have h1 := cn_but (p := fun _ => true) (q := fr zs n 0) (a := n) (N := 2 * n + 1) (by omega) rfl (fun d => by
      rw [Bool.eq_iff_iff, fr_iff]
      simp
      omega)
    rw [cn_all] at h1
    rw [Nat.sub_zero]
    omega
  | succ i ih =>
    intro hi h
    have h0 := ih (by omega) (pre_le h (by omega))
    obtain ⟨a, b, c, _⟩ := h i (by omega)
    obtain ⟨f1, f2⟩ := fr_at h
    obtain ⟨q, hq⟩ : ∃ q : Nat → Bool, ∀ d, q d = (fr zs n i d && !decide (d = (zs.getD i 0 + n).toNat)) := ⟨fun d => fr zs n i d && !decide (d = (zs.getD i 0 + n).toNat), fun d => rfl⟩
    have e1 := cn_but (p := fr zs n i) (q := q) (a := (zs.getD i 0 + n).toNat) (N := 2 * n + 1) (by omega) f1 hq
    have e2 := cn_but (p := q) (q := fr zs n (i + 1)) (a := ((n : Int) - zs.getD i 0).toNat) (N := 2 * n + 1) (by omega) (by
      rw [hq, f2, Bool.true_and, Bool.not_eq_true', decide_eq_false_iff_not]
      omega) (fun d => by rw [hq]; exact fr_step h d)
    omega
/-- how many are less than the leaf at place i -/
def bef (zs : List Int) (n i : Nat) : Nat := cn (fr zs n i) (zs.getD i 0 + n).toNat
theorem bef_lt {zs : List Int} {n i : Nat} (hi : i < n) (h : Pre zs n (i + 1)) : bef zs n i < 2 * (n - i) := by
  rw [← fr_count i (by omega) (pre_le h (by omega))]
  have := h i (by omega)
  exact cn_lt _ (by omega) (fr_at h).1
def rk (zs : List Int) (n : Nat) : Nat → Nat
  | 0 => 0
  | i + 1 => rk zs n i * 2 * (n - i) + bef zs n i
theorem rk_step (zs : List Int) (n i : Nat) : rk zs n (i + 1) = rk zs n i * 2 * (n - i) + bef zs n i := rfl
/-- how many bindings there are -/
def al : Nat → Nat
  | 0 => 1
  | k + 1 => al k * (2 * (k + 1))
theorem al_step (k : Nat) : al (k + 1) = al k * (2 * (k + 1)) := rfl
theorem al_pos : ∀ k, 1 ≤ al k
  | 0 => Nat.le_refl _
  | k + 1 => by rw [al_step]; exact Nat.mul_le_mul (al_pos k) (show 1 ≤ 2 * (k + 1) by omega)
theorem rk_bd {zs : List Int} {n : Nat} : ∀ i, i ≤ n → Pre zs n i → (rk zs n i + 1) * al (n - i) ≤ al n := by
  intro i
  induction i with
  | zero => intro _ _; rw [Nat.sub_zero]; simp [rk]
  | succ i ih =>
    intro hi h
    have h1 := ih (by omega) (pre_le h (by omega))
    have h2 := bef_lt (by omega) h
    obtain ⟨m, hm⟩ : ∃ m, n - i = m + 1 := ⟨n - i - 1, by omega⟩
    rw [rk_step, hm]
    rw [hm] at h1 h2
    rw [show n - (i + 1) = m by omega]
    rw [al_step] at h1
    have e : (rk zs n i + 1) * (al m * (2 * (m + 1))) = (rk zs n i * 2 * (m + 1) + 2 * (m + 1)) * al m := by
      rw [Nat.mul_comm (al m), ← Nat.mul_assoc, Nat.add_mul, Nat.mul_assoc, Nat.one_mul]
    rw [e] at h1
    exact Nat.le_trans (Nat.mul_le_mul_right _ (by omega)) h1
theorem rk_lt {zs : List Int} {n : Nat} (h : Pre zs n n) : rk zs n n < al n := by
  have := rk_bd n (Nat.le_refl _) h
  rw [Nat.sub_self] at this
  simp [al] at this
  omega
theorem fr_same {zs ys : List Int} {n i : Nat} (h : ∀ k, k < i → zs.getD k 0 = ys.getD k 0) (d : Nat) : fr zs n i d = fr ys n i d := by
  rw [Bool.eq_iff_iff, fr_iff, fr_iff]
  constructor
  · rintro ⟨a, b⟩; exact ⟨a, fun j hj => by rw [← h j hj]; exact b j hj⟩
  · rintro ⟨a, b⟩; exact ⟨a, fun j hj => by rw [h j hj]; exact b j hj⟩
/-- two of one rank are the same -/
theorem rk_inj {zs ys : List Int} {n : Nat} : ∀ i, i ≤ n → Pre zs n i → Pre ys n i → rk zs n i = rk ys n i → ∀ k, k < i → zs.getD k 0 = ys.getD k 0 := by
  intro i
  induction i with
  | zero => intro _ _ _ _ k hk; omega
  | succ i ih =>
    intro hi hz hy he
    have bz := bef_lt (by omega) hz
    have by' := bef_lt (by omega) hy
    rw [rk_step, rk_step, Nat.mul_assoc, Nat.mul_assoc] at he
    obtain ⟨R, hR⟩ : ∃ R, 2 * (n - i) = R := ⟨_, rfl⟩
    rw [hR] at he bz by'
    have hd : rk zs n i = rk ys n i := by
      have h1 : (rk zs n i * R + bef zs n i) / R = rk zs n i := by
        rw [Nat.mul_comm, Nat.mul_add_div (by omega), Nat.div_eq_of_lt bz, Nat.add_zero]
      have h2 : (rk ys n i * R + bef ys n i) / R = rk ys n i := by
        rw [Nat.mul_comm, Nat.mul_add_div (by omega), Nat.div_eq_of_lt by', Nat.add_zero]
      rw [← h1, he, h2]
    have hp := ih (by omega) (pre_le hz (by omega)) (pre_le hy (by omega)) hd
    rw [hd] at he
    have hb : bef zs n i = bef ys n i := by omega
    unfold bef at hb
    rw [cn_congr (q := fr ys n i) (fun d hd => fr_same hp d)] at hb
    have f1 := (fr_at hz).1
    rw [fr_same hp] at f1
    have f2 := (fr_at hy).1
    have z1 := hz i (by omega)
    have y1 := hy i (by omega)
    have e : (zs.getD i 0 + n).toNat = (ys.getD i 0 + n).toNat := by
      rcases Nat.lt_trichotomy (zs.getD i 0 + n).toNat (ys.getD i 0 + n).toNat with c | c | c
      · have := cn_lt (fr ys n i) c f1; omega
      · exact c
      · have := cn_lt (fr ys n i) c f2; omega
    intro k hk
    by_cases ek : k = i
    · subst ek; omega
    · exact hp k (by omega)
theorem rank_inj {zs ys : List Int} (hz : Bnd zs) (hy : Bnd ys) (hl : zs.length = ys.length) (he : rk zs zs.length zs.length = rk ys ys.length ys.length) : zs = ys := by
  have p1 := pre_of hz
  have p2 := pre_of hy
  rw [← hl] at p2 he
  exact ext_getD hl (rk_inj zs.length (Nat.le_refl _) p1 p2 he)
/-- the a-th that is so -/
def sel (p : Nat → Bool) (a : Nat) : Nat → Nat
  | 0 => 0
  | N + 1 => if p N = true ∧ cn p N = a then N else sel p a N
theorem sel_ok {p : Nat → Bool} {a : Nat} : ∀ N, a < cn p N → p (sel p a N) = true ∧ cn p (sel p a N) = a ∧ sel p a N < N := by
  intro N
  induction N with
  | zero => intro h; exact absurd h (Nat.not_lt_zero _)
  | succ N ih =>
    intro h
    by_cases c : p N = true ∧ cn p N = a
    · have e : sel p a (N + 1) = N := by show (if _ then _ else _) = _; rw [if_pos c]
      rw [e]
      exact ⟨c.1, c.2, by omega⟩
    · have e : sel p a (N + 1) = sel p a N := by show (if _ then _ else _) = _; rw [if_neg c]
      rw [e]
      rw [cn_step] at h
      have := ih (by
        split at h
        · rename_i hp
          have : cn p N ≠ a := fun e => c ⟨hp, e⟩
          omega
        · omega)
      exact ⟨this.1, this.2.1, by omega⟩
end Ln
end Go.Proofs.Ytabnjoohojojnaa
