/- Volumes that stand out of order: pairs that fall, counted from both sides; exchanges; shelves filled one after another. -/
namespace Go.Proofs.Ytkfoapidmockfac
set_option linter.unusedVariables false
namespace Ns
def at' (zs : List Int) (k : Nat) : Int := zs.getD k 0
/-- how many of the first k are greater than the one at i -/
def gt (zs : List Int) (i : Nat) : Nat → Nat
  | 0 => 0
  | k + 1 => gt zs i k + (if at' zs i < at' zs k then 1 else 0)
def up (zs : List Int) : Nat → Nat
  | 0 => 0
  | i + 1 => up zs i + gt zs i i
/-- how many of the first k behind i are less -/
def ls (zs : List Int) (i : Nat) : Nat → Nat
  | 0 => 0
  | k + 1 => ls zs i k + (if at' zs (i + 1 + k) < at' zs i then 1 else 0)
def dn (zs : List Int) (n : Nat) : Nat → Nat
  | 0 => 0
  | i + 1 => dn zs n i + ls zs i (n - (i + 1))
theorem dn_next (zs : List Int) (n i : Nat) (h : i ≤ n) : dn zs (n + 1) i = dn zs n i + gt zs n i := by
  induction i with
  | zero => rfl
  | succ i ih =>
    have e : n + 1 - (i + 1) = (n - (i + 1)) + 1 := by omega
    show dn zs (n + 1) i + ls zs i (n + 1 - (i + 1)) = (dn zs n i + ls zs i (n - (i + 1))) + (gt zs n i + (if at' zs n < at' zs i then 1 else 0))
    rw [ih (by omega), e]
    show _ + (ls zs i (n - (i + 1)) + (if at' zs (i + 1 + (n - (i + 1))) < at' zs i then 1 else 0)) = _
    rw [show i + 1 + (n - (i + 1)) = n by omega]
    omega
theorem same (zs : List Int) (n : Nat) : dn zs n n = up zs n := by
  induction n with
  | zero => rfl
  | succ n ih =>
    show dn zs (n + 1) n + ls zs n (n + 1 - (n + 1)) = up zs n + gt zs n n
    rw [dn_next zs n n (Nat.le_refl _), ih, Nat.sub_self]
    show _ + 0 = _
    omega
theorem gt_le (zs : List Int) (i k : Nat) : gt zs i k ≤ k := by
  induction k with
  | zero => exact Nat.le_refl _
  | succ k ih => unfold gt; split <;> omega
theorem ls_le (zs : List Int) (i k : Nat) : ls zs i k ≤ k := by
  induction k with
  | zero => exact Nat.le_refl _
  | succ k ih => unfold ls; split <;> omega
theorem up_le (zs : List Int) (k : Nat) : up zs k ≤ k * k := by
  induction k with
  | zero => exact Nat.le_refl _
  | succ k ih =>
    have := gt_le zs k k
    unfold up
    have e : (k + 1) * (k + 1) = k * k + k + k + 1 := by rw [Nat.add_mul, Nat.mul_add, Nat.one_mul, Nat.mul_one]; omega
    omega
theorem dn_le (zs : List Int) (n k : Nat) (h : k ≤ n) : dn zs n k ≤ k * n := by
  induction k with
  | zero => exact Nat.zero_le _
  | succ k ih =>
    have := ls_le zs k (n - (k + 1))
    have := ih (by omega)
    unfold dn
    rw [Nat.add_mul, Nat.one_mul]
    omega
/-- a list of 1 to 8 different numbers from 0 on -/
def Ok (zs : List Int) : Prop := 1 ≤ zs.length ∧ zs.length ≤ 8 ∧ (∀ k, k < zs.length → 0 ≤ at' zs k ∧ at' zs k < zs.length) ∧ ∀ i j, i < j → j < zs.length → at' zs i ≠ at' zs j
/-- so far it is one -/
def okTo (zs : List Int) : Nat → Bool
  | 0 => true
  | k + 1 => okTo zs k && (decide (0 ≤ at' zs k) && decide (at' zs k < zs.length) && (List.range k).all (fun j => decide (at' zs j ≠ at' zs k)))
def good (zs : List Int) : Bool := decide (1 ≤ zs.length) && decide (zs.length ≤ 8) && okTo zs zs.length
theorem okTo_iff (zs : List Int) (k : Nat) : okTo zs k = true ↔ (∀ i, i < k → 0 ≤ at' zs i ∧ at' zs i < zs.length) ∧ ∀ i j, i < j → j < k → at' zs i ≠ at' zs j := by
  induction k with
  | zero => simp [okTo]
  | succ k ih =>
    unfold okTo
    simp only [Bool.and_eq_true, ih, decide_eq_true_eq, List.all_eq_true, List.mem_range]
    constructor
    · rintro ⟨⟨a, b⟩, ⟨c, d⟩, e⟩
      refine ⟨fun i hi => ?_, fun i j hi hj => ?_⟩
      · by_cases h : i = k
        · subst h; exact ⟨c, d⟩
        · exact a i (by omega)
      · by_cases h : j = k
        · subst h; exact e i hi
        · exact b i j hi (by omega)
    · rintro ⟨a, b⟩
      exact ⟨⟨fun i hi => a i (by omega), fun i j hi hj => b i j hi (by omega)⟩, ⟨(a k (by omega)).1, (a k (by omega)).2⟩, fun j hj => b j k hj (by omega)⟩
theorem good_iff (zs : List Int) : good zs = true ↔ Ok zs := by
  unfold good Ok
  simp only [Bool.and_eq_true, decide_eq_true_eq, okTo_iff]
  constructor
  · rintro ⟨⟨a, b⟩, c, d⟩; exact ⟨a, b, c, d⟩
  · rintro ⟨a, b, c, d⟩; exact ⟨⟨a, b⟩, c, d⟩
/-- exchanges: the volume at i is put to its own place -/
def ex (zs : List Int) (i : Nat) : List Int := (zs.set i (at' zs (at' zs i).toNat)).set (at' zs i).toNat (at' zs i)
/-- how many of the first k are not at their places -/
def away (zs : List Int) : Nat → Nat
  | 0 => 0
  | k + 1 => away zs k + (if at' zs k = k then 0 else 1)
/-- all numbers are places, and different -/
def Inj (n : Nat) (zs : List Int) : Prop := zs.length = n ∧ (∀ k, k < n → 0 ≤ at' zs k ∧ at' zs k < n) ∧ ∀ i j, i < n → j < n → at' zs i = at' zs j → i = j
theorem inj_of {zs : List Int} (h : Ok zs) : Inj zs.length zs := by
  refine ⟨rfl, h.2.2.1, fun i j hi hj e => ?_⟩
  rcases Nat.lt_trichotomy i j with h1 | h1 | h1
  · exact absurd e (h.2.2.2 i j h1 hj)
  · exact h1
  · exact absurd e.symm (h.2.2.2 j i h1 hi)
theorem at_set (zs : List Int) (i j : Nat) (x : Int) (hi : i < zs.length) : at' (zs.set i x) j = if j = i then x else at' zs j := by
  unfold at'
  by_cases h : j = i
  · subst h
    rw [if_pos rfl]
    simp [List.getD, hi]
  · rw [if_neg h]
    have : i ≠ j := fun e => h e.symm
    simp [List.getD, this]
theorem ex_at {n : Nat} {zs : List Int} (h : Inj n zs) {i : Nat} (hi : i < n) (j : Nat) : at' (ex zs i) j = if j = (at' zs i).toNat then at' zs i else if j = i then at' zs (at' zs i).toNat else at' zs j := by
  have h1 := h.2.1 i hi
  unfold ex
  rw [at_set _ _ _ _ (by rw [List.length_set, h.1]; omega), at_set _ _ _ _ (by rw [h.1]; exact hi)]
theorem ex_inj {n : Nat} {zs : List Int} (h : Inj n zs) {i : Nat} (hi : i < n) : Inj n (ex zs i) := by
  have h1 := h.2.1 i hi
  have h2 := h.2.1 (at' zs i).toNat (by omega)
  refine ⟨by unfold ex; simp [h.1], fun k hk => ?_, fun a b ha hb e => ?_⟩
  · rw [ex_at h hi]
    split
    · exact h1
    · split
      · exact h2
      · exact h.2.1 k hk
  · rw [ex_at h hi, ex_at h hi] at e
    by_cases c1 : a = (at' zs i).toNat
    · by_cases c2 : b = (at' zs i).toNat
      · omega
      · rw [if_pos c1, if_neg c2] at e
        by_cases c3 : b = i
        · rw [if_pos c3] at e
          have := h.2.2 i (at' zs i).toNat hi (by omega) e
          omega
        · rw [if_neg c3] at e
          have := h.2.2 i b hi hb e
          omega
    · rw [if_neg c1] at e
      by_cases c2 : b = (at' zs i).toNat
      · rw [if_pos c2] at e
        by_cases c3 : a = i
        · rw [if_pos c3] at e
          have := h.2.2 (at' zs i).toNat i (by omega) hi e
          omega
        · rw [if_neg c3] at e
          have := h.2.2 a i ha hi e
          omega
      · rw [if_neg c2] at e
        by_cases c3 : a = i
        · rw [if_pos c3] at e
          by_cases c4 : b = i
          · omega
          · rw [if_neg c4] at e
            have := h.2.2 _ b (by omega) hb e
            omega
        · rw [if_neg c3] at e
          by_cases c4 : b = i
          · rw [if_pos c4] at e
            have := h.2.2 a _ ha (by omega) e
            omega
          · rw [if_neg c4] at e
            exact h.2.2 a b ha hb e
theorem away_le (zs : List Int) (k : Nat) : away zs k ≤ k := by
  induction k with
  | zero => exact Nat.le_refl _
  | succ k ih => unfold away; split <;> omega
theorem away_ex {n : Nat} {zs : List Int} (h : Inj n zs) {i : Nat} (hi : i < n) (hne : at' zs i ≠ i) : away (ex zs i) n + 1 ≤ away zs n := by
  have h1 := h.2.1 i hi
  have key : ∀ k, k ≤ n → away (ex zs i) k + (if (at' zs i).toNat < k then 1 else 0) ≤ away zs k := by
    intro k
    induction k with
    | zero => intro _; exact Nat.le_refl _
    | succ k ih =>
      intro hk
      have := ih (by omega)
      unfold away
      rw [ex_at h hi]
      by_cases c1 : k = (at' zs i).toNat
      · have hk2 : ¬ (at' zs k = k) := by
          intro e
          have := h.2.2 i k hi (by omega) (by omega)
          subst this
          exact hne e
        rw [if_pos c1, if_neg hk2, if_pos (by omega)]
        rw [if_neg (by omega)] at this
        rw [if_pos (by omega)]
        omega
      · rw [if_neg c1]
        by_cases c2 : k = i
        · subst c2
          rw [if_pos rfl, if_neg hne]
          split at this <;> split <;> split <;> omega
        · rw [if_neg c2]
          split at this <;> split <;> split <;> omega
  have := key n (Nat.le_refl _)
  rw [if_pos (by omega)] at this
  exact this
end Ns
/-! shelves filled one after another -/
namespace Sf
/-- how wide volume k is with its covers -/
def own (zs : List Int) (c : Int) (k : Nat) : Int := zs.getD k 0 + 2 * c
/-- behind k volumes: the shelf, and how much room it has -/
def st (zs : List Int) (c wide : Int) : Nat → Int × Int
  | 0 => (0, wide)
  | k + 1 => if (st zs c wide k).2 < own zs c k then ((st zs c wide k).1 + 1, wide - own zs c k) else ((st zs c wide k).1, (st zs c wide k).2 - own zs c k)
/-- on which shelf volume k stands -/
def on (zs : List Int) (c wide : Int) (k : Nat) : Int := (st zs c wide (k + 1)).1
def list (zs : List Int) (c wide : Int) (n : Nat) : List Int := (List.range n).map (on zs c wide)
theorem list_len (zs : List Int) (c wide : Int) (n : Nat) : (list zs c wide n).length = n := by simp [list]
theorem list_at (zs : List Int) (c wide : Int) (n k : Nat) (h : k < n) : (list zs c wide n).getD k 0 = on zs c wide k := by simp [list, List.getD, h]
theorem list_succ (zs : List Int) (c wide : Int) (k : Nat) : list zs c wide (k + 1) = list zs c wide k ++ [on zs c wide k] := by simp [list, List.range_succ]
/-- all volumes are as wide as a shelf at most -/
def Fit (zs : List Int) (c wide : Int) : Prop := ∀ k, k < zs.length → own zs c k ≤ wide
theorem st_in (zs : List Int) (c wide : Int) (hw : 0 ≤ wide) (k : Nat) (hk : k ≤ zs.length) (hp : ∀ j, j < k → 0 ≤ own zs c j ∧ own zs c j ≤ wide) : 0 ≤ (st zs c wide k).1 ∧ (st zs c wide k).1 ≤ k ∧ 0 ≤ (st zs c wide k).2 ∧ (st zs c wide k).2 ≤ wide := by
  induction k with
  | zero => unfold st; simp; exact hw
  | succ k ih =>
    have := ih (by omega) (fun j hj => hp j (by omega))
    have := hp k (by omega)
    unfold st
    split <;> simp only [] <;> omega
theorem st_room (zs : List Int) (c wide : Int) (k : Nat) (hp : ∀ j, j < k → 0 ≤ own zs c j) : (st zs c wide k).2 ≤ wide := by
  induction k with
  | zero => unfold st; exact Int.le_refl _
  | succ k ih =>
    have := ih (fun j hj => hp j (by omega))
    have := hp k (by omega)
    unfold st
    split <;> simp only [] <;> omega
/-- a wider shelf takes no fewer -/
theorem wider (zs : List Int) (c wide wide' : Int) (h : wide ≤ wide') (k : Nat) (hk : ∀ j, j < k → 0 ≤ own zs c j) :
    (st zs c wide' k).1 < (st zs c wide k).1 ∨ ((st zs c wide' k).1 = (st zs c wide k).1 ∧ (st zs c wide k).2 ≤ (st zs c wide' k).2) := by
  induction k with
  | zero => unfold st; simp; exact h
  | succ k ih =>
    have i1 := ih (fun j hj => hk j (by omega))
    have i2 := st_room zs c wide k (fun j hj => hk j (by omega))
    have i3 := hk k (by omega)
    unfold st
    split <;> split <;> simp only [] <;> omega
end Sf
end Go.Proofs.Ytkfoapidmockfac
