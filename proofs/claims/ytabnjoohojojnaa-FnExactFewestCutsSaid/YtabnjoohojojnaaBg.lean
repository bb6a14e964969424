/- Turns of parts: mathematics. -/
import Derived.Test.YtabnjoohojojnaaBe
namespace Go.Proofs.Ytabnjoohojojnaa
set_option linter.unusedVariables false
set_option linter.unusedSimpArgs false
namespace Ln
/-- a binding, told by sizes -/
theorem bnd_abs (zs : List Int) : Bnd zs ↔ 1 ≤ zs.length ∧ zs.length ≤ 8 ∧ (∀ k, k < zs.length → 1 ≤ (zs.getD k 0).natAbs ∧ (zs.getD k 0).natAbs ≤ zs.length) ∧ ∀ j k, j < zs.length → k < zs.length → (zs.getD j 0).natAbs = (zs.getD k 0).natAbs → j = k := by
  constructor
  · rintro ⟨a, b, c, d⟩
    refine ⟨a, b, fun k hk => ?_, fun j k hj hk e => ?_⟩
    · have h1 := c k hk
      have h2 := (d k hk).1
      omega
    · rcases Nat.lt_trichotomy j k with h | h | h
      · have := (d k hk).2 j h
        omega
      · exact h
      · have := (d j hj).2 k h
        omega
  · rintro ⟨a, b, c, d⟩
    refine ⟨a, b, fun k hk => ?_, fun k hk => ⟨?_, fun j hj => ⟨fun e => ?_, fun e => ?_⟩⟩⟩
    · have h1 := c k hk; omega
    · have h1 := c k hk; omega
    · have := d j k (by omega) hk (by rw [e]); omega
    · have := d j k (by omega) hk (by rw [e]; omega); omega
/-- where a place comes from -/
def sg (f t j : Nat) : Nat := if f ≤ j ∧ j < t + 1 then f + t - j else j
theorem sg_lt {f t j n : Nat} (ht : t < n) (hj : j < n) : sg f t j < n := by unfold sg; split <;> omega
theorem sg_sg (f t j : Nat) (hft : f ≤ t) : sg f t (sg f t j) = j := by
  unfold sg
  by_cases c : f ≤ j ∧ j < t + 1
  · rw [if_pos c, if_pos (by omega)]; omega
  · rw [if_neg c, if_neg c]
theorem tL_len (zs : List Int) (f t : Nat) : (tL zs f t).length = zs.length := tS_len _ _ _ _
theorem tL_at (zs : List Int) (f t j : Nat) (hj : j < zs.length) : (tL zs f t).getD j 0 = if f ≤ j ∧ j < t + 1 then -zs.getD (sg f t j) 0 else zs.getD (sg f t j) 0 := by
  unfold tL
  rw [tS_at _ _ _ _ _ hj]
  unfold sg
  by_cases c : f ≤ j ∧ j < t + 1
  · rw [if_pos c, if_pos c, if_pos c]
  · rw [if_neg c, if_neg c, if_neg c]
theorem tL_abs (zs : List Int) (f t j : Nat) (hj : j < zs.length) : ((tL zs f t).getD j 0).natAbs = (zs.getD (sg f t j) 0).natAbs := by
  rw [tL_at _ _ _ _ hj]
  split
  · rw [Int.natAbs_neg]
  · rfl
theorem tL_bnd {zs : List Int} (h : Bnd zs) {f t : Nat} (hft : f ≤ t) (ht : t < zs.length) : Bnd (tL zs f t) := by
  rw [bnd_abs] at h ⊢
  obtain ⟨a, b, c, d⟩ := h
  rw [tL_len]
  refine ⟨a, b, fun k hk => ?_, fun j k hj hk e => ?_⟩
  · rw [tL_abs _ _ _ _ hk]
    exact c _ (sg_lt ht hk)
  · rw [tL_abs _ _ _ _ hj, tL_abs _ _ _ _ hk] at e
    have h1 := d _ _ (sg_lt ht hj) (sg_lt ht hk) e
    have h2 := sg_sg f t j hft
    rw [h1, sg_sg f t k hft] at h2
    exact h2.symm
theorem tL_tL (zs : List Int) {f t : Nat} (hft : f ≤ t) (ht : t < zs.length) : tL (tL zs f t) f t = zs := by
  refine ext_getD (by rw [tL_len, tL_len]) fun j hj => ?_
  rw [tL_len, tL_len] at hj
  rw [tL_at _ _ _ _ (by rw [tL_len]; exact hj), tL_at _ _ _ _ (sg_lt ht hj), sg_sg f t j hft]
  unfold sg
  by_cases c : f ≤ j ∧ j < t + 1
  · rw [if_pos c, if_pos c, if_pos (by omega), Int.neg_neg]
  · rw [if_neg c, if_neg c, if_neg c]
/-- the right binding -/
def rgt (n : Nat) : List Int := (List.range n).map fun (k : Nat) => (k : Int) + 1
theorem rgt_len (n : Nat) : (rgt n).length = n := by simp [rgt]
theorem rgt_at (n k : Nat) (hk : k < n) : (rgt n).getD k 0 = (k : Int) + 1 := by simp [rgt, List.getD, hk]
theorem rgt_bnd {n : Nat} (h1 : 1 ≤ n) (h8 : n ≤ 8) : Bnd (rgt n) := by
  rw [bnd_abs, rgt_len]
  refine ⟨h1, h8, fun k hk => ?_, fun j k hj hk e => ?_⟩
  · rw [rgt_at n k hk]; omega
  · rw [rgt_at n k hk, rgt_at n j hj] at e; omega
/-- right behind just so many turns -/
def Rch (n : Nat) : Nat → List Int → Prop
  | 0, b => b = rgt n
  | k + 1, b => ∃ f t, f ≤ t ∧ t < n ∧ Rch n k (tL b f t)
theorem rch_len {n : Nat} : ∀ {k : Nat} {b : List Int}, Rch n k b → b.length = n
  | 0, b, h => by rw [show b = rgt n from h, rgt_len]
  | k + 1, b, ⟨f, t, _, _, h⟩ => by have := rch_len h; rwa [tL_len] at this
theorem rch_bnd {n : Nat} (h1 : 1 ≤ n) (h8 : n ≤ 8) : ∀ {k : Nat} {b : List Int}, Rch n k b → Bnd b
  | 0, b, h => by rw [show b = rgt n from h]; exact rgt_bnd h1 h8
  | k + 1, b, ⟨f, t, hft, ht, h⟩ => by
    have h2 := tL_bnd (rch_bnd h1 h8 h) hft (by rw [rch_len h]; exact ht)
    have hl := rch_len h
    rw [tL_len] at hl
    rwa [tL_tL b hft (by omega)] at h2
/-- one turn more -/
theorem rch_turn {n k : Nat} {b : List Int} (h : Rch n k b) {f t : Nat} (hft : f ≤ t) (ht : t < n) : Rch n (k + 1) (tL b f t) :=
  ⟨f, t, hft, ht, by rw [tL_tL b hft (by rw [rch_len h]; exact ht)]; exact h⟩
/-- it needs just so many turns -/
def Dst (n : Nat) (b : List Int) (d : Nat) : Prop := Rch n d b ∧ ∀ k, k < d → ¬ Rch n k b
theorem dst_one {n : Nat} {b : List Int} {d d' : Nat} (h : Dst n b d) (h' : Dst n b d') : d = d' := by
  rcases Nat.lt_trichotomy d d' with c | c | c
  · exact absurd h.1 (h'.2 d c)
  · exact c
  · exact absurd h'.1 (h.2 d' c)
theorem dst_of {n : Nat} {b : List Int} : ∀ k, Rch n k b → ∃ d, d ≤ k ∧ Dst n b d := by
  intro k
  induction k using Nat.strongRecOn with
  | ind k ih =>
    intro h
    by_cases c : ∃ j, j < k ∧ Rch n j b
    · obtain ⟨j, hj, h2⟩ := c
      obtain ⟨d, hd, h3⟩ := ih j hj h2
      exact ⟨d, by omega, h3⟩
    · exact ⟨k, Nat.le_refl _, h, fun j hj h2 => c ⟨j, hj, h2⟩⟩
/-- a turn changes it by one at most -/
theorem dst_turn {n d d' : Nat} {b : List Int} (h : Dst n b d) {f t : Nat} (hft : f ≤ t) (ht : t < n) (h' : Dst n (tL b f t) d') : d' ≤ d + 1 ∧ d ≤ d' + 1 := by
  constructor
  · rcases Nat.lt_or_ge (d + 1) d' with c | c
    · exact absurd (rch_turn h.1 hft ht) (h'.2 _ c)
    · exact c
  · rcases Nat.lt_or_ge (d' + 1) d with c | c
    · exact absurd ⟨f, t, hft, ht, h'.1⟩ (h.2 _ c)
    · exact c
/-- what isn't right has a turn that leads on -/
theorem dst_next {n d : Nat} {b : List Int} (h : Dst n b (d + 1)) : ∃ f t, f ≤ t ∧ t < n ∧ Dst n (tL b f t) d := by
  obtain ⟨⟨f, t, hft, ht, h1⟩, h2⟩ := h
  exact ⟨f, t, hft, ht, h1, fun k hk h3 => h2 (k + 1) (by omega) ⟨f, t, hft, ht, h3⟩⟩
theorem dst_zero {n : Nat} {b : List Int} (h : Dst n b 0) : b = rgt n := h.1
theorem dst_rgt (n : Nat) : Dst n (rgt n) 0 := ⟨rfl, fun k hk => absurd hk (Nat.not_lt_zero _)⟩
/-- the first i lie right -/
def Upto (b : List Int) (i : Nat) : Prop := ∀ k, k < i → b.getD k 0 = (k : Int) + 1
/-- the leaf i lies somewhere -/
theorem leaf_at {b : List Int} (h : Bnd b) (i : Nat) (hi : i < b.length) : ∃ p, p < b.length ∧ (b.getD p 0).natAbs = i + 1 := by
  rw [bnd_abs] at h
  obtain ⟨a, _, c, d⟩ := h
  have key : ∀ (n : Nat) (g : Nat → Nat), (∀ k, k < n → g k < n) → (∀ j k, j < n → k < n → g j = g k → j = k) → ∀ y, y < n → ∃ x, x < n ∧ g x = y := by
    intro n
    induction n with
    | zero => intro g _ _ y hy; omega
    | succ n ih =>
      intro g hg hinj y hy
      by_cases e : g n = y
      · exact ⟨n, by omega, e⟩
      · obtain ⟨x, hx, hxy⟩ := ih (fun k => if g k = n then g n else g k) (fun k hk => by
          show (if g k = n then g n else g k) < n
          have h1 := hg k (by omega)
          have h2 := hg n (by omega)
          split
          · rename_i e1
            have : g n ≠ n := fun e2 => by have := hinj k n (by omega) (by omega) (by rw [e1, e2]); omega
            omega
          · omega) (fun j k hj hk ejk => by
          have ejk : (if g j = n then g n else g j) = (if g k = n then g n else g k) := ejk
          split at ejk <;> split at ejk
          · rename_i e1 e2; exact hinj j k (by omega) (by omega) (by rw [e1, e2])
          · have := hinj n k (by omega) (by omega) ejk; omega
          · have := hinj j n (by omega) (by omega) ejk; omega
          · exact hinj j k (by omega) (by omega) ejk) (if y = n then g n else y) (by
            have h2 := hg n (by omega)
            split
            · rename_i e1; subst e1; omega
            · omega)
        have hxy : (if g x = n then g n else g x) = (if y = n then g n else y) := hxy
        refine ⟨x, by omega, ?_⟩
        split at hxy <;> split at hxy
        · rename_i e1 e2; rw [e1, e2]
        · exact absurd hxy e
        · have := hinj x n (by omega) (by omega) hxy; omega
        · exact hxy
  obtain ⟨x, hx, hxy⟩ := key b.length (fun k => (b.getD k 0).natAbs - 1) (fun k hk => by have := c k hk; show (b.getD k 0).natAbs - 1 < b.length; omega) (fun j k hj hk e => d j k hj hk (by
    have e : (b.getD j 0).natAbs - 1 = (b.getD k 0).natAbs - 1 := e
    have h1 := c j hj
    have h2 := c k hk
    omega)) i hi
  have hxy : (b.getD x 0).natAbs - 1 = i := hxy
  exact ⟨x, hx, by have := c x hx; omega⟩
/-- behind at most two turns more lie right -/
theorem upto_rch {n : Nat} : ∀ (m : Nat) (b : List Int), Bnd b → b.length = n → m ≤ n → Upto b (n - m) → ∃ k, k ≤ 2 * m ∧ Rch n k b := by
  intro m
  induction m with
  | zero =>
    intro b hb hl _ hu
    refine ⟨0, by omega, ?_⟩
    show b = rgt n
    refine ext_getD (by rw [rgt_len, hl]) fun j hj => ?_
    rw [rgt_at n j (by omega)]
    exact hu j (by omega)
  | succ m ih =>
    intro b hb hl hm hu
    obtain ⟨i, hi⟩ : ∃ i, n - (m + 1) = i := ⟨_, rfl⟩
    rw [hi] at hu
    obtain ⟨p, hp, hpz⟩ := leaf_at hb i (by omega)
    have hip : i ≤ p := by
      rcases Nat.lt_or_ge p i with c | c
      · have := hu p c
        rw [this] at hpz
        omega
      · exact c
    have B1 := tL_bnd hb hip hp
    have l1 : (tL b i p).length = n := by rw [tL_len, hl]
    have u1 : Upto (tL b i p) i := fun k hk => by
      rw [tL_at _ _ _ _ (by omega), if_neg (by omega)]
      unfold sg
      rw [if_neg (by omega)]
      exact hu k hk
    have a1 : ((tL b i p).getD i 0).natAbs = i + 1 := by
      rw [tL_abs _ _ _ _ (by omega)]
      unfold sg
      rw [if_pos (by omega), show i + p - i = p by omega]
      exact hpz
    have up : ∀ c : List Int, Upto c i → c.getD i 0 = (i : Int) + 1 → Upto c (n - m) := fun c hc hci k hk => by
      by_cases e : k = i
      · subst e; exact hci
      · exact hc k (by omega)
    by_cases c : (tL b i p).getD i 0 = (i : Int) + 1
    · obtain ⟨k, hk, hr⟩ := ih (tL b i p) B1 l1 (by omega) (up _ u1 c)
      exact ⟨k + 1, by omega, i, p, hip, by omega, hr⟩
    · have B2 := tL_bnd B1 (Nat.le_refl i) (show i < (tL b i p).length by omega)
      have u2 : Upto (tL (tL b i p) i i) i := fun k hk => by
        rw [tL_at _ _ _ _ (by omega), if_neg (by omega)]
        unfold sg
        rw [if_neg (by omega)]
        exact u1 k hk
      have c2 : (tL (tL b i p) i i).getD i 0 = (i : Int) + 1 := by
        rw [tL_at _ _ _ _ (by omega), if_pos (by omega)]
        unfold sg
        rw [if_pos (by omega), show i + i - i = i by omega]
        omega
      obtain ⟨k, hk, hr⟩ := ih (tL (tL b i p) i i) B2 (by rw [tL_len, l1]) (by omega) (up _ u2 c2)
      exact ⟨k + 2, by omega, i, p, hip, by omega, i, i, Nat.le_refl _, by omega, hr⟩
theorem rch_any {b : List Int} (h : Bnd b) : ∃ k, k ≤ 2 * b.length ∧ Rch b.length k b :=
  upto_rch b.length b h rfl (Nat.le_refl _) (fun k hk => by omega)
theorem dst_any {b : List Int} (h : Bnd b) : ∃ d, d ≤ 2 * b.length ∧ Dst b.length b d := by
  obtain ⟨k, hk, hr⟩ := rch_any h
  obtain ⟨d, hd, h2⟩ := dst_of k hr
  exact ⟨d, by omega, h2⟩
end Ln
end Go.Proofs.Ytabnjoohojojnaa
