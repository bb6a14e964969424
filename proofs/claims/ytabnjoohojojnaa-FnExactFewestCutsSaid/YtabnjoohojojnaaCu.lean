/- The longest rising list: from each place on, and up to each place. -/
namespace Go.Proofs.Ytabnjoohojojnaa
set_option linter.unusedVariables false
namespace Rz
def at' (zs : List Int) (k : Nat) : Int := zs.getD k 0
/-- the lengths that go on from each place, from one on -/
def Rf (zs L : List Int) (fr : Nat) : Prop := ∀ i, fr ≤ i → i < zs.length → 1 ≤ at' L i ∧ (∀ j, i < j → j < zs.length → at' zs i < at' zs j → at' L j + 1 ≤ at' L i) ∧ (at' L i = 1 ∨ ∃ j, i < j ∧ j < zs.length ∧ at' zs i < at' zs j ∧ at' L i = at' L j + 1)
/-- the longest rising list out of a list above a number -/
def sf : List Int → Int → Nat
  | [], _ => 0
  | x :: r, v => max (sf r v) (if v < x then sf r x + 1 else 0)
theorem sf_up {zs T : List Int} (h : T.Sublist zs) : ∀ v, (∀ t ∈ T, v < t) → T.Pairwise (· < ·) → T.length ≤ sf zs v := by
  induction h with
  | slnil => intro v _ _; simp
  | cons a h ih => intro v h1 h2; have := ih v h1 h2; unfold sf; omega
  | cons_cons a h ih =>
    intro v h1 h2
    rw [List.pairwise_cons] at h2
    have := ih a h2.1 h2.2
    have h3 := h1 a (by simp)
    unfold sf
    rw [if_pos h3]
    simp only [List.length_cons]
    omega
theorem sf_is : ∀ (zs : List Int) (v : Int), ∃ T : List Int, T.Sublist zs ∧ (∀ t ∈ T, v < t) ∧ T.Pairwise (· < ·) ∧ T.length = sf zs v
  | [], v => ⟨[], List.Sublist.refl _, by simp, by simp, rfl⟩
  | x :: r, v => by
    obtain ⟨T1, a1, b1, c1, d1⟩ := sf_is r v
    obtain ⟨T2, a2, b2, c2, d2⟩ := sf_is r x
    unfold sf
    by_cases h : v < x
    · rw [if_pos h]
      by_cases g : sf r x + 1 ≤ sf r v
      · exact ⟨T1, a1.cons _, b1, c1, by omega⟩
      · refine ⟨x :: T2, a2.cons_cons _, fun t ht => ?_, List.pairwise_cons.2 ⟨b2, c2⟩, by simp only [List.length_cons]; omega⟩
        rcases List.mem_cons.1 ht with e | e
        · rw [e]; exact h
        · have := b2 t e; omega
    · rw [if_neg h]
      exact ⟨T1, a1.cons _, b1, c1, by omega⟩
theorem sf_ge : ∀ (R : List Int) (j : Nat) (v : Int), j < R.length → v < R.getD j 0 → sf (R.drop (j + 1)) (R.getD j 0) + 1 ≤ sf R v
  | [], j, v, h, _ => by simp at h
  | x :: r, 0, v, h, hv => by
    have hv2 : v < x := by simpa using hv
    show sf r x + 1 ≤ max (sf r v) (if v < x then sf r x + 1 else 0)
    rw [if_pos hv2]; omega
  | x :: r, j + 1, v, h, hv => by
    have e : (x :: r).getD (j + 1) 0 = r.getD j 0 := by simp [List.getD]
    rw [e] at hv ⊢
    have := sf_ge r j v (by simpa using h) hv
    show sf (r.drop (j + 1)) (r.getD j 0) + 1 ≤ max (sf r v) (if v < x then sf r x + 1 else 0)
    omega
theorem sf_at : ∀ (R : List Int) (v : Int), sf R v = 0 ∨ ∃ j, j < R.length ∧ v < R.getD j 0 ∧ sf R v = sf (R.drop (j + 1)) (R.getD j 0) + 1
  | [], v => Or.inl rfl
  | x :: r, v => by
    have hs : sf (x :: r) v = max (sf r v) (if v < x then sf r x + 1 else 0) := rfl
    by_cases h : v < x ∧ sf r v ≤ sf r x + 1
    · right
      refine ⟨0, by simp, by simpa using h.1, ?_⟩
      rw [hs, if_pos h.1]
      show max (sf r v) (sf r x + 1) = sf r x + 1
      omega
    · have e : sf (x :: r) v = sf r v := by
        rw [hs]
        by_cases c : v < x
        · rw [if_pos c]; have : ¬ sf r v ≤ sf r x + 1 := fun g => h ⟨c, g⟩; omega
        · rw [if_neg c]; omega
      rw [e]
      rcases sf_at r v with h0 | ⟨j, h1, h2, h3⟩
      · exact Or.inl h0
      · right
        exact ⟨j + 1, by simpa using h1, by simpa [List.getD] using h2, by simpa [List.getD] using h3⟩
theorem rf_sf {zs L : List Int} (h : Rf zs L 0) : ∀ (d i : Nat), zs.length = i + 1 + d → at' L i = (sf (zs.drop (i + 1)) (at' zs i) : Int) + 1 := by
  intro d
  induction d using Nat.strongRecOn with
  | _ d ih =>
    intro i hi
    obtain ⟨h1, h2, h3⟩ := h i (Nat.zero_le _) (by omega)
    have hg : ∀ j, (zs.drop (i + 1)).getD j 0 = at' zs (i + 1 + j) := fun j => by simp [at', List.getD, List.getElem?_drop]
    have hd : ∀ j, (zs.drop (i + 1)).drop (j + 1) = zs.drop (i + 1 + j + 1) := fun j => by rw [List.drop_drop]; congr 1
    apply Int.le_antisymm
    · rcases h3 with e | ⟨j, j1, j2, j3, j4⟩
      · omega
      · have := ih (d - (j - i)) (by omega) j (by omega)
        have g := sf_ge (zs.drop (i + 1)) (j - i - 1) (at' zs i) (by rw [List.length_drop]; omega) (by rw [hg, show i + 1 + (j - i - 1) = j by omega]; exact j3)
        rw [hg, hd, show i + 1 + (j - i - 1) = j by omega] at g
        omega
    · rcases sf_at (zs.drop (i + 1)) (at' zs i) with e | ⟨j, j1, j2, j3⟩
      · omega
      · rw [List.length_drop] at j1
        rw [hg] at j2
        rw [hg, hd] at j3
        have := ih (d - (j + 1)) (by omega) (i + 1 + j) (by omega)
        have := h2 (i + 1 + j) (by omega) (by omega) j2
        omega
/-- the longest rising list of numbers above zero and below one, out of the first so many -/
def eb (zs : List Int) : Nat → Int → Nat
  | 0, _ => 0
  | c + 1, v => max (eb zs c v) (if 0 < at' zs c ∧ at' zs c < v then eb zs c (at' zs c) + 1 else 0)
theorem eb_le (zs : List Int) : ∀ c v, eb zs c v ≤ c
  | 0, _ => Nat.le_refl _
  | c + 1, v => by
    have := eb_le zs c v
    have := eb_le zs c (at' zs c)
    unfold eb
    split <;> omega
theorem take_snoc {zs : List Int} {c : Nat} (h : c < zs.length) : zs.take (c + 1) = zs.take c ++ [at' zs c] := by
  rw [List.take_succ_eq_append_getElem h]; simp [at', List.getD, List.getElem?_eq_getElem h]
theorem eb_up (zs : List Int) : ∀ (c : Nat), c ≤ zs.length → ∀ (T : List Int) (v : Int), T.Sublist (zs.take c) → (∀ t ∈ T, 0 < t ∧ t < v) → T.Pairwise (· < ·) → T.length ≤ eb zs c v
  | 0, _, T, v, h, _, _ => by
    have := h.length_le
    simp only [List.take_zero, List.length_nil] at this
    omega
  | c + 1, hc, T, v, h, hb, hp => by
    rw [take_snoc (by omega), List.sublist_append_iff] at h
    obtain ⟨l1, l2, rfl, h1, h2⟩ := h
    unfold eb
    rw [List.pairwise_append] at hp
    by_cases e : l2 = []
    · subst e
      have := eb_up zs c (by omega) l1 v h1 (fun t ht => hb t (by simp [ht])) hp.1
      simp only [List.append_nil]
      omega
    · have e2 : l2 = [at' zs c] := by
        cases h2 with
        | cons _ h3 => exact absurd (List.sublist_nil.1 h3) e
        | cons_cons _ h3 => rw [List.sublist_nil.1 h3]
      subst e2
      have hx := hb (at' zs c) (by simp)
      have := eb_up zs c (by omega) l1 (at' zs c) h1 (fun t ht => ⟨(hb t (by simp [ht])).1, hp.2.2 t ht _ (by simp)⟩) hp.1
      rw [if_pos hx]
      simp only [List.length_append, List.length_cons, List.length_nil]
      omega
theorem eb_is (zs : List Int) : ∀ (c : Nat), c ≤ zs.length → ∀ (v : Int), ∃ T : List Int, T.Sublist (zs.take c) ∧ (∀ t ∈ T, 0 < t ∧ t < v) ∧ T.Pairwise (· < ·) ∧ T.length = eb zs c v
  | 0, _, v => ⟨[], by simp, by simp, by simp, rfl⟩
  | c + 1, hc, v => by
    obtain ⟨T1, a1, b1, c1, d1⟩ := eb_is zs c (by omega) v
    obtain ⟨T2, a2, b2, c2, d2⟩ := eb_is zs c (by omega) (at' zs c)
    rw [take_snoc (by omega)]
    unfold eb
    by_cases h : 0 < at' zs c ∧ at' zs c < v
    · rw [if_pos h]
      by_cases g : eb zs c (at' zs c) + 1 ≤ eb zs c v
      · exact ⟨T1, a1.trans (List.sublist_append_left _ _), b1, c1, by omega⟩
      · refine ⟨T2 ++ [at' zs c], a2.append (List.Sublist.refl _), fun t ht => ?_, ?_, by simp only [List.length_append, List.length_cons, List.length_nil]; omega⟩
        · rcases List.mem_append.1 ht with e | e
          · have := b2 t e; omega
          · rw [List.mem_singleton.1 e]; exact h
        · rw [List.pairwise_append]
          exact ⟨c2, by simp, fun t ht u hu => by rw [List.mem_singleton.1 hu]; exact (b2 t ht).2⟩
    · rw [if_neg h]
      exact ⟨T1, a1.trans (List.sublist_append_left _ _), b1, c1, by omega⟩
def po (zs : List Int) : List Int := zs.filter (fun z => decide (0 < z))
theorem sf_eb (zs : List Int) (hz : ∀ z ∈ zs, z < 100) : sf (po zs) 0 = eb zs zs.length 100 := by
  apply Nat.le_antisymm
  · obtain ⟨T, a, b, c, d⟩ := sf_is (po zs) 0
    rw [← d]
    have s : T.Sublist zs := a.trans List.filter_sublist
    exact eb_up zs zs.length (Nat.le_refl _) T 100 (by rw [List.take_length]; exact s) (fun t ht => ⟨b t ht, hz t (s.subset ht)⟩) c
  · obtain ⟨T, a, b, c, d⟩ := eb_is zs zs.length (Nat.le_refl _) 100
    rw [← d]
    rw [List.take_length] at a
    refine sf_up ?_ 0 (fun t ht => (b t ht).1) c
    have := a.filter (fun z => decide (0 < z))
    rwa [List.filter_eq_self.2 (fun t ht => by simpa using (b t ht).1)] at this
/-- what the search from a number ahead of all finds -/
theorem rf_head {zs L : List Int} (hz : ∀ z ∈ zs, z < 100) (h : Rf (0 :: po zs) L 0) : at' L 0 = (eb zs zs.length 100 : Int) + 1 := by
  have := rf_sf h (po zs).length 0 (by simp; omega)
  rw [this, ← sf_eb zs hz]
  simp [at']
end Rz
end Go.Proofs.Ytabnjoohojojnaa
