/- A search by turns from the right binding on: mathematics. -/
import Derived.Test.YtabnjoohojojnaaBj
namespace Go.Proofs.Ytabnjoohojojnaa
set_option linter.unusedVariables false
set_option linter.unusedSimpArgs false
namespace Ln
/-- the rank of a binding of n -/
def rnk (n : Nat) (b : List Int) : Nat := rk b n n
/-- a binding of n leaves -/
def Bn (n : Nat) (b : List Int) : Prop := Bnd b ∧ b.length = n
theorem rnk_lt {n : Nat} {b : List Int} (h : Bn n b) : rnk n b < al n := by
  obtain ⟨h1, rfl⟩ := h
  exact rk_lt (pre_of h1)
theorem rnk_inj {n : Nat} {b c : List Int} (h : Bn n b) (h' : Bn n c) (e : rnk n b = rnk n c) : b = c := by
  obtain ⟨h1, rfl⟩ := h
  refine rank_inj h1 h'.1 h'.2.symm ?_
  have e2 := e
  unfold rnk at e2
  rw [h'.2]
  exact e2
theorem bn_turn {n : Nat} {b : List Int} (h : Bn n b) {f t : Nat} (hft : f ≤ t) (ht : t < n) : Bn n (tL b f t) := ⟨tL_bnd h.1 hft (by rw [h.2]; exact ht), by rw [tL_len]; exact h.2⟩
theorem bn_dst {n : Nat} {b : List Int} (h : Bn n b) : ∃ d, d ≤ 2 * n ∧ Dst n b d := by
  obtain ⟨h1, rfl⟩ := h
  exact dst_any h1
theorem bn_rgt {n : Nat} (h1 : 1 ≤ n) (h8 : n ≤ 8) : Bn n (rgt n) := ⟨rgt_bnd h1 h8, rgt_len n⟩
theorem getD_set (T : List Int) (r : Nat) (v : Int) (hr : r < T.length) (k : Nat) : (T.set r v).getD k 0 = if k = r then v else T.getD k 0 := by
  by_cases e : k = r
  · subst e; simp [List.getD, hr]
  · have e' : ¬ r = k := fun h => e h.symm
    rw [if_neg e]
    simp [List.getD, List.getElem?_set, e']
/-- the table is told as far as m -/
def Fl (n m : Nat) (T : List Int) : Prop := T.length = al n ∧ ∀ b d, Bn n b → Dst n b d → (d ≤ m → T.getD (rnk n b) 0 = (d : Int)) ∧ (m < d → T.getD (rnk n b) 0 = -1)
/-- .. and some of those behind -/
def Mk (n m : Nat) (T : List Int) : Prop := T.length = al n ∧ ∀ b d, Bn n b → Dst n b d → (d ≤ m → T.getD (rnk n b) 0 = (d : Int)) ∧ (m + 1 < d → T.getD (rnk n b) 0 = -1) ∧ (d = m + 1 → T.getD (rnk n b) 0 = -1 ∨ T.getD (rnk n b) 0 = (m : Int) + 1)
/-- all those that need m turns -/
def Row (n m : Nat) (R : List (List Int)) : Prop := (∀ b, b ∈ R → Bn n b ∧ Dst n b m) ∧ ∀ b, Bn n b → Dst n b m → b ∈ R
/-- those found that need one more -/
def Nx (n m : Nat) (T : List Int) (N : List (List Int)) : Prop := (∀ b, b ∈ N → Bn n b ∧ Dst n b (m + 1)) ∧ ∀ b, Bn n b → Dst n b (m + 1) → T.getD (rnk n b) 0 = (m : Int) + 1 → b ∈ N
/-- how many are not told -/
def neg (T : List Int) : Nat := cn (fun i => decide (T.getD i 0 = -1)) T.length
theorem neg_set {T : List Int} {r : Nat} (hr : r < T.length) (h : T.getD r 0 = -1) {v : Int} (hv : 0 ≤ v) : neg (T.set r v) + 1 = neg T := by
  unfold neg
  rw [List.length_set]
  refine cn_but hr (by simpa using h) fun d => ?_
  rw [getD_set T r v hr]
  by_cases e : d = r
  · subst e
    rw [if_pos rfl, Bool.eq_iff_iff]
    simp
    omega
  · rw [if_neg e]
    simp [e]
theorem fl_mk {n m : Nat} {T : List Int} (h : Fl n m T) : Mk n m T := ⟨h.1, fun b d hb hd => ⟨((h.2 b d hb hd).1), fun h2 => (h.2 b d hb hd).2 (by omega), fun h2 => _root_.Or.inl ((h.2 b d hb hd).2 (by omega))⟩⟩
theorem fl_nx {n m : Nat} {T : List Int} (h : Fl n m T) : Nx n m T [] := ⟨fun b hb => by simp at hb, fun b hb hd e => by
  have := (h.2 b (m + 1) hb hd).2 (by omega)
  omega⟩
/-- what a turn leads to is told or not -/
theorem mk_turn {n m : Nat} {T : List Int} (h : Mk n m T) {b : List Int} (hb : Bn n b) (hd : Dst n b m) {f t : Nat} (hft : f ≤ t) (ht : t < n) :
    (T.getD (rnk n (tL b f t)) 0 = -1 ∧ Dst n (tL b f t) (m + 1)) ∨ (0 ≤ T.getD (rnk n (tL b f t)) 0) := by
  have hc := bn_turn hb hft ht
  obtain ⟨d, _, h2⟩ := bn_dst hc
  have h3 := (dst_turn hd hft ht h2).1
  obtain ⟨k1, k2, k3⟩ := h.2 _ d hc h2
  by_cases e : d ≤ m
  · right; rw [k1 e]; omega
  · have e2 : d = m + 1 := by omega
    subst e2
    rcases k3 rfl with k | k
    · left; exact ⟨k, h2⟩
    · right; rw [k]; omega
/-- .. if not, it is told, and found -/
theorem mk_set {n m : Nat} {T : List Int} {N : List (List Int)} (h : Mk n m T) (hN : Nx n m T N) {c : List Int} (hc : Bn n c) (hd : Dst n c (m + 1)) (hT : T.getD (rnk n c) 0 = -1) :
    Mk n m (T.set (rnk n c) ((m : Int) + 1)) ∧ Nx n m (T.set (rnk n c) ((m : Int) + 1)) (N ++ [c]) ∧ neg (T.set (rnk n c) ((m : Int) + 1)) + 1 = neg T := by
  have hr : rnk n c < T.length := by rw [h.1]; exact rnk_lt hc
  refine ⟨⟨by rw [List.length_set]; exact h.1, fun b d hb hbd => ?_⟩, ⟨fun b hb => ?_, fun b hb hbd e => ?_⟩, neg_set hr hT (by omega)⟩
  · rw [getD_set T _ _ hr]
    by_cases e : rnk n b = rnk n c
    · have e2 := rnk_inj hb hc e
      subst e2
      have e3 := dst_one hbd hd
      subst e3
      rw [if_pos rfl]
      exact ⟨fun h => by omega, fun h => by omega, fun _ => _root_.Or.inr rfl⟩
    · rw [if_neg e]
      exact h.2 b d hb hbd
  · rcases List.mem_append.1 hb with h1 | h1
    · exact hN.1 b h1
    · have : b = c := by simpa using h1
      subst this
      exact ⟨hc, hd⟩
  · rw [getD_set T _ _ hr] at e
    by_cases e1 : rnk n b = rnk n c
    · have e2 := rnk_inj hb hc e1
      subst e2
      simp
    · rw [if_neg e1] at e
      exact List.mem_append.2 (_root_.Or.inl (hN.2 b hb hbd e))
/-- told -/
def Cv (n : Nat) (T : List Int) (c : List Int) : Prop := 0 ≤ T.getD (rnk n c) 0
theorem cv_set {n : Nat} {T : List Int} {c c' : List Int} (hr : rnk n c' < T.length) {v : Int} (hv : 0 ≤ v) (h : Cv n T c) : Cv n (T.set (rnk n c') v) c := by
  unfold Cv at h ⊢
  rw [getD_set T _ _ hr]
  split
  · exact hv
  · exact h
/-- all turns of all those that need m: the next level is told -/
theorem level_end {n m : Nat} {T : List Int} {R N : List (List Int)} (h : Mk n m T) (hN : Nx n m T N) (hR : Row n m R) (hall : ∀ b, b ∈ R → ∀ f t, f ≤ t → t < n → Cv n T (tL b f t)) : Fl n (m + 1) T ∧ Row n (m + 1) N := by
  have key : ∀ b, Bn n b → Dst n b (m + 1) → T.getD (rnk n b) 0 = (m : Int) + 1 := fun b hb hd => by
    obtain ⟨f, t, hft, ht, h1⟩ := dst_next hd
    have h2 := hall _ (hR.2 _ (bn_turn hb hft ht) h1) f t hft ht
    rw [tL_tL b hft (by rw [hb.2]; exact ht)] at h2
    unfold Cv at h2
    rcases (h.2 b (m + 1) hb hd).2.2 rfl with k | k
    · omega
    · exact k
  refine ⟨⟨h.1, fun b d hb hd => ⟨fun e => ?_, fun e => (h.2 b d hb hd).2.1 e⟩⟩, hN.1, fun b hb hd => hN.2 b hb hd (key b hb hd)⟩
  by_cases e2 : d ≤ m
  · exact (h.2 b d hb hd).1 e2
  · have e3 : d = m + 1 := by omega
    subst e3
    rw [key b hb hd]
    omega
/-- ahead of all -/
theorem fl_zero {n : Nat} (h1 : 1 ≤ n) (h8 : n ≤ 8) : Fl n 0 ((List.replicate (al n) (-1 : Int)).set (rnk n (rgt n)) 0) ∧ Row n 0 [rgt n] := by
  have hr : rnk n (rgt n) < (List.replicate (al n) (-1 : Int)).length := by rw [List.length_replicate]; exact rnk_lt (bn_rgt h1 h8)
  refine ⟨⟨by simp, fun b d hb hd => ?_⟩, fun b hb => ?_, fun b hb hd => by rw [dst_zero hd]; simp⟩
  · rw [getD_set _ _ _ hr]
    by_cases e : rnk n b = rnk n (rgt n)
    · have e2 := rnk_inj hb (bn_rgt h1 h8) e
      subst e2
      have e3 := dst_one hd (dst_rgt n)
      subst e3
      rw [if_pos rfl]
      exact ⟨fun _ => rfl, fun h => by omega⟩
    · rw [if_neg e]
      refine ⟨fun h => ?_, fun _ => ?_⟩
      · have : d = 0 := by omega
        subst this
        rw [dst_zero hd] at e
        exact absurd rfl e
      · have := rnk_lt hb
        simp [List.getD, this]
  · have : b = rgt n := by simpa using hb
    subst this
    exact ⟨bn_rgt h1 h8, dst_rgt n⟩
theorem neg_zero (n : Nat) (h1 : 1 ≤ n) (h8 : n ≤ 8) : neg ((List.replicate (al n) (-1 : Int)).set (rnk n (rgt n)) 0) ≤ al n := by
  unfold neg
  have := cn_le (fun i => decide ((((List.replicate (al n) (-1 : Int)).set (rnk n (rgt n)) 0)).getD i 0 = -1)) ((List.replicate (al n) (-1 : Int)).set (rnk n (rgt n)) 0).length
  simpa using this
/-- with none left all is told -/
theorem fl_end {n m : Nat} {T : List Int} (h : Fl n m T) (hR : Row n m []) {b : List Int} {d : Nat} (hb : Bn n b) (hd : Dst n b d) : T.getD (rnk n b) 0 = (d : Int) := by
  have key : ∀ k b, Bn n b → Dst n b (m + k) → False := by
    intro k
    induction k with
    | zero => intro b hb hd; have := hR.2 b hb hd; simp at this
    | succ k ih =>
      intro b hb hd
      obtain ⟨f, t, hft, ht, h1⟩ := dst_next (show Dst n b (m + k + 1) from hd)
      exact ih _ (bn_turn hb hft ht) h1
  rcases Nat.lt_or_ge d m with c | c
  · exact (h.2 b d hb hd).1 (by omega)
  · obtain ⟨k, rfl⟩ : ∃ k, d = m + k := ⟨d - m, by omega⟩
    exact (key k b hb hd).elim
/-- there is none behind 2 n turns -/
theorem row_far {n m : Nat} (hm : 2 * n < m) : Row n m [] := ⟨fun b hb => by simp at hb, fun b hb hd => by
  obtain ⟨d, h1, h2⟩ := bn_dst hb
  have := dst_one hd h2
  omega⟩
theorem row_ne {n m : Nat} {R : List (List Int)} (h : Row n m R) (hne : R ≠ []) : m ≤ 2 * n := by
  rcases R with _ | ⟨b, R⟩
  · exact absurd rfl hne
  · obtain ⟨hb, hd⟩ := h.1 b (by simp)
    obtain ⟨d, h1, h2⟩ := bn_dst hb
    have := dst_one hd h2
    omega
/-- how many turns a binding needs -/
noncomputable def dst (n : Nat) (b : List Int) : Nat := (List.range (2 * n + 1)).findIdx fun d => @decide (Dst n b d) (Classical.propDecidable _)
theorem dst_is {n : Nat} {b : List Int} (h : Bn n b) : Dst n b (dst n b) := by
  obtain ⟨d, h1, h2⟩ := bn_dst h
  have e : dst n b = d := by
    unfold dst
    rw [List.findIdx_eq (by simp; omega)]
    constructor
    · simpa using h2
    · intro j hj
      simp
      intro h3
      have := dst_one h2 h3
      omega
  rw [e]
  exact h2
end Ln
end Go.Proofs.Ytabnjoohojojnaa
