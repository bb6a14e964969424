/- The first longest rising list of places: the greedy choice from the lengths that go on from each place, and the best of all choices, are the same list. -/
namespace Go.Proofs.Ytogkebbgkeffcaa
set_option linter.unusedVariables false
namespace St
/-- the number at a place -/
def at' (zs : List Int) (k : Nat) : Int := zs.getD k 0
/-- places that rise, and their numbers too -/
def Ri (zs : List Int) : List Nat → Prop
  | [] => True
  | [p] => p < zs.length
  | p :: q :: r => p < q ∧ at' zs p < at' zs q ∧ p < zs.length ∧ Ri zs (q :: r)
theorem Ri.tail {zs : List Int} {p : Nat} {r : List Nat} (h : Ri zs (p :: r)) : Ri zs r := by
  cases r with
  | nil => trivial
  | cons q r => exact h.2.2.2
theorem Ri.lt {zs : List Int} {p : Nat} {r : List Nat} (h : Ri zs (p :: r)) : p < zs.length := by
  cases r with
  | nil => exact h
  | cons q r => exact h.2.2.1
/-- for lists of one length: the first difference decides -/
def lx : List Nat → List Nat → Bool
  | a :: as, b :: bs => if a = b then lx as bs else decide (a < b)
  | _, _ => false
def better (s b : List Nat) : Bool := decide (b.length < s.length) || (decide (s.length = b.length) && lx s b)
theorem lx_trans : ∀ (a b c : List Nat), a.length = b.length → b.length = c.length → lx a b = true → lx b c = true → lx a c = true
  | [], _, _, _, _, h, _ => by simp [lx] at h
  | x :: a, [], _, h, _, _, _ => by simp at h
  | x :: a, y :: b, [], _, h, _, _ => by simp at h
  | x :: a, y :: b, z :: c, h1, h2, h3, h4 => by
    unfold lx at h3 h4 ⊢
    by_cases e1 : x = y
    · subst e1
      rw [if_pos rfl] at h3
      by_cases e2 : x = z
      · subst e2
        rw [if_pos rfl] at h4 ⊢
        exact lx_trans a b c (by simpa using h1) (by simpa using h2) h3 h4
      · rw [if_neg e2] at h4 ⊢; exact h4
    · rw [if_neg e1] at h3
      by_cases e2 : y = z
      · subst e2; rw [if_neg e1]; exact h3
      · rw [if_neg e2] at h4
        simp only [decide_eq_true_eq] at h3 h4
        rw [if_neg (by omega)]
        simp only [decide_eq_true_eq]
        omega
theorem lx_eq : ∀ (a b : List Nat), a.length = b.length → lx a b = false → lx b a = false → a = b
  | [], [], _, _, _ => rfl
  | [], _ :: _, h, _, _ => by simp at h
  | _ :: _, [], h, _, _ => by simp at h
  | x :: a, y :: b, h, h1, h2 => by
    unfold lx at h1 h2
    by_cases e : x = y
    · subst e
      rw [if_pos rfl] at h1 h2
      rw [lx_eq a b (by simpa using h) h1 h2]
    · rw [if_neg e] at h1
      rw [if_neg (fun h => e h.symm)] at h2
      simp only [decide_eq_false_iff_not] at h1 h2
      omega
theorem better_trans (a b c : List Nat) (h1 : better a b = true) (h2 : better b c = true) : better a c = true := by
  unfold better at *
  simp only [Bool.or_eq_true, Bool.and_eq_true, decide_eq_true_eq] at *
  rcases h1 with h1 | ⟨h1, k1⟩ <;> rcases h2 with h2 | ⟨h2, k2⟩
  · left; omega
  · left; omega
  · left; omega
  · right; exact ⟨by omega, lx_trans a b c h1 h2 k1 k2⟩
theorem better_eq (a b : List Nat) (h1 : better a b = false) (h2 : better b a = false) : a = b := by
  unfold better at *
  simp only [Bool.or_eq_false_iff, Bool.and_eq_false_iff, decide_eq_false_iff_not] at *
  have e : a.length = b.length := by omega
  refine lx_eq a b e ?_ ?_
  · rcases h1.2 with h | h
    · exact absurd e h
    · exact h
  · rcases h2.2 with h | h
    · exact absurd e.symm h
    · exact h
/-- the lengths that go on from each place, from one on -/
def Rf (zs L : List Int) (fr : Nat) : Prop := ∀ i, fr ≤ i → i < zs.length → 1 ≤ at' L i ∧ (∀ j, i < j → j < zs.length → at' zs i < at' zs j → at' L j + 1 ≤ at' L i) ∧ (at' L i = 1 ∨ ∃ j, i < j ∧ j < zs.length ∧ at' zs i < at' zs j ∧ at' L i = at' L j + 1)
theorem upper {zs L : List Int} (h : Rf zs L 0) : ∀ (T : List Nat) (t : Nat), Ri zs (t :: T) → ((t :: T).length : Int) ≤ at' L t
  | [], t, hr => by have := (h t (Nat.zero_le _) hr).1; simpa using this
  | q :: T, t, hr => by
    have h1 := upper h T q hr.2.2.2
    have h2 := (h t (Nat.zero_le _) hr.2.2.1).2.1 q hr.1 hr.2.2.2.lt hr.2.1
    simp only [List.length_cons] at h1 ⊢
    omega
/-- the greedy choice -/
def gr (zs L : List Int) : Nat → Nat → Int → Int → List Nat
  | 0, _, _, _ => []
  | k + 1, p, bf, m => if bf < at' zs p ∧ at' L p = m then p :: gr zs L k (p + 1) (at' zs p) (m - 1) else gr zs L k (p + 1) bf m
/-- a rising list that begins at a place or behind it, with a number above one -/
def From (zs : List Int) (p : Nat) (bf : Int) : List Nat → Prop
  | [] => True
  | t :: T => p ≤ t ∧ bf < at' zs t ∧ Ri zs (t :: T)
theorem From.ri {zs : List Int} {p : Nat} {bf : Int} {T : List Nat} (h : From zs p bf T) : Ri zs T := by
  cases T with
  | nil => trivial
  | cons t T => exact h.2.2
theorem From.next {zs : List Int} {t : Nat} {T : List Nat} (h : Ri zs (t :: T)) : From zs (t + 1) (at' zs t) T := by
  cases T with
  | nil => trivial
  | cons q T => exact ⟨h.1, h.2.1, h.2.2.2⟩
theorem From.cons {zs : List Int} {p : Nat} {T : List Nat} (hp : p < zs.length) (h : From zs (p + 1) (at' zs p) T) : Ri zs (p :: T) := by
  cases T with
  | nil => exact hp
  | cons q T => exact ⟨h.1, h.2.1, hp, h.2.2⟩
theorem From.le {zs : List Int} {p p' : Nat} {bf : Int} {T : List Nat} (h : From zs p bf T) (hp : p' ≤ p) : From zs p' bf T := by
  cases T with
  | nil => trivial
  | cons q T => exact ⟨Nat.le_trans hp h.1, h.2⟩
theorem greedy {zs L : List Int} (h : Rf zs L 0) : ∀ (k p : Nat) (bf m : Int), p + k = zs.length → (m = 0 ∨ ∃ q, p ≤ q ∧ q < zs.length ∧ bf < at' zs q ∧ at' L q = m) → (∀ q, p ≤ q → q < zs.length → bf < at' zs q → at' L q ≤ m) →
    ((gr zs L k p bf m).length : Int) = m ∧ From zs p bf (gr zs L k p bf m) ∧ ∀ T, From zs p bf T → (T.length : Int) = m → lx T (gr zs L k p bf m) = false := by
  intro k
  induction k with
  | zero =>
    intro p bf m hp h1 h2
    unfold gr
    have hm : m = 0 := by
      rcases h1 with h1 | ⟨q, a, b, _⟩
      · exact h1
      · omega
    subst hm
    refine ⟨rfl, trivial, fun T hT hl => ?_⟩
    have : T = [] := List.eq_nil_of_length_eq_zero (by omega)
    subst this
    rfl
  | succ k ih =>
    intro p bf m hp h1 h2
    unfold gr
    by_cases c : bf < at' zs p ∧ at' L p = m
    · rw [if_pos c]
      have hr := h p (Nat.zero_le _) (by omega)
      obtain ⟨i1, i2, i3⟩ := ih (p + 1) (at' zs p) (m - 1) (by omega) (by
        rcases hr.2.2 with e | ⟨j, a, b, d, e⟩
        · left; omega
        · right; exact ⟨j, a, b, d, by omega⟩) (fun q a b d => by have := hr.2.1 q a b d; omega)
      refine ⟨by simp only [List.length_cons]; omega, ⟨Nat.le_refl _, c.1, i2.cons (by omega)⟩, fun T hT hl => ?_⟩
      cases T with
      | nil => rfl
      | cons t T =>
        unfold lx
        by_cases e : t = p
        · subst e
          rw [if_pos rfl]
          exact i3 T (From.next hT.2.2) (by simp only [List.length_cons] at hl; omega)
        · rw [if_neg e]
          have := hT.1
          simp only [decide_eq_false_iff_not]
          omega
    · rw [if_neg c]
      obtain ⟨i1, i2, i3⟩ := ih (p + 1) bf m (by omega) (by
        rcases h1 with h1 | ⟨q, a, b, d, e⟩
        · exact Or.inl h1
        · refine Or.inr ⟨q, ?_, b, d, e⟩
          rcases Nat.lt_or_ge p q with h | h
          · exact h
          · have : q = p := by omega
            subst this
            exact absurd ⟨d, e⟩ c) (fun q a b d => h2 q (by omega) b d)
      refine ⟨i1, i2.le (by omega), fun T hT hl => ?_⟩
      cases T with
      | nil => exact i3 [] trivial hl
      | cons t T =>
        refine i3 (t :: T) ⟨?_, hT.2⟩ hl
        rcases Nat.lt_or_ge p t with h' | h'
        · exact h'
        · have : t = p := by have := hT.1; omega
          subst this
          have u := upper h T t hT.2.2
          have v := h2 t (Nat.le_refl _) (by omega) hT.2.1
          exact absurd ⟨hT.2.1, by omega⟩ c
/-- no rising list is better than the greedy one -/
theorem greedy_best {zs L : List Int} (h : Rf zs L 0) (hz : ∀ k, k < zs.length → 0 ≤ at' zs k) {M : Int} (hM : ∃ q, q < zs.length ∧ at' L q = M) (hU : ∀ q, q < zs.length → at' L q ≤ M) :
    Ri zs (gr zs L zs.length 0 (-1) M) ∧ ((gr zs L zs.length 0 (-1) M).length : Int) = M ∧ ∀ T, Ri zs T → better T (gr zs L zs.length 0 (-1) M) = false := by
  obtain ⟨q, hq, hq2⟩ := hM
  obtain ⟨a, b, c⟩ := greedy h zs.length 0 (-1) M (by omega) (Or.inr ⟨q, Nat.zero_le _, hq, by have := hz q hq; omega, hq2⟩) (fun q _ h2 _ => hU q h2)
  refine ⟨b.ri, a, fun T hT => ?_⟩
  have hf : From zs 0 (-1) T := by
    cases T with
    | nil => trivial
    | cons t T => exact ⟨Nat.zero_le _, by have := hz t hT.lt; omega, hT⟩
  have hl : (T.length : Int) ≤ M := by
    cases T with
    | nil => have := (h q (Nat.zero_le _) hq).1; simp only [List.length_nil]; omega
    | cons t T => exact Int.le_trans (upper h T t hT) (hU t hT.lt)
  unfold better
  simp only [Bool.or_eq_false_iff, Bool.and_eq_false_iff, decide_eq_false_iff_not]
  refine ⟨by omega, ?_⟩
  by_cases e : (T.length : Int) = M
  · exact Or.inr (c T hf e)
  · exact Or.inl (by omega)
/-- the places that a number's bits choose -/
def pl (b : Nat) : Nat → List Nat
  | 0 => []
  | k + 1 => if b.testBit k then pl b k ++ [k] else pl b k
/-- whether their numbers rise -/
def rs (zs : List Int) (b : Nat) : Nat → Bool
  | 0 => true
  | k + 1 => if b.testBit k then rs zs b k && (decide (pl b k = []) || decide (at' zs ((pl b k).getLastD 0) < at' zs k)) else rs zs b k
theorem Ri.snoc {zs : List Int} : ∀ {T : List Nat} {k : Nat}, Ri zs T → k < zs.length → (∀ t ∈ T, t < k) → (T = [] ∨ at' zs (T.getLastD 0) < at' zs k) → Ri zs (T ++ [k])
  | [], k, _, hk, _, _ => hk
  | [t], k, ht, hk, hl, h => ⟨hl t (by simp), by rcases h with h | h; cases h; simpa using h, ht, hk⟩
  | t :: u :: T, k, ht, hk, hl, h => by
    refine ⟨ht.1, ht.2.1, ht.2.2.1, ?_⟩
    exact Ri.snoc (T := u :: T) ht.2.2.2 hk (fun x hx => hl x (List.mem_cons_of_mem _ hx)) (Or.inr (by rcases h with h | h; cases h; simpa using h))
theorem pl_lt (b k : Nat) : ∀ t ∈ pl b k, t < k := by
  induction k with
  | zero => intro t ht; simp [pl] at ht
  | succ k ih =>
    intro t ht
    unfold pl at ht
    split at ht
    · rcases List.mem_append.1 ht with h | h
      · have := ih t h; omega
      · simp at h; omega
    · have := ih t ht; omega
theorem rs_ri {zs : List Int} (b k : Nat) (hk : k ≤ zs.length) (h : rs zs b k = true) : Ri zs (pl b k) := by
  induction k with
  | zero => trivial
  | succ k ih =>
    unfold rs at h
    unfold pl
    split
    · rename_i c
      rw [if_pos c] at h
      simp only [Bool.and_eq_true, Bool.or_eq_true, decide_eq_true_eq] at h
      exact (ih (by omega) h.1).snoc (by omega) (pl_lt b k) h.2
    · rename_i c
      rw [if_neg c] at h
      exact ih (by omega) h
theorem Ri.init {zs : List Int} : ∀ {T : List Nat} {k : Nat}, Ri zs (T ++ [k]) → Ri zs T ∧ (∀ t ∈ T, t < k) ∧ (T = [] ∨ at' zs (T.getLastD 0) < at' zs k) ∧ k < zs.length
  | [], k, h => ⟨trivial, by simp, Or.inl rfl, h⟩
  | [t], k, h => ⟨h.2.2.1, by simpa using h.1, Or.inr (by simpa using h.2.1), h.2.2.2⟩
  | t :: u :: T, k, h => by
    obtain ⟨a, b, c, d⟩ := Ri.init (T := u :: T) h.2.2.2
    refine ⟨⟨h.1, h.2.1, h.2.2.1, a⟩, ?_, Or.inr ?_, d⟩
    · intro x hx
      rcases List.mem_cons.1 hx with rfl | hx
      · have := b u (by simp); have := h.1; omega
      · exact b x hx
    · rcases c with c | c
      · cases c
      · simpa using c
theorem Ri.all_lt {zs : List Int} : ∀ {T : List Nat}, Ri zs T → ∀ t ∈ T, t < zs.length
  | [], _, t, ht => by simp at ht
  | x :: T, h, t, ht => by
    rcases List.mem_cons.1 ht with rfl | ht
    · exact h.lt
    · exact Ri.all_lt h.tail t ht
theorem pl_high (b k n : Nat) (hb : b < 2 ^ k) (hn : k ≤ n) : pl b n = pl b k := by
  induction n with
  | zero => rw [show k = 0 by omega]
  | succ n ih =>
    by_cases e : k = n + 1
    · rw [e]
    · have h1 : b.testBit n = false := Nat.testBit_lt_two_pow (Nat.lt_of_lt_of_le hb (Nat.pow_le_pow_right (by omega) (by omega)))
      rw [show pl b (n + 1) = if b.testBit n then pl b n ++ [n] else pl b n from rfl, h1, if_neg (by decide), ih (by omega)]
theorem rs_high (zs : List Int) (b k n : Nat) (hb : b < 2 ^ k) (hn : k ≤ n) : rs zs b n = rs zs b k := by
  induction n with
  | zero => rw [show k = 0 by omega]
  | succ n ih =>
    by_cases e : k = n + 1
    · rw [e]
    · have h1 : b.testBit n = false := Nat.testBit_lt_two_pow (Nat.lt_of_lt_of_le hb (Nat.pow_le_pow_right (by omega) (by omega)))
      rw [show rs zs b (n + 1) = if b.testBit n then rs zs b n && (decide (pl b n = []) || decide (at' zs ((pl b n).getLastD 0) < at' zs n)) else rs zs b n from rfl, h1, if_neg (by decide), ih (by omega)]
theorem pl_add (b k n : Nat) (hn : n ≤ k) : pl (2 ^ k + b) n = pl b n ∧ ∀ zs, rs zs (2 ^ k + b) n = rs zs b n := by
  induction n with
  | zero => exact ⟨rfl, fun _ => rfl⟩
  | succ n ih =>
    obtain ⟨a, c⟩ := ih (by omega)
    have h1 : (2 ^ k + b).testBit n = b.testBit n := by rw [Nat.testBit_two_pow_add_gt (by omega)]
    refine ⟨?_, fun zs => ?_⟩
    · unfold pl; rw [h1, a]
    · unfold rs; rw [h1, a, c]
/-- every rising list is chosen by some number -/
theorem chosen (zs : List Int) : ∀ (k : Nat) (T : List Nat), Ri zs T → (∀ t ∈ T, t < k) → ∃ b, b < 2 ^ k ∧ pl b k = T ∧ rs zs b k = true := by
  intro k
  induction k with
  | zero =>
    intro T hT hl
    cases T with
    | nil => exact ⟨0, by simp, rfl, rfl⟩
    | cons t T => have := hl t (by simp); omega
  | succ k ih =>
    intro T hT hl
    by_cases hk : k ∈ T
    · -- k is the last one
      have key : ∃ T', T = T' ++ [k] := by
        have hne : T ≠ [] := fun e => by subst e; simp at hk
        refine ⟨T.dropLast, ?_⟩
        have e := (List.dropLast_concat_getLast hne).symm
        have hlast : T.getLast hne = k := by
          rw [e] at hT
          have h2 := (Ri.init hT).2.1
          have h3 := hl _ (List.getLast_mem hne)
          rw [e] at hk
          rcases List.mem_append.1 hk with h4 | h4
          · have := h2 k h4; omega
          · simp at h4; exact h4.symm
        rw [hlast] at e
        exact e
      obtain ⟨T', rfl⟩ := key
      obtain ⟨a, b, c, d⟩ := Ri.init hT
      obtain ⟨x, hx, hp, hr⟩ := ih T' a b
      have tb : (2 ^ k + x).testBit k = true := by rw [Nat.testBit_two_pow_add_eq, Nat.testBit_lt_two_pow hx]; rfl
      obtain ⟨e1, e2⟩ := pl_add x k k (Nat.le_refl _)
      refine ⟨2 ^ k + x, by rw [Nat.pow_succ]; omega, ?_, ?_⟩
      · unfold pl; rw [if_pos tb, e1, hp]
      · unfold rs; rw [if_pos tb, e1, e2, hp, hr]; simpa using c
    · obtain ⟨x, hx, hp, hr⟩ := ih T hT (fun t ht => by
        have := hl t ht
        have : t ≠ k := fun e => hk (e ▸ ht)
        omega)
      refine ⟨x, by rw [Nat.pow_succ]; omega, ?_, ?_⟩
      · rw [pl_high x k (k + 1) hx (by omega)]; exact hp
      · rw [rs_high zs x k (k + 1) hx (by omega)]; exact hr
/-- the best one of the first m choices -/
def bo (zs : List Int) : Nat → List Nat
  | 0 => []
  | m + 1 => if rs zs m zs.length && better (pl m zs.length) (bo zs m) then pl m zs.length else bo zs m
theorem bo_ri (zs : List Int) (m : Nat) : Ri zs (bo zs m) := by
  induction m with
  | zero => trivial
  | succ m ih =>
    unfold bo
    split
    · rename_i c
      simp only [Bool.and_eq_true] at c
      exact rs_ri m _ (Nat.le_refl _) c.1
    · exact ih
theorem bo_best (zs : List Int) (m : Nat) : ∀ b, b < m → rs zs b zs.length = true → better (pl b zs.length) (bo zs m) = false := by
  induction m with
  | zero => intro b hb; omega
  | succ m ih =>
    intro b hb hr
    unfold bo
    by_cases c : (rs zs m zs.length && better (pl m zs.length) (bo zs m)) = true
    · rw [if_pos c]
      simp only [Bool.and_eq_true] at c
      by_cases e : b = m
      · subst e
        unfold better
        simp only [Nat.lt_irrefl, decide_false, decide_true, Bool.false_or, Bool.true_and]
        have irr : ∀ l : List Nat, lx l l = false := by
          intro l
          induction l with
          | nil => rfl
          | cons x l ih => unfold lx; rw [if_pos rfl]; exact ih
        exact irr _
      · have h1 := ih b (by omega) hr
        cases h2 : better (pl b zs.length) (pl m zs.length) with
        | false => rfl
        | true =>
          have := better_trans _ _ _ h2 c.2
          rw [h1] at this
          cases this
    · rw [if_neg c]
      by_cases e : b = m
      · subst e
        rw [hr] at c
        simpa using c
      · exact ih b (by omega) hr
theorem same {zs L : List Int} (h : Rf zs L 0) (hz : ∀ k, k < zs.length → 0 ≤ at' zs k) {M : Int} (hM : ∃ q, q < zs.length ∧ at' L q = M) (hU : ∀ q, q < zs.length → at' L q ≤ M) :
    gr zs L zs.length 0 (-1) M = bo zs (2 ^ zs.length) := by
  obtain ⟨a, b, c⟩ := greedy_best h hz hM hU
  obtain ⟨x, hx, hp, hr⟩ := chosen zs zs.length _ a (fun t ht => a.all_lt t ht)
  have h1 := bo_best zs (2 ^ zs.length) x hx hr
  rw [hp] at h1
  exact better_eq _ _ h1 (c _ (bo_ri zs _))
end St
end Go.Proofs.Ytogkebbgkeffcaa
