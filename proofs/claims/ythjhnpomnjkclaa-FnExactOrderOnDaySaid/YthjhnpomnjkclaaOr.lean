/- Orders by what has been read: each next one is put behind those who have read as much or more; and the same by exchanges of neighbours. -/
import Derived.Sort.WalkA
namespace Go.Proofs.Ythjhnpomnjkclaa
open Go.Sort
set_option linter.unusedVariables false
set_option linter.unusedSimpArgs false
namespace Or
/-- where x goes among the first a of a list: ahead of those at its end that have less -/
def atOf {α : Type} [Inhabited α] (M : α → Int) (x : α) (L : List α) : Nat → Nat
  | 0 => 0
  | a + 1 => if M L[a]! < M x then atOf M x L a else a + 1
theorem atOf_le {α : Type} [Inhabited α] (M : α → Int) (x : α) (L : List α) (a : Nat) : atOf M x L a ≤ a := by
  induction a with
  | zero => exact Nat.le_refl _
  | succ a ih => unfold atOf; split <;> omega
theorem atOf_pre {α : Type} [Inhabited α] (M : α → Int) (x : α) (L R : List α) (a : Nat) (h : a ≤ L.length) : atOf M x (L ++ R) a = atOf M x L a := by
  induction a with
  | zero => rfl
  | succ a ih =>
    unfold atOf
    rw [show (L ++ R)[a]! = L[a]! by simp [List.getElem?_append_left (show a < L.length by omega)], ih (by omega)]
/-- x put into a list -/
def put {α : Type} [Inhabited α] (M : α → Int) (L : List α) (x : α) : List α := L.take (atOf M x L L.length) ++ x :: L.drop (atOf M x L L.length)
theorem put_length {α : Type} [Inhabited α] (M : α → Int) (L : List α) (x : α) : (put M L x).length = L.length + 1 := by
  have := atOf_le M x L L.length
  unfold put
  simp
  omega
theorem put_snoc_lt {α : Type} [Inhabited α] (M : α → Int) (L : List α) (y x : α) (h : M y < M x) : put M (L ++ [y]) x = put M L x ++ [y] := by
  have hl := atOf_le M x L L.length
  have e : atOf M x (L ++ [y]) (L ++ [y]).length = atOf M x L L.length := by
    rw [show (L ++ [y]).length = L.length + 1 by simp]
    rw [atOf, show (L ++ [y])[L.length]! = y by simp, if_pos h, atOf_pre M x L [y] _ (Nat.le_refl _)]
  unfold put
  rw [e, List.take_append_of_le_length hl, List.drop_append_of_le_length hl]
  simp
theorem put_snoc_ge {α : Type} [Inhabited α] (M : α → Int) (L : List α) (y x : α) (h : ¬ M y < M x) : put M (L ++ [y]) x = L ++ [y] ++ [x] := by
  have e : atOf M x (L ++ [y]) (L ++ [y]).length = L.length + 1 := by
    rw [show (L ++ [y]).length = L.length + 1 by simp]
    rw [atOf, show (L ++ [y])[L.length]! = y by simp, if_neg h]
  unfold put
  rw [e, List.take_of_length_le (by simp), List.drop_of_length_le (by simp)]
/-- all of a list, put one after the other -/
def ord {α : Type} [Inhabited α] (M : α → Int) (xs : List α) : List α := xs.foldl (put M) []
theorem ord_snoc {α : Type} [Inhabited α] (M : α → Int) (xs : List α) (x : α) : ord M (xs ++ [x]) = put M (ord M xs) x := by simp [ord]
theorem ord_length {α : Type} [Inhabited α] (M : α → Int) (xs : List α) : (ord M xs).length = xs.length := by
  have key : ∀ (xs L : List α), (xs.foldl (put M) L).length = L.length + xs.length := by
    intro xs
    induction xs with
    | nil => intro L; rfl
    | cons x xs ih => intro L; rw [List.foldl_cons, ih, put_length]; simp; omega
  have := key xs []
  simpa [ord] using this
/-- .. and what is told of them -/
theorem atOf_map {α β : Type} [Inhabited α] [Inhabited β] (f : α → β) (M : β → Int) (x : α) (L : List α) (a : Nat) (h : a ≤ L.length) : atOf M (f x) (L.map f) a = atOf (fun y => M (f y)) x L a := by
  induction a with
  | zero => rfl
  | succ a ih =>
    unfold atOf
    rw [show (L.map f)[a]! = f L[a]! by simp [List.getElem?_eq_getElem (show a < L.length by omega)], ih (by omega)]
theorem put_map {α β : Type} [Inhabited α] [Inhabited β] (f : α → β) (M : β → Int) (L : List α) (x : α) : put M (L.map f) (f x) = (put (fun y => M (f y)) L x).map f := by
  unfold put
  rw [show (L.map f).length = L.length by simp, atOf_map f M x L L.length (Nat.le_refl _)]
  simp [List.map_take, List.map_drop]
theorem ord_map {α β : Type} [Inhabited α] [Inhabited β] (f : α → β) (M : β → Int) (xs : List α) : ord M (xs.map f) = (ord (fun y => M (f y)) xs).map f := by
  have key : ∀ (xs L : List α), (xs.map f).foldl (put M) (L.map f) = ((xs.foldl (put fun y => M (f y)) L)).map f := by
    intro xs
    induction xs with
    | nil => intro L; rfl
    | cons x xs ih => intro L; rw [List.map_cons, List.foldl_cons, List.foldl_cons, put_map, ih]
  exact key xs []
theorem at_mid {α : Type} [Inhabited α] (A B : List α) (x : α) (d : Array α) (h : d.toList = A ++ x :: B) (j : Nat) (hj : j = A.length) : d[j]! = x := by
  subst hj
  have hs : A.length < d.size := by rw [← Array.length_toList, h]; simp
  rw [getElem!_pos d _ hs, ← Array.getElem_toList]
  simp [h]
theorem swp_mid {α : Type} [Inhabited α] (A B : List α) (y x : α) (d : Array α) (h : d.toList = A ++ y :: x :: B) : (swp d (A.length + 1) A.length).toList = A ++ x :: y :: B := by
  have e0 : d[A.length]! = y := at_mid A (x :: B) y d h _ rfl
  have e1 : d[A.length + 1]! = x := at_mid (A ++ [y]) B x d (by simpa using h) _ (by simp)
  unfold swp
  rw [e0, e1, Array.toList_setIfInBounds, Array.toList_setIfInBounds, h]
  simp [List.set_append]
theorem inner {α : Type} [Inhabited α] (M : α → Int) (lt : α → α → Bool) (hlt : ∀ x y, lt x y = decide (M y < M x)) (x : α) (n : Nat) : ∀ (A B : List α) (d : Array α), A.length = n → d.toList = A ++ x :: B → (insInner lt 0 n d).toList = put M A x ++ B := by
  induction n with
  | zero =>
    intro A B d hA hd
    obtain rfl : A = [] := List.eq_nil_of_length_eq_zero hA
    rw [insInner, hd]
    rfl
  | succ n ih =>
    intro A B d hA hd
    have hne : A ≠ [] := by intro h; rw [h] at hA; simp at hA
    obtain ⟨L, y, rfl⟩ : ∃ L y, A = L ++ [y] := ⟨A.dropLast, A.getLast hne, (List.dropLast_concat_getLast hne).symm⟩
    have hL : L.length = n := by simpa using hA
    have hd2 : d.toList = L ++ y :: x :: B := by simpa using hd
    have e0 : d[n]! = y := at_mid L (x :: B) y d hd2 _ hL.symm
    have e1 : d[n + 1]! = x := at_mid (L ++ [y]) B x d (by simpa using hd2) _ (by simp [hL])
    rw [insInner, e0, e1, hlt]
    by_cases h : M y < M x
    · rw [if_pos (by simp [h]), put_snoc_lt M L y x h]
      have := swp_mid L B y x d hd2
      rw [hL] at this
      rw [ih L (y :: B) _ hL this]
      simp
    · rw [if_neg (by simp [h]), put_snoc_ge M L y x h, hd2]
      simp
theorem outer {α : Type} [Inhabited α] (M : α → Int) (lt : α → α → Bool) (hlt : ∀ x y, lt x y = decide (M y < M x)) (xs : List α) : ∀ (k : Nat) (i : Nat) (d : Array α), xs.length = i + k → d.toList = ord M (xs.take i) ++ xs.drop i → (insOuter lt 0 xs.length i d).toList = ord M xs := by
  intro k
  induction k with
  | zero =>
    intro i d hl hd
    rw [insOuter_stop _ _ _ _ _ (by omega), hd, List.drop_of_length_le (by omega), List.take_of_length_le (by omega), List.append_nil]
  | succ k ih =>
    intro i d hl hd
    have hi : i < xs.length := by omega
    rw [insOuter_go _ _ _ _ _ hi]
    refine ih (i + 1) _ (by omega) ?_
    have hd2 : d.toList = ord M (xs.take i) ++ xs[i] :: xs.drop (i + 1) := by rw [hd, List.drop_eq_getElem_cons hi]
    rw [inner M lt hlt xs[i] i _ _ d (by rw [ord_length]; simp; omega) hd2, List.take_succ_eq_append_getElem hi, ord_snoc]
theorem sorted {α : Type} [Inhabited α] (M : α → Int) (lt : α → α → Bool) (hlt : ∀ x y, lt x y = decide (M y < M x)) (d : Array α) : (insertionSort lt d 0 d.size).toList = ord M d.toList := by
  unfold insertionSort
  by_cases h : 0 < d.size
  · have := outer M lt hlt d.toList (d.size - 1) 1 d (by rw [Array.length_toList]; omega) (by
      have hne : d.toList ≠ [] := by intro hh; have := congrArg List.length hh; rw [Array.length_toList] at this; simp at this; rw [this] at h; simp at h
      obtain ⟨x, xs, hx⟩ := List.exists_cons_of_ne_nil hne
      rw [hx]
      rfl)
    simpa using this
  · rw [insOuter_stop _ _ _ _ _ (by omega)]
    have : d.toList = [] := List.eq_nil_of_length_eq_zero (by rw [Array.length_toList]; omega)
    rw [this]
    rfl
end Or
end Go.Proofs.Ythjhnpomnjkclaa
