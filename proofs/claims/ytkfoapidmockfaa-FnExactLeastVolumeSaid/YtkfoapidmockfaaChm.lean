/- Chapters: how many are odd, the last odd one, numbers without one, products, volumes that are filled as far as can be. -/
namespace Go.Proofs.Ytkfoapidmockfaa
set_option linter.unusedVariables false
namespace Ch
/-! odd chapters -/
def od (zs : List Int) : Nat → Nat
  | 0 => 0
  | k + 1 => od zs k + (if zs.getD k 0 % 2 = 1 then 1 else 0)
theorem od_le (zs : List Int) (k : Nat) : od zs k ≤ k := by
  induction k with
  | zero => exact Nat.le_refl _
  | succ k ih => unfold od; split <;> omega
theorem od_step (zs : List Int) (k : Nat) : ((od zs (k + 1) : Nat) : Int) = (od zs k : Int) + zs.getD k 0 % 2 := by
  show (((od zs k + (if zs.getD k 0 % 2 = 1 then 1 else 0) : Nat)) : Int) = _
  split <;> omega
def lo (zs : List Int) : Nat → Nat
  | 0 => zs.length - 1
  | k + 1 => if zs.getD k 0 % 2 = 1 then k else lo zs k
theorem lo_lt {zs : List Int} (h : 1 ≤ zs.length) (k : Nat) (hk : k ≤ zs.length) : lo zs k < zs.length := by
  induction k with
  | zero => unfold lo; omega
  | succ k ih =>
    have := ih (by omega)
    unfold lo
    split <;> omega
theorem lo_none {zs : List Int} (k : Nat) (h : od zs k = 0) : lo zs k = zs.length - 1 := by
  induction k with
  | zero => rfl
  | succ k ih =>
    unfold od at h
    unfold lo
    split
    · rename_i e; rw [if_pos e] at h; omega
    · exact ih (by omega)
theorem lo_odd {zs : List Int} {k : Nat} (h : zs.getD k 0 % 2 = 1) : lo zs (k + 1) = k := by unfold lo; rw [if_pos h]
theorem lo_even {zs : List Int} {k : Nat} (h : ¬ zs.getD k 0 % 2 = 1) : lo zs (k + 1) = lo zs k := by
  show (if zs.getD k 0 % 2 = 1 then k else lo zs k) = _
  rw [if_neg h]
theorem od_even {zs : List Int} {k : Nat} (h : ¬ zs.getD k 0 % 2 = 1) : od zs (k + 1) = od zs k := by
  show od zs k + (if zs.getD k 0 % 2 = 1 then 1 else 0) = _
  rw [if_neg h]
  rfl
/-- at m, from behind, the last odd one is not yet found -/
def Back (zs : List Int) (m : Nat) : Prop := m < zs.length ∧ lo zs (m + 1) = lo zs zs.length ∧ od zs (m + 1) = od zs zs.length
theorem back_start {zs : List Int} (h : 1 ≤ zs.length) : Back zs (zs.length - 1) := by
  have e : zs.length - 1 + 1 = zs.length := by omega
  exact ⟨by omega, by rw [e], by rw [e]⟩
theorem back_next {zs : List Int} {m : Nat} (h : Back zs (m + 1)) (he : ¬ zs.getD (m + 1) 0 % 2 = 1) : Back zs m :=
  ⟨by have := h.1; omega, by rw [← h.2.1, lo_even he], by rw [← h.2.2, od_even he]⟩
theorem back_odd {zs : List Int} {m : Nat} (h : Back zs m) (he : zs.getD m 0 % 2 = 1) : lo zs zs.length = m := by rw [← h.2.1, lo_odd he]
theorem back_zero {zs : List Int} (h : Back zs 0) (hp : 0 < od zs zs.length) : lo zs zs.length = 0 := by
  refine back_odd h ?_
  rw [← h.2.2] at hp
  unfold od at hp
  rw [show od zs 0 = 0 from rfl] at hp
  by_cases e : zs.getD 0 0 % 2 = 1
  · exact e
  · rw [if_neg e] at hp; omega
/-! numbers without one -/
def ups (n : Nat) : List Int := (List.range n).map (fun k : Nat => (k : Int))
theorem ups_length (n : Nat) : (ups n).length = n := by simp [ups]
theorem ups_succ (n : Nat) : ups (n + 1) = ups n ++ [(n : Int)] := by simp [ups, List.range_succ]
theorem ups_at (n k : Nat) (h : k < n) : (ups n).getD k 0 = (k : Int) := by simp [ups, List.getD, h]
def sk (l : Nat) : Nat → List Int
  | 0 => []
  | k + 1 => if k = l then sk l k else sk l k ++ [(k : Int)]
theorem sk_low {l k : Nat} (h : k ≤ l) : sk l k = ups k := by
  induction k with
  | zero => rfl
  | succ k ih => unfold sk; rw [if_neg (by omega), ih (by omega), ups_succ]
theorem sk_high {l k : Nat} (h : l < k) : sk l k = (ups k).take l ++ (ups k).drop (l + 1) := by
  induction k with
  | zero => omega
  | succ k ih =>
    unfold sk
    by_cases e : k = l
    · subst e
      rw [if_pos rfl, sk_low (Nat.le_refl _), ups_succ, List.take_left' (ups_length k), List.drop_of_length_le (by simp [ups_length]), List.append_nil]
    · rw [if_neg e, ih (by omega), ups_succ, List.take_append_of_le_length (by rw [ups_length]; omega), List.drop_append_of_le_length (by rw [ups_length]; omega), List.append_assoc]
theorem sk_length (l k : Nat) : (sk l k).length ≤ k := by
  induction k with
  | zero => exact Nat.le_refl _
  | succ k ih =>
    unfold sk
    split
    · exact Nat.le_succ_of_le ih
    · simpa using ih
/-! products -/
def G : Nat → Nat
  | 0 => 1
  | j + 1 => G j * (j + 2)
theorem G_le : ∀ j, j ≤ 10 → 1 ≤ G j ∧ G j ≤ 39916800 := by decide
/-! the first greatest -/
def bi (zs : List Int) : Nat → Nat
  | 0 => 0
  | k + 1 => if zs.getD (bi zs k) 0 < zs.getD k 0 then k else bi zs k
theorem bi_lt (zs : List Int) (k : Nat) : bi zs (k + 1) ≤ k := by
  induction k with
  | zero => unfold bi; split <;> exact Nat.le_refl _
  | succ k ih => rw [bi]; split <;> omega
theorem bi_ge (zs : List Int) (k : Nat) : ∀ j, j < k → zs.getD j 0 ≤ zs.getD (bi zs k) 0 := by
  induction k with
  | zero => intro j hj; omega
  | succ k ih =>
    intro j hj
    unfold bi
    by_cases e : zs.getD (bi zs k) 0 < zs.getD k 0
    · rw [if_pos e]
      by_cases ej : j = k
      · subst ej; exact Int.le_refl _
      · have := ih j (by omega); omega
    · rw [if_neg e]
      by_cases ej : j = k
      · subst ej; omega
      · exact ih j (by omega)
theorem bi_first (zs : List Int) (k : Nat) : ∀ j, j < bi zs k → zs.getD j 0 < zs.getD (bi zs k) 0 := by
  induction k with
  | zero => intro j hj; unfold bi at hj; omega
  | succ k ih =>
    intro j hj
    unfold bi at hj ⊢
    by_cases e : zs.getD (bi zs k) 0 < zs.getD k 0
    · rw [if_pos e] at hj ⊢
      have := bi_ge zs k j hj
      omega
    · rw [if_neg e] at hj ⊢
      exact ih j hj
/-! volumes -/
def stp (m : Int) (s : Nat × Int) (z : Int) : Nat × Int := if s.2 < z then (s.1 + 1, m - z) else (s.1, s.2 - z)
def run (m : Int) (s : Nat × Int) (l : List Int) : Nat × Int := l.foldl (stp m) s
def vn (m : Int) (l : List Int) : Nat := (run m (0, 0) l).1
theorem run_nil (m : Int) (s : Nat × Int) : run m s [] = s := rfl
theorem run_cons (m : Int) (s : Nat × Int) (z : Int) (l : List Int) : run m s (z :: l) = run m (stp m s z) l := rfl
theorem run_snoc (m : Int) (s : Nat × Int) (l : List Int) (z : Int) : run m s (l ++ [z]) = stp m (run m s l) z := by simp [run]
theorem take_snoc (l : List Int) (k : Nat) (h : k < l.length) : l.take (k + 1) = l.take k ++ [l.getD k 0] := by
  rw [List.take_succ_eq_append_getElem h]
  simp [List.getD, h]
theorem run_take (m : Int) (s : Nat × Int) (l : List Int) (k : Nat) (h : k < l.length) : run m s (l.take (k + 1)) = stp m (run m s (l.take k)) (l.getD k 0) := by
  rw [take_snoc l k h, run_snoc]
theorem vn_nil (m : Int) : vn m [] = 0 := rfl
def Better (s t : Nat × Int) : Prop := s.1 < t.1 ∨ (s.1 = t.1 ∧ t.2 ≤ s.2)
theorem stp_better {m1 m2 : Int} (hm : m2 ≤ m1) {s t : Nat × Int} (h : Better s t) (ht : t.2 ≤ m2) {z : Int} (hz : 0 ≤ z) : Better (stp m1 s z) (stp m2 t z) ∧ (stp m2 t z).2 ≤ m2 := by
  unfold stp
  unfold Better at *
  by_cases a : s.2 < z <;> by_cases b : t.2 < z <;> simp only [a, b, if_true, if_false] <;> constructor <;> omega
theorem run_better {m1 m2 : Int} (hm : m2 ≤ m1) : ∀ (l : List Int) (s t : Nat × Int), (∀ z ∈ l, 0 ≤ z) → Better s t → t.2 ≤ m2 → Better (run m1 s l) (run m2 t l)
  | [], s, t, _, h, _ => h
  | z :: l, s, t, hl, h, ht => by
    rw [run_cons, run_cons]
    have := stp_better hm h ht (hl z (by simp))
    exact run_better hm l _ _ (fun y hy => hl y (by simp [hy])) this.1 this.2
theorem better_le {s t : Nat × Int} (h : Better s t) : s.1 ≤ t.1 := by unfold Better at h; omega
theorem vn_wider {m1 m2 : Int} (hm : m2 ≤ m1) (h0 : 0 ≤ m2) (l : List Int) (hl : ∀ z ∈ l, 0 ≤ z) : vn m1 l ≤ vn m2 l :=
  better_le (run_better hm l (0, 0) (0, 0) hl (_root_.Or.inr ⟨rfl, Int.le_refl _⟩) h0)
theorem run_shift (m : Int) (a : Nat) : ∀ (l : List Int) (s : Nat × Int), run m (s.1 + a, s.2) l = ((run m s l).1 + a, (run m s l).2)
  | [], s => rfl
  | z :: l, s => by
    rw [run_cons, run_cons, ← run_shift m a l]
    congr 1
    unfold stp
    by_cases h : s.2 < z <;> simp only [h, if_true, if_false] <;> congr 1 <;> omega
theorem run_up (m : Int) : ∀ (l : List Int) (s : Nat × Int), s.1 ≤ (run m s l).1 ∧ (run m s l).1 ≤ s.1 + l.length
  | [], s => by simp [run_nil]
  | z :: l, s => by
    rw [run_cons]
    have := run_up m l (stp m s z)
    have h2 : s.1 ≤ (stp m s z).1 ∧ (stp m s z).1 ≤ s.1 + 1 := by unfold stp; split <;> simp
    simp only [List.length_cons]
    omega
theorem vn_le (m : Int) (l : List Int) : vn m l ≤ l.length := by have := (run_up m l (0, 0)).2; unfold vn; simpa using this
theorem stp_first (m z : Int) (hz : 1 ≤ z) : stp m (0, 0) z = (1, m - z) := by unfold stp; rw [if_pos (by simp only []; omega)]
theorem vn_pos (m z : Int) (l : List Int) (hz : 1 ≤ z) : 1 ≤ vn m (z :: l) := by
  have := (run_up m l (1, m - z)).1
  unfold vn
  rw [run_cons, stp_first m z hz]
  exact this
theorem vn_cons (m z : Int) (l : List Int) (hz : 1 ≤ z) (hm : z ≤ m) (hl : ∀ y ∈ l, 0 ≤ y) : vn m (z :: l) ≤ vn m l + 1 := by
  unfold vn
  rw [run_cons, stp_first m z hz]
  have h := better_le (run_better (Int.le_refl m) l (1, m - z) (1, 0) hl (_root_.Or.inr ⟨rfl, by simp only []; omega⟩) (by simp only []; omega))
  have e := run_shift m 1 l (0, 0)
  rw [show ((0 : Nat) + 1) = 1 from rfl] at e
  simp only [] at e
  rw [e] at h
  exact h
theorem run_room (m : Int) : ∀ (l : List Int) (s : Nat × Int), (∀ z ∈ l, 0 ≤ z) → l.sum ≤ s.2 → (run m s l).1 = s.1
  | [], s, _, _ => rfl
  | z :: l, s, hl, h => by
    have hz := hl z (by simp)
    have hs : 0 ≤ l.sum := by
      have : ∀ (q : List Int), (∀ y ∈ q, 0 ≤ y) → 0 ≤ q.sum := by
        intro q
        induction q with
        | nil => intro _; simp
        | cons a q ih => intro hq; have := ih (fun y hy => hq y (by simp [hy])); have := hq a (by simp); simp; omega
      exact this l (fun y hy => hl y (by simp [hy]))
    simp only [List.sum_cons] at h
    rw [run_cons]
    have e : stp m s z = (s.1, s.2 - z) := by unfold stp; rw [if_neg (by omega)]
    rw [e, run_room m l _ (fun y hy => hl y (by simp [hy])) (by simp only []; omega)]
theorem vn_one (m : Int) (l : List Int) (hl : ∀ z ∈ l, 1 ≤ z) (h : l.sum ≤ m) : vn m l ≤ 1 := by
  cases l with
  | nil => simp [vn_nil]
  | cons z l =>
    unfold vn
    have hz := hl z (by simp)
    rw [run_cons, stp_first m z hz, run_room m l _ (fun y hy => by have := hl y (by simp [hy]); omega) (by simp only [List.sum_cons] at h ⊢; omega)]
    exact Nat.le_refl _
theorem run_room_in {m : Int} : ∀ (l : List Int) (s : Nat × Int), (∀ z ∈ l, 0 ≤ z ∧ z ≤ m) → 0 ≤ s.2 → s.2 ≤ m → 0 ≤ (run m s l).2 ∧ (run m s l).2 ≤ m
  | [], s, _, h1, h2 => ⟨h1, h2⟩
  | z :: l, s, hl, h1, h2 => by
    have hz := hl z (by simp)
    rw [run_cons]
    refine run_room_in l _ (fun y hy => hl y (by simp [hy])) ?_ ?_ <;> unfold stp <;> split <;> simp only [] <;> omega
theorem sum_le (b : Int) : ∀ (l : List Int), (∀ z ∈ l, z ≤ b) → l.sum ≤ b * l.length
  | [], _ => by simp
  | z :: l, h => by
    have := sum_le b l (fun y hy => h y (by simp [hy]))
    have := h z (by simp)
    simp only [List.sum_cons, List.length_cons]
    have e : b * ((l.length + 1 : Nat) : Int) = b * (l.length : Int) + b := by
      rw [Int.natCast_add, Int.mul_add]; simp
    omega
/-- none of them is greater -/
def allLe (m : Int) (l : List Int) : Bool := l.all fun z => decide (z ≤ m)
theorem allLe_iff (m : Int) (l : List Int) : allLe m l = true ↔ ∀ z ∈ l, z ≤ m := by unfold allLe; simp
def cv (m : Int) (l : List Int) : Nat := if allLe m l = true then vn m l else 0
theorem cv_yes {m : Int} {l : List Int} (h : allLe m l = true) : cv m l = vn m l := by unfold cv; rw [if_pos h]
theorem cv_no {m : Int} {l : List Int} (h : allLe m l = false) : cv m l = 0 := by unfold cv; rw [h]; rfl
theorem cv_le (m : Int) (l : List Int) : cv m l ≤ l.length := by unfold cv; split; exact vn_le m l; omega
theorem mem_at {l : List Int} {k : Nat} (h : k < l.length) : l.getD k 0 ∈ l := by simp [List.getD, h]
theorem at_mem {l : List Int} {z : Int} (h : z ∈ l) : ∃ k, k < l.length ∧ l.getD k 0 = z := by
  obtain ⟨k, hk, e⟩ := List.getElem_of_mem h
  exact ⟨k, hk, by simp [List.getD, hk, e]⟩
/-- so many volumes are enough, that great -/
def fit (l : List Int) (v : Int) (m : Nat) : Bool := decide (0 < cv (m : Int) l) && decide ((cv (m : Int) l : Int) ≤ v)
def lst (p : Nat → Bool) : Nat → Nat → Nat
  | 0, k => k
  | f + 1, k => if p k = true then k else lst p f (k + 1)
theorem lst_is {p : Nat → Bool} {K : Nat} (hK : p K = true) : ∀ (f k : Nat), k ≤ K → K < k + f → (∀ u, k ≤ u → u < K → p u = false) → lst p f k = K := by
  intro f
  induction f with
  | zero => intro k h1 h2; omega
  | succ f ih =>
    intro k h1 h2 h
    unfold lst
    by_cases e : k = K
    · subst e; rw [if_pos hK]
    · rw [if_neg (by rw [h k (Nat.le_refl _) (by omega)]; simp)]
      exact ih (k + 1) (by omega) (by omega) (fun u u1 u2 => h u (by omega) u2)
def lv (l : List Int) (v : Int) : Nat := lst (fit l v) 2000 1
theorem lv_is {l : List Int} {v : Int} {K : Nat} (h1 : 1 ≤ K) (h2 : K ≤ 2000) (hK : fit l v K = true) (hl : ∀ u, 1 ≤ u → u < K → fit l v u = false) : lv l v = K :=
  lst_is hK 2000 1 h1 (by omega) hl
/-- lists of chapters -/
def Good (l : List Int) : Prop := l.length ≤ 12 ∧ ∀ z ∈ l, 1 ≤ z ∧ z ≤ 120
theorem Good.drop {l : List Int} (h : Good l) (k : Nat) : Good (l.drop k) :=
  ⟨by have := h.1; simp; omega, fun z hz => h.2 z (List.mem_of_mem_drop hz)⟩
theorem Good.sum {l : List Int} (h : Good l) : l.sum ≤ 1440 := by
  have := sum_le 120 l (fun z hz => (h.2 z hz).2)
  have := h.1
  omega
theorem fit_great {l : List Int} (h : Good l) (h1 : 1 ≤ l.length) {v : Int} (hv : 1 ≤ v) {m : Nat} (hm : 1440 ≤ m) : fit l v m = true := by
  have a : allLe (m : Int) l = true := (allLe_iff _ _).2 fun z hz => by have := h.2 z hz; omega
  have b := vn_one (m : Int) l (fun z hz => (h.2 z hz).1) (by have := h.sum; omega)
  have c : 1 ≤ vn (m : Int) l := by
    cases l with
    | nil => simp at h1
    | cons z l => exact vn_pos _ z l (h.2 z (by simp)).1
  unfold fit
  rw [cv_yes a]
  simp only [Bool.and_eq_true, decide_eq_true_eq]
  omega
theorem fit_small {l : List Int} {v : Int} {m : Nat} {z : Int} (hz : z ∈ l) (h : (m : Int) < z) : fit l v m = false := by
  have a : allLe (m : Int) l = false := by
    rw [Bool.eq_false_iff]
    intro h2
    have := (allLe_iff _ _).1 h2 z hz
    omega
  unfold fit
  rw [cv_no a]
  rfl
theorem fit_vn {l : List Int} (h : Good l) (h1 : 1 ≤ l.length) {v : Int} {m : Nat} (hm : ∀ z ∈ l, z ≤ (m : Int)) : fit l v m = decide ((vn (m : Int) l : Int) ≤ v) := by
  have a : allLe (m : Int) l = true := (allLe_iff _ _).2 hm
  have c : 1 ≤ vn (m : Int) l := by
    cases l with
    | nil => simp at h1
    | cons z l => exact vn_pos _ z l (h.2 z (by simp)).1
  unfold fit
  rw [cv_yes a, show decide (0 < vn (m : Int) l) = true from decide_eq_true (by omega), Bool.true_and]
/-- how many chapters the first volume has -/
def nn (m : Int) (v : Nat) (l : List Int) : Nat := lst (fun n => decide (vn m (l.drop n) < v)) (l.length + 1) 1
theorem nn_is {m : Int} {v : Nat} {l : List Int} {n : Nat} (h1 : 1 ≤ n) (h2 : n ≤ l.length) (hn : vn m (l.drop n) < v) (hl : ∀ u, 1 ≤ u → u < n → v ≤ vn m (l.drop u)) : nn m v l = n :=
  lst_is (by simpa using hn) (l.length + 1) 1 h1 (by omega) (fun u u1 u2 => by have := hl u u1 u2; simp; omega)
def fv (m : Int) : Nat → List Int → List Int
  | 0, l => []
  | v + 1, l => (nn m (v + 1) l : Int) :: fv m v (l.drop (nn m (v + 1) l))
theorem fv_length (m : Int) : ∀ (v : Nat) (l : List Int), (fv m v l).length = v
  | 0, l => rfl
  | v + 1, l => by unfold fv; rw [List.length_cons, fv_length m v]
theorem more_left {m : Int} {v n : Nat} {l : List Int} (h : v + 1 ≤ vn m (l.drop n)) : n < l.length := by
  rcases Nat.lt_or_ge n l.length with h1 | h1
  · exact h1
  · rw [List.drop_of_length_le h1, vn_nil] at h; omega
/-- enough chapters are left for the volumes that follow -/
theorem enough_left {m : Int} {v n : Nat} {l : List Int} (hg : Good l) (hm : ∀ z ∈ l, z ≤ m) (h1 : 1 ≤ n) (hv : v + 1 ≤ l.length) (hl : ∀ u, 1 ≤ u → u < n → v + 1 ≤ vn m (l.drop u)) : v ≤ l.length - n := by
  by_cases e : n = 1
  · subst e; omega
  · have h := hl (n - 1) (by omega) (by omega)
    have hlt := more_left h
    have e2 : l.drop (n - 1) = l[n - 1] :: l.drop n := by
      rw [List.drop_eq_getElem_cons hlt, show n - 1 + 1 = n by omega]
    rw [e2] at h
    have hz : l[n - 1] ∈ l := List.getElem_mem hlt
    have a := vn_cons m l[n - 1] (l.drop n) (hg.2 _ hz).1 (hm _ hz) (fun y hy => by have := (hg.2 y (List.mem_of_mem_drop hy)).1; omega)
    have b := vn_le m (l.drop n)
    rw [List.length_drop] at b
    omega
end Ch
end Go.Proofs.Ytkfoapidmockfaa
