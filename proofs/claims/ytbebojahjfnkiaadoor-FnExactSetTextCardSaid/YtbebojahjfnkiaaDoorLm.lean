/- Mathematics of chapter 7: ways to break, breaks of pages. -/
import Derived.Test.YtbebojahjfnkiaaDoorLnp
namespace Go.Proofs.YtbebojahjfnkiaaDoor
open Go.RowKit Go.Joins Go.Deep Go.ChangeShapes Go.WideShapes
set_option linter.unusedVariables false
set_option linter.unusedSimpArgs false
namespace Ln
/-! how many words a line takes, from none on -/
theorem need_one (zs : List Int) (a : Nat) : need zs a (a + 1) = zs.getD a 0 := by unfold need; rw [psum_step]; omega
theorem cnt_zero {zs : List Int} {wide : Int} {a : Nat} (h : a < zs.length) (hw : zs.getD a 0 ≤ wide) : cntF zs wide a (zs.length - a) 0 = cnt zs wide a := by
  obtain ⟨d, hd⟩ : ∃ d, zs.length - a = d + 1 := ⟨zs.length - a - 1, by omega⟩
  unfold cnt
  rw [hd]
  show (if need zs a (a + 0 + 1) ≤ wide then _ else _) = _
  rw [show a + 0 + 1 = a + 1 by omega, need_one, if_pos hw]
  rfl
theorem getD_app_l (A B : List Int) (k : Nat) (d : Int) (h : k < A.length) : (A ++ B).getD k d = A.getD k d := by simp [List.getD, List.getElem?_append_left h]
theorem getD_app_r (A B : List Int) (k : Nat) (d : Int) (h : A.length ≤ k) : (A ++ B).getD k d = B.getD (k - A.length) d := by simp [List.getD, List.getElem?_append_right h]
/-! lists of numbers, summed -/
def lsum : List Int → Int
  | [] => 0
  | z :: zs => z + lsum zs
theorem lsum_app (a b : List Int) : lsum (a ++ b) = lsum a + lsum b := by
  induction a with
  | nil => simp [lsum]
  | cons x a ih => simp only [List.cons_append, lsum, ih]; omega
theorem lsum_pos {a : List Int} (h : ∀ x ∈ a, 0 ≤ x) : 0 ≤ lsum a := by
  induction a with
  | nil => simp [lsum]
  | cons x a ih =>
    have h1 := h x (by simp)
    have h2 := ih (fun y hy => h y (by simp [hy]))
    simp only [lsum]; omega
theorem lsum_take {a : List Int} (h : ∀ x ∈ a, 0 ≤ x) (k : Nat) : 0 ≤ lsum (a.take k) ∧ lsum (a.take k) ≤ lsum a := by
  have e := lsum_app (a.take k) (a.drop k)
  rw [List.take_append_drop] at e
  have h1 := lsum_pos (a := a.take k) (fun x hx => h x (List.mem_of_mem_take hx))
  have h2 := lsum_pos (a := a.drop k) (fun x hx => h x (List.mem_of_mem_drop hx))
  omega
theorem lsum_take_step (a : List Int) (k : Nat) (h : k < a.length) : lsum (a.take (k + 1)) = lsum (a.take k) + a.getD k 0 := by
  rw [List.take_succ_eq_append_getElem h, lsum_app]
  simp [lsum, List.getD, List.getElem?_eq_getElem h]
/-! the ways to break the words from len - d on, up to the one behind all -/
/-- the first k of a list that are meant, summed -/
def sumI (p : Nat → Bool) (l : List Int) : Nat → Int
  | 0 => 0
  | k + 1 => sumI p l k + (if p k = true then l.getD k 0 else 0)
theorem sumI_step (p : Nat → Bool) (l : List Int) (k : Nat) : sumI p l (k + 1) = sumI p l k + (if p k = true then l.getD k 0 else 0) := rfl
theorem sumI_congr {p q : Nat → Bool} (l : List Int) (k : Nat) (h : ∀ j, j < k → p j = q j) : sumI p l k = sumI q l k := by
  induction k with
  | zero => rfl
  | succ k ih => rw [sumI_step, sumI_step, ih (fun j hj => h j (by omega)), h k (by omega)]
theorem getD_pos {l : List Int} (h : ∀ x ∈ l, 0 ≤ x) (k : Nat) : 0 ≤ l.getD k 0 := by
  by_cases hk : k < l.length
  · have := h l[k] (List.getElem_mem hk)
    simpa [List.getD, List.getElem?_eq_getElem hk] using this
  · simp [List.getD, List.getElem?_eq_none (show l.length ≤ k by omega)]
theorem sumI_bd (p : Nat → Bool) {l : List Int} (h : ∀ x ∈ l, 0 ≤ x) (k : Nat) (hk : k ≤ l.length) : 0 ≤ sumI p l k ∧ sumI p l k ≤ lsum (l.take k) := by
  induction k with
  | zero => simp [sumI, lsum]
  | succ k ih =>
    have h1 := ih (by omega)
    have h2 := getD_pos h k
    rw [sumI_step, lsum_take_step l k (by omega)]
    split <;> omega
def wl (c : Nat → Nat) (p : Nat → Nat → Bool) : Nat → List Int
  | 0 => [1]
  | d + 1 => sumI (p (d + 1)) (wl c p d) (c (d + 1)) :: wl c p d
theorem wl_len (c : Nat → Nat) (p : Nat → Nat → Bool) (d : Nat) : (wl c p d).length = d + 1 := by
  induction d with
  | zero => rfl
  | succ d ih => simp [wl, ih]
theorem wl_congr {c c' : Nat → Nat} {p q : Nat → Nat → Bool} (n : Nat) (hc : ∀ d, 1 ≤ d → d ≤ n → c d = c' d) (h : ∀ d j, 1 ≤ d → d ≤ n → j < c d → p d j = q d j) : ∀ d, d ≤ n → wl c p d = wl c' q d := by
  intro d
  induction d with
  | zero => intro _; rfl
  | succ d ih =>
    intro hd
    simp only [wl]
    rw [ih (by omega), ← hc (d + 1) (by omega) hd, sumI_congr _ _ (fun j hj => h (d + 1) j (by omega) hd hj)]
theorem wl_pos {c : Nat → Nat} (p : Nat → Nat → Bool) (n : Nat) (hc : ∀ d, d ≤ n → c d ≤ d) (d : Nat) (hd : d ≤ n) : (∀ x ∈ wl c p d, 0 ≤ x) ∧ lsum (wl c p d) ≤ ((2 ^ d : Nat) : Int) := by
  induction d with
  | zero => simp [wl, lsum]
  | succ d ih =>
    have ih := ih (by omega)
    have h := lsum_take ih.1 (c (d + 1))
    have h2 := sumI_bd (p (d + 1)) ih.1 (c (d + 1)) (by rw [wl_len]; exact hc _ hd)
    constructor
    · intro x hx
      simp only [wl, List.mem_cons] at hx
      rcases hx with rfl | hx
      · exact h2.1
      · exact ih.1 x hx
    · simp only [wl, lsum]
      have := ih.2
      have e : ((2 ^ (d + 1) : Nat) : Int) = ((2 ^ d : Nat) : Int) + ((2 ^ d : Nat) : Int) := by rw [Nat.pow_succ]; omega
      omega
theorem wl_cell {c : Nat → Nat} (p : Nat → Nat → Bool) (q : Nat → Bool) (n : Nat) (hn : n ≤ 30) (hc : ∀ d, d ≤ n → c d ≤ d) (d k : Nat) (hd : d ≤ n) (hk : k ≤ d + 1) : 0 ≤ sumI q (wl c p d) k ∧ sumI q (wl c p d) k ≤ 1073741824 := by
  have h := wl_pos p n hc d hd
  have h1 := sumI_bd q h.1 k (by rw [wl_len]; exact hk)
  have h2 := lsum_take h.1 k
  have h3 : 2 ^ d ≤ 2 ^ 30 := Nat.pow_le_pow_right (by omega) (by omega)
  have h4 : (2 : Nat) ^ 30 = 1073741824 := by decide
  omega
/-- the table: nothing ahead of the word at m, there s, behind it the ways -/
def tab (m : Nat) (s : Int) (l : List Int) : List Int := List.replicate m 0 ++ s :: l
theorem tab_len (m : Nat) (s : Int) (l : List Int) : (tab m s l).length = m + 1 + l.length := by simp [tab]; omega
theorem tab_at (m : Nat) (s : Int) (l : List Int) : (tab m s l).getD m 0 = s := by
  unfold tab
  rw [getD_app_r _ _ _ _ (by simp)]
  simp
theorem tab_behind (m : Nat) (s : Int) (l : List Int) (j : Nat) : (tab m s l).getD (m + 1 + j) 0 = l.getD j 0 := by
  unfold tab
  rw [getD_app_r _ _ _ _ (by simp; omega)]
  simp only [List.length_replicate]
  rw [show m + 1 + j - m = j + 1 by omega]
  rfl
theorem tab_set (m : Nat) (s s' : Int) (l : List Int) : (Li.nums (tab m s l)).set m (.int .i64 s') = Li.nums (tab m s' l) := by
  unfold tab Li.nums
  rw [List.map_append, List.map_append, List.set_append_right _ _ (by simp)]
  simp
theorem tab_next (m : Nat) (s : Int) (l : List Int) : tab m 0 (s :: l) = List.replicate (m + 1) 0 ++ s :: l := by
  unfold tab
  rw [List.replicate_succ', List.append_assoc]
  rfl
/-- blanks shared out: left ones among k places, greater ones first -/
def shr (left : Int) : Nat → List Int
  | 0 => []
  | k + 1 => ((left + ((k : Int) + 1) - 1) / ((k : Int) + 1)) :: shr (left - (left + ((k : Int) + 1) - 1) / ((k : Int) + 1)) k
theorem shr_len : ∀ (k : Nat) (left : Int), (shr left k).length = k := by
  intro k
  induction k with
  | zero => intro _; rfl
  | succ k ih => intro left; simp [shr, ih]
theorem shr_bd (left : Int) (k : Nat) (h : 0 ≤ left) (h2 : left ≤ 1000) : 0 ≤ (left + ((k : Int) + 1) - 1) / ((k : Int) + 1) ∧ (left + ((k : Int) + 1) - 1) / ((k : Int) + 1) ≤ left := by
  constructor
  · exact Int.ediv_nonneg (by omega) (by omega)
  · have e : left + ((k : Int) + 1) - 1 = left + (k : Int) := by omega
    rw [e]
    have h3 : left + (k : Int) < (left + 1) * ((k : Int) + 1) := by
      have h4 : (left + 1) * ((k : Int) + 1) = left * (k : Int) + left + (k : Int) + 1 := by rw [Int.add_mul, Int.mul_add]; omega
      have h5 : 0 ≤ left * (k : Int) := Int.mul_nonneg h (by omega)
      omega
    have := Int.ediv_lt_of_lt_mul (show (0 : Int) < (k : Int) + 1 by omega) h3
    omega
/-! pages: the breaks are a list that increases -/
def Inc (B : List Int) : Prop := ∀ i j, i < j → j < B.length → B.getD i 0 < B.getD j 0
def bef (B : List Int) (i : Nat) : Int := if i = 0 then 0 else B.getD (i - 1) 0
/-- from break i on: the first one beyond x -/
def rchF (B : List Int) (x : Int) : Nat → Nat → Nat
  | 0, i => i
  | d + 1, i => if B.getD i 0 ≤ x then rchF B x d (i + 1) else i
def rch (B : List Int) (x : Int) (i : Nat) : Nat := rchF B x (B.length - i) i
theorem rchF_bd (B : List Int) (x : Int) : ∀ d i, i ≤ rchF B x d i ∧ rchF B x d i ≤ i + d := by
  intro d
  induction d with
  | zero => intro i; simp [rchF]
  | succ d ih =>
    intro i
    unfold rchF
    split
    · have := ih (i + 1); omega
    · omega
theorem rch_bd (B : List Int) (x : Int) (i : Nat) (h : i ≤ B.length) : i ≤ rch B x i ∧ rch B x i ≤ B.length := by
  have := rchF_bd B x (B.length - i) i
  unfold rch
  omega
theorem rch_more {B : List Int} {x : Int} {i : Nat} (h : i < B.length) (hb : B.getD i 0 ≤ x) : rch B x i = rch B x (i + 1) := by
  unfold rch
  obtain ⟨d, hd⟩ : ∃ d, B.length - i = d + 1 := ⟨B.length - i - 1, by omega⟩
  rw [hd, show B.length - (i + 1) = d by omega]
  show (if _ then _ else _) = _
  rw [if_pos hb]
theorem rch_stop {B : List Int} {x : Int} {i : Nat} (h : i < B.length) (hb : ¬ B.getD i 0 ≤ x) : rch B x i = i := by
  unfold rch
  obtain ⟨d, hd⟩ : ∃ d, B.length - i = d + 1 := ⟨B.length - i - 1, by omega⟩
  rw [hd]
  show (if _ then _ else _) = _
  rw [if_neg hb]
theorem rch_end {B : List Int} {x : Int} {i : Nat} (h : ¬ i < B.length) : rch B x i = i := by
  unfold rch
  rw [show B.length - i = 0 by omega]
  rfl
theorem rch_all (B : List Int) (x : Int) : ∀ d i, B.length - i ≤ d → i ≤ B.length → (∀ j, i ≤ j → j < rch B x i → B.getD j 0 ≤ x) ∧ (rch B x i < B.length → ¬ B.getD (rch B x i) 0 ≤ x) := by
  intro d
  induction d with
  | zero =>
    intro i h h2
    rw [rch_end (by omega)]
    exact ⟨fun j h1 h2 => by omega, fun h => by omega⟩
  | succ d ih =>
    intro i h h2
    by_cases hi : i < B.length
    · by_cases hb : B.getD i 0 ≤ x
      · rw [rch_more hi hb]
        obtain ⟨p, q⟩ := ih (i + 1) (by omega) (by omega)
        refine ⟨fun j h1 h2 => ?_, q⟩
        by_cases e : j = i
        · subst e; exact hb
        · exact p j (by omega) h2
      · rw [rch_stop hi hb]
        exact ⟨fun j h1 h2 => by omega, fun _ => hb⟩
    · rw [rch_end hi]
      exact ⟨fun j h1 h2 => by omega, fun h => by omega⟩
/-- the breaks behind the pages from break i on, with the last one; none if a page would have no line -/
def pgF (B : List Int) (lines : Int) : Nat → Nat → Option (List Int)
  | 0, _ => some []
  | f + 1, i => if i < B.length then
      if rch B (bef B i + lines) i = i then none
      else (pgF B lines f (rch B (bef B i + lines) i)).map fun l => B.getD (rch B (bef B i + lines) i - 1) 0 :: l
    else some []
theorem pgF_fuel (B : List Int) (lines : Int) : ∀ f i, B.length - i ≤ f → pgF B lines f i = pgF B lines (B.length - i) i := by
  intro f
  induction f using Nat.strongRecOn with
  | ind f ih =>
    intro i hf
    by_cases h : i < B.length
    · obtain ⟨f', rfl⟩ : ∃ f', f = f' + 1 := ⟨f - 1, by omega⟩
      obtain ⟨d, hd⟩ : ∃ d, B.length - i = d + 1 := ⟨B.length - i - 1, by omega⟩
      have hb := rch_bd B (bef B i + lines) i (by omega)
      rw [hd]
      unfold pgF
      rw [if_pos h, if_pos h]
      by_cases e : rch B (bef B i + lines) i = i
      · rw [if_pos e, if_pos e]
      · rw [if_neg e, if_neg e, ih f' (by omega) _ (by omega)]
        by_cases e2 : d < f' + 1
        · rw [ih d (by omega) _ (by omega)]
        · omega
    · rw [show B.length - i = 0 by omega]
      cases f with
      | zero => rfl
      | succ f => unfold pgF; rw [if_neg h]
def pg (B : List Int) (lines : Int) (i : Nat) : Option (List Int) := pgF B lines (B.length - i) i
theorem pg_end {B : List Int} {lines : Int} {i : Nat} (h : ¬ i < B.length) : pg B lines i = some [] := by unfold pg; rw [show B.length - i = 0 by omega]; rfl
theorem pg_none {B : List Int} {lines : Int} {i : Nat} (h : i < B.length) (e : rch B (bef B i + lines) i = i) : pg B lines i = none := by
  unfold pg
  obtain ⟨d, hd⟩ : ∃ d, B.length - i = d + 1 := ⟨B.length - i - 1, by omega⟩
  rw [hd]
  show (if i < B.length then _ else _) = _
  rw [if_pos h, if_pos e]
theorem pg_step {B : List Int} {lines : Int} {i : Nat} (h : i < B.length) (e : ¬ rch B (bef B i + lines) i = i) : pg B lines i = (pg B lines (rch B (bef B i + lines) i)).map fun l => B.getD (rch B (bef B i + lines) i - 1) 0 :: l := by
  have hb := rch_bd B (bef B i + lines) i (by omega)
  unfold pg
  obtain ⟨d, hd⟩ : ∃ d, B.length - i = d + 1 := ⟨B.length - i - 1, by omega⟩
  rw [hd]
  show (if i < B.length then _ else _) = _
  rw [if_pos h, if_neg e, pgF_fuel B lines d _ (by omega)]
/-- the program's breaks of one paragraph of n, P lines before it, but the last one: behind lines 2 to n - 2 -/
def ib1 (P : Int) : Nat → List Int
  | 0 => []
  | j + 1 => ib1 P j ++ [P + ((j : Int) + 2)]
theorem ib1_len (P : Int) (j : Nat) : (ib1 P j).length = j := by
  induction j with
  | zero => rfl
  | succ j ih => simp [ib1, ih]
/-- the program's breaks of the first k paragraphs -/
def ibA (zs : List Int) : Nat → List Int
  | 0 => []
  | k + 1 => ibA zs k ++ (ib1 (psum zs k) ((zs.getD k 0).toNat - 3) ++ [psum zs (k + 1)])
theorem ibA_step (zs : List Int) (k : Nat) : ibA zs (k + 1) = ibA zs k ++ (ib1 (psum zs k) ((zs.getD k 0).toNat - 3) ++ [psum zs (k + 1)]) := rfl
theorem al1_mid (P n : Int) (last : Bool) : ∀ j : Nat, (j : Int) ≤ n - 1 → al1 P n last j = ib1 P (if (j : Int) = n - 1 then j - 2 else j - 1) := by
  intro j
  induction j with
  | zero => intro _; simp [al1, ib1]
  | succ j ih =>
    intro hj
    have hc : ((j + 1 : Nat) : Int) = (j : Int) + 1 := by omega
    rw [al1_step, ih (by omega), if_neg (by omega)]
    by_cases c1 : j = 0
    · subst c1
      have : skp n last 0 = true := by simp [skp]; omega
      rw [if_pos this]
      simp [ib1]
    · by_cases c2 : (j : Int) + 1 = n - 1
      · have : skp n last j = true := by simp [skp]; omega
        rw [if_pos this, if_pos (by omega), List.append_nil]
        congr 1
      · have : ¬ skp n last j = true := by simp [skp]; omega
        rw [if_neg this, if_neg (by omega)]
        obtain ⟨i, rfl⟩ : ∃ i, j = i + 1 := ⟨j - 1, by omega⟩
        simp only [Nat.add_sub_cancel, ib1]
        congr 2
theorem al1_whole (P : Int) (n : Nat) (last : Bool) (h : 1 ≤ n) : al1 P (n : Int) last n = ib1 P (n - 3) ++ (if last = true then [] else [P + (n : Int)]) := by
  obtain ⟨j, rfl⟩ : ∃ j, n = j + 1 := ⟨n - 1, by omega⟩
  rw [al1_step, al1_mid P ((j + 1 : Nat) : Int) last j (by omega), if_pos (by omega)]
  rw [show j + 1 - 3 = j - 2 by omega]
  congr 1
  cases last
  · have : ¬ skp ((j + 1 : Nat) : Int) false j = true := by simp [skp]
    rw [if_neg this]
    simp
  · have : skp ((j + 1 : Nat) : Int) true j = true := by simp [skp]
    rw [if_pos this]
    simp
theorem psum_nat {zs : List Int} (h : ∀ k, k < zs.length → 0 ≤ zs.getD k 0) (k : Nat) (hk : k < zs.length) : psum zs k + ((zs.getD k 0).toNat : Int) = psum zs (k + 1) := by
  rw [psum_step]
  have := h k hk
  omega
theorem alA_ib {zs : List Int} (h : ∀ k, k < zs.length → 1 ≤ zs.getD k 0) : ∀ k, k < zs.length → alA zs k = ibA zs k := by
  intro k
  induction k with
  | zero => intro _; rfl
  | succ k ih =>
    intro hk
    have h1 := h k (by omega)
    rw [alA_step, ibA_step, ih (by omega)]
    congr 1
    obtain ⟨n, hn⟩ := Int.eq_ofNat_of_zero_le (show 0 ≤ zs.getD k 0 by omega)
    rw [psum_step, hn, Int.toNat_natCast, al1_whole _ _ _ (by omega)]
    rw [show decide (k + 1 = zs.length) = false by simp; omega]
    simp
theorem alA_all {zs : List Int} (h : ∀ k, k < zs.length → 1 ≤ zs.getD k 0) (h1 : 1 ≤ zs.length) : ibA zs zs.length = alA zs zs.length ++ [psum zs zs.length] := by
  obtain ⟨k, hk⟩ : ∃ k, zs.length = k + 1 := ⟨zs.length - 1, by omega⟩
  have h2 := h k (by omega)
  rw [hk, alA_step, ibA_step, alA_ib h k (by omega)]
  obtain ⟨n, hn⟩ := Int.eq_ofNat_of_zero_le (show 0 ≤ zs.getD k 0 by omega)
  rw [hn, Int.toNat_natCast, al1_whole _ _ _ (by omega), hk]
  simp
/-! they increase -/
theorem inc_app {A B : List Int} (hA : Inc A) (hB : Inc B) (hAB : ∀ i j, i < A.length → j < B.length → A.getD i 0 < B.getD j 0) : Inc (A ++ B) := by
  intro i j hij hj
  rw [List.length_append] at hj
  by_cases h1 : j < A.length
  · rw [getD_app_l _ _ _ _ h1, getD_app_l _ _ _ _ (by omega)]
    exact hA i j hij h1
  · rw [getD_app_r _ _ _ _ (by omega : A.length ≤ j)]
    by_cases h2 : i < A.length
    · rw [getD_app_l _ _ _ _ h2]
      exact hAB i _ h2 (by omega)
    · rw [getD_app_r _ _ _ _ (by omega : A.length ≤ i)]
      exact hB _ _ (by omega) (by omega)
theorem ib1_at (P : Int) (j k : Nat) (h : k < j) : (ib1 P j).getD k 0 = P + ((k : Int) + 2) := by
  induction j with
  | zero => omega
  | succ j ih =>
    unfold ib1
    by_cases e : k < j
    · rw [getD_app_l _ _ _ _ (by rw [ib1_len]; exact e)]
      exact ih e
    · obtain rfl : k = j := by omega
      rw [getD_app_r _ _ _ _ (by rw [ib1_len]; omega), ib1_len, Nat.sub_self]
      rfl
theorem inc_ib1 (P : Int) (j : Nat) : Inc (ib1 P j) := by
  intro a b hab hb
  rw [ib1_len] at hb
  rw [ib1_at P j a (by omega), ib1_at P j b hb]
  omega
theorem inc_par (P n : Int) (hn : 1 ≤ n) : Inc (ib1 P (n.toNat - 3) ++ [P + n]) ∧ ∀ i, i < (ib1 P (n.toNat - 3) ++ [P + n]).length → P < (ib1 P (n.toNat - 3) ++ [P + n]).getD i 0 ∧ (ib1 P (n.toNat - 3) ++ [P + n]).getD i 0 ≤ P + n := by
  constructor
  · refine inc_app (inc_ib1 _ _) (fun i j hij hj => by simp at hj; omega) (fun i j hi hj => ?_)
    simp at hj
    subst hj
    rw [ib1_len] at hi
    rw [ib1_at _ _ _ hi]
    simp
    omega
  · intro i hi
    rw [List.length_append, ib1_len] at hi
    by_cases h : i < n.toNat - 3
    · rw [getD_app_l _ _ _ _ (by rw [ib1_len]; exact h), ib1_at _ _ _ h]
      omega
    · rw [getD_app_r _ _ _ _ (by rw [ib1_len]; omega), ib1_len]
      simp at hi
      rw [show i - (n.toNat - 3) = 0 by omega]
      simp
      omega
theorem ibA_inc {zs : List Int} (h : ∀ k, k < zs.length → 1 ≤ zs.getD k 0) : ∀ k, k ≤ zs.length → Inc (ibA zs k) ∧ ∀ i, i < (ibA zs k).length → 0 < (ibA zs k).getD i 0 ∧ (ibA zs k).getD i 0 ≤ psum zs k := by
  intro k
  induction k with
  | zero => intro _; exact ⟨fun i j _ hj => by simp [ibA] at hj, fun i hi => by simp [ibA] at hi⟩
  | succ k ih =>
    intro hk
    obtain ⟨h1, h2⟩ := ih (by omega)
    have hp := h k (by omega)
    have ps := psum_step zs k
    have hq := inc_par (psum zs k) (zs.getD k 0) hp
    have hP : 0 ≤ psum zs k := by
      by_cases e : k = 0
      · subst e; exact Int.le_refl 0
      · have hl : 0 < (ibA zs k).length := by
          obtain ⟨j, rfl⟩ : ∃ j, k = j + 1 := ⟨k - 1, by omega⟩
          rw [ibA_step]
          simp only [List.length_append, List.length_cons, List.length_nil]
          omega
        have := h2 ((ibA zs k).length - 1) (by omega)
        omega
    rw [ibA_step, ps]
    refine ⟨inc_app h1 hq.1 (fun i j hi hj => ?_), fun i hi => ?_⟩
    · have a := h2 i hi
      have b := hq.2 j hj
      omega
    · rw [List.length_append] at hi
      by_cases e : i < (ibA zs k).length
      · rw [getD_app_l _ _ _ _ e]
        have := h2 i e
        omega
      · rw [getD_app_r _ _ _ _ (by omega)]
        have := hq.2 (i - (ibA zs k).length) (by omega)
        omega
end Ln
end Go.Proofs.YtbebojahjfnkiaaDoor
