/- Plain mathematics on how numbers are parsed: how a text is split and cut, how numbers are read from both sides, and that they are read back. -/
import Derived.Test.YtlghonnakokioaaDoorIt
import Derived.Lib.AtoiAll
import Derived.Lib.Split
import Derived.Lib.SplitLaws
import Derived.Lib.CountLaws
import Derived.Lib.IndexMore
namespace Go.Proofs.YtlghonnakokioaaDoor
namespace P
/-- the parts of a list between the bytes c -/
def sp (c : UInt8) : List UInt8 → List (List UInt8)
  | [] => [[]]
  | x :: xs => if x = c then [] :: sp c xs else (x :: (sp c xs).headD []) :: (sp c xs).tail
theorem sp_pos (c : UInt8) (l : List UInt8) : 0 < (sp c l).length := by
  cases l with
  | nil => simp [sp]
  | cons x xs => unfold sp; split <;> simp
theorem sp_le (c : UInt8) (l : List UInt8) : (sp c l).length ≤ l.length + 1 := by
  induction l with
  | nil => simp [sp]
  | cons x xs ih =>
    have := sp_pos c xs
    unfold sp
    split
    · simp; omega
    · simp; omega
theorem sp_miss (c : UInt8) (l : List UInt8) (h : c ∉ l) : sp c l = [l] := by
  induction l with
  | nil => rfl
  | cons x xs ih =>
    simp only [List.mem_cons, not_or] at h
    rw [sp, if_neg (fun e => h.1 e.symm), ih h.2]
    rfl
theorem sp_hit (c : UInt8) (a r : List UInt8) (h : c ∉ a) : sp c (a ++ c :: r) = a :: sp c r := by
  induction a with
  | nil => rw [List.nil_append, sp, if_pos rfl]
  | cons x xs ih =>
    simp only [List.mem_cons, not_or] at h
    rw [List.cons_append, sp, if_neg (fun e => h.1 e.symm), ih h.2]
    rfl
theorem cases_of (c : UInt8) (l : List UInt8) : c ∉ l ∨ ∃ a r, l = a ++ c :: r ∧ c ∉ a := by
  by_cases h : c ∈ l
  · obtain ⟨a, r, e, ha⟩ := List.eq_append_cons_of_mem h
    exact Or.inr ⟨a, r, e, ha⟩
  · exact Or.inl h
theorem idx_miss (c : UInt8) (l : List UInt8) (h : c ∉ l) : Lib.index l [c] = -1 := by
  induction l with
  | nil => rfl
  | cons x xs ih =>
    simp only [List.mem_cons, not_or] at h
    rw [Lib.index, ih h.2]
    have e : [c].isPrefixOf (x :: xs) = false := by simp [List.isPrefixOf, h.1]
    rw [e]
    rfl
theorem idx_hit (c : UInt8) (a r : List UInt8) (h : c ∉ a) : Lib.index (a ++ c :: r) [c] = (a.length : Int) := by
  induction a with
  | nil => rw [List.nil_append, Lib.index]; simp [List.isPrefixOf]
  | cons x xs ih =>
    simp only [List.mem_cons, not_or] at h
    rw [List.cons_append, Lib.index, ih h.2]
    have e : [c].isPrefixOf (x :: (xs ++ c :: r)) = false := by simp [List.isPrefixOf, h.1]
    have e2 : ((xs.length : Int) == -1) = false := by simp
    rw [e, e2]
    simp
theorem cut_miss (c : UInt8) (l : List UInt8) (h : c ∉ l) : Lib.cut l [c] = (l, [], false) := by
  unfold Lib.cut
  rw [idx_miss c l h, if_neg (by omega)]
theorem cut_hit (c : UInt8) (a r : List UInt8) (h : c ∉ a) : Lib.cut (a ++ c :: r) [c] = (a, r, true) := by
  unfold Lib.cut
  rw [idx_hit c a r h, if_pos (by omega), Int.toNat_natCast]
  simp
/-- the library's split at one byte -/
theorem split_eq (c : UInt8) : ∀ (k : Nat) (s : ByteArray), s.size ≤ k → (Lib.splitB ⟨#[c]⟩ 0 (Lib.countB s ⟨#[c]⟩) s).map (·.data.toList) = sp c s.data.toList := by
  intro k
  induction k with
  | zero =>
    intro s hs
    have e : s.data.toList = [] := List.eq_nil_of_length_eq_zero (by
      have : s.data.toList.length = s.size := rfl
      omega)
    have h1 : Lib.indexB s ⟨#[c]⟩ = -1 := by unfold Lib.indexB; rw [e]; exact idx_miss c [] (by simp)
    rw [Lib.splitB_miss _ _ _ _ h1, e]
    simp [sp, e]
  | succ k ih =>
    intro s hs
    have hl : s.data.toList.length = s.size := rfl
    rcases cases_of c s.data.toList with h | ⟨a, r, e, ha⟩
    · have h1 : Lib.indexB s ⟨#[c]⟩ = -1 := by unfold Lib.indexB; exact idx_miss c _ h
      rw [Lib.splitB_miss _ _ _ _ h1, sp_miss c _ h]
      rfl
    · have h1 : Lib.indexB s ⟨#[c]⟩ = (a.length : Int) := by unfold Lib.indexB; rw [e]; exact idx_hit c a r ha
      have hc := Lib.countB_hit s ⟨#[c]⟩ a.length (Nat.le_refl 1) h1
      have hz : (⟨#[c]⟩ : ByteArray).size = 1 := rfl
      rw [hz] at hc
      rw [hc, Nat.add_comm 1, Lib.splitB_hit _ _ _ _ _ h1, hz, List.map_cons]
      have hr : (s.extract (a.length + 1) s.size).data.toList = r := by
        rw [Lib.extract_to_end, e]; simp
      have hs2 : (s.extract (a.length + 1) s.size).size ≤ k := by
        have : (s.extract (a.length + 1) s.size).data.toList.length = (s.extract (a.length + 1) s.size).size := rfl
        rw [hr] at this
        rw [e] at hl
        simp at hl
        omega
      rw [ih _ hs2, hr, e, sp_hit c a r ha]
      congr 1
      rw [Lib.extract_data, e]
      simp
/-- what spec reads of a number -/
def isD (c : UInt8) : Bool := 48 ≤ c.toNat && c.toNat ≤ 57
def val (p : List UInt8) : Int := p.foldl (fun n c => 10 * n + ((c.toNat : Int) - 48)) 0
def rdS (p : List UInt8) : Int := if 1 ≤ p.length ∧ p.length ≤ 6 ∧ ¬ (p.headD 0 = 48 ∧ 1 < p.length) ∧ p.all isD = true then val p else -1
theorem digit_val (k : Nat) (h : k < 10) : (digit k).toNat = 48 + k := by
  unfold digit
  simp [UInt8.toNat_ofNat']
  omega
theorem decN_cases (n : Nat) (h : n ≤ 2000) (h1 : 1 ≤ n) : decN n = [digit n] ∧ n < 10 ∨ decN n = [digit (n / 10), digit (n % 10)] ∧ 10 ≤ n ∧ n < 100 ∨
    decN n = [digit (n / 100), digit (n / 10 % 10), digit (n % 10)] ∧ 100 ≤ n ∧ n < 1000 ∨ decN n = [digit (n / 1000), digit (n / 100 % 10), digit (n / 10 % 10), digit (n % 10)] ∧ 1000 ≤ n := by
  by_cases a : n < 10
  · exact Or.inl ⟨decN_small a, a⟩
  · by_cases b : n < 100
    · exact Or.inr (Or.inl ⟨by rw [decN_great a, decN_small (by omega)]; rfl, by omega, b⟩)
    · by_cases c : n < 1000
      · exact Or.inr (Or.inr (Or.inl ⟨by rw [decN_great a, decN_great (n := n / 10) (by omega), decN_small (n := n / 10 / 10) (by omega), Nat.div_div_eq_div_mul]; rfl, by omega, c⟩))
      · exact Or.inr (Or.inr (Or.inr ⟨by rw [decN_great a, decN_great (n := n / 10) (by omega), decN_great (n := n / 10 / 10) (by omega), decN_small (n := n / 10 / 10 / 10) (by omega)]; simp only [Nat.div_div_eq_div_mul]; rfl, by omega⟩))
theorem rdS_dec (n : Nat) (h1 : 1 ≤ n) (h : n ≤ 2000) : rdS (decN n) = (n : Int) := by
  have d := fun k hk => digit_val k hk
  have e0 : ∀ k, k < 10 → 1 ≤ k → digit k ≠ 48 := fun k hk h1 e => by
    have := d k hk; rw [e] at this; simp at this; omega
  have eD : ∀ k, k < 10 → isD (digit k) = true := fun k hk => by unfold isD; rw [d k hk]; simp; omega
  rcases decN_cases n h h1 with ⟨e, hh⟩ | ⟨e, ha, hb⟩ | ⟨e, ha, hb⟩ | ⟨e, ha⟩
  · rw [e]; unfold rdS val
    rw [if_pos ⟨by simp, by simp, by simp, by simp [eD n hh]⟩]
    simp only [List.foldl]; rw [d n hh]; omega
  · rw [e]; unfold rdS val
    rw [if_pos ⟨by simp, by simp, by simp [e0 (n / 10) (by omega) (by omega)], by simp [eD (n / 10) (by omega), eD (n % 10) (by omega)]⟩]
    simp only [List.foldl]; rw [d (n / 10) (by omega), d (n % 10) (by omega)]; omega
  · rw [e]; unfold rdS val
    rw [if_pos ⟨by simp, by simp, by simp [e0 (n / 100) (by omega) (by omega)], by simp [eD (n / 100) (by omega), eD (n / 10 % 10) (by omega), eD (n % 10) (by omega)]⟩]
    simp only [List.foldl]; rw [d (n / 100) (by omega), d (n / 10 % 10) (by omega), d (n % 10) (by omega)]; omega
  · rw [e]; unfold rdS val
    rw [if_pos ⟨by simp, by simp, by simp [e0 (n / 1000) (by omega) (by omega)], by simp [eD (n / 1000) (by omega), eD (n / 100 % 10) (by omega), eD (n / 10 % 10) (by omega), eD (n % 10) (by omega)]⟩]
    simp only [List.foldl]; rw [d (n / 1000) (by omega), d (n / 100 % 10) (by omega), d (n / 10 % 10) (by omega), d (n % 10) (by omega)]; omega
theorem pu_step (acc k : Nat) (r : List UInt8) (hk : k < 10) (ha : acc ≤ 1000) : Lib.parseUint10 acc (digit k :: r) = Lib.parseUint10 (acc * 10 + k) r := by
  rw [Lib.parseUint10, digit_val k hk, if_pos ⟨by omega, by omega⟩, if_neg (by omega), if_neg (by omega)]
  congr 1
  omega
theorem atoi_dig (k : Nat) (r : List UInt8) (u : Nat) (hk : k < 10) (h : Lib.parseUint10 0 (digit k :: r) = .ok u) (hu : u ≤ 2000) : Lib.atoiAll (digit k :: r) = .ok (u : Int) := by
  have hd := digit_val k hk
  unfold Lib.atoiAll
  simp only
  rw [if_neg (by omega)]
  unfold Lib.parseMag
  rw [if_neg (by simp), h]
  simp only
  rw [if_neg (by omega), if_neg (by omega), if_neg (by omega)]
theorem atoi_dec1 (n : Nat) (h1 : 1 ≤ n) (h : n ≤ 2000) : Lib.atoiAll (decN n) = .ok (n : Int) := by
    rcases decN_cases n h h1 with ⟨e, hh⟩ | ⟨e, ha, hb⟩ | ⟨e, ha, hb⟩ | ⟨e, ha⟩
    · rw [e]; exact atoi_dig _ _ _ (by omega) (by rw [pu_step _ _ _ (by omega) (by omega)]; simp [Lib.parseUint10]) h
    · rw [e]; exact atoi_dig _ _ _ (by omega) (by rw [pu_step _ _ _ (by omega) (by omega), pu_step _ _ _ (by omega) (by omega), Lib.parseUint10]; congr 1; omega) h
    · rw [e]; exact atoi_dig _ _ _ (by omega) (by rw [pu_step _ _ _ (by omega) (by omega), pu_step _ _ _ (by omega) (by omega), pu_step _ _ _ (by omega) (by omega), Lib.parseUint10]; congr 1; omega) h
    · rw [e]; exact atoi_dig _ _ _ (by omega) (by rw [pu_step _ _ _ (by omega) (by omega), pu_step _ _ _ (by omega) (by omega), pu_step _ _ _ (by omega) (by omega), pu_step _ _ _ (by omega) (by omega), Lib.parseUint10]; congr 1; omega) h
theorem decN_no (n : Nat) (c : UInt8) (hc : c.toNat < 48) : c ∉ decN n := by
  induction n using Nat.strongRecOn with
  | ind n ih =>
    have hne : ∀ k, k < 10 → c ≠ digit k := fun k hk e => by have := digit_val k hk; rw [← e] at this; omega
    by_cases h : n < 10
    · rw [decN_small h]; simpa using hne n h
    · rw [decN_great h]
      simp only [List.mem_append, List.mem_singleton, not_or]
      exact ⟨ih (n / 10) (by omega), hne _ (by omega)⟩
theorem decN_zero : decN 0 = [48] := by rw [decN_small (by omega)]; rfl
theorem atoi_dec (n : Nat) (h : n ≤ 2000) : Lib.atoiAll (decN n) = .ok (n : Int) := by
  by_cases h0 : n = 0
  · subst h0; rw [decN_zero]; rfl
  · exact atoi_dec1 n (by omega) h
theorem rdS_decN (n : Nat) (h : n ≤ 2000) : rdS (decN n) = (n : Int) := by
  by_cases h0 : n = 0
  · subst h0; rw [decN_zero]; rfl
  · exact rdS_dec n (by omega) h
theorem decN_short (n : Nat) (h : n ≤ 2000) : (decN n).length ≤ 4 ∧ (n ≤ 200 → (decN n).length ≤ 3) ∧ (n ≤ 60 → (decN n).length ≤ 2) := by
  by_cases h0 : n = 0
  · subst h0; rw [decN_zero]; decide
  · rcases decN_cases n h (by omega) with ⟨e, hh⟩ | ⟨e, ha, hb⟩ | ⟨e, ha, hb⟩ | ⟨e, ha⟩ <;> rw [e] <;> simp <;> omega
theorem sp_join (c : UInt8) : ∀ (ps : List (List UInt8)) (p : List UInt8), (∀ q ∈ p :: ps, c ∉ q) → sp c (Lib.join (p :: ps) [c]) = p :: ps := by
  intro ps
  induction ps with
  | nil =>
    intro p h
    rw [Lib.join_one]
    exact sp_miss c p (h p (by simp))
  | cons q ps ih =>
    intro p h
    have e : Lib.join (p :: q :: ps) [c] = p ++ c :: Lib.join (q :: ps) [c] := by
      rw [Lib.join_cons, Lib.join_cons]
      simp [Lib.joinTail]
    rw [e, sp_hit c p _ (h p (by simp)), ih q (fun x hx => h x (by simp only [List.mem_cons] at hx ⊢; exact Or.inr hx))]

theorem decN_dig (n : Nat) : ∀ x ∈ decN n, 48 ≤ x.toNat ∧ x.toNat ≤ 57 := by
  induction n using Nat.strongRecOn with
  | ind n ih =>
    have hd : ∀ k, k < 10 → 48 ≤ (digit k).toNat ∧ (digit k).toNat ≤ 57 := fun k hk => by rw [digit_val k hk]; omega
    intro x hx
    by_cases h : n < 10
    · rw [decN_small h, List.mem_singleton] at hx
      rw [hx]; exact hd n h
    · rw [decN_great h, List.mem_append, List.mem_singleton] at hx
      rcases hx with hx | hx
      · exact ih (n / 10) (by omega) x hx
      · rw [hx]; exact hd _ (by omega)
theorem decN_not (n : Nat) (c : UInt8) (hc : c.toNat < 48 ∨ 57 < c.toNat) : c ∉ decN n := fun h => by have := decN_dig n c h; omega
end P
end Go.Proofs.YtlghonnakokioaaDoor
