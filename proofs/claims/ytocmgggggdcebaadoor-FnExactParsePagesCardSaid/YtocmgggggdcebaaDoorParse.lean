/- Plain mathematics on how a text of pages is parsed: how it is split, how its parts are read from both sides, and that the text of a list of pages is read back. No program in sight. -/
import Derived.Test.YtocmgggggdcebaaDoorText
import Derived.Lib.AtoiAll
import Derived.Lib.Split
import Derived.Lib.SplitLaws
import Derived.Lib.CountLaws
import Derived.Lib.IndexMore
namespace Go.Proofs.YtocmgggggdcebaaDoor
namespace P
/-- the parts of a list between the bytes c -/
def sp (c : UInt8) : List UInt8 → List (List UInt8)
  | [] => [[]]
  | x :: xs => if x = c then [] :: sp c xs else (x :: (sp c xs).headD []) :: (sp c xs).tail
theorem sp_pos (c : UInt8) (l : List UInt8) : 0 < (sp c l).length := by
  cases l with
  | nil => simp [sp]
  | cons x xs => unfold sp; split <;> simp
theorem sp_le (c : UInt8) (l : List UInt8) : (sp c l).length ≤ l.length + 1 := by
  induction l with
  | nil => simp [sp]
  | cons x xs ih =>
    have := sp_pos c xs
    unfold sp
    split
    · simp; omega
    · simp; omega
theorem sp_miss (c : UInt8) (l : List UInt8) (h : c ∉ l) : sp c l = [l] := by
  induction l with
  | nil => rfl
  | cons x xs ih =>
    simp only [List.mem_cons, not_or] at h
    rw [sp, if_neg (fun e => h.1 e.symm), ih h.2]
    rfl
theorem sp_hit (c : UInt8) (a r : List UInt8) (h : c ∉ a) : sp c (a ++ c :: r) = a :: sp c r := by
  induction a with
  | nil => rw [List.nil_append, sp, if_pos rfl]
  | cons x xs ih =>
    simp only [List.mem_cons, not_or] at h
    rw [List.cons_append, sp, if_neg (fun e => h.1 e.symm), ih h.2]
    rfl
theorem cases_of (c : UInt8) (l : List UInt8) : c ∉ l ∨ ∃ a r, l = a ++ c :: r ∧ c ∉ a := by
  by_cases h : c ∈ l
  · obtain ⟨a, r, e, ha⟩ := List.eq_append_cons_of_mem h
    exact Or.inr ⟨a, r, e, ha⟩
  · exact Or.inl h
theorem idx_miss (c : UInt8) (l : List UInt8) (h : c ∉ l) : Lib.index l [c] = -1 := by
  induction l with
  | nil => rfl
  | cons x xs ih =>
    simp only [List.mem_cons, not_or] at h
    rw [Lib.index, ih h.2]
    have e : [c].isPrefixOf (x :: xs) = false := by simp [List.isPrefixOf, h.1]
    rw [e]
    rfl
theorem idx_hit (c : UInt8) (a r : List UInt8) (h : c ∉ a) : Lib.index (a ++ c :: r) [c] = (a.length : Int) := by
  induction a with
  | nil => rw [List.nil_append, Lib.index]; simp [List.isPrefixOf]
  | cons x xs ih =>
    simp only [List.mem_cons, not_or] at h
    rw [List.cons_append, Lib.index, ih h.2]
    have e : [c].isPrefixOf (x :: (xs ++ c :: r)) = false := by simp [List.isPrefixOf, h.1]
    have e2 : ((xs.length : Int) == -1) = false := by simp
    rw [e, e2]
    simp
theorem cut_miss (c : UInt8) (l : List UInt8) (h : c ∉ l) : Lib.cut l [c] = (l, [], false) := by
  unfold Lib.cut
  rw [idx_miss c l h, if_neg (by omega)]
theorem cut_hit (c : UInt8) (a r : List UInt8) (h : c ∉ a) : Lib.cut (a ++ c :: r) [c] = (a, r, true) := by
  unfold Lib.cut
  rw [idx_hit c a r h, if_pos (by omega), Int.toNat_natCast]
  simp
/-- the library's split at one byte -/
theorem split_eq (c : UInt8) : ∀ (k : Nat) (s : ByteArray), s.size ≤ k → (Lib.splitB ⟨#[c]⟩ 0 (Lib.countB s ⟨#[c]⟩) s).map (·.data.toList) = sp c s.data.toList := by
  intro k
  induction k with
  | zero =>
    intro s hs
    have e : s.data.toList = [] := List.eq_nil_of_length_eq_zero (by
      have : s.data.toList.length = s.size := rfl
      omega)
    have h1 : Lib.indexB s ⟨#[c]⟩ = -1 := by unfold Lib.indexB; rw [e]; exact idx_miss c [] (by simp)
    rw [Lib.splitB_miss _ _ _ _ h1, e]
    simp [sp, e]
  | succ k ih =>
    intro s hs
    have hl : s.data.toList.length = s.size := rfl
    rcases cases_of c s.data.toList with h | ⟨a, r, e, ha⟩
    · have h1 : Lib.indexB s ⟨#[c]⟩ = -1 := by unfold Lib.indexB; exact idx_miss c _ h
      rw [Lib.splitB_miss _ _ _ _ h1, sp_miss c _ h]
      rfl
    · have h1 : Lib.indexB s ⟨#[c]⟩ = (a.length : Int) := by unfold Lib.indexB; rw [e]; exact idx_hit c a r ha
      have hc := Lib.countB_hit s ⟨#[c]⟩ a.length (Nat.le_refl 1) h1
      have hz : (⟨#[c]⟩ : ByteArray).size = 1 := rfl
      rw [hz] at hc
      rw [hc, Nat.add_comm 1, Lib.splitB_hit _ _ _ _ _ h1, hz, List.map_cons]
      have hr : (s.extract (a.length + 1) s.size).data.toList = r := by
        rw [Lib.extract_to_end, e]; simp
      have hs2 : (s.extract (a.length + 1) s.size).size ≤ k := by
        have : (s.extract (a.length + 1) s.size).data.toList.length = (s.extract (a.length + 1) s.size).size := rfl
        rw [hr] at this
        rw [e] at hl
        simp at hl
        omega
      rw [ih _ hs2, hr, e, sp_hit c a r ha]
      congr 1
      rw [Lib.extract_data, e]
      simp
/-- what impl reads of a number -/
def rdI (p : List UInt8) : Int := match Lib.atoiAll p with
  | .ok v => if 1 ≤ v ∧ v ≤ 2000 then v else -1
  | _ => -1
/-- what spec reads of a number -/
def isD (c : UInt8) : Bool := 48 ≤ c.toNat && c.toNat ≤ 57
def val (p : List UInt8) : Int := p.foldl (fun n c => 10 * n + ((c.toNat : Int) - 48)) 0
def rdS (p : List UInt8) : Int := if 1 ≤ p.length ∧ p.length ≤ 6 ∧ ¬ (p.headD 0 = 48 ∧ 1 < p.length) ∧ p.all isD = true then val p else -1
/-- the first and the last page of a part, 0 and 0 where it is none -/
def ruI (p : List UInt8) : Int × Int :=
  let q := Lib.cut p [45]
  let a := rdI q.1
  let b := rdI (if q.2.2 then q.2.1 else q.1)
  if a = -1 ∨ b = -1 then (0, 0) else (a, b)
def ruS (p : List UInt8) : Int × Int :=
  let a := rdS ((sp 45 p).headD [])
  let b := rdS ((sp 45 p).getLastD [])
  if (sp 45 p).length ≤ 2 ∧ 1 ≤ a ∧ a ≤ 2000 ∧ a ≤ b ∧ b ≤ 2000 ∧ b ≤ a + 20 then (a, b) else (0, 0)
def rng (a b : Int) : List Int := (List.range (b + 1 - a).toNat).map (fun i : Nat => a + (i : Int))
/-- all parts, one after the other -/
def fo (ru : List UInt8 → Int × Int) : List (List UInt8) → List Int → Option (List Int)
  | [], out => some out
  | p :: ps, out => if (ru p).1 = 0 then none else fo ru ps (out ++ rng (ru p).1 (ru p).2)
theorem digit_val (k : Nat) (h : k < 10) : (digit k).toNat = 48 + k := by
  unfold digit
  simp [UInt8.toNat_ofNat']
  omega
theorem decN_cases (n : Nat) (h : n ≤ 2000) (h1 : 1 ≤ n) : decN n = [digit n] ∧ n < 10 ∨ decN n = [digit (n / 10), digit (n % 10)] ∧ 10 ≤ n ∧ n < 100 ∨
    decN n = [digit (n / 100), digit (n / 10 % 10), digit (n % 10)] ∧ 100 ≤ n ∧ n < 1000 ∨ decN n = [digit (n / 1000), digit (n / 100 % 10), digit (n / 10 % 10), digit (n % 10)] ∧ 1000 ≤ n := by
  by_cases a : n < 10
  · exact Or.inl ⟨decN_small a, a⟩
  · by_cases b : n < 100
    · exact Or.inr (Or.inl ⟨by rw [decN_great a, decN_small (by omega)]; rfl, by omega, b⟩)
    · by_cases c : n < 1000
      · exact Or.inr (Or.inr (Or.inl ⟨by rw [decN_great a, decN_great (n := n / 10) (by omega), decN_small (n := n / 10 / 10) (by omega), Nat.div_div_eq_div_mul]; rfl, by omega, c⟩))
      · exact Or.inr (Or.inr (Or.inr ⟨by rw [decN_great a, decN_great (n := n / 10) (by omega), decN_great (n := n / 10 / 10) (by omega), decN_small (n := n / 10 / 10 / 10) (by omega)]; simp only [Nat.div_div_eq_div_mul]; rfl, by omega⟩))
theorem rdS_dec (n : Nat) (h1 : 1 ≤ n) (h : n ≤ 2000) : rdS (decN n) = (n : Int) := by
  have d := fun k hk => digit_val k hk
  have e0 : ∀ k, k < 10 → 1 ≤ k → digit k ≠ 48 := fun k hk h1 e => by
    have := d k hk; rw [e] at this; simp at this; omega
  have eD : ∀ k, k < 10 → isD (digit k) = true := fun k hk => by unfold isD; rw [d k hk]; simp; omega
  rcases decN_cases n h h1 with ⟨e, hh⟩ | ⟨e, ha, hb⟩ | ⟨e, ha, hb⟩ | ⟨e, ha⟩
  · rw [e]; unfold rdS val
    rw [if_pos ⟨by simp, by simp, by simp, by simp [eD n hh]⟩]
    simp only [List.foldl]; rw [d n hh]; omega
  · rw [e]; unfold rdS val
    rw [if_pos ⟨by simp, by simp, by simp [e0 (n / 10) (by omega) (by omega)], by simp [eD (n / 10) (by omega), eD (n % 10) (by omega)]⟩]
    simp only [List.foldl]; rw [d (n / 10) (by omega), d (n % 10) (by omega)]; omega
  · rw [e]; unfold rdS val
    rw [if_pos ⟨by simp, by simp, by simp [e0 (n / 100) (by omega) (by omega)], by simp [eD (n / 100) (by omega), eD (n / 10 % 10) (by omega), eD (n % 10) (by omega)]⟩]
    simp only [List.foldl]; rw [d (n / 100) (by omega), d (n / 10 % 10) (by omega), d (n % 10) (by omega)]; omega
  · rw [e]; unfold rdS val
    rw [if_pos ⟨by simp, by simp, by simp [e0 (n / 1000) (by omega) (by omega)], by simp [eD (n / 1000) (by omega), eD (n / 100 % 10) (by omega), eD (n / 10 % 10) (by omega), eD (n % 10) (by omega)]⟩]
    simp only [List.foldl]; rw [d (n / 1000) (by omega), d (n / 100 % 10) (by omega), d (n / 10 % 10) (by omega), d (n % 10) (by omega)]; omega
theorem pu_step (acc k : Nat) (r : List UInt8) (hk : k < 10) (ha : acc ≤ 1000) : Lib.parseUint10 acc (digit k :: r) = Lib.parseUint10 (acc * 10 + k) r := by
  rw [Lib.parseUint10, digit_val k hk, if_pos ⟨by omega, by omega⟩, if_neg (by omega), if_neg (by omega)]
  congr 1
  omega
theorem atoi_dig (k : Nat) (r : List UInt8) (u : Nat) (hk : k < 10) (h : Lib.parseUint10 0 (digit k :: r) = .ok u) (hu : u ≤ 2000) : Lib.atoiAll (digit k :: r) = .ok (u : Int) := by
  have hd := digit_val k hk
  unfold Lib.atoiAll
  simp only
  rw [if_neg (by omega)]
  unfold Lib.parseMag
  rw [if_neg (by simp), h]
  simp only
  rw [if_neg (by omega), if_neg (by omega), if_neg (by omega)]
theorem rdI_dec (n : Nat) (h1 : 1 ≤ n) (h : n ≤ 2000) : rdI (decN n) = (n : Int) := by
  have key : Lib.atoiAll (decN n) = .ok (n : Int) := by
    rcases decN_cases n h h1 with ⟨e, hh⟩ | ⟨e, ha, hb⟩ | ⟨e, ha, hb⟩ | ⟨e, ha⟩
    · rw [e]; exact atoi_dig _ _ _ (by omega) (by rw [pu_step _ _ _ (by omega) (by omega)]; simp [Lib.parseUint10]) h
    · rw [e]; exact atoi_dig _ _ _ (by omega) (by rw [pu_step _ _ _ (by omega) (by omega), pu_step _ _ _ (by omega) (by omega), Lib.parseUint10]; congr 1; omega) h
    · rw [e]; exact atoi_dig _ _ _ (by omega) (by rw [pu_step _ _ _ (by omega) (by omega), pu_step _ _ _ (by omega) (by omega), pu_step _ _ _ (by omega) (by omega), Lib.parseUint10]; congr 1; omega) h
    · rw [e]; exact atoi_dig _ _ _ (by omega) (by rw [pu_step _ _ _ (by omega) (by omega), pu_step _ _ _ (by omega) (by omega), pu_step _ _ _ (by omega) (by omega), pu_step _ _ _ (by omega) (by omega), Lib.parseUint10]; congr 1; omega) h
  unfold rdI
  rw [key]
  simp only
  rw [if_pos ⟨by omega, by omega⟩]
theorem decN_no (n : Nat) (c : UInt8) (hc : c.toNat < 48) : c ∉ decN n := by
  induction n using Nat.strongRecOn with
  | ind n ih =>
    have hne : ∀ k, k < 10 → c ≠ digit k := fun k hk e => by have := digit_val k hk; rw [← e] at this; omega
    by_cases h : n < 10
    · rw [decN_small h]; simpa using hne n h
    · rw [decN_great h]
      simp only [List.mem_append, List.mem_singleton, not_or]
      exact ⟨ih (n / 10) (by omega), hne _ (by omega)⟩
/-- how numbers and runs are read, from either side -/
def Reads (ru : List UInt8 → Int × Int) : Prop :=
  (∀ a : Int, 1 ≤ a → a ≤ 2000 → ru (T.num a) = (a, a)) ∧ ∀ a b : Int, 1 ≤ a → a ≤ b → b ≤ 2000 → b ≤ a + 19 → ru (T.num a ++ [45] ++ T.num b) = (a, b)
theorem num_no (a : Int) (c : UInt8) (hc : c.toNat < 48) : c ∉ T.num a := decN_no _ c hc
theorem rdI_num (a : Int) (h1 : 1 ≤ a) (h2 : a ≤ 2000) : rdI (T.num a) = a := by
  have := rdI_dec a.toNat (by omega) (by omega)
  rw [show (T.num a) = decN a.toNat from rfl, this]; omega
theorem rdS_num (a : Int) (h1 : 1 ≤ a) (h2 : a ≤ 2000) : rdS (T.num a) = a := by
  have := rdS_dec a.toNat (by omega) (by omega)
  rw [show (T.num a) = decN a.toNat from rfl, this]; omega
theorem reads_I : Reads ruI := by
  constructor
  · intro a h1 h2
    unfold ruI
    rw [cut_miss 45 _ (num_no a 45 (by decide))]
    simp only [Bool.false_eq_true, if_false]
    rw [rdI_num a h1 h2, if_neg (by omega)]
  · intro a b h1 h2 h3 h4
    unfold ruI
    rw [List.append_assoc, List.singleton_append, cut_hit 45 _ _ (num_no a 45 (by decide))]
    simp only [if_true]
    rw [rdI_num a h1 (by omega), rdI_num b (by omega) h3, if_neg (by omega)]
theorem reads_S : Reads ruS := by
  constructor
  · intro a h1 h2
    have e1 := sp_miss 45 _ (num_no a 45 (by decide))
    have e2 : ([T.num a]).getLastD [] = T.num a := rfl
    have e3 : ([T.num a]).headD [] = T.num a := rfl
    have e4 : ([T.num a]).length = 1 := rfl
    unfold ruS
    simp only [e1, e2, e3, e4, rdS_num a h1 h2]
    exact if_pos ⟨by omega, by omega, by omega, by omega, by omega, by omega⟩
  · intro a b h1 h2 h3 h4
    have e1 : sp 45 (T.num a ++ [45] ++ T.num b) = [T.num a, T.num b] := by
      rw [List.append_assoc, List.singleton_append, sp_hit 45 _ _ (num_no a 45 (by decide)), sp_miss 45 _ (num_no b 45 (by decide))]
    have e2 : ([T.num a, T.num b]).getLastD [] = T.num b := rfl
    have e3 : ([T.num a, T.num b]).headD [] = T.num a := rfl
    have e4 : ([T.num a, T.num b]).length = 2 := rfl
    unfold ruS
    simp only [e1, e2, e3, e4, rdS_num a h1 (by omega), rdS_num b (by omega) h3]
    exact if_pos ⟨by omega, by omega, by omega, by omega, by omega, by omega⟩
theorem rng_one (a : Int) : rng a a = [a] := by
  unfold rng
  rw [show (a + 1 - a).toNat = 1 from by omega]
  simp [List.range_succ]
theorem rng_run (zs : List Int) (i r : Nat) (h : T.Run zs i r) : rng (T.at_ zs i) (T.at_ zs (i + r - 1)) = (zs.drop i).take r := by
  obtain ⟨h1, h2, h3⟩ := h
  have e := h3 (r - 1) (by omega)
  rw [show i + (r - 1) = i + r - 1 from by omega] at e
  unfold rng
  rw [e, show (T.at_ zs i + ((r - 1 : Nat) : Int) + 1 - T.at_ zs i).toNat = r from by omega]
  apply List.ext_getElem?
  intro j
  by_cases hj : j < r
  · have := h3 j hj
    rw [List.getElem?_map, List.getElem?_range hj, List.getElem?_take, if_pos hj, List.getElem?_drop]
    simp only [Option.map_some]
    rw [← this]
    unfold T.at_
    rw [List.getD_eq_getElem?_getD, List.getElem?_eq_getElem (show i + j < zs.length by omega)]
    rfl
  · rw [List.getElem?_eq_none (by simp; omega), List.getElem?_eq_none (by simp; omega)]
theorem fo_parts (ru : List UInt8 → Int × Int) (hr : Reads ru) (zs : List Int) (hl : zs.length ≤ 20) (hg : ∀ i, i < zs.length → 1 ≤ T.at_ zs i ∧ T.at_ zs i ≤ 2000) :
    ∀ m i, zs.length - i ≤ m → i ≤ zs.length → fo ru (T.parts zs i) (zs.take i) = some zs := by
  intro m
  induction m with
  | zero =>
    intro i h1 h2
    have e : i = zs.length := by omega
    rw [T.parts_end (by omega), e]
    simp [fo]
  | succ m ih =>
    intro i h1 h2
    by_cases hi : i < zs.length
    · have hp := T.rl_pos zs i
      have hm := (T.rl_max hi).1
      have ga := hg i hi
      by_cases c : T.rl zs i < 3
      · rw [T.parts_one hi c, fo, hr.1 _ ga.1 ga.2, if_neg (by show ¬ T.at_ zs i = 0; omega), rng_one]
        have e : zs.take i ++ [T.at_ zs i] = zs.take (i + 1) := by
          rw [List.take_succ_eq_append_getElem hi]
          unfold T.at_
          rw [List.getD_eq_getElem?_getD, List.getElem?_eq_getElem hi]
          rfl
        rw [e]
        exact ih (i + 1) (by omega) (by omega)
      · have h3 := hm.2.2 (T.rl zs i - 1) (by omega)
        have hle := hm.2.1
        have gb := hg (i + T.rl zs i - 1) (by omega)
        rw [show i + (T.rl zs i - 1) = i + T.rl zs i - 1 from by omega] at h3
        rw [T.parts_many hi c, fo, hr.2 _ _ ga.1 (by omega) gb.2 (by omega), if_neg (by show ¬ T.at_ zs i = 0; omega), rng_run zs i _ hm, ← List.take_add]
        exact ih (i + T.rl zs i) (by omega) hle
    · have e : i = zs.length := by omega
      rw [T.parts_end (by omega), e]
      simp [fo]
theorem sp_join (c : UInt8) : ∀ (ps : List (List UInt8)) (p : List UInt8), (∀ q ∈ p :: ps, c ∉ q) → sp c (Lib.join (p :: ps) [c]) = p :: ps := by
  intro ps
  induction ps with
  | nil =>
    intro p h
    rw [Lib.join_one]
    exact sp_miss c p (h p (by simp))
  | cons q ps ih =>
    intro p h
    have e : Lib.join (p :: q :: ps) [c] = p ++ c :: Lib.join (q :: ps) [c] := by
      rw [Lib.join_cons, Lib.join_cons]
      simp [Lib.joinTail]
    rw [e, sp_hit c p _ (h p (by simp)), ih q (fun x hx => h x (by simp only [List.mem_cons] at hx ⊢; exact Or.inr hx))]
theorem parts_no (zs : List Int) : ∀ m i, zs.length - i ≤ m → ∀ q ∈ T.parts zs i, (44 : UInt8) ∉ q := by
  intro m
  induction m with
  | zero => intro i h q hq; rw [T.parts_end (by omega)] at hq; simp at hq
  | succ m ih =>
    intro i h q hq
    by_cases hi : i < zs.length
    · have hp := T.rl_pos zs i
      by_cases c : T.rl zs i < 3
      · rw [T.parts_one hi c, List.mem_cons] at hq
        rcases hq with rfl | hq
        · exact num_no _ 44 (by decide)
        · exact ih (i + 1) (by omega) q hq
      · rw [T.parts_many hi c, List.mem_cons] at hq
        rcases hq with rfl | hq
        · simp only [List.mem_append, List.mem_singleton, not_or]
          exact ⟨⟨num_no _ 44 (by decide), by decide⟩, num_no _ 44 (by decide)⟩
        · exact ih (i + T.rl zs i) (by omega) q hq
    · rw [T.parts_end hi] at hq; simp at hq
theorem sp_text (zs : List Int) (h : 0 < zs.length) : sp 44 (T.text zs) = T.parts zs 0 := by
  have hn := parts_no zs zs.length 0 (by omega)
  unfold T.text
  by_cases c : T.rl zs 0 < 3
  · rw [T.parts_one h c] at hn ⊢; exact sp_join 44 _ _ hn
  · rw [T.parts_many h c] at hn ⊢; exact sp_join 44 _ _ hn
/-- the text of pages is read back -/
theorem read_back (ru : List UInt8 → Int × Int) (hr : Reads ru) (zs : List Int) (h0 : 0 < zs.length) (hl : zs.length ≤ 20) (hg : ∀ i, i < zs.length → 1 ≤ T.at_ zs i ∧ T.at_ zs i ≤ 2000) : fo ru (sp 44 (T.text zs)) [] = some zs := by
  rw [sp_text zs h0]
  have := fo_parts ru hr zs hl hg zs.length 0 (by omega) (by omega)
  simpa using this
theorem num_le (a : Int) (h1 : 1 ≤ a) (h2 : a ≤ 2000) : (T.num a).length ≤ 4 := by
  show (decN a.toNat).length ≤ 4
  rcases decN_cases a.toNat (by omega) (by omega) with ⟨e, _⟩ | ⟨e, _⟩ | ⟨e, _⟩ | ⟨e, _⟩ <;> rw [e] <;> simp
theorem tail_le (zs : List Int) (hg : ∀ i, i < zs.length → 1 ≤ T.at_ zs i ∧ T.at_ zs i ≤ 2000) : ∀ m i, zs.length - i ≤ m → (T.tail zs i).length ≤ 5 * (zs.length - i) := by
  intro m
  induction m with
  | zero => intro i h; rw [T.tail_end (by omega)]; simp
  | succ m ih =>
    intro i h
    by_cases hi : i < zs.length
    · have hp := T.rl_pos zs i
      have hm := (T.rl_max hi).1.2.1
      have n1 := num_le _ (hg i hi).1 (hg i hi).2
      have hi2 := ih (i + T.rl zs i) (by omega)
      rw [T.tail_step hi, List.length_append, List.length_append, List.length_singleton]
      have hpl : (T.piece zs i).length + 1 ≤ 5 * T.rl zs i := by
        unfold T.piece
        by_cases c1 : T.rl zs i = 1
        · rw [if_pos c1]; omega
        · rw [if_neg c1]
          by_cases c2 : T.rl zs i = 2
          · have n2 := num_le _ (hg (i + 1) (by omega)).1 (hg (i + 1) (by omega)).2
            rw [if_pos c2, List.length_append, List.length_append, List.length_singleton]; omega
          · have n2 := num_le _ (hg (i + T.rl zs i - 1) (by omega)).1 (hg (i + T.rl zs i - 1) (by omega)).2
            rw [if_neg c2, List.length_append, List.length_append, List.length_singleton]; omega
      omega
    · rw [T.tail_end hi]; simp
theorem text_le (zs : List Int) (h0 : 0 < zs.length) (hl : zs.length ≤ 20) (hg : ∀ i, i < zs.length → 1 ≤ T.at_ zs i ∧ T.at_ zs i ≤ 2000) : (T.text zs).length ≤ 99 := by
  have h1 := tail_le zs hg zs.length 0 (by omega)
  rw [← T.text_of h0, List.length_append, List.length_singleton] at h1
  omega
end P
end Go.Proofs.YtocmgggggdcebaaDoor
