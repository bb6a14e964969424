/- Plain mathematics on how numbers are parsed: how a text is split and cut, how numbers are read from both sides, and that they are read back. -/
import Derived.Test.YtkfoapidmockfabDoorJn
import Derived.Test.YtkfoapidmockfabDoorCg
import Derived.Lib.AtoiAll
import Derived.Lib.Split
import Derived.Lib.SplitLaws
import Derived.Lib.CountLaws
import Derived.Lib.IndexMore
namespace Go.Proofs.YtkfoapidmockfabDoor
namespace P
/-- the parts of a list between the bytes c -/
def sp (c : UInt8) : List UInt8 → List (List UInt8)
  | [] => [[]]
  | x :: xs => if x = c then [] :: sp c xs else (x :: (sp c xs).headD []) :: (sp c xs).tail
theorem sp_pos (c : UInt8) (l : List UInt8) : 0 < (sp c l).length := by
  cases l with
  | nil => simp [sp]
  | cons x xs => unfold sp; split <;> simp
theorem sp_le (c : UInt8) (l : List UInt8) : (sp c l).length ≤ l.length + 1 := by
  induction l with
  | nil => simp [sp]
  | cons x xs ih =>
    have := sp_pos c xs
    unfold sp
    split
    · simp; omega
    · simp; omega
theorem sp_miss (c : UInt8) (l : List UInt8) (h : c ∉ l) : sp c l = [l] := by
  induction l with
  | nil => rfl
  | cons x xs ih =>
    simp only [List.mem_cons, not_or] at h
    rw [sp, if_neg (fun e => h.1 e.symm), ih h.2]
    rfl
theorem sp_hit (c : UInt8) (a r : List UInt8) (h : c ∉ a) : sp c (a ++ c :: r) = a :: sp c r := by
  induction a with
  | nil => rw [List.nil_append, sp, if_pos rfl]
  | cons x xs ih =>
    simp only [List.mem_cons, not_or] at h
    rw [List.cons_append, sp, if_neg (fun e => h.1 e.symm), ih h.2]
    rfl
theorem cases_of (c : UInt8) (l : List UInt8) : c ∉ l ∨ ∃ a r, l = a ++ c :: r ∧ c ∉ a := by
  by_cases h : c ∈ l
  · obtain ⟨a, r, e, ha⟩ := List.eq_append_cons_of_mem h
    exact Or.inr ⟨a, r, e, ha⟩
  · exact Or.inl h
theorem idx_miss (c : UInt8) (l : List UInt8) (h : c ∉ l) : Lib.index l [c] = -1 := by
  induction l with
  | nil => rfl
  | cons x xs ih =>
    simp only [List.mem_cons, not_or] at h
    rw [Lib.index, ih h.2]
    have e : [c].isPrefixOf (x :: xs) = false := by simp [List.isPrefixOf, h.1]
    rw [e]
    rfl
theorem idx_hit (c : UInt8) (a r : List UInt8) (h : c ∉ a) : Lib.index (a ++ c :: r) [c] = (a.length : Int) := by
  induction a with
  | nil => rw [List.nil_append, Lib.index]; simp [List.isPrefixOf]
  | cons x xs ih =>
    simp only [List.mem_cons, not_or] at h
    rw [List.cons_append, Lib.index, ih h.2]
    have e : [c].isPrefixOf (x :: (xs ++ c :: r)) = false := by simp [List.isPrefixOf, h.1]
    have e2 : ((xs.length : Int) == -1) = false := by simp
    rw [e, e2]
    simp
theorem cut_miss (c : UInt8) (l : List UInt8) (h : c ∉ l) : Lib.cut l [c] = (l, [], false) := by
  unfold Lib.cut
  rw [idx_miss c l h, if_neg (by omega)]
theorem cut_hit (c : UInt8) (a r : List UInt8) (h : c ∉ a) : Lib.cut (a ++ c :: r) [c] = (a, r, true) := by
  unfold Lib.cut
  rw [idx_hit c a r h, if_pos (by omega), Int.toNat_natCast]
  simp
/-- the library's split at one byte -/
theorem split_eq (c : UInt8) : ∀ (k : Nat) (s : ByteArray), s.size ≤ k → (Lib.splitB ⟨#[c]⟩ 0 (Lib.countB s ⟨#[c]⟩) s).map (·.data.toList) = sp c s.data.toList := by
  intro k
  induction k with
  | zero =>
    intro s hs
    have e : s.data.toList = [] := List.eq_nil_of_length_eq_zero (by
      have : s.data.toList.length = s.size := rfl
      omega)
    have h1 : Lib.indexB s ⟨#[c]⟩ = -1 := by unfold Lib.indexB; rw [e]; exact idx_miss c [] (by simp)
    rw [Lib.splitB_miss _ _ _ _ h1, e]
    simp [sp, e]
  | succ k ih =>
    intro s hs
    have hl : s.data.toList.length = s.size := rfl
    rcases cases_of c s.data.toList with h | ⟨a, r, e, ha⟩
    · have h1 : Lib.indexB s ⟨#[c]⟩ = -1 := by unfold Lib.indexB; exact idx_miss c _ h
      rw [Lib.splitB_miss _ _ _ _ h1, sp_miss c _ h]
      rfl
    · have h1 : Lib.indexB s ⟨#[c]⟩ = (a.length : Int) := by unfold Lib.indexB; rw [e]; exact idx_hit c a r ha
      have hc := Lib.countB_hit s ⟨#[c]⟩ a.length (Nat.le_refl 1) h1
      have hz : (⟨#[c]⟩ : ByteArray).size = 1 := rfl
      rw [hz] at hc
      rw [hc, Nat.add_comm 1, Lib.splitB_hit _ _ _ _ _ h1, hz, List.map_cons]
      have hr : (s.extract (a.length + 1) s.size).data.toList = r := by
        rw [Lib.extract_to_end, e]; simp
      have hs2 : (s.extract (a.length + 1) s.size).size ≤ k := by
        have : (s.extract (a.length + 1) s.size).data.toList.length = (s.extract (a.length + 1) s.size).size := rfl
        rw [hr] at this
        rw [e] at hl
        simp at hl
        omega
      rw [ih _ hs2, hr, e, sp_hit c a r ha]
      congr 1
      rw [Lib.extract_data, e]
      simp
/-- what spec reads of a number -/
def isD (c : UInt8) : Bool := 48 ≤ c.toNat && c.toNat ≤ 57
def val (p : List UInt8) : Int := p.foldl (fun n c => 10 * n + ((c.toNat : Int) - 48)) 0
def rdS (p : List UInt8) : Int := if 1 ≤ p.length ∧ p.length ≤ 6 ∧ ¬ (p.headD 0 = 48 ∧ 1 < p.length) ∧ p.all isD = true then val p else -1
theorem digit_val (k : Nat) (h : k < 10) : (digit k).toNat = 48 + k := by
  unfold digit
  simp [UInt8.toNat_ofNat']
  omega
theorem decN_cases (n : Nat) (h : n ≤ 2000) (h1 : 1 ≤ n) : decN n = [digit n] ∧ n < 10 ∨ decN n = [digit (n / 10), digit (n % 10)] ∧ 10 ≤ n ∧ n < 100 ∨
    decN n = [digit (n / 100), digit (n / 10 % 10), digit (n % 10)] ∧ 100 ≤ n ∧ n < 1000 ∨ decN n = [digit (n / 1000), digit (n / 100 % 10), digit (n / 10 % 10), digit (n % 10)] ∧ 1000 ≤ n := by
  by_cases a : n < 10
  · exact Or.inl ⟨decN_small a, a⟩
  · by_cases b : n < 100
    · exact Or.inr (Or.inl ⟨by rw [decN_great a, decN_small (by omega)]; rfl, by omega, b⟩)
    · by_cases c : n < 1000
      · exact Or.inr (Or.inr (Or.inl ⟨by rw [decN_great a, decN_great (n := n / 10) (by omega), decN_small (n := n / 10 / 10) (by omega), Nat.div_div_eq_div_mul]; rfl, by omega, c⟩))
      · exact Or.inr (Or.inr (Or.inr ⟨by rw [decN_great a, decN_great (n := n / 10) (by omega), decN_great (n := n / 10 / 10) (by omega), decN_small (n := n / 10 / 10 / 10) (by omega)]; simp only [Nat.div_div_eq_div_mul]; rfl, by omega⟩))
theorem rdS_dec (n : Nat) (h1 : 1 ≤ n) (h : n ≤ 2000) : rdS (decN n) = (n : Int) := by
  have d := fun k hk => digit_val k hk
  have e0 : ∀ k, k < 10 → 1 ≤ k → digit k ≠ 48 := fun k hk h1 e => by
    have := d k hk; rw [e] at this; simp at this; omega
  have eD : ∀ k, k < 10 → isD (digit k) = true := fun k hk => by unfold isD; rw [d k hk]; simp; omega
  rcases decN_cases n h h1 with ⟨e, hh⟩ | ⟨e, ha, hb⟩ | ⟨e, ha, hb⟩ | ⟨e, ha⟩
  · rw [e]; unfold rdS val
    rw [if_pos ⟨by simp, by simp, by simp, by simp [eD n hh]⟩]
    simp only [List.foldl]; rw [d n hh]; omega
  · rw [e]; unfold rdS val
    rw [if_pos ⟨by simp, by simp, by simp [e0 (n / 10) (by omega) (by omega)], by simp [eD (n / 10) (by omega), eD (n % 10) (by omega)]⟩]
    simp only [List.foldl]; rw [d (n / 10) (by omega), d (n % 10) (by omega)]; omega
  · rw [e]; unfold rdS val
    rw [if_pos ⟨by simp, by simp, by simp [e0 (n / 100) (by omega) (by omega)], by simp [eD (n / 100) (by omega), eD (n / 10 % 10) (by omega), eD (n % 10) (by omega)]⟩]
    simp only [List.foldl]; rw [d (n / 100) (by omega), d (n / 10 % 10) (by omega), d (n % 10) (by omega)]; omega
  · rw [e]; unfold rdS val
    rw [if_pos ⟨by simp, by simp, by simp [e0 (n / 1000) (by omega) (by omega)], by simp [eD (n / 1000) (by omega), eD (n / 100 % 10) (by omega), eD (n / 10 % 10) (by omega), eD (n % 10) (by omega)]⟩]
    simp only [List.foldl]; rw [d (n / 1000) (by omega), d (n / 100 % 10) (by omega), d (n / 10 % 10) (by omega), d (n % 10) (by omega)]; omega
theorem pu_step (acc k : Nat) (r : List UInt8) (hk : k < 10) (ha : acc ≤ 1000) : Lib.parseUint10 acc (digit k :: r) = Lib.parseUint10 (acc * 10 + k) r := by
  rw [Lib.parseUint10, digit_val k hk, if_pos ⟨by omega, by omega⟩, if_neg (by omega), if_neg (by omega)]
  congr 1
  omega
theorem atoi_dig (k : Nat) (r : List UInt8) (u : Nat) (hk : k < 10) (h : Lib.parseUint10 0 (digit k :: r) = .ok u) (hu : u ≤ 2000) : Lib.atoiAll (digit k :: r) = .ok (u : Int) := by
  have hd := digit_val k hk
  unfold Lib.atoiAll
  simp only
  rw [if_neg (by omega)]
  unfold Lib.parseMag
  rw [if_neg (by simp), h]
  simp only
  rw [if_neg (by omega), if_neg (by omega), if_neg (by omega)]
theorem atoi_dec1 (n : Nat) (h1 : 1 ≤ n) (h : n ≤ 2000) : Lib.atoiAll (decN n) = .ok (n : Int) := by
    rcases decN_cases n h h1 with ⟨e, hh⟩ | ⟨e, ha, hb⟩ | ⟨e, ha, hb⟩ | ⟨e, ha⟩
    · rw [e]; exact atoi_dig _ _ _ (by omega) (by rw [pu_step _ _ _ (by omega) (by omega)]; simp [Lib.parseUint10]) h
    · rw [e]; exact atoi_dig _ _ _ (by omega) (by rw [pu_step _ _ _ (by omega) (by omega), pu_step _ _ _ (by omega) (by omega), Lib.parseUint10]; congr 1; omega) h
    · rw [e]; exact atoi_dig _ _ _ (by omega) (by rw [pu_step _ _ _ (by omega) (by omega), pu_step _ _ _ (by omega) (by omega), pu_step _ _ _ (by omega) (by omega), Lib.parseUint10]; congr 1; omega) h
    · rw [e]; exact atoi_dig _ _ _ (by omega) (by rw [pu_step _ _ _ (by omega) (by omega), pu_step _ _ _ (by omega) (by omega), pu_step _ _ _ (by omega) (by omega), pu_step _ _ _ (by omega) (by omega), Lib.parseUint10]; congr 1; omega) h
theorem decN_no (n : Nat) (c : UInt8) (hc : c.toNat < 48) : c ∉ decN n := by
  induction n using Nat.strongRecOn with
  | ind n ih =>
    have hne : ∀ k, k < 10 → c ≠ digit k := fun k hk e => by have := digit_val k hk; rw [← e] at this; omega
    by_cases h : n < 10
    · rw [decN_small h]; simpa using hne n h
    · rw [decN_great h]
      simp only [List.mem_append, List.mem_singleton, not_or]
      exact ⟨ih (n / 10) (by omega), hne _ (by omega)⟩
theorem decN_zero : decN 0 = [48] := by rw [decN_small (by omega)]; rfl
theorem atoi_dec (n : Nat) (h : n ≤ 2000) : Lib.atoiAll (decN n) = .ok (n : Int) := by
  by_cases h0 : n = 0
  · subst h0; rw [decN_zero]; rfl
  · exact atoi_dec1 n (by omega) h
theorem rdS_decN (n : Nat) (h : n ≤ 2000) : rdS (decN n) = (n : Int) := by
  by_cases h0 : n = 0
  · subst h0; rw [decN_zero]; rfl
  · exact rdS_dec n (by omega) h
theorem decN_short (n : Nat) (h : n ≤ 2000) : (decN n).length ≤ 4 ∧ (n ≤ 200 → (decN n).length ≤ 3) ∧ (n ≤ 60 → (decN n).length ≤ 2) := by
  by_cases h0 : n = 0
  · subst h0; rw [decN_zero]; decide
  · rcases decN_cases n h (by omega) with ⟨e, hh⟩ | ⟨e, ha, hb⟩ | ⟨e, ha, hb⟩ | ⟨e, ha⟩ <;> rw [e] <;> simp <;> omega
theorem sp_join (c : UInt8) : ∀ (ps : List (List UInt8)) (p : List UInt8), (∀ q ∈ p :: ps, c ∉ q) → sp c (Lib.join (p :: ps) [c]) = p :: ps := by
  intro ps
  induction ps with
  | nil =>
    intro p h
    rw [Lib.join_one]
    exact sp_miss c p (h p (by simp))
  | cons q ps ih =>
    intro p h
    have e : Lib.join (p :: q :: ps) [c] = p ++ c :: Lib.join (q :: ps) [c] := by
      rw [Lib.join_cons, Lib.join_cons]
      simp [Lib.joinTail]
    rw [e, sp_hit c p _ (h p (by simp)), ih q (fun x hx => h x (by simp only [List.mem_cons] at hx ⊢; exact Or.inr hx))]

theorem decN_dig (n : Nat) : ∀ x ∈ decN n, 48 ≤ x.toNat ∧ x.toNat ≤ 57 := by
  induction n using Nat.strongRecOn with
  | ind n ih =>
    have hd : ∀ k, k < 10 → 48 ≤ (digit k).toNat ∧ (digit k).toNat ≤ 57 := fun k hk => by rw [digit_val k hk]; omega
    intro x hx
    by_cases h : n < 10
    · rw [decN_small h, List.mem_singleton] at hx
      rw [hx]; exact hd n h
    · rw [decN_great h, List.mem_append, List.mem_singleton] at hx
      rcases hx with hx | hx
      · exact ih (n / 10) (by omega) x hx
      · rw [hx]; exact hd _ (by omega)
theorem decN_not (n : Nat) (c : UInt8) (hc : c.toNat < 48 ∨ 57 < c.toNat) : c ∉ decN n := fun h => by have := decN_dig n c h; omega
/-- the list of numbers, written -/
def wr (zs : List Int) : List (List UInt8) := zs.map fun z => decN z.toNat
def jl (s : UInt8) (zs : List Int) : List UInt8 := Lib.join (wr zs) [s]
theorem ps_wr (zs : List Int) : (Jn.ps zs zs.length).map (·.data.toList) = wr zs := by
  unfold Jn.ps wr
  rw [List.map_map]
  apply List.ext_getElem
  · simp
  · intro k h1 h2
    have hk : k < zs.length := by simpa using h1
    simp [numS, List.getD, hk]
theorem sj_jl (s : UInt8) (zs : List Int) (h : 1 ≤ zs.length) : Jn.sj s zs zs.length = ⟨(jl s zs).toArray⟩ := by
  have e := Jn.join_ps s zs zs.length h
  rw [ps_wr] at e
  apply ByteArray.ext
  apply Array.toList_inj.1
  unfold jl
  rw [e]
theorem join_mem (c s : UInt8) (hc : c ≠ s) (L : List (List UInt8)) (h : ∀ q ∈ L, c ∉ q) : c ∉ Lib.join L [s] := by
  cases L with
  | nil => simp [Lib.join_nil]
  | cons p r =>
    rw [Lib.join_cons]
    unfold Lib.joinTail
    simp only [List.mem_append, List.mem_flatten, List.mem_map, not_or]
    refine ⟨h p (by simp), ?_⟩
    rintro ⟨l, ⟨q, hq, rfl⟩, hl⟩
    rcases List.mem_append.1 hl with h1 | h1
    · exact hc (by simpa using h1)
    · exact h q (by simp [hq]) h1
theorem wr_mem (zs : List Int) : ∀ q ∈ wr zs, ∃ n, q = decN n := fun q hq => by
  obtain ⟨z, _, rfl⟩ := List.mem_map.1 hq
  exact ⟨_, rfl⟩
theorem sp_jl (s : UInt8) (hs : s.toNat < 48) (zs : List Int) (h : 1 ≤ zs.length) : sp s (jl s zs) = wr zs := by
  unfold jl
  cases e : wr zs with
  | nil => have := congrArg List.length e; simp [wr] at this; rw [this] at h; simp at h
  | cons p r =>
    refine sp_join s r p fun q hq => ?_
    rw [← e] at hq
    obtain ⟨n, rfl⟩ := wr_mem zs q hq
    exact decN_not n s (Or.inl hs)
theorem wr_back (zs : List Int) (h : ∀ k, k < zs.length → 0 ≤ zs.getD k 0 ∧ zs.getD k 0 ≤ 2000) : (wr zs).map rdS = zs := by
  unfold wr
  rw [List.map_map]
  apply List.ext_getElem
  · simp
  · intro k h1 h2
    have hz := h k h2
    have e : zs.getD k 0 = zs[k] := by simp [List.getD, h2]
    rw [e] at hz
    simp only [List.getElem_map, Function.comp]
    rw [rdS_decN _ (by omega)]
    omega
theorem tail_len3 (L : List (List UInt8)) (h : ∀ q ∈ L, q.length ≤ 3) : (Lib.joinTail [44] L).length ≤ 4 * L.length := by
  induction L with
  | nil => simp [Lib.joinTail]
  | cons p r ih =>
    have h1 := h p (by simp)
    have h2 := ih (fun q hq => h q (by simp [hq]))
    unfold Lib.joinTail at *
    simp only [List.map_cons, List.flatten_cons, List.length_append, List.length_cons, List.length_nil] at *
    omega
theorem tail_same (s : UInt8) (r : List (List UInt8)) : (Lib.joinTail [s] r).length = (Lib.joinTail [44] r).length := by
  induction r with
  | nil => rfl
  | cons x r ih =>
    unfold Lib.joinTail at *
    simp only [List.map_cons, List.flatten_cons, List.length_append, List.length_cons, List.length_nil] at *
    omega
theorem jl_len (s : UInt8) (zs : List Int) (h : ∀ k, k < zs.length → 0 ≤ zs.getD k 0 ∧ zs.getD k 0 ≤ 200) : (jl s zs).length ≤ 4 * zs.length := by
  have hw : ∀ q ∈ wr zs, q.length ≤ 3 := fun q hq => by
    obtain ⟨z, hz, rfl⟩ := List.mem_map.1 hq
    obtain ⟨k, hk, rfl⟩ := List.getElem_of_mem hz
    have hz := h k hk
    have e : zs.getD k 0 = zs[k] := by simp [List.getD, hk]
    rw [e] at hz
    exact (decN_short _ (by omega)).2.1 (by omega)
  have hn : (wr zs).length = zs.length := by simp [wr]
  unfold jl
  cases e : wr zs with
  | nil => simp [Lib.join_nil]
  | cons p r =>
    rw [Lib.join_cons, List.length_append]
    rw [e] at hw hn
    have a := hw p (by simp)
    have b := tail_len3 r (fun q hq => hw q (by simp [hq]))
    simp at hn
    have b2 := tail_same s r
    omega
/-- the parts of a text are no longer than it -/
theorem sp_part (c : UInt8) (l : List UInt8) : ∀ p ∈ sp c l, p.length ≤ l.length := by
  induction l with
  | nil => intro p h; simp [sp] at h; rw [h]; exact Nat.le_refl _
  | cons x xs ih =>
    intro p h
    unfold sp at h
    split at h
    · rcases List.mem_cons.mp h with rfl | h
      · simp
      · have := ih p h; simp; omega
    · rcases List.mem_cons.mp h with rfl | h
      · cases hs : sp c xs with
        | nil => simp
        | cons q r => have := ih q (by rw [hs]; simp); simp; omega
      · have := ih p (List.mem_of_mem_tail h); simp; omega
/-- what Atoi reads -/
def Reads (p : List UInt8) (v : Int) : Prop := (∀ u, Lib.atoiAll p = .ok u → v = u) ∧ (p = [] → v = 0)
theorem reads_next {L : List (List UInt8)} {zs : List Int} {k : Nat} {q : List UInt8} {v : Int} (hk : zs.length = k) (hz : ∀ j, j < zs.length → Reads (L.getD j []) (zs.getD j 0)) (hq : L.getD k [] = q) (hv : Reads q v) : ∀ j, j < (zs ++ [v]).length → Reads (L.getD j []) ((zs ++ [v]).getD j 0) := by
  intro j hj
  by_cases e : j < zs.length
  · have := hz j e
    simpa [List.getD, List.getElem?_append_left e] using this
  · have e2 : j = k := by simp at hj; omega
    subst e2
    have e3 : (zs ++ [v]).getD zs.length 0 = v := by simp [List.getD]
    subst hk
    rw [e3, hq]
    exact hv
/-- what is read of numbers that are written is the numbers -/
theorem reads_back {s : UInt8} (hs : s.toNat < 48) {zs zs' : List Int} (h1 : 1 ≤ zs.length) (h : ∀ k, k < zs.length → 0 ≤ zs.getD k 0 ∧ zs.getD k 0 ≤ 2000) (hn : zs'.length = (sp s (jl s zs)).length) (hz : ∀ k, k < zs'.length → Reads ((sp s (jl s zs)).getD k []) (zs'.getD k 0)) : zs' = zs := by
  rw [sp_jl s hs zs h1] at hn hz
  have hl : zs'.length = zs.length := by rw [hn]; simp [wr]
  apply List.ext_getElem hl
  intro k k1 k2
  have hk := (hz k k1).1
  have ht := h k k2
  have e1 : zs.getD k 0 = zs[k] := by simp [List.getD, k2]
  have e2 : zs'.getD k 0 = zs'[k] := by simp [List.getD, k1]
  have e3 : (wr zs).getD k [] = decN (zs[k]).toNat := by simp [wr, List.getD, k2]
  rw [e1] at ht
  rw [e2, e3] at hk
  have := hk _ (atoi_dec (zs[k]).toNat (by omega))
  omega
end P
end Go.Proofs.YtkfoapidmockfabDoor
