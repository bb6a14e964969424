/- Filled lines of a text as texts: the program. -/
import Derived.Test.YtbebojahjfnkiaaDoorTn0
namespace Go.Proofs.YtbebojahjfnkiaaDoor
open Go.RowKit Go.Joins Go.Deep Go.ChangeShapes Go.WideShapes Go.Lib
set_option linter.unusedVariables false
set_option linter.unusedSimpArgs false
namespace Ln
theorem sp_miss (c : UInt8) (l : List UInt8) (h : c ∉ l) : sp c l = [l] := by
  induction l with
  | nil => rfl
  | cons x xs ih =>
    simp only [List.mem_cons, not_or] at h
    rw [sp, if_neg (fun e => h.1 e.symm), ih h.2]
    rfl
theorem sp_hit (c : UInt8) (a r : List UInt8) (h : c ∉ a) : sp c (a ++ c :: r) = a :: sp c r := by
  induction a with
  | nil => rw [List.nil_append, sp, if_pos rfl]
  | cons x xs ih =>
    simp only [List.mem_cons, not_or] at h
    rw [List.cons_append, sp, if_neg (fun e => h.1 e.symm), ih h.2]
    rfl
theorem cases_of (c : UInt8) (l : List UInt8) : c ∉ l ∨ ∃ a r, l = a ++ c :: r ∧ c ∉ a := by
  by_cases h : c ∈ l
  · obtain ⟨a, r, e, ha⟩ := List.eq_append_cons_of_mem h
    exact Or.inr ⟨a, r, e, ha⟩
  · exact Or.inl h
theorem idx_miss (c : UInt8) (l : List UInt8) (h : c ∉ l) : Lib.index l [c] = -1 := by
  induction l with
  | nil => rfl
  | cons x xs ih =>
    simp only [List.mem_cons, not_or] at h
    rw [Lib.index, ih h.2]
    have e : [c].isPrefixOf (x :: xs) = false := by simp [List.isPrefixOf, h.1]
    rw [e]
    rfl
theorem idx_hit (c : UInt8) (a r : List UInt8) (h : c ∉ a) : Lib.index (a ++ c :: r) [c] = (a.length : Int) := by
  induction a with
  | nil => rw [List.nil_append, Lib.index]; simp [List.isPrefixOf]
  | cons x xs ih =>
    simp only [List.mem_cons, not_or] at h
    rw [List.cons_append, Lib.index, ih h.2]
    have e : [c].isPrefixOf (x :: (xs ++ c :: r)) = false := by simp [List.isPrefixOf, h.1]
    have e2 : ((xs.length : Int) == -1) = false := by simp
    rw [e, e2]
    simp
theorem split_eq (c : UInt8) : ∀ (k : Nat) (s : ByteArray), s.size ≤ k → (Lib.splitB ⟨#[c]⟩ 0 (Lib.countB s ⟨#[c]⟩) s).map (·.data.toList) = sp c s.data.toList := by
  intro k
  induction k with
  | zero =>
    intro s hs
    have e : s.data.toList = [] := List.eq_nil_of_length_eq_zero (by
      have : s.data.toList.length = s.size := rfl
      omega)
    have h1 : Lib.indexB s ⟨#[c]⟩ = -1 := by unfold Lib.indexB; rw [e]; exact idx_miss c [] (by simp)
    rw [Lib.splitB_miss _ _ _ _ h1, e]
    simp [sp, e]
  | succ k ih =>
    intro s hs
    have hl : s.data.toList.length = s.size := rfl
    rcases cases_of c s.data.toList with h | ⟨a, r, e, ha⟩
    · have h1 : Lib.indexB s ⟨#[c]⟩ = -1 := by unfold Lib.indexB; exact idx_miss c _ h
      rw [Lib.splitB_miss _ _ _ _ h1, sp_miss c _ h]
      rfl
    · have h1 : Lib.indexB s ⟨#[c]⟩ = (a.length : Int) := by unfold Lib.indexB; rw [e]; exact idx_hit c a r ha
      have hc := Lib.countB_hit s ⟨#[c]⟩ a.length (Nat.le_refl 1) h1
      have hz : (⟨#[c]⟩ : ByteArray).size = 1 := rfl
      rw [hz] at hc
      rw [hc, Nat.add_comm 1, Lib.splitB_hit _ _ _ _ _ h1, hz, List.map_cons]
      have hr : (s.extract (a.length + 1) s.size).data.toList = r := by
        rw [Lib.extract_to_end, e]; simp
      have hs2 : (s.extract (a.length + 1) s.size).size ≤ k := by
        have : (s.extract (a.length + 1) s.size).data.toList.length = (s.extract (a.length + 1) s.size).size := rfl
        rw [hr] at this
        rw [e] at hl
        simp at hl
        omega
      rw [ih _ hs2, hr, e, sp_hit c a r ha]
      congr 1
      rw [Lib.extract_data, e]
      simp
theorem strs_split (c : UInt8) (l : List UInt8) : ((Lib.splitB ⟨#[c]⟩ 0 (Lib.countB ⟨l.toArray⟩ ⟨#[c]⟩) ⟨l.toArray⟩).map Value.string) = strs (sp c l) ∧ Lib.countB ⟨l.toArray⟩ ⟨#[c]⟩ + 1 = (sp c l).length := by
  have hk := split_eq c (⟨l.toArray⟩ : ByteArray).size ⟨l.toArray⟩ (Nat.le_refl _)
  have e : (⟨l.toArray⟩ : ByteArray).data.toList = l := by simp
  rw [e] at hk
  constructor
  · rw [← hk]
    unfold strs
    rw [List.map_map]
    apply List.map_congr_left
    intro x _
    simp
  · rw [← hk, List.length_map]
    exact (Lib.splitB_all ⟨#[c]⟩ (Nat.le_refl 1) 0 _ _ rfl).symm
/-- MaxLen holds a number -/
def Env (W : World) : Prop := ∃ m : Int, W.cell? ⟨0, 0, none⟩ = some (.int .i64 m)
theorem Env.on {W W' : World} (h : Env W) (h2 : 0 < W.heap.size) (hb : Below W.heap.size W W') : Env W' := by
  obtain ⟨m, hm⟩ := h
  exact ⟨m, (hb.cell (p := ⟨0, 0, none⟩) h2).trans hm⟩
theorem env_lt {W : World} (h : Env W) : 0 < W.heap.size := by
  obtain ⟨m, hm⟩ := h
  exact World.block_lt_of_cell? _ _ hm
theorem Env.below {W W' : World} (h : Env W) (hb : Below W.heap.size W W') : Env W' := h.on (env_lt h) hb
theorem iParts (l : List UInt8) (hl : l.length ≤ 200) (W : World) (hE : Env W) :
    Calls Tryd.prog 17 #[.string ⟨l.toArray⟩, .string ⟨#[32]⟩] W fun e w' => ∃ g cap, e = .returned (.slice (some ⟨g, 0, none⟩) (sp 32 l).length cap) ∧ w'.ownsRow W.heap.size 9 1 (.slice (some ⟨g, 0, none⟩) (sp 32 l).length cap) (sp 32 l).length (strs (sp 32 l)) ∧ Below W.heap.size W w' := by
  have hs := ba_size l
  obtain ⟨m, h1⟩ := hE
  obtain ⟨k1, k2⟩ := strs_split 32 l
  have hn := sp_le 32 l
  refine (Tryd.strings_Split ⟨l.toArray⟩ ⟨#[32]⟩ m W (by omega) h1 (Nat.le_refl 1)).mono ?_
  rintro e w' ⟨rfl, rfl⟩
  rw [k2, k1]
  refine ⟨_, _, rfl, ?_, (Below.refl _ _).alloc (Nat.le_refl _) _⟩
  have := World.ownsRow_lit (base := W.heap.size) (e := 9) (size := 1) W (strs (sp 32 l)).toArray (sp 32 l).length (Nat.le_refl _) (by unfold maxLen; omega) (by simp [strs])
  simpa using this
/-- a part of a row of texts, joined by blanks -/
theorem join_at {base g n cap o m cq : Nat} {ps : List (List UInt8)} {W : World} (h : W.ownsRow base 9 1 (.slice (some ⟨g, 0, none⟩) n cap) n (strs ps)) (hon : o + m ≤ n) (hm : m ≤ cq) (hp : ∀ p ∈ ps, p.length ≤ 200) (hm30 : m ≤ 30) :
    Calls Tryd.prog 18 #[.slice (some ⟨g, o, none⟩) m cq, .string ⟨#[32]⟩] W (Ret (.string ⟨(Lib.join ((ps.drop o).take m) [32]).toArray⟩) W) := by
  have hl := str_n h
  have hlen : ((ps.drop o).take m).length = m := by simp; omega
  have e : (((ps.drop o).take m).map (fun p => (⟨p.toArray⟩ : ByteArray))).map (·.data.toList) = (ps.drop o).take m := by
    rw [List.map_map]
    conv => rhs; rw [← List.map_id ((ps.drop o).take m)]
    apply List.map_congr_left
    intro x _
    simp
  have hjl := join_len ((ps.drop o).take m) (fun p hp2 => hp p (List.mem_of_mem_drop (List.mem_of_mem_take hp2)))
  have HJ := Tryd.strings_Join g o cq (((ps.drop o).take m).map (fun p => (⟨p.toArray⟩ : ByteArray))) ⟨#[32]⟩ W (fun j x hx => by
    rw [List.getElem?_map] at hx
    have hj : j < m := by
      rcases Nat.lt_or_ge j m with h1 | h1
      · exact h1
      · rw [List.getElem?_eq_none (by omega)] at hx; cases hx
    rw [h.cellAt (o + j) (by omega)]
    rw [List.getElem?_take_of_lt hj, List.getElem?_drop] at hx
    unfold strs
    rw [List.getElem?_map]
    cases h2 : ps[o + j]? with
    | none => rw [h2] at hx; cases hx
    | some p =>
      rw [h2] at hx
      injection hx with hx
      subst hx
      rfl) (h.lt g rfl).2 (by rw [List.length_map, hlen]; omega) (by rw [List.length_map, hlen]; exact hm) (by rw [e]; show (Lib.join _ [32]).length ≤ _; rw [hlen] at hjl; omega)
  rw [List.length_map, hlen, e] at HJ
  exact HJ
end Ln
end Go.Proofs.YtbebojahjfnkiaaDoor
