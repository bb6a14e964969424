/- Plain mathematics on a range's short text read back. -/
import Derived.Test.YtlghonnakokioaaDoorRt
namespace Go.Proofs.YtlghonnakokioaaDoor
set_option linter.unusedVariables false
set_option linter.unusedSimpArgs false
namespace Lr
open P Rg Gm Sr
/-- a text is the short text of a range -/
def Is (l : List UInt8) (f t : Int) : Prop := rng f t = true ∧ l = sh f.toNat t.toNat
/-- the digits that were left out are put in front -/
def fill (a b : List UInt8) : List UInt8 := if b.length < a.length then a.take (a.length - b.length) ++ b else b
theorem fill_yes {a b : List UInt8} (h : b.length < a.length) : fill a b = a.take (a.length - b.length) ++ b := if_pos h
theorem fill_no {a b : List UInt8} (h : ¬ b.length < a.length) : fill a b = b := if_neg h
theorem fill_none (a : List UInt8) : fill a [] = a := by
  unfold fill
  split
  · simp
  · rename_i h
    simp at h
    exact h.symm
theorem decN_pos (n : Nat) : 1 ≤ (decN n).length := (decN_length n).1
theorem decN_mono {f t : Nat} (h : f ≤ t) (ht : t ≤ 2000) : (decN f).length ≤ (decN t).length := by
  by_cases h0 : f = 0
  · subst h0; rw [decN_zero]; exact decN_pos t
  · rcases decN_cases f (by omega) (by omega) with ⟨e, hh⟩ | ⟨e, ha, hb⟩ | ⟨e, ha, hb⟩ | ⟨e, ha⟩ <;>
    rcases decN_cases t ht (by omega) with ⟨e', hh'⟩ | ⟨e', ha', hb'⟩ | ⟨e', ha', hb'⟩ | ⟨e', ha'⟩ <;>
    rw [e, e'] <;> simp <;> omega
theorem take_ali (a b : List UInt8) (h : a.length = b.length) (k : Nat) (hk : k ≤ ali a b) : a.take k = b.take k := by
  apply List.ext_getElem?
  intro i
  by_cases hi : i < k
  · rw [List.getElem?_take_of_lt hi, List.getElem?_take_of_lt hi]
    exact ali_eq a b i (by omega)
  · rw [List.getElem?_eq_none (by rw [List.length_take]; omega), List.getElem?_eq_none (by rw [List.length_take]; omega)]
theorem fill_tail {f t : Nat} (h : f ≤ t) (hne : f ≠ t) (ht : t ≤ 2000) : fill (decN f) (tail f t) = decN t := by
  by_cases e : (decN f).length = (decN t).length
  · rw [tail_same e]
    have h1 := ali_lt (decN f) (decN t) e (fun x => hne (decN_inj (by omega) ht x))
    have h2 := take_ali (decN f) (decN t) e _ (Nat.le_refl _)
    generalize decN f = a at *
    generalize decN t = b at *
    generalize ali a b = K at *
    by_cases h0 : K = 0
    · subst h0
      rw [List.drop_zero, fill_no (by omega)]
    · rw [fill_yes (by rw [List.length_drop]; omega), List.length_drop, show a.length - (b.length - K) = K by omega, h2, List.take_append_drop]
  · rw [tail_other e, fill_no (by have := decN_mono h ht; omega)]
theorem tail_sub (f t : Nat) (c : UInt8) (h : c ∉ decN t) : c ∉ tail f t := by
  unfold tail
  split
  · exact fun x => h (List.mem_of_mem_drop x)
  · exact h
theorem dash {n : Nat} : (45 : UInt8) ∉ decN n := decN_no n 45 (by decide)
theorem sp_two {f t : Nat} (h : f ≠ t) : sp 45 (sh f t) = [decN f, tail f t] := by
  rw [sh_two h, sp_hit 45 _ _ dash, sp_miss 45 _ (tail_sub f t 45 dash)]
theorem sp_one (f : Nat) : sp 45 (sh f f) = [decN f] := by rw [sh_one, sp_miss 45 _ dash]
theorem cut_two {f t : Nat} (h : f ≠ t) : Lib.cut (sh f t) [45] = (decN f, tail f t, true) := by rw [sh_two h, cut_hit 45 _ _ dash]
theorem cut_one (f : Nat) : Lib.cut (sh f f) [45] = (decN f, [], false) := by rw [sh_one, cut_miss 45 _ dash]
/-- what the model reads -/
def cand (l : List UInt8) : Int × Int := (rdS ((sp 45 l).getD 0 []), if (sp 45 l).length = 2 then rdS (fill ((sp 45 l).getD 0 []) ((sp 45 l).getD 1 [])) else rdS ((sp 45 l).getD 0 []))
def lok (l : List UInt8) : Bool := decide (l.length ≤ 9) && decide ((sp 45 l).length ≤ 2) && rng (cand l).1 (cand l).2 && decide (l = sh (cand l).1.toNat (cand l).2.toNat)
theorem cand_is {l : List UInt8} {f t : Int} (h : Is l f t) : cand l = (f, t) := by
  obtain ⟨hr, rfl⟩ := h
  obtain ⟨F, T, rfl, rfl, h1, h2, h3⟩ := nat_of hr
  rw [Int.toNat_natCast, Int.toNat_natCast]
  unfold cand
  by_cases e : F = T
  · subst e
    rw [sp_one, if_neg (by simp)]
    show (rdS (decN F), rdS (decN F)) = _
    rw [rdS_decN F (by omega)]
  · rw [sp_two e, if_pos (show [decN F, tail F T].length = 2 from rfl)]
    show (rdS (decN F), rdS (fill (decN F) (tail F T))) = _
    rw [rdS_decN F (by omega), fill_tail h2 e h3, rdS_decN T h3]
theorem lok_iff (l : List UInt8) : lok l = true ↔ Is l (cand l).1 (cand l).2 := by
  unfold lok
  simp only [Bool.and_eq_true, decide_eq_true_eq]
  constructor
  · rintro ⟨⟨⟨h1, h2⟩, h3⟩, h4⟩
    exact ⟨h3, h4⟩
  · rintro ⟨h3, h4⟩
    obtain ⟨F, T, e1, e2, h1, h2, h5⟩ := nat_of h3
    have hL : l = sh F T := by rw [h4, e1, e2, Int.toNat_natCast, Int.toNat_natCast]
    refine ⟨⟨⟨?_, ?_⟩, h3⟩, h4⟩
    · rw [hL]; exact Rt.sh_len (by omega) h5
    · rw [hL]
      by_cases e : F = T
      · subst e; rw [sp_one]; simp
      · rw [sp_two e]; simp
theorem lok_is {l : List UInt8} {f t : Int} (h : Is l f t) : lok l = true := (lok_iff l).2 (by rw [cand_is h]; exact h)
def lF (l : List UInt8) : Int := if lok l = true then (cand l).1 else 0
def lT (l : List UInt8) : Int := if lok l = true then (cand l).2 else 0
/-- what the library reads, of a short text -/
theorem atoi_is {l : List UInt8} {f t : Int} (h : Is l f t) : Lib.atoiAll (Lib.cut l [45]).1 = .ok f ∧ Lib.atoiAll (fill (Lib.cut l [45]).1 (Lib.cut l [45]).2.1) = .ok t := by
  obtain ⟨hr, rfl⟩ := h
  obtain ⟨F, T, rfl, rfl, h1, h2, h3⟩ := nat_of hr
  rw [Int.toNat_natCast, Int.toNat_natCast]
  by_cases e : F = T
  · subst e
    rw [cut_one]
    exact ⟨atoi_dec F (by omega), by show Lib.atoiAll (fill (decN F) []) = _; rw [fill_none]; exact atoi_dec F (by omega)⟩
  · rw [cut_two e]
    exact ⟨atoi_dec F (by omega), by show Lib.atoiAll (fill (decN F) (tail F T)) = _; rw [fill_tail h2 e h3]; exact atoi_dec T h3⟩
/-- what the program answers, by the two numbers that it has read -/
theorem same {l : List UInt8} {v u : Int} (hv : ∀ x, Lib.atoiAll (Lib.cut l [45]).1 = .ok x → v = x) (hu : ∀ x, Lib.atoiAll (fill (Lib.cut l [45]).1 (Lib.cut l [45]).2.1) = .ok x → u = x) :
    (rng v u = true ∧ l = sh v.toNat u.toNat ∧ lok l = true ∧ lF l = v ∧ lT l = u) ∨ (¬ (rng v u = true ∧ l = sh v.toNat u.toNat) ∧ lok l = false ∧ lF l = 0 ∧ lT l = 0) := by
  by_cases h : rng v u = true ∧ l = sh v.toNat u.toNat
  · have hi : Is l v u := h
    have h1 := lok_is hi
    have h2 := cand_is hi
    exact Or.inl ⟨h.1, h.2, h1, by unfold lF; rw [if_pos h1, h2], by unfold lT; rw [if_pos h1, h2]⟩
  · have h1 : lok l = false := by
      cases hl : lok l with
      | false => rfl
      | true =>
        have hi := (lok_iff l).1 hl
        obtain ⟨a1, a2⟩ := atoi_is hi
        have e1 := hv _ a1
        have e2 := hu _ a2
        exact absurd (by rw [e1, e2]; exact hi) h
    exact Or.inr ⟨h, h1, by unfold lF; rw [if_neg (by rw [h1]; simp)], by unfold lT; rw [if_neg (by rw [h1]; simp)]⟩
end Lr
end Go.Proofs.YtlghonnakokioaaDoor
