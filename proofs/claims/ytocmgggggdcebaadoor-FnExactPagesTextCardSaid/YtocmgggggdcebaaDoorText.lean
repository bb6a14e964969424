/- Plain mathematics on texts of page numbers: runs of numbers one after the other, the parts of the text, and how it is built up from the left. No program in sight. No condition. -/
import Derived.Lib.Join
namespace Go.Proofs.YtocmgggggdcebaaDoor
def digit (n : Nat) : UInt8 := UInt8.ofNat (48 + n)
def decN (n : Nat) : List UInt8 := if n < 10 then [digit n] else decN (n / 10) ++ [digit (n % 10)]
termination_by n
decreasing_by omega
theorem decN_small {n : Nat} (h : n < 10) : decN n = [digit n] := by rw [decN, if_pos h]
theorem decN_great {n : Nat} (h : ¬ n < 10) : decN n = decN (n / 10) ++ [digit (n % 10)] := by rw [decN, if_neg h]
theorem decN_length (n : Nat) : 1 ≤ (decN n).length ∧ (decN n).length ≤ n + 1 := by
  induction n using Nat.strongRecOn with
  | ind n ih =>
    by_cases h : n < 10
    · rw [decN_small h]; simp
    · have := ih (n / 10) (by omega)
      rw [decN_great h, List.length_append]
      simp
      omega
namespace T
/-- the number at place i -/
abbrev at_ (zs : List Int) (i : Nat) : Int := zs.getD i 0
def Run (zs : List Int) (i r : Nat) : Prop := 1 ≤ r ∧ i + r ≤ zs.length ∧ ∀ t, t < r → at_ zs (i + t) = at_ zs i + t
def MaxRun (zs : List Int) (i r : Nat) : Prop := Run zs i r ∧ (i + r < zs.length → ¬ at_ zs (i + r) = at_ zs i + r)
theorem maxRun_one {zs : List Int} {i r s : Nat} (h : MaxRun zs i r) (g : MaxRun zs i s) : r = s := by
  by_cases c : r < s
  · exact absurd (g.1.2.2 r c) (h.2 (by have := g.1.2.1; omega))
  · by_cases c' : s < r
    · exact absurd (h.1.2.2 s c') (g.2 (by have := h.1.2.1; omega))
    · omega
theorem run_first {zs : List Int} {i : Nat} (h : i < zs.length) : Run zs i 1 := ⟨by omega, by omega, fun t ht => by
  obtain rfl : t = 0 := by omega
  simp⟩
theorem run_next {zs : List Int} {i r : Nat} (h : Run zs i r) (hl : i + r < zs.length) (he : at_ zs (i + r) = at_ zs i + r) : Run zs i (r + 1) :=
  ⟨by omega, by omega, fun t ht => by
    by_cases c : t = r
    · rw [c]; exact he
    · exact h.2.2 t (by omega)⟩
def ext (zs : List Int) (i : Nat) : Nat → Nat → Nat
  | 0, r => r
  | f + 1, r => if i + r < zs.length ∧ at_ zs (i + r) = at_ zs i + r then ext zs i f (r + 1) else r
theorem ext_ge (zs : List Int) (i f : Nat) : ∀ r, r ≤ ext zs i f r := by
  induction f with
  | zero => intro r; exact Nat.le_refl _
  | succ f ih =>
    intro r
    unfold ext
    split
    · exact Nat.le_trans (by omega) (ih (r + 1))
    · exact Nat.le_refl _
theorem ext_max (zs : List Int) (i f : Nat) : ∀ r, Run zs i r → zs.length ≤ i + r + f → MaxRun zs i (ext zs i f r) := by
  induction f with
  | zero => intro r h hl; exact ⟨h, fun hh => by have hh2 : i + r < zs.length := hh; omega⟩
  | succ f ih =>
    intro r h hl
    unfold ext
    by_cases c : i + r < zs.length ∧ at_ zs (i + r) = at_ zs i + r
    · rw [if_pos c]; exact ih (r + 1) (run_next h c.1 c.2) (by omega)
    · rw [if_neg c]; exact ⟨h, fun hh he => c ⟨hh, he⟩⟩
/-- how many numbers from place i on come one after the other -/
def rl (zs : List Int) (i : Nat) : Nat := ext zs i zs.length 1
theorem rl_pos (zs : List Int) (i : Nat) : 1 ≤ rl zs i := ext_ge zs i _ 1
theorem rl_max {zs : List Int} {i : Nat} (h : i < zs.length) : MaxRun zs i (rl zs i) := ext_max zs i _ 1 (run_first h) (by omega)
theorem rl_is {zs : List Int} {i r : Nat} (h : MaxRun zs i r) : r = rl zs i := maxRun_one h (rl_max (by have := h.1.1; have := h.1.2.1; omega))
def num (x : Int) : List UInt8 := decN x.toNat
/-- the parts of the text, from place i on -/
def parts (zs : List Int) (i : Nat) : List (List UInt8) :=
  if h : i < zs.length then
    if rl zs i < 3 then num (at_ zs i) :: parts zs (i + 1)
    else (num (at_ zs i) ++ [45] ++ num (at_ zs (i + rl zs i - 1))) :: parts zs (i + rl zs i)
  else []
termination_by zs.length - i
decreasing_by
  · omega
  · have := rl_pos zs i; omega
theorem parts_end {zs : List Int} {i : Nat} (h : ¬ i < zs.length) : parts zs i = [] := by rw [parts, dif_neg h]
theorem parts_one {zs : List Int} {i : Nat} (h : i < zs.length) (hr : rl zs i < 3) : parts zs i = num (at_ zs i) :: parts zs (i + 1) := by rw [parts, dif_pos h, if_pos hr]
theorem parts_many {zs : List Int} {i : Nat} (h : i < zs.length) (hr : ¬ rl zs i < 3) : parts zs i = (num (at_ zs i) ++ [45] ++ num (at_ zs (i + rl zs i - 1))) :: parts zs (i + rl zs i) := by rw [parts, dif_pos h, if_neg hr]
theorem rl_second {zs : List Int} {i : Nat} (h : i < zs.length) (hr : rl zs i = 2) : rl zs (i + 1) = 1 ∧ i + 1 < zs.length := by
  obtain ⟨⟨h1, h2, h3⟩, h4⟩ := rl_max h
  rw [hr] at h2 h3 h4
  refine ⟨(rl_is (zs := zs) (i := i + 1) (r := 1) ⟨run_first (by omega), fun hh he => ?_⟩).symm, by omega⟩
  have e1 := h3 1 (by omega)
  exact h4 (by omega) (by
    show at_ zs (i + 2) = at_ zs i + 2
    have : at_ zs (i + 1 + 1) = at_ zs (i + 1) + 1 := he
    rw [show i + 2 = i + 1 + 1 from rfl, this]
    have e1' : at_ zs (i + 1) = at_ zs i + 1 := e1
    omega)
def tail (zs : List Int) (i : Nat) : List UInt8 := Lib.joinTail [44] (parts zs i)
def text (zs : List Int) : List UInt8 := Lib.join (parts zs 0) [44]
theorem tail_cons (x : List UInt8) (r : List (List UInt8)) : Lib.joinTail [44] (x :: r) = [44] ++ x ++ Lib.joinTail [44] r := by
  simp [Lib.joinTail]
theorem tail_end {zs : List Int} {i : Nat} (h : ¬ i < zs.length) : tail zs i = [] := by unfold tail; rw [parts_end h]; rfl
/-- what the run at place i brings to the text -/
def piece (zs : List Int) (i : Nat) : List UInt8 :=
  if rl zs i = 1 then num (at_ zs i) else if rl zs i = 2 then num (at_ zs i) ++ [44] ++ num (at_ zs (i + 1)) else num (at_ zs i) ++ [45] ++ num (at_ zs (i + rl zs i - 1))
theorem tail_step {zs : List Int} {i : Nat} (h : i < zs.length) : tail zs i = [44] ++ piece zs i ++ tail zs (i + rl zs i) := by
  unfold tail piece
  by_cases c1 : rl zs i = 1
  · rw [if_pos c1, parts_one h (by omega), tail_cons, c1]
  · rw [if_neg c1]
    by_cases c2 : rl zs i = 2
    · obtain ⟨s1, s2⟩ := rl_second h c2
      rw [if_pos c2, parts_one h (by omega), tail_cons, parts_one s2 (by omega), tail_cons, c2]
      simp
    · have := rl_pos zs i
      rw [if_neg c2, parts_many h (by omega), tail_cons]
theorem text_of {zs : List Int} (h : 0 < zs.length) : [44] ++ text zs = tail zs 0 := by
  unfold text tail
  by_cases c : rl zs 0 < 3
  · rw [parts_one h c, tail_cons, Lib.join_cons]; simp
  · rw [parts_many h c, tail_cons, Lib.join_cons]; simp
/-- what has been written when place i is reached -/
def Inv (zs : List Int) (i : Nat) (out : List UInt8) : Prop := (i = 0 ∧ out = []) ∨ (0 < i ∧ out ++ tail zs i = text zs)
theorem inv_first {zs : List Int} {out : List UInt8} (hl : 0 < zs.length) (h : Inv zs 0 out) : Inv zs (0 + rl zs 0) (out ++ piece zs 0) := by
  have hp := rl_pos zs 0
  rcases h with ⟨_, rfl⟩ | ⟨h0, _⟩
  · refine Or.inr ⟨by omega, ?_⟩
    have := text_of hl
    rw [tail_step hl] at this
    simp at this
    simp [this]
  · omega
theorem inv_next {zs : List Int} {i : Nat} {out : List UInt8} (hl : i < zs.length) (h0 : 0 < i) (h : Inv zs i out) : Inv zs (i + rl zs i) (out ++ [44] ++ piece zs i) := by
  have hp := rl_pos zs i
  rcases h with ⟨h1, _⟩ | ⟨_, h1⟩
  · omega
  · refine Or.inr ⟨by omega, ?_⟩
    rw [tail_step hl] at h1
    rw [← h1]
    simp
theorem inv_end {zs : List Int} {i : Nat} {out : List UInt8} (hl : 0 < zs.length) (he : i = zs.length) (h : Inv zs i out) : out = text zs := by
  rcases h with ⟨h1, _⟩ | ⟨_, h1⟩
  · omega
  · rw [tail_end (by omega)] at h1
    simpa using h1
end T
end Go.Proofs.YtocmgggggdcebaaDoor
