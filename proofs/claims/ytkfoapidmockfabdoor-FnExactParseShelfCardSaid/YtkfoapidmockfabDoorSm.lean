/- Shelves: when there is one, where its volumes lie, what lies between faces. -/
namespace Go.Proofs.YtkfoapidmockfabDoor
set_option linter.unusedVariables false
namespace Sh
/-- the left end of volume k: what stands ahead of it, with its covers -/
def lf (c : Int) (zs : List Int) : Nat → Int
  | 0 => 0
  | k + 1 => lf c zs k + (zs.getD k 0 + 2 * c)
/-- there is a shelf -/
def Ok (zs : List Int) (c : Int) : Prop := 1 ≤ zs.length ∧ zs.length ≤ 8 ∧ (∀ k, k < zs.length → 1 ≤ zs.getD k 0 ∧ zs.getD k 0 ≤ 100) ∧ 0 ≤ c ∧ c ≤ 10
def good (zs : List Int) (c : Int) : Bool := decide (1 ≤ zs.length) && decide (zs.length ≤ 8) && (List.range zs.length).all (fun k => decide (1 ≤ zs.getD k 0) && decide (zs.getD k 0 ≤ 100)) && decide (0 ≤ c) && decide (c ≤ 10)
theorem good_iff (zs : List Int) (c : Int) : good zs c = true ↔ Ok zs c := by
  unfold good Ok
  simp only [Bool.and_eq_true, decide_eq_true_eq, List.all_eq_true, List.mem_range]
  constructor
  · rintro ⟨⟨⟨⟨a, b⟩, d⟩, e⟩, f⟩; exact ⟨a, b, d, e, f⟩
  · rintro ⟨a, b, d, e, f⟩; exact ⟨⟨⟨⟨a, b⟩, d⟩, e⟩, f⟩
theorem good_no {zs : List Int} {c : Int} (h : good zs c = false) : ¬ Ok zs c := by
  intro h2
  rw [(good_iff zs c).2 h2] at h
  cases h
/-- there are a shelf and a volume of it -/
def both (zs : List Int) (c v : Int) : Bool := good zs c && decide (0 ≤ v) && decide (v < zs.length)
theorem both_iff (zs : List Int) (c v : Int) : both zs c v = true ↔ Ok zs c ∧ 0 ≤ v ∧ v < zs.length := by
  unfold both
  simp only [Bool.and_eq_true, decide_eq_true_eq, good_iff]
  constructor
  · rintro ⟨⟨a, b⟩, d⟩; exact ⟨a, b, d⟩
  · rintro ⟨a, b, d⟩; exact ⟨⟨a, b⟩, d⟩
theorem lf_in {zs : List Int} {c : Int} (h : Ok zs c) (k : Nat) (hk : k ≤ zs.length) : 0 ≤ lf c zs k ∧ lf c zs k ≤ 120 * k := by
  induction k with
  | zero => unfold lf; omega
  | succ k ih =>
    have := ih (by omega)
    have := h.2.2.1 k (by omega)
    have := h.2.2.2
    unfold lf; omega
theorem lf_big {zs : List Int} {c : Int} (h : Ok zs c) (k : Nat) (hk : k ≤ zs.length) : 0 ≤ lf c zs k ∧ lf c zs k ≤ 960 := by
  have := lf_in h k hk
  have := h.2.1
  omega
theorem lf_add {zs : List Int} {c : Int} (h : Ok zs c) (k d : Nat) (hk : k + d ≤ zs.length) : lf c zs k + d ≤ lf c zs (k + d) := by
  induction d with
  | zero => simp
  | succ d ih =>
    have := ih (by omega)
    have := h.2.2.1 (k + d) (by omega)
    have := h.2.2.2
    rw [show k + (d + 1) = (k + d) + 1 by omega]
    have e : lf c zs (k + d + 1) = lf c zs (k + d) + (zs.getD (k + d) 0 + 2 * c) := rfl
    omega
theorem lf_mono {zs : List Int} {c : Int} (h : Ok zs c) {j k : Nat} (hj : j ≤ k) (hk : k ≤ zs.length) : lf c zs j + (k - j : Nat) ≤ lf c zs k := by
  have := lf_add h j (k - j) (by omega)
  rw [show j + (k - j) = k by omega] at this
  exact this
/-- the face of the first page of a volume, or of its last one -/
def face (c : Int) (zs : List Int) (k : Nat) (last : Bool) : Int := lf c zs k + c + (if last then 0 else zs.getD k 0)
theorem face_last (c : Int) (zs : List Int) (k : Nat) : face c zs k true = lf c zs k + c := by simp [face]
theorem face_first (c : Int) (zs : List Int) (k : Nat) : face c zs k false = lf c zs k + c + zs.getD k 0 := by simp [face]
theorem face_in {zs : List Int} {c : Int} (h : Ok zs c) (k : Nat) (hk : k < zs.length) (b : Bool) : 0 ≤ face c zs k b ∧ face c zs k b ≤ 960 := by
  have h1 := lf_in h k (by omega)
  have h2 := h.2.2.1 k hk
  have h3 := h.2.2.2
  have h4 := h.2.1
  cases b <;> simp only [face_last, face_first] <;> omega
theorem far_best {zs : List Int} {c : Int} (h : Ok zs c) {a b : Nat} (ha : a < zs.length) (hb : b < zs.length) (hn : a ≠ b) (hm : ¬ (a = zs.length - 1 ∧ b = 0)) :
    max (face c zs a false - face c zs b true) (face c zs b true - face c zs a false) < face c zs (zs.length - 1) false - face c zs 0 true := by
  simp only [face_last, face_first]
  have z0 : lf c zs 0 = 0 := rfl
  have t0 := h.2.2.1 (zs.length - 1) (by omega)
  have ta := h.2.2.1 a ha
  have tb := h.2.2.1 b hb
  have hc := h.2.2.2
  have mb := lf_mono h (j := 0) (k := b) (by omega) (by omega)
  have eb := lf_mono h (j := b) (k := zs.length - 1) (by omega) (by omega)
  have ma := lf_mono h (j := 0) (k := a) (by omega) (by omega)
  by_cases e : a = zs.length - 1
  · subst e
    have : b ≠ 0 := fun e => hm ⟨rfl, e⟩
    omega
  · have ea := lf_mono h (j := a + 1) (k := zs.length - 1) (by omega) (by omega)
    have es : lf c zs (a + 1) = lf c zs a + (zs.getD a 0 + 2 * c) := rfl
    omega
theorem far_pos {zs : List Int} {c : Int} (h : Ok zs c) : 0 < face c zs (zs.length - 1) false - face c zs 0 true ∧ face c zs (zs.length - 1) false - face c zs 0 true ≤ 960 := by
  have t0 := h.2.2.1 (zs.length - 1) (by have := h.1; omega)
  have t1 := lf_big h (zs.length - 1) (by omega)
  have t2 := face_in h (zs.length - 1) (by have := h.1; omega) false
  have t3 := face_in h 0 (by have := h.1; omega) true
  simp only [face_last, face_first] at *
  have z0 : lf c zs 0 = 0 := rfl
  omega
/-- how many volumes a worm eats the covers of -/
def odd (lo : Int) : Nat → Int
  | 0 => 0
  | k + 1 => odd lo k + (if (lo + k) % 2 = 1 then 2 else 0)
theorem odd_even (a : Int) (k : Nat) : odd (2 * a) k = 2 * ((k / 2 : Nat) : Int) := by
  induction k with
  | zero => rfl
  | succ k ih =>
    unfold odd
    rw [ih]
    split <;> omega
theorem odd_odd (a : Int) (k : Nat) : odd (2 * a + 1) k = 2 * (((k + 1) / 2 : Nat) : Int) := by
  induction k with
  | zero => rfl
  | succ k ih =>
    unfold odd
    rw [ih]
    split <;> omega
end Sh
end Go.Proofs.YtkfoapidmockfabDoor
