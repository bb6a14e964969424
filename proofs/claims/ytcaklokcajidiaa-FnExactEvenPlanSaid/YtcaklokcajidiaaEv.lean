/- Even plans: what each day takes of what is left. -/
namespace Go.Proofs.Ytcaklokcajidiaa
set_option linter.unusedVariables false
namespace Ev
/-- the pages of one of D days that are left, with l pages left -/
def pt (l : Int) (D : Nat) : Int := (l + D - 1).tdiv D
/-- what is left behind day k of N -/
def el (P : Int) (N : Nat) : Nat → Int
  | 0 => P
  | k + 1 => el P N k - pt (el P N k) (N - k)
/-- the pages of the first k days -/
def en (P : Int) (N : Nat) : Nat → List Int
  | 0 => []
  | k + 1 => en P N k ++ [pt (el P N k) (N - k)]
theorem en_len (P : Int) (N k : Nat) : (en P N k).length = k := by
  induction k with
  | zero => rfl
  | succ k ih => unfold en; rw [List.length_append, ih]; rfl
theorem pt_in {l : Int} {D : Nat} (h : 0 ≤ l) (hD : 1 ≤ D) : 0 ≤ pt l D ∧ pt l D ≤ l := by
  unfold pt
  rw [Int.tdiv_eq_ediv_of_nonneg (by omega)]
  have hD' : (0 : Int) < D := by omega
  refine ⟨Int.ediv_nonneg (by omega) (by omega), ?_⟩
  have := (@Int.ediv_lt_iff_lt_mul (l + D - 1) (l + 1) D hD').2 (by
    have h1 := Int.mul_le_mul_of_nonneg_left (show (1 : Int) ≤ D by omega) h
    rw [Int.add_mul, Int.one_mul]
    omega)
  omega
theorem el_in {P : Int} {N : Nat} (h : 0 ≤ P) (k : Nat) (hk : k ≤ N) : 0 ≤ el P N k ∧ el P N k ≤ P := by
  induction k with
  | zero => unfold el; omega
  | succ k ih =>
    have ih := ih (by omega)
    have := pt_in (D := N - k) ih.1 (by omega)
    unfold el
    omega
/-- a made list of N numbers, the first k of them written -/
def rw_ (zs : List Int) (N k : Nat) : List Int := zs ++ List.replicate (N - k) 0
theorem rw_set {zs : List Int} {N k : Nat} (x : Int) (hz : zs.length = k) (hk : k < N) : (rw_ zs N k).set k x = rw_ (zs ++ [x]) N (k + 1) := by
  unfold rw_
  rw [List.set_append_right _ _ (by omega), hz, Nat.sub_self, show N - k = (N - (k + 1)) + 1 by omega, List.replicate_succ, List.set_cons_zero, List.append_assoc]
  rfl
theorem rw_len {zs : List Int} {N k : Nat} (hz : zs.length = k) (hk : k ≤ N) : (rw_ zs N k).length = N := by
  unfold rw_; rw [List.length_append, List.length_replicate, hz]; omega
theorem rw_end {zs : List Int} {N : Nat} : rw_ zs N N = zs := by unfold rw_; simp
end Ev
end Go.Proofs.Ytcaklokcajidiaa
