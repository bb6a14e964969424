/- How many pages there were at first: the arithmetic, and when what is told is told rightly. -/
namespace Go.Proofs.Ytcaklokcajidiab
set_option linter.unusedVariables false
namespace Ap
def nu (R : List (List Int)) (k : Nat) : Int := (R.getD k []).getD 0 0
def de (R : List (List Int)) (k : Nat) : Int := (R.getD k []).getD 1 0
def PartOk (z : List Int) : Prop := z.length = 2 ∧ 1 ≤ z.getD 0 0 ∧ z.getD 0 0 < z.getD 1 0 ∧ z.getD 1 0 ≤ 200
def PartsOk (R : List (List Int)) : Prop := ∀ r, r < R.length → PartOk (R.getD r [])
def MoreOk (ms : List Int) : Prop := ∀ r, r < ms.length → 0 ≤ ms.getD r 0 ∧ ms.getD r 0 ≤ 200
def Good (l : Int) (R : List (List Int)) (ms : List Int) : Prop := (0 ≤ l ∧ l ≤ 2000) ∧ R.length ≤ 6 ∧ R.length = ms.length ∧ MoreOk ms ∧ PartsOk R
/-- what there was ahead of day k -/
def step (R : List (List Int)) (ms : List Int) (k : Nat) (l : Int) : Option Int :=
  if ((l + ms.getD k 0) * de R k).tmod (de R k - nu R k) = 0 then
    if ((l + ms.getD k 0) * de R k).tdiv (de R k - nu R k) ≤ 2000 then some (((l + ms.getD k 0) * de R k).tdiv (de R k - nu R k)) else none
  else none
def run (R : List (List Int)) (ms : List Int) : Nat → Int → Option Int
  | 0, l => some l
  | k + 1, l => (step R ms k l).bind (run R ms k)
open Classical in
noncomputable def ans (l : Int) (R : List (List Int)) (ms : List Int) : Int × Bool :=
  if Good l R ms then match run R ms R.length l with
    | some p => (p, true)
    | none => (0, false)
  else (0, false)
theorem ans_no {l : Int} {R : List (List Int)} {ms : List Int} (h : ¬ Good l R ms) : ans l R ms = (0, false) := by unfold ans; rw [if_neg h]
theorem ans_none {l : Int} {R : List (List Int)} {ms : List Int} (h : run R ms R.length l = none) : ans l R ms = (0, false) := by
  unfold ans
  rw [h]
  split <;> rfl
theorem ans_some {l p : Int} {R : List (List Int)} {ms : List Int} (hg : Good l R ms) (h : run R ms R.length l = some p) : ans l R ms = (p, true) := by
  unfold ans
  rw [if_pos hg, h]
theorem step_bad {R : List (List Int)} {ms : List Int} {k : Nat} {l : Int} (h : ¬ ((l + ms.getD k 0) * de R k).tmod (de R k - nu R k) = 0) : run R ms (k + 1) l = none := by
  unfold run step
  rw [if_neg h]
  rfl
theorem step_far {R : List (List Int)} {ms : List Int} {k : Nat} {l : Int} (h : ¬ ((l + ms.getD k 0) * de R k).tdiv (de R k - nu R k) ≤ 2000) : run R ms (k + 1) l = none := by
  unfold run step
  rw [if_neg h]
  split <;> rfl
theorem step_on {R : List (List Int)} {ms : List Int} {k : Nat} {l : Int} (h : ((l + ms.getD k 0) * de R k).tmod (de R k - nu R k) = 0) (h' : ((l + ms.getD k 0) * de R k).tdiv (de R k - nu R k) ≤ 2000) :
    run R ms (k + 1) l = run R ms k (((l + ms.getD k 0) * de R k).tdiv (de R k - nu R k)) := by
  rw [show run R ms (k + 1) l = (step R ms k l).bind (run R ms k) from rfl]
  unfold step
  rw [if_pos h, if_pos h']
  rfl
theorem prod_in {K d n : Int} (h0 : 0 ≤ K) (h1 : K ≤ 2200) (h2 : 1 ≤ n) (h3 : n < d) (h4 : d ≤ 200) : 0 ≤ K * d ∧ K * d ≤ 440000 ∧ 0 ≤ (K * d).tdiv (d - n) ∧ (K * d).tdiv (d - n) ≤ 440000 ∧ 0 ≤ (K * d).tdiv (d - n) * n ∧ (K * d).tdiv (d - n) * n ≤ 88000000 := by
  have a := Int.mul_nonneg h0 (show 0 ≤ d by omega)
  have b : K * d ≤ 2200 * 200 := Int.mul_le_mul h1 h4 (by omega) (by omega)
  have c : 0 ≤ (K * d).tdiv (d - n) := Int.tdiv_nonneg a (by omega)
  have e : (K * d).tdiv (d - n) ≤ K * d := by
    rw [Int.tdiv_eq_ediv_of_nonneg a]
    exact Int.ediv_le_self _ a
  have f := Int.mul_nonneg c (show 0 ≤ n by omega)
  have g : (K * d).tdiv (d - n) * n ≤ 440000 * 200 := Int.mul_le_mul (show _ ≤ 440000 by omega) (show n ≤ 200 by omega) (by omega) (by omega)
  omega
theorem whole {K d n : Int} (hd : n < d) (hn : 1 ≤ n) (h : (K * d).tmod (d - n) = 0) : ((K * d).tdiv (d - n) * n).tmod d = 0 := by
  have e := Int.tmod_add_mul_tdiv (K * d) (d - n)
  rw [h, Int.zero_add] at e
  have f : (K * d).tdiv (d - n) * n = d * ((K * d).tdiv (d - n) - K) := by
    generalize (K * d).tdiv (d - n) = q at *
    rw [Int.sub_mul] at e
    rw [Int.mul_sub, Int.mul_comm d K, Int.mul_comm q n]
    omega
  rw [f, Int.mul_tmod_right]
end Ap
end Go.Proofs.Ytcaklokcajidiab
