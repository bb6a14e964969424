/- Sets of pages: both, one, the first alone, put, taken; the answer to a set. -/
import Derived.Test.YtdapdiciejlejaaGm5
namespace Go.Proofs.Ytdapdiciejlejaa
set_option linter.unusedVariables false
set_option linter.unusedSimpArgs false
namespace Gm
/-- the answer: at most 20 ranges, or none -/
def okR (rs : PR) : Bool := decide (rs.length ≤ 20)
def lenR (rs : PR) : Nat := if rs.length ≤ 20 then rs.length else 0
def listR (rs : PR) : List Int := if rs.length ≤ 20 then flat rs else []
theorem lenR_le (rs : PR) : lenR rs ≤ 1048576 := by unfold lenR; split <;> omega
theorem flat_nums (rs : PR) : (flat rs).length = 2 * rs.length := flat_len rs
theorem R_yes {rs : PR} (h : rs.length ≤ 20) : okR rs = true ∧ lenR rs = rs.length ∧ listR rs = flat rs := by
  unfold okR lenR listR
  rw [if_pos h, if_pos h]
  exact ⟨decide_eq_true h, rfl, rfl⟩
theorem R_no {rs : PR} (h : ¬ rs.length ≤ 20) : okR rs = false ∧ lenR rs = 0 ∧ listR rs = [] := by
  unfold okR lenR listR
  rw [if_neg h, if_neg h]
  exact ⟨decide_eq_false h, rfl, rfl⟩
/-- one row of marks by another: both, one, the first alone -/
def mix (kind : Nat) (x y : Bool) : Bool := match kind with
  | 0 => x || y
  | 1 => x && y
  | _ => x && !y
/-- pages that are put -/
def put (m : Int → Bool) (page many q : Int) : Bool := (decide (q < page) && m q) || (decide (page + many ≤ q) && m (q - many))
/-- a page is put too far -/
def far (m : Int → Bool) (page many : Int) : Prop := ∃ p, m p = true ∧ page ≤ p ∧ 2000 < p + many
/-- pages that are left -/
def tak (m : Int → Bool) (page many q : Int) : Bool := (decide (q < page) && m q) || (decide (page ≤ q) && m (q + many))
/-- one page more is put -/
theorem put_step {m : Int → Bool} {page many p : Int} (h0 : 0 ≤ many) (q : Int) :
    put (fun x => m x || decide (x = p)) page many q = (put m page many q || decide (q = if page ≤ p then p + many else p)) := by
  unfold put
  rw [Bool.eq_iff_iff]
  simp only [Bool.or_eq_true, Bool.and_eq_true, decide_eq_true_eq]
  by_cases c : page ≤ p
  · rw [if_pos c]
    constructor
    · rintro (⟨a, b | b⟩ | ⟨a, b | b⟩)
      · exact .inl (.inl ⟨a, b⟩)
      · omega
      · exact .inl (.inr ⟨a, b⟩)
      · exact .inr (by omega)
    · rintro ((⟨a, b⟩ | ⟨a, b⟩) | a)
      · exact .inl ⟨a, .inl b⟩
      · exact .inr ⟨a, .inl b⟩
      · exact .inr ⟨by omega, .inr (by omega)⟩
  · rw [if_neg c]
    constructor
    · rintro (⟨a, b | b⟩ | ⟨a, b | b⟩)
      · exact .inl (.inl ⟨a, b⟩)
      · exact .inr b
      · exact .inl (.inr ⟨a, b⟩)
      · omega
    · rintro ((⟨a, b⟩ | ⟨a, b⟩) | a)
      · exact .inl ⟨a, .inl b⟩
      · exact .inr ⟨a, .inl b⟩
      · exact .inl ⟨by omega, .inr a⟩
theorem put_same {m m' : Int → Bool} (h : ∀ p, m p = m' p) (page many q : Int) : put m page many q = put m' page many q := by
  unfold put; rw [h, h]
theorem tak_same {m m' : Int → Bool} (h : ∀ p, m p = m' p) (page many q : Int) : tak m page many q = tak m' page many q := by
  unfold tak; rw [h, h]
/-- one page more is left, or not -/
theorem tak_front {m : Int → Bool} {page many p : Int} (h0 : 0 ≤ many) (hp : p < page) (q : Int) :
    tak (fun x => m x || decide (x = p)) page many q = (tak m page many q || decide (q = p)) := by
  unfold tak
  rw [Bool.eq_iff_iff]
  simp only [Bool.or_eq_true, Bool.and_eq_true, decide_eq_true_eq]
  constructor
  · rintro (⟨a, b | b⟩ | ⟨a, b | b⟩)
    · exact .inl (.inl ⟨a, b⟩)
    · exact .inr b
    · exact .inl (.inr ⟨a, b⟩)
    · omega
  · rintro ((⟨a, b⟩ | ⟨a, b⟩) | a)
    · exact .inl ⟨a, .inl b⟩
    · exact .inr ⟨a, .inl b⟩
    · exact .inl ⟨by omega, .inr a⟩
theorem tak_behind {m : Int → Bool} {page many p : Int} (h0 : 0 ≤ many) (hp : page + many ≤ p) (q : Int) :
    tak (fun x => m x || decide (x = p)) page many q = (tak m page many q || decide (q = p - many)) := by
  unfold tak
  rw [Bool.eq_iff_iff]
  simp only [Bool.or_eq_true, Bool.and_eq_true, decide_eq_true_eq]
  constructor
  · rintro (⟨a, b | b⟩ | ⟨a, b | b⟩)
    · exact .inl (.inl ⟨a, b⟩)
    · omega
    · exact .inl (.inr ⟨a, b⟩)
    · exact .inr (by omega)
  · rintro ((⟨a, b⟩ | ⟨a, b⟩) | a)
    · exact .inl ⟨a, .inl b⟩
    · exact .inr ⟨a, .inl b⟩
    · exact .inr ⟨by omega, .inr (by omega)⟩
theorem tak_out {m : Int → Bool} {page many p : Int} (h0 : 0 ≤ many) (h1 : ¬ p < page) (h2 : ¬ page + many ≤ p) (q : Int) :
    tak (fun x => m x || decide (x = p)) page many q = tak m page many q := by
  unfold tak
  rw [Bool.eq_iff_iff]
  simp only [Bool.or_eq_true, Bool.and_eq_true, decide_eq_true_eq]
  constructor
  · rintro (⟨a, b | b⟩ | ⟨a, b | b⟩)
    · exact .inl ⟨a, b⟩
    · omega
    · exact .inr ⟨a, b⟩
    · omega
  · rintro (⟨a, b⟩ | ⟨a, b⟩)
    · exact .inl ⟨a, .inl b⟩
    · exact .inr ⟨a, .inl b⟩
/-- what has been looked at, in whatever order -/
theorem seen_step {m left : Int → Bool} {x : Int} (hx : left x = true) (hm : m x = true) (p : Int) : (m p && !(left p && !decide (p = x))) = ((m p && !left p) || decide (p = x)) := by
  by_cases e : p = x
  · subst e; rw [hx, hm, decide_eq_true rfl]; rfl
  · rw [decide_eq_false e]; simp
/-- marks and a set that say the same have one answer -/
theorem same_runs {m : Nat → Bool} {S : Int → Bool} {N : Nat} (h0 : m 0 = false) (h : ∀ k : Nat, k < N → S (k : Int) = m k) (hS : ∀ p, S p = true → 0 ≤ p ∧ p < (N : Int)) : Ch 1 (runs m N) ∧ (∀ q ∈ runs m N, q.2 < (N : Int)) ∧ ∀ p, S p = has (runs m N) p := by
  obtain ⟨a, b, c⟩ := runs_up h0 N
  refine ⟨a, b, fun p => ?_⟩
  by_cases hp : 0 ≤ p ∧ p < (N : Int)
  · obtain ⟨k, rfl⟩ : ∃ k : Nat, p = (k : Int) := ⟨p.toNat, by omega⟩
    rw [h k (by omega), c k (by omega)]
  · rw [has_out a b (by omega)]
    cases e : S p with
    | false => rfl
    | true => exact absurd (hS p e) hp
theorem runs_same {m m' : Nat → Bool} : ∀ N, (∀ k, k < N → m k = m' k) → runs m N = runs m' N
  | 0, _ => rfl
  | N + 1, h => by
    have ih := runs_same N (fun k hk => h k (by omega))
    unfold runs
    rw [ih, h N (by omega)]
    by_cases h0 : 0 < N
    · rw [h (N - 1) (by omega)]
    · rw [decide_eq_false h0]; rfl
end Gm
end Go.Proofs.Ytdapdiciejlejaa
