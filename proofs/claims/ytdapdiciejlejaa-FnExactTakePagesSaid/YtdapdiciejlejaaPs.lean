/- Pages put and taken: marks of another length; answers. -/
import Derived.Test.YtdapdiciejlejaaCw
namespace Go.Proofs.Ytdapdiciejlejaa
open Go.RowKit Go.Joins Go.Deep Go.ChangeShapes Go.WideShapes
set_option linter.unusedVariables false
set_option linter.unusedSimpArgs false
namespace Gw
open Rg Gm
/-- a page -/
def isP (p : Int) : Bool := decide (1 ≤ p) && decide (p ≤ 2000)
theorem isP_iff (p : Int) : isP p = true ↔ 1 ≤ p ∧ p ≤ 2000 := by unfold isP; simp
/-- so many pages -/
def isM (p : Int) : Bool := decide (0 ≤ p) && decide (p ≤ 2000)
theorem isM_iff (p : Int) : isM p = true ↔ 0 ≤ p ∧ p ≤ 2000 := by unfold isM; simp
theorem isMany_any (p : Int) (v : Bool) (hv : isM p = v) (w : World) : Calls Try.prog 49 #[.int .i64 p] w fun e w' => e = .returned (.bool v) ∧ w = w' := by
  by_cases h0 : p = 0
  · subst h0
    have e : v = true := by rw [← hv]; rfl
    subst e
    clear hv
    go_enter Try.func49, Try.ntmps49
    go_wp2
    go_ret
    exact ⟨rfl, rfl⟩
  · have e : (decide (1 ≤ p) && decide (p ≤ 2000)) = v := by
      rw [← hv]
      unfold isM
      congr 1
      by_cases c : 1 ≤ p
      · rw [decide_eq_true c, decide_eq_true (by omega)]
      · rw [decide_eq_false c, decide_eq_false (by omega)]
    have C := Lib.hid (fun W => isIndexable_any p v e W)
    have t0 : (p == 0) = false := by rw [beq_eq_false_iff_ne]; exact h0
    clear hv e h0
    go_enter Try.func49, Try.ntmps49
    go_wp2_with fail
    refine (C.out _).mono ?_
    rintro e w' ⟨rfl, rfl⟩
    go_wp2
    go_ret
    exact ⟨rfl, rfl⟩
set_option maxRecDepth 100000 in
set_option maxHeartbeats 1000000 in
theorem ixPage_any {b1 g len cap : Nat} {zs : List Int} {w : World} (h : Own w b1 (.slice (some ⟨g, 0, none⟩) len cap) len zs) (hl : len ≤ 1048576) (p : Int) (v : Bool) (hv : (good zs len && isP p) = v) :
    Calls Try.prog 46 #[.slice (some ⟨g, 0, none⟩) len cap, .int .i64 p] w (Ret (.bool v) w) := by
  obtain ⟨x1, hx1⟩ : ∃ x, good zs len = x := ⟨_, rfl⟩
  obtain ⟨x2, hx2⟩ : ∃ x, isP p = x := ⟨_, rfl⟩
  have C1 := Lib.hid (ixGood_some h hl x1 hx1)
  have C2 := Lib.hid (fun W => l1In_any p 1 2000 x2 hx2 W)
  have e : v = (x1 && x2) := by rw [← hv, hx1, hx2]
  subst e
  clear h hv hx1 hx2
  cases x1
  · go_enter Try.func46, Try.ntmps46
    go_wp2_with fail
    refine C1.out.mono ?_
    rintro e w' ⟨rfl, hb⟩
    go_wp2
    go_ret
    exact ⟨rfl, hb⟩
  · go_enter Try.func46, Try.ntmps46
    go_wp2_with fail
    refine C1.out.mono ?_
    rintro e w' ⟨rfl, hb⟩
    go_wp2_with fail
    refine (C2.out _).mono ?_
    rintro e w' ⟨rfl, rfl⟩
    go_wp2
    go_ret
    exact ⟨rfl, hb⟩
theorem marks_new (w : World) {w1 : World} {N : Nat} (h : w1.ownsRow w.heap.size 4 1 (.slice (some ⟨w.heap.size, 0, none⟩) N N) N (madeCells (Value.bool false).cells (N * 1)).toList) : Marks w1 w.heap.size w.heap.size N (fun _ => false) := by
  unfold Marks
  have e : (madeCells (Value.bool false).cells (N * 1)).toList = List.replicate N (.bool false) := by rw [Nat.mul_one]; exact toList_madeCells_one _ _
  rw [← bits_none, ← e]
  exact h
theorem marks_set {W : World} {b g n k : Nat} {m m' : Nat → Bool} (h : Marks W b g n m) (hk : k < n) (he : ∀ q, q < n → (if q = k then true else m q) = m' q) : Marks (W.setCell ⟨g, k, none⟩ (.bool true)) b g n m' :=
  marks_same (m := fun q => if q = k then true else m q) (by
    have := (h.stored k (.bool true)).1
    rw [bits_set _ hk true] at this
    exact this) he
theorem beh {zs : List Int} {k : Nat} (q : Int) : (has (prs zs) q && decide (q < ((k + 1 : Nat) : Int))) = ((has (prs zs) q && decide (q < (k : Int))) || (has (prs zs) (k : Int) && decide (q = (k : Int)))) := by
  by_cases e : q = (k : Int)
  · subst e
    rw [decide_eq_true (show (k : Int) < ((k + 1 : Nat) : Int) by omega), decide_eq_false (show ¬ (k : Int) < (k : Int) by omega), decide_eq_true rfl]
    simp
  · rw [decide_eq_false e, Bool.and_false, Bool.or_false]
    congr 1
    by_cases c : q < (k : Int)
    · rw [decide_eq_true c, decide_eq_true (by omega)]
    · rw [decide_eq_false c, decide_eq_false (by omega)]
end Gw
end Go.Proofs.Ytdapdiciejlejaa
