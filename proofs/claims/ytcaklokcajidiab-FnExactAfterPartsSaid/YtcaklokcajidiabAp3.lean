/- How many pages there were at first: lists of numbers and of parts are tested. -/
import Derived.Test.YtcaklokcajidiabAp2
namespace Go.Proofs.Ytcaklokcajidiab
open Go.RowKit Go.Joins Li
set_option linter.unusedVariables false
set_option linter.unusedSimpArgs false
namespace Ap
/-- it tells whether so -/
def Tells (P : Prop) (W : World) (e : Ending) (w' : World) : Prop := ∃ b, e = .returned (.bool b) ∧ (b = true ↔ P) ∧ Below W.heap.size W w'
theorem tells_yes {P : Prop} {W w' : World} (h : P) (hb : Below W.heap.size W w') : Tells P W (.returned (.bool true)) w' := ⟨_, rfl, ⟨fun _ => h, fun _ => rfl⟩, hb⟩
theorem tells_no {P : Prop} {W w' : World} (h : ¬ P) (hb : Below W.heap.size W w') : Tells P W (.returned (.bool false)) w' := ⟨_, rfl, ⟨fun e => by simp at e, fun k => absurd k h⟩, hb⟩
def AllIn (lo hi : Int) (ms : List Int) : Prop := ∀ r, r < ms.length → lo ≤ ms.getD r 0 ∧ ms.getD r 0 ≤ hi
set_option maxRecDepth 100000 in
set_option maxHeartbeats 1000000 in
theorem l1All_some (b off len cap : Nat) (ms : List Int) (lo hi : Int) (w : World) (h : Ss.At 0 w b off ms) (hz : ms.length = len) (hm : len ≤ maxLen) :
    Calls Try.prog 54 #[.slice (some ⟨b, off, none⟩) len cap, .int .i64 lo, .int .i64 hi] w (Tells (AllIn lo hi ms) w) := by
  have HC := Lib.hid h
  have HZ := Lib.hid hz
  have hm' : (len : Int) ≤ 9223372036854775807 := by unfold maxLen at hm; omega
  clear h hz hm
  go_enter Try.func54, Try.ntmps54
  go_wp2
  go_loopw [11] (fun i wr => ∃ k : Nat, k ≤ len ∧ i = .int .i64 (k : Int) ∧ (∀ r, r < k → lo ≤ ms.getD r 0 ∧ ms.getD r 0 ≤ hi) ∧ Below w.heap.size w wr) (fun i _ => ((len : Int) - intOf i).toNat)
  case atStart => exact ⟨0, by omega, rfl, fun r hr => by omega, Below.refl _ _⟩
  case round =>
    obtain ⟨k, hk, rfl, hr, hb⟩ := hrel
    by_cases hlt : (k : Int) < len
    · have hl := HZ.out
      have hc := (HC.out.on hb).2.2 k (by omega)
      have HR := Lib.hid hr
      have HX := Lib.hid (show ms.getD k 0 = ms.getD k 0 from rfl)
      clear hl hr
      generalize hy : ms.getD k 0 = y at *
      have HY := Lib.hid hy
      clear hy
      by_cases hin : lo ≤ y ∧ y ≤ hi
      · have t := decide_eq_true hin
        have HI := Lib.hid hin
        clear hin
        go_wp2_with fail
        refine (l1In_any y lo hi _).mono ?_
        rw [t]
        rintro e w' ⟨rfl, rfl⟩
        go_wp2
        go_roundw
        case rel =>
          refine ⟨k + 1, by omega, by go_num, fun r hr => ?_, hb⟩
          by_cases e : r = k
          · rw [e, HY.out]; exact HI.out
          · exact HR.out r (by omega)
        case measure => simp [intOf]; omega
      · have t := decide_eq_false hin
        have HI := Lib.hid (show ¬ AllIn lo hi ms from fun ha => hin (by have := ha k (by have := HZ.out; omega); rw [HY.out] at this; exact this))
        clear hin
        go_wp2_with fail
        refine (l1In_any y lo hi _).mono ?_
        rw [t]
        rintro e w' ⟨rfl, rfl⟩
        go_wp2
        go_ret
        exact tells_no HI.out hb
    · have HI := Lib.hid (show AllIn lo hi ms from fun r h => hr r (by have := HZ.out; omega))
      clear hr
      go_wp2
      go_ret
      exact tells_yes HI.out hb
set_option maxRecDepth 100000 in
theorem l1All_none (a : Option Addr) (cap : Nat) (lo hi : Int) (w : World) : Calls Try.prog 54 #[.slice a 0 cap, .int .i64 lo, .int .i64 hi] w (Tells (AllIn lo hi []) w) := by
  go_enter Try.func54, Try.ntmps54
  go_wp2
  refine wp_loop_rounds 1 ?_
  rw [rounds_succ]
  go_wp2
  go_ret
  exact tells_yes (fun r hr => by simp at hr) (Below.refl _ _)
theorem l1All_any {v : Value} {ms : List Int} {n : Nat} {w : World} (h : Ss.Row n w v ms) (lo hi : Int) : Calls Try.prog 54 #[v, .int .i64 lo, .int .i64 hi] w (Tells (AllIn lo hi ms) w) := by
  replace h := h.le (Nat.zero_le _)
  obtain ⟨a, cap, rfl, hm, h⟩ := h
  by_cases h0 : ms.length = 0
  · have e : ms = [] := List.eq_nil_of_length_eq_zero h0
    subst e
    exact l1All_none a cap lo hi w
  · obtain ⟨b, off, rfl, hr⟩ := h.resolve_left h0
    exact l1All_some b off _ cap ms lo hi w hr rfl hm
set_option maxRecDepth 100000 in
set_option maxHeartbeats 1000000 in
theorem areMore_some (b off len cap : Nat) (ms : List Int) (w : World) (h : Ss.At 0 w b off ms) (hz : ms.length = len) (hm : len ≤ maxLen) :
    Calls Try.prog 56 #[.slice (some ⟨b, off, none⟩) len cap] w (Tells (AllIn 0 200 ms) w) := by
  have HC := Lib.hid h
  have HZ := Lib.hid hz
  have hm' : (len : Int) ≤ 9223372036854775807 := by unfold maxLen at hm; omega
  clear h hz hm
  go_enter Try.func56, Try.ntmps56
  go_wp2
  go_loopw [7] (fun i wr => ∃ k : Nat, k ≤ len ∧ i = .int .i64 (k : Int) ∧ (∀ r, r < k → 0 ≤ ms.getD r 0 ∧ ms.getD r 0 ≤ 200) ∧ Below w.heap.size w wr) (fun i _ => ((len : Int) - intOf i).toNat)
  case atStart => exact ⟨0, by omega, rfl, fun r hr => by omega, Below.refl _ _⟩
  case round =>
    obtain ⟨k, hk, rfl, hr, hb⟩ := hrel
    by_cases hlt : (k : Int) < len
    · have hl := HZ.out
      have hc := (HC.out.on hb).2.2 k (by omega)
      have HR := Lib.hid hr
      clear hl hr
      generalize hy : ms.getD k 0 = y at *
      have HY := Lib.hid hy
      clear hy
      by_cases hin : 0 ≤ y ∧ y ≤ 200
      · have HT := Lib.hid (decide_eq_true hin)
        have HI := Lib.hid hin
        clear hin
        go_wp2_with fail
        refine (isMore_any y true HT.out _).mono ?_
        rintro e w' ⟨rfl, rfl⟩
        go_wp2
        go_roundw
        case rel =>
          refine ⟨k + 1, by omega, by go_num, fun r hr => ?_, hb⟩
          by_cases e : r = k
          · rw [e, HY.out]; exact HI.out
          · exact HR.out r (by omega)
        case measure => simp [intOf]; omega
      · have HT := Lib.hid (decide_eq_false hin)
        have HI := Lib.hid (show ¬ AllIn 0 200 ms from fun ha => hin (by have := ha k (by have := HZ.out; omega); rw [HY.out] at this; exact this))
        clear hin
        go_wp2_with fail
        refine (isMore_any y false HT.out _).mono ?_
        rintro e w' ⟨rfl, rfl⟩
        go_wp2
        go_ret
        exact tells_no HI.out hb
    · have HI := Lib.hid (show AllIn 0 200 ms from fun r h => hr r (by have := HZ.out; omega))
      clear hr
      go_wp2
      go_ret
      exact tells_yes HI.out hb
set_option maxRecDepth 100000 in
theorem areMore_none (a : Option Addr) (cap : Nat) (w : World) : Calls Try.prog 56 #[.slice a 0 cap] w (Tells (AllIn 0 200 []) w) := by
  go_enter Try.func56, Try.ntmps56
  go_wp2
  refine wp_loop_rounds 1 ?_
  rw [rounds_succ]
  go_wp2
  go_ret
  exact tells_yes (fun r hr => by simp at hr) (Below.refl _ _)
theorem areMore_any {v : Value} {ms : List Int} {n : Nat} {w : World} (h : Ss.Row n w v ms) : Calls Try.prog 56 #[v] w (Tells (AllIn 0 200 ms) w) := by
  replace h := h.le (Nat.zero_le _)
  obtain ⟨a, cap, rfl, hm, h⟩ := h
  by_cases h0 : ms.length = 0
  · have e : ms = [] := List.eq_nil_of_length_eq_zero h0
    subst e
    exact areMore_none a cap w
  · obtain ⟨b, off, rfl, hr⟩ := h.resolve_left h0
    exact areMore_some b off _ cap ms w hr rfl hm
end Ap
end Go.Proofs.Ytcaklokcajidiab
