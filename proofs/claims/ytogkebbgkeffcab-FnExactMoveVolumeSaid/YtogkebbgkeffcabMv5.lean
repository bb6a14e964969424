/- MoveVolume from both sides. -/
import Derived.Test.YtogkebbgkeffcabMv4
import Derived.Test.YtogkebbgkeffcabSo2
namespace Go.Proofs.Ytogkebbgkeffcab
open Go.RowKit Go.Joins Go.Deep
set_option linter.unusedVariables false
set_option linter.ambiguousOpen false
set_option linter.unusedSimpArgs false
namespace Mv
open Sh So
def inB (p : Int) (n : Nat) : Bool := decide (0 ≤ p) && decide (p < (n : Int))
theorem inB_iff (p : Int) (n : Nat) : inB p n = true ↔ 0 ≤ p ∧ p < (n : Int) := by simp [inB]
theorem inB_hi (p : Int) (n : Nat) (v : Bool) (h : inB p n = v) : (decide (0 ≤ p) && decide (p ≤ (n : Int) - 1)) = v := by
  rw [← h]
  unfold inB
  rw [Bool.eq_iff_iff]
  simp only [Bool.and_eq_true, decide_eq_true_eq]
  omega
theorem hp_any (g len cap : Nat) (p : Int) (v : Bool) (hv : inB p len = v) (w : World) :
    Calls Try.prog 34 #[.slice (some ⟨g, 0, none⟩) len cap, .int .i64 p] w fun e w' => e = .returned (.bool v) ∧ w = w' := by
  by_cases h1 : 0 ≤ p
  · by_cases h2 : p < (len : Int)
    · have e : v = true := by rw [← hv]; exact (inB_iff p len).2 ⟨h1, h2⟩
      subst e
      clear hv
      go_enter Try.func34, Try.ntmps34
      go_wp2
      go_ret
      exact ⟨rfl, rfl⟩
    · have e : v = false := by
        rw [← hv, Bool.eq_false_iff]
        exact fun h => h2 ((inB_iff p len).1 h).2
      subst e
      have t : decide (p < (len : Int)) = false := by simpa using h2
      clear hv h2
      go_enter Try.func34, Try.ntmps34
      go_wp2
      go_ret
      exact ⟨rfl, rfl⟩
  · have e : v = false := by
      rw [← hv, Bool.eq_false_iff]
      exact fun h => h1 ((inB_iff p len).1 h).1
    subst e
    clear hv
    go_enter Try.func34, Try.ntmps34
    go_wp2
    go_ret
    exact ⟨rfl, rfl⟩
def mvOk (zs : List Int) (a b : Int) : Bool := Ns.good zs && inB a zs.length && inB b zs.length
set_option maxRecDepth 100000 in
set_option maxHeartbeats 1000000 in
theorem sNo {b1 g len cap : Nat} {zs : List Int} {a b : Int} {w : World} (h : Ow w b1 g len cap zs) (hl : len ≤ 1048576) (hx : mvOk zs a b = false) :
    Calls Try.prog 15 #[.slice (some ⟨g, 0, none⟩) len cap, .int .i64 a, .int .i64 b] w (Li.Gives false [] w) := by
  have hz := ow_len h
  unfold mvOk at hx
  rw [hz] at hx
  obtain ⟨x1, h1⟩ : ∃ x, Ns.good zs = x := ⟨_, rfl⟩
  obtain ⟨x2, h2⟩ : ∃ x, inB a len = x := ⟨_, rfl⟩
  obtain ⟨x3, h3⟩ : ∃ x, inB b len = x := ⟨_, rfl⟩
  have C1 := Lib.hid (sStands_any h hl x1 h1)
  have C2 := Lib.hid (fun W => l1In_any a 0 ((len : Int) - 1) x2 (inB_hi a len x2 h2) W)
  have C3 := Lib.hid (fun W => l1In_any b 0 ((len : Int) - 1) x3 (inB_hi b len x3 h3) W)
  rw [h1, h2, h3] at hx
  clear h hz h1 h2 h3
  cases x1 with
  | false =>
    clear hx
    go_enter Try.func15, Try.ntmps15
    go_wp2_with fail
    refine C1.out.mono ?_
    rintro e w' ⟨rfl, rfl⟩
    go_wp2_with fail
    go_ret2
    exact Li.Gives.none (Below.refl _ _)
  | true =>
    cases x2 with
    | false =>
      clear hx
      go_enter Try.func15, Try.ntmps15
      go_wp2_with fail
      refine C1.out.mono ?_
      rintro e w' ⟨rfl, rfl⟩
      go_wp2_with fail
      refine (C2.out _).mono ?_
      rintro e w' ⟨rfl, rfl⟩
      go_wp2_with fail
      go_ret2
      exact Li.Gives.none (Below.refl _ _)
    | true =>
      have e3 : x3 = false := by simpa using hx
      subst e3
      clear hx
      go_enter Try.func15, Try.ntmps15
      go_wp2_with fail
      refine C1.out.mono ?_
      rintro e w' ⟨rfl, rfl⟩
      go_wp2_with fail
      refine (C2.out _).mono ?_
      rintro e w' ⟨rfl, rfl⟩
      go_wp2_with fail
      refine (C3.out _).mono ?_
      rintro e w' ⟨rfl, rfl⟩
      go_wp2_with fail
      go_ret2
      exact Li.Gives.none (Below.refl _ _)
end Mv
end Go.Proofs.Ytogkebbgkeffcab
