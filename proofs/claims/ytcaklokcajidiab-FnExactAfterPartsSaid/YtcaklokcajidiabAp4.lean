/- How many pages there were at first: a list of parts is tested. -/
import Derived.Test.YtcaklokcajidiabAp3
import Derived.Deep.RegionHeld3
import Derived.Deep.RegionWith
namespace Go.Proofs.Ytcaklokcajidiab
open Go.RowKit Go.Joins Li
set_option linter.unusedVariables false
set_option linter.unusedSimpArgs false
namespace Ap
/-- a row of two integers at an address -/
theorem row_two {W : World} {u : Value} {z : List Int} {n : Nat} (h : Ss.Row n W u z) (hz : z.length = 2) : ∃ b off cap, u = .slice (some ⟨b, off, none⟩) 2 cap ∧ W.cell? ⟨b, off, none⟩ = some (.int .i64 (z.getD 0 0)) ∧ W.cell? ⟨b, off + 1, none⟩ = some (.int .i64 (z.getD 1 0)) := by
  obtain ⟨a, cap, rfl, hm, h⟩ := h
  obtain ⟨b, off, rfl, _, _, hc⟩ := h.resolve_left (by omega)
  exact ⟨b, off, cap, by rw [hz], hc 0 (by omega), hc 1 (by omega)⟩
def PartsTo (R : List (List Int)) (k : Nat) : Prop := ∀ r, r < k → PartOk (R.getD r [])
theorem parts_on {R : List (List Int)} {k : Nat} (h : PartsTo R k) (h' : PartOk (R.getD k [])) : PartsTo R (k + 1) := fun r hr => by
  by_cases e : r = k
  · rw [e]; exact h'
  · exact h r (by omega)
theorem not_parts {R : List (List Int)} {k : Nat} (hk : k < R.length) (h : ¬ PartOk (R.getD k [])) : ¬ (R.length ≤ 6 ∧ PartsOk R) := fun ha => h (ha.2 k hk)
set_option maxRecDepth 100000 in
set_option maxHeartbeats 1000000 in
theorem areParts_some (b off len cap : Nat) (R : List (List Int)) (w : World) (h : Ss.Rows 0 w b off R) (hz : R.length = len) (hm : len ≤ 6) :
    Calls Try.prog 55 #[.slice (some ⟨b, off, none⟩) len cap] w (Tells (R.length ≤ 6 ∧ PartsOk R) w) := by
  have HC := Lib.hid h
  have HZ := Lib.hid hz
  clear h hz
  go_enter Try.func55, Try.ntmps55
  go_wp2
  go_loopw [10] (fun i wr => ∃ k : Nat, k ≤ len ∧ i = .int .i64 (k : Int) ∧ PartsTo R k ∧ Below w.heap.size w wr) (fun i _ => ((len : Int) - intOf i).toNat)
  case atStart => exact ⟨0, by omega, rfl, fun r hr => by omega, Below.refl _ _⟩
  case round =>
    obtain ⟨k, hk, rfl, hr, hb⟩ := hrel
    by_cases hlt : (k : Int) < len
    · have hl := HZ.out
      obtain ⟨u, q, hu⟩ := (HC.out.on hb).2 k (by omega)
      have HR := Lib.hid hr
      have HB := Lib.hid hb
      clear hl hr hb
      by_cases h2 : (R.getD k []).length = 2
      · obtain ⟨ub, uo, uc, rfl, q0, q1⟩ := row_two hu h2
        clear hu
        have HP := Lib.hid (show PartOk (R.getD k []) ↔ 1 ≤ (R.getD k []).getD 0 0 ∧ (R.getD k []).getD 0 0 < (R.getD k []).getD 1 0 ∧ (R.getD k []).getD 1 0 ≤ 200 from ⟨fun h => h.2, fun h => ⟨h2, h⟩⟩)
        clear h2
        generalize (R.getD k []).getD 0 0 = x at *
        generalize (R.getD k []).getD 1 0 = y at *
        by_cases hin : 1 ≤ x ∧ x < y ∧ y ≤ 200
        · have t := decide_eq_true hin
          have HI := Lib.hid (parts_on HR.out (HP.out.2 hin))
          clear hin HP HR
          go_wp2
          go_region_held3 (fun w' => w'.cell? ⟨ub, uo, none⟩ = some (.int .i64 x) ∧ w'.cell? ⟨ub, uo + 1, none⟩ = some (.int .i64 y))
            (first | exact ⟨q0, q1⟩ | go_keep)
            (first
              | (go_at_call 51; refine (isFraction_any x y _).mono ?_; rw [t]; rintro e w4 ⟨rfl, rfl⟩))
          go_wp2
          go_roundw
          case rel => exact ⟨k + 1, by omega, by go_num, HI.out, HB.out.drew⟩
          case measure => simp [intOf]; omega
        · have t := decide_eq_false hin
          have HI := Lib.hid (not_parts (R := R) (k := k) (by have := HZ.out; omega) (fun hp => hin (HP.out.1 hp)))
          clear hin HP HR
          go_wp2
          go_region_held3 (fun w' => w'.cell? ⟨ub, uo, none⟩ = some (.int .i64 x) ∧ w'.cell? ⟨ub, uo + 1, none⟩ = some (.int .i64 y))
            (first | exact ⟨q0, q1⟩ | go_keep)
            (first
              | (go_at_call 51; refine (isFraction_any x y _).mono ?_; rw [t]; rintro e w4 ⟨rfl, rfl⟩))
          go_wp2
          go_ret
          exact tells_no HI.out HB.out.drew
      · have HI := Lib.hid (not_parts (R := R) (k := k) (by have := HZ.out; omega) (fun hp => h2 hp.1))
        obtain ⟨ua, uc, rfl, hm, _⟩ := hu
        clear HR
        have hm' : ((R.getD k []).length : Int) ≤ 9223372036854775807 := by unfold maxLen at hm; omega
        clear hm
        generalize (R.getD k []).length = n at *
        have t : ((n : Int) != 2) = true := by
          simp; omega
        clear h2
        go_wp2
        go_region
        go_wp2
        go_ret
        exact tells_no HI.out HB.out.drew
    · have HI := Lib.hid (show R.length ≤ 6 ∧ PartsOk R from ⟨by have := HZ.out; omega, fun r h => hr r (by have := HZ.out; omega)⟩)
      clear hr
      go_wp2
      go_ret
      exact tells_yes HI.out hb
set_option maxRecDepth 100000 in
theorem areParts_none (a : Option Addr) (cap : Nat) (w : World) : Calls Try.prog 55 #[.slice a 0 cap] w (Tells (([] : List (List Int)).length ≤ 6 ∧ PartsOk []) w) := by
  go_enter Try.func55, Try.ntmps55
  go_wp2
  refine wp_loop_rounds 1 ?_
  rw [rounds_succ]
  go_wp2
  go_ret
  exact tells_yes ⟨by simp, fun r hr => by simp at hr⟩ (Below.refl _ _)
set_option maxRecDepth 100000 in
theorem areParts_long (a : Option Addr) (len cap : Nat) (R : List (List Int)) (hz : R.length = len) (hm : ¬ len ≤ 6) (hm2 : len ≤ maxLen) (w : World) : Calls Try.prog 55 #[.slice a len cap] w (Tells (R.length ≤ 6 ∧ PartsOk R) w) := by
  have hm' : (len : Int) ≤ 9223372036854775807 := by unfold maxLen at hm2; omega
  have HI := Lib.hid (show ¬ (R.length ≤ 6 ∧ PartsOk R) from fun h => by omega)
  clear hz hm2
  go_enter Try.func55, Try.ntmps55
  go_wp2
  go_ret
  exact tells_no HI.out (Below.refl _ _)
theorem areParts_any {v : Value} {R : List (List Int)} {n : Nat} {w : World} (h : Ss.Grid n w v R) : Calls Try.prog 55 #[v] w (Tells (R.length ≤ 6 ∧ PartsOk R) w) := by
  replace h := h.le (Nat.zero_le _)
  obtain ⟨a, cap, rfl, hm, h⟩ := h
  by_cases h0 : R.length = 0
  · have e : R = [] := List.eq_nil_of_length_eq_zero h0
    subst e
    exact areParts_none a cap w
  · obtain ⟨b, off, rfl, hr⟩ := h.resolve_left h0
    by_cases h6 : R.length ≤ 6
    · exact areParts_some b off _ cap R w hr rfl h6
    · exact areParts_long _ _ cap R rfl h6 hm w
end Ap
end Go.Proofs.Ytcaklokcajidiab
