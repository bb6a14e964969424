/- Lists of lists of integers: they are compared, counted, and read as they come in. -/
import Derived.Test.YtcaklokcajidiabSs
import Derived.OpenShut
import Derived.ChangeSlices
import Derived.Deep.Matrix
import Derived.Deep.RegionHeld3
import Derived.Deep.RegionWith
namespace Go.Proofs.Ytcaklokcajidiab
open Go.RowKit Go.Joins Li
set_option linter.unusedVariables false
set_option linter.unusedSimpArgs false
namespace Ss
set_option maxRecDepth 100000 in
set_option maxHeartbeats 1000000 in
theorem eqIntS_some (b off cap b' off' cap' len : Nat) (zs : List Int) (w : World) (h : At 0 w b off zs) (h' : At 0 w b' off' zs) (hz : zs.length = len) (hm : len ≤ maxLen) :
    Calls Try.prog 12 #[.slice (some ⟨b, off, none⟩) len cap, .slice (some ⟨b', off', none⟩) len cap'] w (Ret (.bool true) w) := by
  have HC := Lib.hid h
  have HC' := Lib.hid h'
  have HZ := Lib.hid hz
  have hm' : (len : Int) ≤ 9223372036854775807 := by unfold maxLen at hm; omega
  clear h h' hz hm
  go_enter Try.func12, Try.ntmps12
  go_wp2
  go_loopw [5] (fun i wr => ∃ k : Nat, k ≤ len ∧ i = .int .i64 (k : Int) ∧ Below w.heap.size w wr) (fun i _ => ((len : Int) - intOf i).toNat)
  case atStart => exact ⟨0, by omega, rfl, Below.refl _ _⟩
  case round =>
    obtain ⟨k, hk, rfl, hb⟩ := hrel
    by_cases hlt : (k : Int) < len
    · have hl := HZ.out
      have hc := (HC.out.on hb).2.2 k (by omega)
      have hc' := (HC'.out.on hb).2.2 k (by omega)
      clear hl
      go_wp2
      go_quiet (fail)
      go_wp2
      go_roundw
      case rel => exact ⟨k + 1, by omega, by go_num, below_draws hb _⟩
      case measure => simp [intOf]; omega
    · go_wp2
      go_ret
      exact ⟨rfl, hb⟩
set_option maxRecDepth 100000 in
theorem eqIntS_none (a a' : Option Addr) (cap cap' : Nat) (w : World) :
    Calls Try.prog 12 #[.slice a 0 cap, .slice a' 0 cap'] w (Ret (.bool true) w) := by
  go_enter Try.func12, Try.ntmps12
  go_wp2
  refine wp_loop_rounds 1 ?_
  rw [rounds_succ]
  go_wp2
  go_ret
  exact ⟨rfl, Below.refl _ _⟩
theorem eqIntS_any {v v' : Value} {zs : List Int} {lo lo' : Nat} {w : World} (h : Row lo w v zs) (h' : Row lo' w v' zs) : Calls Try.prog 12 #[v, v'] w (Ret (.bool true) w) := by
  replace h := h.le (Nat.zero_le _)
  replace h' := h'.le (Nat.zero_le _)
  obtain ⟨a, cap, rfl, hm, h⟩ := h
  obtain ⟨a', cap', rfl, hm', h'⟩ := h'
  by_cases h0 : zs.length = 0
  · have e : zs = [] := List.eq_nil_of_length_eq_zero h0
    subst e
    exact eqIntS_none a a' cap cap' w
  · obtain ⟨b, off, rfl, hr⟩ := h.resolve_left h0
    obtain ⟨b', off', rfl, hr'⟩ := h'.resolve_left h0
    exact eqIntS_some b off cap b' off' cap' _ zs w hr hr' rfl hm
theorem Row.drew {lo : Nat} {W : World} {v : Value} {zs : List Int} (h : Row lo W v zs) : Row lo W.drew v zs := h.on (Below.refl _ W).drew
theorem keep2 {w w' : World} {a b : Addr} {x y : Value} (hb : Below w.heap.size w w') (h : w.cell? a = some x ∧ w.cell? b = some y) : w'.cell? a = some x ∧ w'.cell? b = some y :=
  ⟨(hb.cell (p := a) (World.block_lt_of_cell? _ _ h.1)).trans h.1, (hb.cell (p := b) (World.block_lt_of_cell? _ _ h.2)).trans h.2⟩
set_option maxRecDepth 100000 in
set_option maxHeartbeats 2000000 in
theorem eqIntSS_some (b off cap b' off' cap' len : Nat) (R : List (List Int)) (w : World) (h : Rows 0 w b off R) (h' : Rows 0 w b' off' R) (hz : R.length = len) (hm : len ≤ maxLen) :
    Calls Try.prog 28 #[.slice (some ⟨b, off, none⟩) len cap, .slice (some ⟨b', off', none⟩) len cap'] w (Ret (.bool true) w) := by
  have HC := Lib.hid h
  have HC' := Lib.hid h'
  have HZ := Lib.hid hz
  have hm' : (len : Int) ≤ 9223372036854775807 := by unfold maxLen at hm; omega
  clear h h' hz hm
  go_enter Try.func28, Try.ntmps28
  go_wp2
  go_loopw [5] (fun i wr => ∃ k : Nat, k ≤ len ∧ i = .int .i64 (k : Int) ∧ Below w.heap.size w wr) (fun i _ => ((len : Int) - intOf i).toNat)
  case atStart => exact ⟨0, by omega, rfl, Below.refl _ _⟩
  case round =>
    obtain ⟨k, hk, rfl, hb⟩ := hrel
    by_cases hlt : (k : Int) < len
    · have hl := HZ.out
      obtain ⟨u, q, hu⟩ := (HC.out.on hb).2 k (by omega)
      obtain ⟨u', q', hu'⟩ := (HC'.out.on hb).2 k (by omega)
      have HU := Lib.hid hu
      have HU' := Lib.hid hu'
      have HB := Lib.hid hb
      obtain ⟨ua, uc, rfl, _, _⟩ := hu
      obtain ⟨ua', uc', rfl, _, _⟩ := hu'
      clear hb hl
      go_wp2
      go_region_held3 (fun w' => w'.cell? ⟨b, off + k, none⟩ = some (.slice ua (R.getD k []).length uc) ∧ w'.cell? ⟨b', off' + k, none⟩ = some (.slice ua' (R.getD k []).length uc'))
        (first | exact ⟨q, q'⟩ | exact hs6 | go_keep)
        (first
          | (go_at_call 12; refine (eqIntS_any HU.out.drew HU'.out.drew).mono ?_; rintro e w4 ⟨rfl, hb4⟩; have hs6 : w4.cell? ⟨b, off + k, none⟩ = some (.slice ua (R.getD k []).length uc) ∧ w4.cell? ⟨b', off' + k, none⟩ = some (.slice ua' (R.getD k []).length uc') := keep2 hb4 ⟨q, q'⟩))
      go_wp2
      go_roundw
      case rel => exact ⟨k + 1, by omega, by go_num, HB.out.drew.trans (below_le hb4 HB.out.size)⟩
      case measure => simp [intOf]; omega
    · go_wp2
      go_ret
      exact ⟨rfl, hb⟩
set_option maxRecDepth 100000 in
theorem eqIntSS_none (a a' : Option Addr) (cap cap' : Nat) (w : World) :
    Calls Try.prog 28 #[.slice a 0 cap, .slice a' 0 cap'] w (Ret (.bool true) w) := by
  go_enter Try.func28, Try.ntmps28
  go_wp2
  refine wp_loop_rounds 1 ?_
  rw [rounds_succ]
  go_wp2
  go_ret
  exact ⟨rfl, Below.refl _ _⟩
theorem Grid.le {lo lo' : Nat} {W : World} {v : Value} {R : List (List Int)} (h : Grid lo W v R) (hb : lo' ≤ lo) : Grid lo' W v R := by
  obtain ⟨a, cap, e, hl, h⟩ := h
  exact ⟨a, cap, e, hl, h.imp id fun ⟨b, off, e, h⟩ => ⟨b, off, e, h.1, fun r hr => by
    obtain ⟨u, hu, hr⟩ := h.2 r hr
    exact ⟨u, hu, hr.le hb⟩⟩⟩
theorem eqIntSS_any {v v' : Value} {R : List (List Int)} {lo lo' : Nat} {w : World} (h : Grid lo w v R) (h' : Grid lo' w v' R) : Calls Try.prog 28 #[v, v'] w (Ret (.bool true) w) := by
  replace h := h.le (Nat.zero_le _)
  replace h' := h'.le (Nat.zero_le _)
  obtain ⟨a, cap, rfl, hm, h⟩ := h
  obtain ⟨a', cap', rfl, hm', h'⟩ := h'
  by_cases h0 : R.length = 0
  · have e : R = [] := List.eq_nil_of_length_eq_zero h0
    subst e
    exact eqIntSS_none a a' cap cap' w
  · obtain ⟨b, off, rfl, hr⟩ := h.resolve_left h0
    obtain ⟨b', off', rfl, hr'⟩ := h'.resolve_left h0
    exact eqIntSS_some b off cap b' off' cap' _ R w hr hr' rfl hm
set_option maxRecDepth 100000 in
theorem szIntS_yes (a : Option Addr) (len cap : Nat) (l : Int) (h0 : 0 ≤ l) (hl : l ≤ 1048576) (h : (len : Int) ≤ l) (w : World) : Calls Try.prog 53 #[.slice a len cap, .int .i64 l] w (Ret (.int .i64 (l - (len : Int))) w) := by
  have t1 : decide (l - (len : Int) < 0) = false := by simp; omega
  go_enter Try.func53, Try.ntmps53
  go_wp2
  go_ret
  exact ⟨rfl, Below.refl _ _⟩
set_option maxRecDepth 100000 in
theorem szIntS_no (a : Option Addr) (len cap : Nat) (l : Int) (h0 : 0 ≤ l) (hl : l ≤ 1048576) (h : ¬ (len : Int) ≤ l) (hm : len ≤ maxLen) (w : World) : Calls Try.prog 53 #[.slice a len cap, .int .i64 l] w (Ret (.int .i64 (-1)) w) := by
  have t0 : (len : Int) ≤ 9223372036854775807 := by unfold maxLen at hm; omega
  have t1 : decide (l - (len : Int) < 0) = true := by simp; omega
  have t2 : wrap64 (l - (len : Int)) = l - (len : Int) := IntWalk.wrap64_in _ (by omega)
  clear hm h
  go_enter Try.func53, Try.ntmps53
  go_wp2
  go_ret
  exact ⟨rfl, Below.refl _ _⟩
theorem szIntS_any {v : Value} {zs : List Int} {lo : Nat} {w : World} (h : Row lo w v zs) (l : Int) (h0 : 0 ≤ l) (hl : l ≤ 1048576) : Calls Try.prog 53 #[v, .int .i64 l] w (Ret (.int .i64 (if (zs.length : Int) ≤ l then l - (zs.length : Int) else -1)) w) := by
  obtain ⟨a, cap, rfl, hm, _⟩ := h
  split
  · next h1 => exact szIntS_yes a _ cap l h0 hl h1 w
  · next h1 => exact szIntS_no a _ cap l h0 hl h1 hm w
/-- what is counted: nothing, or how many may still come, and then none is too long -/
def Counted (R : List (List Int)) (W : World) (e : Ending) (w' : World) : Prop := ∃ l : Int, e = .returned (.int .i64 l) ∧ (0 ≤ l → Small R) ∧ -1 ≤ l ∧ Below W.heap.size W w'
set_option maxRecDepth 100000 in
theorem szIntSS_long (a : Option Addr) (len cap : Nat) (R : List (List Int)) (hl : ¬ len ≤ 1048576) (hm : len ≤ maxLen) (w : World) : Calls Try.prog 23 #[.slice a len cap, .int .i64 1048576] w (Counted R w) := by
  have t0 : (len : Int) ≤ 9223372036854775807 := by unfold maxLen at hm; omega
  have t1 : decide ((1048576 : Int) - (len : Int) < 0) = true := by simp; omega
  have t2 : wrap64 ((1048576 : Int) - (len : Int)) = (1048576 : Int) - (len : Int) := IntWalk.wrap64_in _ (by omega)
  clear hm hl
  go_enter Try.func23, Try.ntmps23
  go_wp2
  go_ret
  exact ⟨_, rfl, by omega, by omega, Below.refl _ _⟩
set_option maxRecDepth 100000 in
theorem szIntSS_none (a : Option Addr) (cap : Nat) (w : World) : Calls Try.prog 23 #[.slice a 0 cap, .int .i64 1048576] w (Counted [] w) := by
  go_enter Try.func23, Try.ntmps23
  go_wp2
  refine wp_loop_rounds 1 ?_
  rw [rounds_succ]
  go_wp2
  go_ret
  exact ⟨_, rfl, fun _ => ⟨by simp, fun r hr => by simp at hr⟩, by omega, Below.refl _ _⟩
set_option maxRecDepth 100000 in
set_option maxHeartbeats 2000000 in
theorem szIntSS_some (b off len cap : Nat) (R : List (List Int)) (w : World) (h : Rows 0 w b off R) (hz : R.length = len) (hl : len ≤ 1048576) :
    Calls Try.prog 23 #[.slice (some ⟨b, off, none⟩) len cap, .int .i64 1048576] w (Counted R w) := by
  have HC := Lib.hid h
  have HZ := Lib.hid hz
  have t1 : decide ((1048576 : Int) - (len : Int) < 0) = false := by simp; omega
  clear h hz
  go_enter Try.func23, Try.ntmps23
  go_wp2
  go_loopw [1, 5] (fun l i wr => ∃ (k : Nat) (m : Int), k ≤ len ∧ i = .int .i64 (k : Int) ∧ l = .int .i64 m ∧ 0 ≤ m ∧ m ≤ 1048576 ∧ (∀ r, r < k → (R.getD r []).length ≤ 1048576) ∧ Below w.heap.size w wr) (fun l i _ => ((len : Int) - intOf i).toNat)
  case atStart => exact ⟨0, _, by omega, rfl, rfl, by omega, by omega, fun r hr => by omega, Below.refl _ _⟩
  case round =>
    obtain ⟨k, m, hk, rfl, rfl, h0, h1, hrow, hb⟩ := hrel
    by_cases hlt : (k : Int) < len
    · have hl := HZ.out
      obtain ⟨u, q, hu⟩ := (HC.out.on hb).2 k (by omega)
      have HU := Lib.hid hu
      have HB := Lib.hid hb
      have HR := Lib.hid hrow
      obtain ⟨ua, uc, rfl, _, _⟩ := hu
      clear hb hl hrow
      go_wp2_with fail
      refine (szIntS_any HU.out m h0 h1).mono ?_
      rintro e w4 ⟨rfl, hb4⟩
      have HB4 := Lib.hid (HB.out.trans (below_le hb4 HB.out.size))
      clear hb4 HU q
      have E := Lib.hid (show (R.getD k []).length ≤ 1048576 ↔ (R.getD k []).length ≤ 1048576 from Iff.rfl)
      generalize hn0 : (R.getD k []).length = n at *
      have HN := Lib.hid hn0
      clear hn0
      by_cases hn : (n : Int) ≤ m
      · rw [if_pos hn]
        have t2 : decide (m - (n : Int) < 0) = false := by simp; omega
        go_wp2
        go_roundw
        case rel => exact ⟨k + 1, _, by omega, by go_num, rfl, by omega, by omega, fun r hr => by
          by_cases e : r = k
          · have := HN.out
            rw [e]; omega
          · exact HR.out r (by omega), HB4.out⟩
        case measure => simp [intOf]; omega
      · rw [if_neg hn]
        go_wp2
        go_ret
        exact ⟨_, rfl, by omega, by omega, HB4.out⟩
    · have hl := HZ.out
      have HS := Lib.hid (show Small R from ⟨by omega, fun r hr => hrow r (by omega)⟩)
      clear hl hrow
      go_wp2
      go_ret
      exact ⟨_, rfl, fun _ => HS.out, by omega, hb⟩
end Ss
end Go.Proofs.Ytcaklokcajidiab
