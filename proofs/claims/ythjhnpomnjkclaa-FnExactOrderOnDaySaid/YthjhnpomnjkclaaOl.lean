/- The law of OrderOnDay, but for how its argument lies: both sides fail alike, the readers are as they were, and the answer is the call's own. -/
import Derived.Test.YthjhnpomnjkclaaOsp
namespace Go.Proofs.Ythjhnpomnjkclaa
open Go.RowKit Go.Joins Go.Sort
set_option linter.unusedVariables false
set_option linter.unusedSimpArgs false
namespace Or
set_option maxRecDepth 100000 in
theorem sO_no {p : Int} {b1 g len cap : Nat} {zs : List Int} {w : World} (D : Int) (h : w.ownsRow b1 52 3 (.slice (some ⟨g, 0, none⟩) len cap) len (Rx.nums zs)) (ha : ¬ Rx.allOf p zs len) :
    Calls Try.prog 9 #[.int .i64 p, .slice (some ⟨g, 0, none⟩) len cap, .int .i64 D] w (Li.Gives false [] w) := by
  have C := Lib.hid (Rx.rdAll_no h ha)
  clear h ha
  go_enter Try.func9, Try.ntmps9
  go_wp2_with fail
  refine C.out.mono ?_
  rintro e w1 ⟨rfl, hb0⟩
  go_wp2
  go_ret2
  exact Li.Gives.none hb0
set_option maxRecDepth 100000 in
theorem sO_day {p : Int} {b1 g len cap : Nat} {zs : List Int} {w : World} (D : Int) (hD : ¬ 0 ≤ D ∨ ¬ D ≤ 3000) (h : w.ownsRow b1 52 3 (.slice (some ⟨g, 0, none⟩) len cap) len (Rx.nums zs)) (ha : Rx.allOf p zs len) :
    Calls Try.prog 9 #[.int .i64 p, .slice (some ⟨g, 0, none⟩) len cap, .int .i64 D] w (Li.Gives false [] w) := by
  have C := Lib.hid (Rx.rdAll_yes h ha)
  clear h ha
  by_cases c : 0 ≤ D
  · have t1 : decide (0 ≤ D) = true := by simpa using c
    have t2 : decide (D ≤ 3000) = false := by simp; omega
    clear hD c
    go_enter Try.func9, Try.ntmps9
    go_wp2_with fail
    refine C.out.mono ?_
    rintro e w1 ⟨rfl, hb0⟩
    go_wp2
    go_ret2
    exact Li.Gives.none hb0
  · have t1 : decide (0 ≤ D) = false := by simpa using c
    clear hD c
    go_enter Try.func9, Try.ntmps9
    go_wp2_with fail
    refine C.out.mono ?_
    rintro e w1 ⟨rfl, hb0⟩
    go_wp2
    go_ret2
    exact Li.Gives.none hb0
set_option maxRecDepth 100000 in
theorem iO_no {p : Int} {b1 g len cap : Nat} {zs : List Int} {w : World} (D : Int) (h : w.ownsRow b1 52 3 (.slice (some ⟨g, 0, none⟩) len cap) len (Rx.nums zs)) (ha : ¬ Rx.allOf p zs len) :
    Calls Try.prog 11 #[.int .i64 p, .slice (some ⟨g, 0, none⟩) len cap, .int .i64 D] w (Li.Gives false [] w) := by
  have C := Lib.hid (Rx.areReaders_no h ha)
  clear h ha
  go_enter Try.func11, Try.ntmps11
  go_wp2_with fail
  refine C.out.mono ?_
  rintro e w1 ⟨rfl, hb0⟩
  go_wp2
  go_ret2
  exact Li.Gives.none hb0
set_option maxRecDepth 100000 in
theorem iO_day {p : Int} {b1 g len cap : Nat} {zs : List Int} {w : World} (D : Int) (hD : ¬ 0 ≤ D ∨ ¬ D ≤ 3000) (h : w.ownsRow b1 52 3 (.slice (some ⟨g, 0, none⟩) len cap) len (Rx.nums zs)) (ha : Rx.allOf p zs len) :
    Calls Try.prog 11 #[.int .i64 p, .slice (some ⟨g, 0, none⟩) len cap, .int .i64 D] w (Li.Gives false [] w) := by
  have C := Lib.hid (Rx.areReaders_yes h ha)
  have t0 : (D == 0) = false := by simp; omega
  clear h ha
  by_cases c : 1 ≤ D
  · have t1 : decide (1 ≤ D) = true := by simpa using c
    have t2 : decide (D ≤ 3000) = false := by simp; omega
    clear hD c
    go_enter Try.func11, Try.ntmps11
    go_wp2_with fail
    refine C.out.mono ?_
    rintro e w1 ⟨rfl, hb0⟩
    go_wp2
    go_ret2
    exact Li.Gives.none hb0
  · have t1 : decide (1 ≤ D) = false := by simpa using c
    clear hD c
    go_enter Try.func11, Try.ntmps11
    go_wp2_with fail
    refine C.out.mono ?_
    rintro e w1 ⟨rfl, hb0⟩
    go_wp2
    go_ret2
    exact Li.Gives.none hb0
theorem grown_next {a b c : World} {g : Nat} (h : a.grownBy b (some g)) (k : b.grownBy c (some g)) : a.grownBy c (some g) :=
  ⟨k.os.trans h.os, k.tape.trans h.tape, k.output.trans h.output, Nat.le_trans h.size k.size, fun j hj hr => (k.block j (Nat.lt_of_lt_of_le hj h.size) hr).trans (h.block j hj hr)⟩
set_option maxRecDepth 100000 in
set_option maxHeartbeats 1000000 in
theorem markReaderS_own {base g cap len : Nat} {xs : List Value} {w : World} (h : w.ownsRow base 52 3 (.slice (some ⟨g, 0, none⟩) len cap) len xs) (hl : len ≤ 1048576) :
    Calls Try.prog 14 #[.slice (some ⟨g, 0, none⟩) len cap, .int .i64 1] w fun e w' => (∃ r : Int, 0 ≤ r ∧ e = .returned (.int .i64 r)) ∧ w.grownBy w' (some g) := by
  have H := Lib.hid h
  clear h
  go_enter Try.func14, Try.ntmps14
  go_wp2
  go_loopw [1, 5] (fun q i wr => ∃ (k : Nat) (ys : List Value), k ≤ len ∧ i = .int .i64 (k : Int) ∧ q = .int .i64 (1 + 3 * (k : Int)) ∧ wr.ownsRow base 52 3 (.slice (some ⟨g, 0, none⟩) len cap) len ys ∧ w.grownBy wr (some g)) (fun _ i _ => ((len : Int) - intOf i).toNat)
  case atStart => exact ⟨0, xs, by omega, rfl, rfl, H.out, ⟨rfl, rfl, rfl, Nat.le_refl _, fun _ _ _ => rfl⟩⟩
  case round =>
    obtain ⟨k, ys, hk, rfl, rfl, hown, hg⟩ := hrel
    by_cases hlt : (k : Int) < len
    · obtain ⟨v0, d0⟩ := hown.some_at (j := k * 3) (by omega)
      obtain ⟨v1, d1⟩ := hown.some_at (j := k * 3 + 1) (by omega)
      obtain ⟨v2, d2⟩ := hown.some_at (j := k * 3 + 2) (by omega)
      have f0 := hown.frozenAt (k * 3)
      have f1 := hown.frozenAt (k * 3 + 1)
      have f2 := hown.frozenAt (k * 3 + 2)
      have hb : 1 + 3 * (k : Int) ≤ 4000000 := by omega
      have hb0 : 0 ≤ 1 + 3 * (k : Int) := by omega
      obtain ⟨K, hK⟩ : ∃ K : Int, 1 + 3 * (k : Int) = K := ⟨_, rfl⟩
      rw [hK] at hb hb0 ⊢
      obtain ⟨s0, g0⟩ := hown.stored (k * 3) (.int .i64 K)
      obtain ⟨s1, g1⟩ := s0.stored (k * 3 + 1) (.int .i64 (K + 1))
      obtain ⟨s2, g2⟩ := s1.stored (k * 3 + 2) (.int .i64 (K + 1 + 1))
      have HO := Lib.hid s2
      have HG := Lib.hid (grown_next (grown_next (grown_next hg g0) g1) g2)
      have HK := Lib.hid hK
      clear hown hg s0 s1 s2 g0 g1 g2 hK
      go_wp2
      go_roundw
      case rel => exact ⟨k + 1, _, by omega, by go_num, by rw [show 1 + 3 * ((k + 1 : Nat) : Int) = K + 3 by have := HK.out; omega]; first | rfl | (congr 1; omega), HO.out, HG.out⟩
      case measure => simp [intOf]; omega
    · go_wp2
      go_ret
      exact ⟨⟨_, by omega, rfl⟩, hg⟩
end Or
end Go.Proofs.Ythjhnpomnjkclaa
