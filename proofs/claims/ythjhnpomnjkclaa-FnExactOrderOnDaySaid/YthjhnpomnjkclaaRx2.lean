/- Lists of readers are compared; all of them are readers of a book, or not. -/
import Derived.Test.YthjhnpomnjkclaaRx
import Derived.Test.YthjhnpomnjkclaaRwb
import Derived.Deep.RegionHeld3
import Derived.Deep.RegionWith
namespace Go.Proofs.Ythjhnpomnjkclaa
open Go.RowKit Go.Joins
set_option linter.unusedVariables false
set_option linter.unusedSimpArgs false
namespace Rx
theorem lt_of_cell {w : World} {a : Addr} {v : Value} (h : w.cell? a = some v) : a.block < w.heap.size := World.block_lt_of_cell? _ _ h
theorem keep1 {w w' : World} {a : Addr} {v : Value} (hb : Below w.drew.heap.size w.drew w') (h : w.cell? a = some v) : w'.cell? a = some v :=
  (hb.cell (p := a) (lt_of_cell h)).trans h
theorem keep6 {w w' : World} {a b c a' b' c' : Addr} {x y z x' y' z' : Value} (hb : Below w.drew.heap.size w.drew w')
    (h : w.cell? a = some x ∧ w.cell? b = some y ∧ w.cell? c = some z ∧ w.cell? a' = some x' ∧ w.cell? b' = some y' ∧ w.cell? c' = some z') :
    w'.cell? a = some x ∧ w'.cell? b = some y ∧ w'.cell? c = some z ∧ w'.cell? a' = some x' ∧ w'.cell? b' = some y' ∧ w'.cell? c' = some z' :=
  ⟨keep1 hb h.1, keep1 hb h.2.1, keep1 hb h.2.2.1, keep1 hb h.2.2.2.1, keep1 hb h.2.2.2.2.1, keep1 hb h.2.2.2.2.2⟩
set_option maxRecDepth 100000 in
set_option maxHeartbeats 1000000 in
theorem eqReaderS_own {b1 b2 g g' len cap cap' : Nat} {zs : List Int} {w : World} (h : w.ownsRow b1 52 3 (.slice (some ⟨g, 0, none⟩) len cap) len (nums zs)) (h' : w.ownsRow b2 52 3 (.slice (some ⟨g', 0, none⟩) len cap') len (nums zs)) (hl : len ≤ 1048576) :
    Calls Try.prog 13 #[.slice (some ⟨g, 0, none⟩) len cap, .slice (some ⟨g', 0, none⟩) len cap'] w (Rw.Ret (.bool true) w) := by
  have HC := Lib.hid h
  have HD := Lib.hid h'
  clear h h'
  go_enter Try.func13, Try.ntmps13
  go_wp2
  go_loopw [5] (fun i wr => ∃ k : Nat, k ≤ len ∧ i = .int .i64 (k : Int) ∧ Below w.heap.size w wr) (fun i _ => ((len : Int) - intOf i).toNat)
  case atStart => exact ⟨0, by omega, rfl, Below.refl _ _⟩
  case round =>
    obtain ⟨k, hk, rfl, hb⟩ := hrel
    by_cases hlt : (k : Int) < len
    · obtain ⟨q0, q1, q2⟩ := cells3 (own_on HC.out hb) (k := k) (by omega)
      obtain ⟨Q0, Q1, Q2⟩ := cells3 (own_on HD.out hb) (k := k) (by omega)
      generalize zs.getD (k * 3) 0 = m at *
      generalize zs.getD (k * 3 + 1) 0 = d at *
      generalize zs.getD (k * 3 + 2) 0 = r at *
      have HB := Lib.hid hb
      clear hb
      go_wp2
      go_region_held3 (fun w' => w'.cell? ⟨g, k * 3, none⟩ = some (.int .i64 m) ∧ w'.cell? ⟨g, k * 3 + 1, none⟩ = some (.int .i64 d) ∧ w'.cell? ⟨g, k * 3 + 2, none⟩ = some (.int .i64 r) ∧ w'.cell? ⟨g', k * 3, none⟩ = some (.int .i64 m) ∧ w'.cell? ⟨g', k * 3 + 1, none⟩ = some (.int .i64 d) ∧ w'.cell? ⟨g', k * 3 + 2, none⟩ = some (.int .i64 r))
        (first | exact ⟨q0, q1, q2, Q0, Q1, Q2⟩ | exact hs6 | go_keep)
        (first
          | (go_at_call 41; refine (eqReader_same m d r _).mono ?_; rintro e w4 ⟨rfl, hb4⟩; have hs6 : w4.cell? ⟨g, k * 3, none⟩ = some (.int .i64 m) ∧ w4.cell? ⟨g, k * 3 + 1, none⟩ = some (.int .i64 d) ∧ w4.cell? ⟨g, k * 3 + 2, none⟩ = some (.int .i64 r) ∧ w4.cell? ⟨g', k * 3, none⟩ = some (.int .i64 m) ∧ w4.cell? ⟨g', k * 3 + 1, none⟩ = some (.int .i64 d) ∧ w4.cell? ⟨g', k * 3 + 2, none⟩ = some (.int .i64 r) := keep6 hb4 ⟨q0, q1, q2, Q0, Q1, Q2⟩))
      go_wp2
      go_roundw
      case rel => exact ⟨k + 1, by omega, by go_num, HB.out.drew.trans (below_le hb4 HB.out.size)⟩
      case measure => simp [intOf]; omega
    · go_wp2
      go_ret
      exact ⟨rfl, hb⟩
end Rx
end Go.Proofs.Ythjhnpomnjkclaa
