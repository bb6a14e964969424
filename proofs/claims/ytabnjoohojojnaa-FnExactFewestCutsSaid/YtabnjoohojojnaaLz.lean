/- Lists of integers marked from any number on; values returned; the parts of laws over one list or two. -/
import Derived.Test.YtabnjoohojojnaaBb
namespace Go.Proofs.Ytabnjoohojojnaa
open Go.RowKit Go.Joins Go.Deep Go.ChangeShapes Go.WideShapes
set_option linter.unusedVariables false
set_option linter.unusedSimpArgs false
namespace Ln
theorem keep_apart {W w1 : World} {v : Value} {n base g size : Nat} {e : TypeId} {xs : List Value} (h : w1.ownsRow base e size v n xs) (hg : g < base ∨ w1.heap.size ≤ g) : v.ownBlock = none ∨ v.ownBlock ≠ some g := by
  cases hv : v.ownBlock with
  | none => exact _root_.Or.inl rfl
  | some q => exact _root_.Or.inr (fun e => by injection e with e; have a := h.lt q hv; omega)
theorem keep_both {w1 w2 : World} {v v' : Value} {n n' base base' size size' : Nat} {e e' : TypeId} {xs xs' : List Value} (h : w1.ownsRow base e size v n xs) (h' : w2.ownsRow base' e' size' v' n' xs') (hg : w1.heap.size ≤ base') : v.ownBlock = none ∨ v.ownBlock ≠ v'.ownBlock := by
  cases hv : v.ownBlock with
  | none => exact _root_.Or.inl rfl
  | some q => exact _root_.Or.inr (fun e => by have a := (h.lt q hv).2; have b := (h'.lt q e.symm).1; omega)
theorem eqIntS_n {b1 b2 n : Nat} {v v' : Value} {zs : List Int} {w : World} (h : w.ownsRow b1 3 1 v n (Li.nums zs)) (h' : w.ownsRow b2 3 1 v' n (Li.nums zs)) (hl : n ≤ 1048576) :
    Calls Try.prog 18 #[v, v'] w (Ret (.bool true) w) := by
  have hz : zs.length = n := by have := h.1; simpa [Li.nums] using this
  subst hz
  exact Li.eqIntS_own h h' hl
set_option maxRecDepth 100000 in
set_option maxHeartbeats 1000000 in
theorem markIntS_zs (base g cap len : Nat) (xs : List Value) (z : Int) (w : World) (h : w.ownsRow base 3 1 (.slice (some ⟨g, 0, none⟩) len cap) len xs) (hl : len ≤ 1048576) (hz0 : 0 ≤ z) (hz1 : z ≤ 1099511627776) :
    Calls Try.prog 21 #[.slice (some ⟨g, 0, none⟩) len cap, .int .i64 z] w fun e w' => e = .returned (.int .i64 (z + (len : Int))) ∧ (∃ ys, w'.ownsRow base 3 1 (.slice (some ⟨g, 0, none⟩) len cap) len ys) ∧ w.grownBy w' (some g) := by
  have H0 := Lib.hid h
  clear h
  go_enter Try.func21, Try.ntmps21
  go_wp2
  go_loopw [1, 5] (fun q i wr => ∃ (k : Nat) (ys : List Value), k ≤ len ∧ i = .int .i64 (k : Int) ∧ q = .int .i64 (z + (k : Int)) ∧ wr.ownsRow base 3 1 (.slice (some ⟨g, 0, none⟩) len cap) len ys ∧ w.grownBy wr (some g)) (fun _ i _ => ((len : Int) - intOf i).toNat)
  case atStart => exact ⟨0, xs, by omega, rfl, by first | simp | rfl, H0.out, ⟨rfl, rfl, rfl, Nat.le_refl _, fun _ _ _ => rfl⟩⟩
  case round =>
    obtain ⟨k, ys, hk, rfl, rfl, hown, hg⟩ := hrel
    by_cases hlt : (k : Int) < len
    · have hd : ∃ v, wr.cell? ⟨g, k, none⟩ = some v := by
        rw [hown.cellAt k (by omega)]
        exact ⟨_, List.getElem?_eq_getElem (by rw [hown.1]; omega)⟩
      obtain ⟨v, hd⟩ := hd
      have hf := hown.frozenAt k
      have hst := hown.stored k (.int .i64 (z + (k : Int)))
      have HST := Lib.hid hst.1
      have HG := Lib.hid (show w.grownBy (wr.setCell ⟨g, k, none⟩ (.int .i64 (z + (k : Int)))) (some g) from
        ⟨hst.2.os.trans hg.os, hst.2.tape.trans hg.tape, hst.2.output.trans hg.output, Nat.le_trans hg.size hst.2.size, fun j hj hr => (hst.2.block j (Nat.lt_of_lt_of_le hj hg.size) hr).trans (hg.block j hj hr)⟩)
      clear hst hown hg
      go_wp2
      go_roundw
      case rel => exact ⟨k + 1, _, by omega, by go_num, by rw [Int.natCast_succ, ← Int.add_assoc] <;> first | rfl | go_num, HST.out, HG.out⟩
      case measure => simp [intOf]; omega
    · have E := Lib.hid (show k = len by omega)
      have HO := Lib.hid hown
      clear hown
      go_wp2
      go_ret
      exact ⟨by rw [E.out]; rfl, ⟨_, HO.out⟩, hg⟩
theorem markIntS_z {base n cap : Nat} {a : Option Addr} {xs : List Value} {w : World} {z : Int} (h : w.ownsRow base 3 1 (.slice a n cap) n xs) (ha : ∃ g, a = some ⟨g, 0, none⟩) (hl : n ≤ 1048576) (hz0 : 0 ≤ z) (hz1 : z ≤ 1099511627776) :
    Calls Try.prog 21 #[.slice a n cap, .int .i64 z] w fun e w' => e = .returned (.int .i64 (z + (n : Int))) ∧ (∃ ys, w'.ownsRow base 3 1 (.slice a n cap) n ys) ∧ w.grownBy w' (Value.ownBlock (.slice a n cap)) := by
  obtain ⟨g, rfl⟩ := ha
  exact markIntS_zs base g cap n xs z w h hl hz0 hz1
end Ln
end Go.Proofs.Ytabnjoohojojnaa
