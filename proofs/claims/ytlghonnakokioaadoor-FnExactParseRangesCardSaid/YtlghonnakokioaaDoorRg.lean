/- Lists of ranges: as rows of their numbers, two a range: copied, compared, marked, held. -/
import Derived.Test.YtlghonnakokioaaDoorInts
import Derived.OwnWalk
import Derived.OpenShut
import Derived.ProofKit
import Derived.Lib.SmallJoins
import Derived.Deep.Slices
import Derived.Deep.Strs
import Derived.Deep.Fields
import Derived.Lib.Slices
import Derived.Deep.RegionHeld3
import Derived.Deep.RegionWith
import Derived.IntWalk
namespace Go.Proofs.YtlghonnakokioaaDoor
open Go.RowKit Go.Joins Go.Deep Go.ChangeShapes Go.WideShapes
set_option linter.unusedVariables false
set_option linter.unusedSimpArgs false
namespace Rg
/-- a value is returned, nothing older is changed -/
def Ret (v : Value) (w : World) (e : Ending) (w' : World) : Prop := e = .returned v ∧ Below w.heap.size w w'
theorem below_le {B a : Nat} {w w' : World} (h : Below a w w') (hb : B ≤ a) : Below B w w' := h.mono hb
theorem infoG : (Tryd.prog.info? 26).map (fun i => (i.zero, i.size, i.bytes)) = some (some (.agg #[.int .i64 0, .int .i64 0]), 2, 16) := by kernel_rfl
/-- a list of ranges of the call's own -/
abbrev Own (W : World) (base : Nat) (v : Value) (n : Nat) (zs : List Int) : Prop := W.ownsRow base 26 2 v n (Li.nums zs)
theorem own_size {W : World} {base n : Nat} {v : Value} {zs : List Int} (h : Own W base v n zs) : zs.length = 2 * n := by have := h.1; simp [Li.nums] at this; omega
/-- len ranges at an address: their numbers -/
def At (W : World) (b off len : Nat) (zs : List Int) : Prop := zs.length = 2 * len ∧ len ≤ 1048576 ∧ b < W.heap.size ∧ ∀ i, i < len → W.cell? ⟨b, off + i * 2, none⟩ = some (.int .i64 (zs.getD (i * 2) 0)) ∧ W.cell? ⟨b, off + i * 2 + 1, none⟩ = some (.int .i64 (zs.getD (i * 2 + 1) 0))
theorem At.on {W W' : World} {b off len : Nat} {zs : List Int} (h : At W b off len zs) (hb : Below W.heap.size W W') : At W' b off len zs :=
  ⟨h.1, h.2.1, Nat.lt_of_lt_of_le h.2.2.1 hb.size, fun i hi => ⟨(hb.cell (p := ⟨b, off + i * 2, none⟩) h.2.2.1).trans (h.2.2.2 i hi).1, (hb.cell (p := ⟨b, off + i * 2 + 1, none⟩) h.2.2.1).trans (h.2.2.2 i hi).2⟩⟩
theorem _root_.Go.World.ownsRow.some_at2 {w : World} {base g n cap size : Nat} {e : TypeId} {xs : List Value} (h : w.ownsRow base e size (.slice (some ⟨g, 0, none⟩) n cap) n xs) {j : Nat} (hj : j < n * size) : ∃ v, w.cell? ⟨g, j, none⟩ = some v := by
  exact ⟨xs[j]'(by rw [h.1]; exact hj), by rw [h.cellAt j hj]; exact List.getElem?_eq_getElem _⟩
/-- a made list of ranges, the first k of them written -/
def copyOf (zs : List Int) (len k : Nat) : List Value := Li.nums (zs.take (k * 2)) ++ List.replicate ((len - k) * 2) (.int .i64 0)
theorem copy_start (zs : List Int) (len : Nat) : copyOf zs len 0 = List.replicate (len * 2) (.int .i64 0) := by simp [copyOf, Li.nums]
theorem set2 (A R : List Value) (n : Nat) (hA : A.length = n) (a b x y : Value) : ((A ++ a :: b :: R).set n x).set (n + 1) y = A ++ x :: y :: R := by
  subst hA
  simp [List.set_append]
theorem take1 (zs : List Int) (n : Nat) (h : n < zs.length) : zs.take (n + 1) = zs.take n ++ [zs.getD n 0] := by
  rw [List.take_add_one, List.getElem?_eq_getElem h]
  simp [List.getD, List.getElem?_eq_getElem h]
theorem take2 (zs : List Int) (k : Nat) (h : k * 2 + 1 < zs.length) : zs.take ((k + 1) * 2) = zs.take (k * 2) ++ [zs.getD (k * 2) 0, zs.getD (k * 2 + 1) 0] := by
  rw [show (k + 1) * 2 = k * 2 + 1 + 1 by omega, take1 zs (k * 2 + 1) (by omega), take1 zs (k * 2) (by omega), List.append_assoc]
  rfl
theorem copy_step (zs : List Int) (len k : Nat) (hk : k < len) (hl : zs.length = 2 * len) :
    ((copyOf zs len k).set (k * 2) (.int .i64 (zs.getD (k * 2) 0))).set (k * 2 + 1) (.int .i64 (zs.getD (k * 2 + 1) 0)) = copyOf zs len (k + 1) := by
  unfold copyOf
  rw [take2 zs k (by omega), show (len - k) * 2 = (len - (k + 1)) * 2 + 1 + 1 by omega, List.replicate_succ, List.replicate_succ]
  rw [set2 _ _ _ (by simp [Li.nums]; omega)]
  simp [Li.nums]
theorem copy_end (zs : List Int) (n : Nat) (hn : zs.length = 2 * n) : copyOf zs n n = Li.nums zs := by
  unfold copyOf
  rw [List.take_of_length_le (by omega)]
  simp
theorem made2 (n : Nat) : (madeCells (Value.agg #[.int .i64 0, .int .i64 0]).cells (n * 2)).toList = List.replicate (n * 2) (.int .i64 0) := by
  apply List.ext_getElem?
  intro j
  by_cases hj : j < n * 2
  · have h3 : j % 2 = 0 ∨ j % 2 = 1 := by omega
    rcases h3 with h | h <;> simp [madeCells, hj, Value.cells, h]
  · simp [madeCells, hj]
set_option maxRecDepth 100000 in
theorem below_of {w w' : World} (h1 : w'.os = w.os) (h2 : w'.tape = w.tape) (h3 : w'.output = w.output) (h4 : w.heap.size ≤ w'.heap.size) (h5 : ∀ k, k < w.heap.size → w'.heap[k]? = w.heap[k]?) : Below w.heap.size w w' := ⟨h1, h2, h3, h4, h5⟩
theorem toRange_any (a b : Int) (w : World) : Calls Tryd.prog 10 #[.agg #[.int .i64 a, .int .i64 b]] w (Ret (.agg #[.int .i64 a, .int .i64 b]) w) := by
  go_enter Tryd.func10, Tryd.ntmps10
  go_wp2
  exact bodyPost_ret (v := .agg #[.int .i64 a, .int .i64 b]) (by simp [results, Tryd.results10, go_sem]) rfl ⟨rfl, below_alloc3 _ _ _ _⟩
set_option maxRecDepth 100000 in
set_option maxHeartbeats 1000000 in
theorem toRangeS_some (b off len cap : Nat) (zs : List Int) (w : World) (h : At w b off len zs) :
    Calls Tryd.prog 17 #[.slice (some ⟨b, off, none⟩) len cap] w fun e w' => e = .returned (.slice (some ⟨w.heap.size, 0, none⟩) len len) ∧ Own w' w.heap.size (.slice (some ⟨w.heap.size, 0, none⟩) len len) len zs ∧ Below w.heap.size w w' := by
  obtain ⟨i0, hi, hz0, hz1, hz2⟩ := info_parts infoG
  have HC := Lib.hid h
  have hm := h.2.1
  clear h
  go_enter Tryd.func17, Tryd.ntmps17
  go_wp2_with (first | (at_make; refine wpList_make_full _ rfl _ _ 36 rfl w.heap.size 26 i0 (.agg #[.int .i64 0, .int .i64 0]) 2 Tryd.underlying36 hi hz0 hz1 _ _ _ _ len rfl rfl rfl rfl (by rw [hz2]; omega) (by unfold maxLen; omega) (Nat.le_refl _) ?_; intro w1 hown hg1))
  have h0 : w1.ownsRow w.heap.size 26 2 (.slice (some ⟨w.heap.size, 0, none⟩) len len) len (copyOf zs len 0) := by
    rw [copy_start, ← made2]; exact hown
  have hb0 := Li.below_of_grown hg1
  clear hown hg1
  go_loopw [4] (fun i wr => ∃ k : Nat, k ≤ len ∧ i = .int .i64 (k : Int) ∧ wr.ownsRow w.heap.size 26 2 (.slice (some ⟨w.heap.size, 0, none⟩) len len) len (copyOf zs len k) ∧ Below w.heap.size w wr) (fun i _ => ((len : Int) - intOf i).toNat)
  case atStart => exact ⟨0, by omega, rfl, h0, hb0⟩
  case round =>
    obtain ⟨k, hk, rfl, hown, hb⟩ := hrel
    have hr := HC.out.on hb
    have hl := hr.1
    by_cases hlt : (k : Int) < len
    · obtain ⟨q0, q1⟩ := hr.2.2.2 k (by omega)
      have ES := Lib.hid (copy_step zs len k (by omega) hl)
      generalize zs.getD (k * 2) 0 = m at *
      generalize zs.getD (k * 2 + 1) 0 = d at *
      go_wp2_with fail
      refine (toRange_any _ _ _).mono ?_
      rintro e w2 ⟨rfl, hb2⟩
      have hown2 := Li.own_on hown hb2
      have hB := hb.trans (below_le hb2 hb.size)
      clear hown hb hb2 q0 q1 hr
      obtain ⟨v0, d0⟩ := hown2.some_at2 (j := k * 2) (by omega)
      obtain ⟨v1, d1⟩ := hown2.some_at2 (j := k * 2 + 1) (by omega)
      have f0 := hown2.frozenAt (k * 2)
      have f1 := hown2.frozenAt (k * 2 + 1)
      obtain ⟨s0, g0⟩ := hown2.stored (k * 2) (.int .i64 m)
      obtain ⟨s1, g1⟩ := s0.stored (k * 2 + 1) (.int .i64 d)
      rw [ES.out] at s1
      have HO := Lib.hid s1
      have HB := Lib.hid ((hB.setCell (p := ⟨w.heap.size, k * 2, none⟩) (Nat.le_refl _) (.int .i64 m)).setCell (p := ⟨w.heap.size, k * 2 + 1, none⟩) (Nat.le_refl _) (.int .i64 d))
      clear hown2 hB s0 s1 g0 g1 ES
      go_wp2
      go_roundw
      case rel => exact ⟨k + 1, by omega, by go_num, HO.out, HB.out⟩
      case measure => simp [intOf]; omega
    · have e : k = len := by omega
      have O := Lib.hid (show Own wr w.heap.size (.slice (some ⟨w.heap.size, 0, none⟩) len len) len zs by unfold Own; rw [← copy_end zs len hl]; rw [e] at hown; exact hown)
      clear hown e
      go_wp2
      go_ret
      exact ⟨rfl, O.out, hb⟩
set_option maxRecDepth 100000 in
theorem toRangeS_none (a : Option Addr) (cap : Nat) (w : World) :
    Calls Tryd.prog 17 #[.slice a 0 cap] w fun e w' => e = .returned (.slice (some ⟨w.heap.size, 0, none⟩) 0 0) ∧ Own w' w.heap.size (.slice (some ⟨w.heap.size, 0, none⟩) 0 0) 0 [] ∧ Below w.heap.size w w' := by
  obtain ⟨i0, hi, hz0, hz1, hz2⟩ := info_parts infoG
  go_enter Tryd.func17, Tryd.ntmps17
  go_wp2_with (first | (at_make; refine wpList_make_full _ rfl _ _ 36 rfl w.heap.size 26 i0 (.agg #[.int .i64 0, .int .i64 0]) 2 Tryd.underlying36 hi hz0 hz1 _ _ _ _ 0 rfl rfl rfl rfl (by rw [hz2]; omega) (by unfold maxLen; omega) (Nat.le_refl _) ?_; intro w1 hown hg1))
  have h0 : Own w1 w.heap.size (.slice (some ⟨w.heap.size, 0, none⟩) 0 0) 0 [] := by
    have e := made2 0
    rw [e] at hown
    exact hown
  have HO := Lib.hid h0
  have HB := Lib.hid (Li.below_of_grown hg1)
  clear hown hg1 h0
  refine wp_loop_rounds 1 ?_
  rw [rounds_succ]
  go_wp2
  go_ret
  exact ⟨rfl, HO.out, HB.out⟩
/-- a list of ranges that came in: nil, or its numbers lie at an address -/
def Came (W : World) (v : Value) (len : Nat) (zs : List Int) : Prop := zs.length = 2 * len ∧ len ≤ 1048576 ∧ ((len = 0 ∧ ∃ a cap, v = .slice a 0 cap) ∨ ∃ b off cap, v = .slice (some ⟨b, off, none⟩) len cap ∧ At W b off len zs)
theorem Came.on {W W' : World} {v : Value} {len : Nat} {zs : List Int} (h : Came W v len zs) (hb : Below W.heap.size W W') : Came W' v len zs :=
  ⟨h.1, h.2.1, h.2.2.imp id fun ⟨b, off, cap, e, ha⟩ => ⟨b, off, cap, e, ha.on hb⟩⟩
/-- a copy of it in new memory -/
def Copied (len : Nat) (zs : List Int) (W : World) (e : Ending) (w' : World) : Prop := ∃ g, e = .returned (.slice (some ⟨g, 0, none⟩) len len) ∧ Own w' W.heap.size (.slice (some ⟨g, 0, none⟩) len len) len zs ∧ Below W.heap.size W w'
theorem toRangeS_any {v : Value} {len : Nat} {zs : List Int} {w : World} (h : Came w v len zs) : Calls Tryd.prog 17 #[v] w (Copied len zs w) := by
  rcases h.2.2 with ⟨rfl, a, cap, rfl⟩ | ⟨b, off, cap, rfl, ha⟩
  · have hz : zs = [] := List.eq_nil_of_length_eq_zero (by have := h.1; omega)
    subst hz
    exact (toRangeS_none a cap w).mono fun e w' ⟨he, ho, hb⟩ => ⟨_, he, ho, hb⟩
  · exact (toRangeS_some b off len cap zs w ha).mono fun e w' ⟨he, ho, hb⟩ => ⟨_, he, ho, hb⟩
theorem cell_at {w : World} {base g n cap : Nat} {e : TypeId} {zs : List Int} (h : w.ownsRow base e 2 (.slice (some ⟨g, 0, none⟩) n cap) n (Li.nums zs)) {j : Nat} (hj : j < n * 2) : w.cell? ⟨g, j, none⟩ = some (.int .i64 (zs.getD j 0)) := by
  have hl : zs.length = n * 2 := by have := h.1; simpa [Li.nums] using this
  rw [h.cellAt j hj]
  simp [Li.nums, List.getD, List.getElem?_eq_getElem (show j < zs.length by omega)]
theorem cells2 {w : World} {base g n cap : Nat} {e : TypeId} {zs : List Int} (h : w.ownsRow base e 2 (.slice (some ⟨g, 0, none⟩) n cap) n (Li.nums zs)) {k : Nat} (hk : k < n) :
    w.cell? ⟨g, k * 2, none⟩ = some (.int .i64 (zs.getD (k * 2) 0)) ∧ w.cell? ⟨g, k * 2 + 1, none⟩ = some (.int .i64 (zs.getD (k * 2 + 1) 0)) :=
  ⟨cell_at h (by omega), cell_at h (by omega)⟩
set_option maxRecDepth 100000 in
theorem eqRange_same (m d : Int) (w : World) : Calls Tryd.prog 14 #[.agg #[.int .i64 m, .int .i64 d], .agg #[.int .i64 m, .int .i64 d]] w (Ret (.bool true) w) := by
  go_enter Tryd.func14, Tryd.ntmps14
  go_wp2
  go_ret
  refine ⟨rfl, ?_⟩
  repeat' (first | exact Below.refl _ _ | apply Below.setCell | apply Below.alloc)
  all_goals (simp; try omega)
end Rg
end Go.Proofs.YtlghonnakokioaaDoor
