/- What toIntS and eqIntS answer: a copy of a slice of at most 1048576 integers, in new memory; and that two slices that read alike are found alike. -/
import Derived.Test.YtocmgggggdcebaaDoorChecked
import Derived.WalkKit
import Derived.Lib.Hide
import Derived.Deep.QuietTactic
import Derived.BigQuiet
import Derived.Laws.OwnMore
namespace Go.Proofs.YtocmgggggdcebaaDoor
open Go.RowKit
theorem info3 : (Tryd.prog.info? 3).map (fun i => (i.zero, i.size, i.bytes)) = some (some (.int .i64 0), 1, 8) := by kernel_rfl
theorem below_next {a b c : World} (h : Below a.heap.size a b) (k : Below b.heap.size b c) : Below a.heap.size a c := h.trans (k.mono h.size)
theorem below_of_grown {a b : World} (h : a.grownBy b none) : Below a.heap.size a b := ⟨h.os, h.tape, h.output, h.size, fun k hk => h.block k hk (by simp)⟩
theorem grown_of_below {a b : World} (h : Below a.heap.size a b) : a.grownBy b none := ⟨h.os, h.tape, h.output, h.size, fun k hk _ => h.block k hk⟩
theorem below_draws {B : Nat} {a b : World} (h : Below B a b) (n : Nat) : Below B a (b.drewN n) := ⟨h.os, h.tape, h.output, h.size, h.block⟩
def nums (zs : List Int) : List Value := zs.map (Value.int .i64)
/-- a slice of integers at an address: its numbers -/
def RowAt (W : World) (b off len : Nat) (zs : List Int) : Prop := zs.length = len ∧ len ≤ 1048576 ∧ b < W.heap.size ∧ ∀ j, j < len → W.cell? ⟨b, off + j, none⟩ = some (.int .i64 (zs.getD j 0))
theorem RowAt.on {W W' : World} {b off len : Nat} {zs : List Int} (h : RowAt W b off len zs) (hb : Below W.heap.size W W') : RowAt W' b off len zs :=
  ⟨h.1, h.2.1, Nat.lt_of_lt_of_le h.2.2.1 hb.size, fun j hj => (hb.cell (p := ⟨b, off + j, none⟩) h.2.2.1).trans (h.2.2.2 j hj)⟩
/-- a slice's value that reads so, an empty one at whatever address -/
def SliceIs (W : World) (v : Value) (zs : List Int) : Prop := ∃ a cap, v = .slice a zs.length cap ∧ zs.length ≤ 1048576 ∧ (0 < zs.length → ∃ b off, a = some ⟨b, off, none⟩ ∧ RowAt W b off zs.length zs)
theorem SliceIs.on {W W' : World} {v : Value} {zs : List Int} (h : SliceIs W v zs) (hb : Below W.heap.size W W') : SliceIs W' v zs := by
  obtain ⟨a, cap, hv, hl, h⟩ := h
  exact ⟨a, cap, hv, hl, fun h0 => by obtain ⟨b, off, ha, hr⟩ := h h0; exact ⟨b, off, ha, hr.on hb⟩⟩
theorem sliceIs_own {W : World} {base g cap : Nat} {zs : List Int} (h : W.ownsRow base 3 1 (.slice (some ⟨g, 0, none⟩) zs.length cap) zs.length (nums zs)) (hl : zs.length ≤ 1048576) : SliceIs W (.slice (some ⟨g, 0, none⟩) zs.length cap) zs := by
  refine ⟨_, cap, rfl, hl, fun h0 => ⟨g, 0, rfl, rfl, hl, (h.lt g rfl).2, fun j hj => ?_⟩⟩
  rw [Nat.zero_add, h.cellAt j (by omega)]
  unfold nums
  simp [List.getD, List.getElem?_eq_getElem hj]
def copyOf (zs : List Int) (n k : Nat) : List Value := (zs.take k).map (Value.int .i64) ++ List.replicate (n - k) (.int .i64 0)
theorem copy_start (zs : List Int) (n : Nat) : copyOf zs n 0 = List.replicate n (.int .i64 0) := by simp [copyOf]
theorem copy_step (zs : List Int) (n k : Nat) (hk : k < n) (hn : zs.length = n) : (copyOf zs n k).set k (.int .i64 (zs.getD k 0)) = copyOf zs n (k + 1) := by
  subst hn
  unfold copyOf
  have e : zs.take (k + 1) = zs.take k ++ [zs.getD k 0] := by
    rw [List.take_succ_eq_append_getElem (by omega)]
    simp [List.getD, List.getElem?_eq_getElem hk]
  rw [e, List.set_append_right _ _ (by simp; omega)]
  have e2 : k - ((zs.take k).map (Value.int .i64)).length = 0 := by simp; omega
  rw [e2, show zs.length - k = (zs.length - (k + 1)) + 1 from by omega, List.replicate_succ]
  simp
theorem copy_end (zs : List Int) (n : Nat) (hn : zs.length = n) : copyOf zs n n = nums zs := by
  subst hn
  simp [copyOf, nums]
set_option maxRecDepth 100000 in
set_option maxHeartbeats 1000000 in
theorem toIntS_some (b off len cap : Nat) (zs : List Int) (w : World) (h : RowAt w b off len zs) :
    Calls Tryd.prog 6 #[.slice (some ⟨b, off, none⟩) len cap] w fun e w' => e = .returned (.slice (some ⟨w.heap.size, 0, none⟩) len len) ∧ w'.ownsRow w.heap.size 3 1 (.slice (some ⟨w.heap.size, 0, none⟩) len len) len (nums zs) ∧ Below w.heap.size w w' := by
  obtain ⟨i0, hi, hz0, hz1, hz2⟩ := info_parts info3
  have HC := Lib.hid h
  have hm := h.2.1
  clear h
  go_enter Tryd.func6, Tryd.ntmps6
  go_wp2_with (first | (at_make; refine wpList_make_full _ rfl _ _ 22 rfl w.heap.size 3 i0 (.int .i64 0) 1 Tryd.underlying22 hi hz0 hz1 _ _ _ _ len rfl rfl rfl rfl (by rw [hz2]; omega) (by unfold maxLen; omega) (Nat.le_refl _) ?_; intro w1 hown hg1))
  have h0 : w1.ownsRow w.heap.size 3 1 (.slice (some ⟨w.heap.size, 0, none⟩) len len) len (copyOf zs len 0) := by
    rw [copy_start]
    have e : (madeCells (Value.int .i64 0).cells (len * 1)).toList = List.replicate len (.int .i64 0) := by rw [Nat.mul_one]; exact toList_madeCells_one _ _
    rw [← e]; exact hown
  have hb0 := below_of_grown hg1
  clear hown hg1
  go_loopw [4] (fun i wr => ∃ k : Nat, k ≤ len ∧ i = .int .i64 (k : Int) ∧ wr.ownsRow w.heap.size 3 1 (.slice (some ⟨w.heap.size, 0, none⟩) len len) len (copyOf zs len k) ∧ Below w.heap.size w wr) (fun i _ => ((len : Int) - intOf i).toNat)
  case atStart => exact ⟨0, by omega, rfl, h0, hb0⟩
  case round =>
    obtain ⟨k, hk, rfl, hown, hb⟩ := hrel
    have hr := HC.out.on hb
    have hl := hr.1
    by_cases hlt : (k : Int) < len
    · have hc := hr.2.2.2 k (by omega)
      have hd : ∃ v, wr.cell? ⟨w.heap.size, k, none⟩ = some v := by
        rw [hown.cellAt k (by omega)]
        exact ⟨_, List.getElem?_eq_getElem (by rw [hown.1]; omega)⟩
      obtain ⟨v, hd⟩ := hd
      have hf := hown.frozenAt k
      have hst := hown.stored k (.int .i64 (zs.getD k 0))
      rw [copy_step zs len k (by omega) hl] at hst
      have HST := Lib.hid hst.1
      have hB := hb.setCell (p := ⟨w.heap.size, k, none⟩) (Nat.le_refl _) (.int .i64 (zs.getD k 0))
      have HB := Lib.hid hB
      have HL := Lib.hid hl
      clear hst hown hr hb hB hl
      go_wp2
      go_roundw
      case rel => exact ⟨k + 1, by omega, by go_num, HST.out, HB.out⟩
      case measure => simp [intOf]; omega
    · have e : k = len := by omega
      rw [e, copy_end zs len hl] at hown
      clear hr hl e
      go_wp2
      go_ret
      exact ⟨rfl, hown, hb⟩
set_option maxRecDepth 100000 in
theorem toIntS_none (a : Option Addr) (cap : Nat) (w : World) :
    Calls Tryd.prog 6 #[.slice a 0 cap] w fun e w' => e = .returned (.slice (some ⟨w.heap.size, 0, none⟩) 0 0) ∧ w'.ownsRow w.heap.size 3 1 (.slice (some ⟨w.heap.size, 0, none⟩) 0 0) 0 [] ∧ Below w.heap.size w w' := by
  obtain ⟨i0, hi, hz0, hz1, hz2⟩ := info_parts info3
  go_enter Tryd.func6, Tryd.ntmps6
  go_wp2_with (first | (at_make; refine wpList_make_full _ rfl _ _ 22 rfl w.heap.size 3 i0 (.int .i64 0) 1 Tryd.underlying22 hi hz0 hz1 _ _ _ _ 0 rfl rfl rfl rfl (by rw [hz2]; omega) (by unfold maxLen; omega) (Nat.le_refl _) ?_; intro w1 hown hg1))
  refine wp_loop_rounds 1 ?_
  rw [rounds_succ]
  go_wp2
  go_ret
  exact ⟨rfl, by simpa [madeCells] using hown, below_of_grown hg1⟩
theorem toIntS_any (v : Value) (zs : List Int) (w : World) (h : SliceIs w v zs) :
    Calls Tryd.prog 6 #[v] w fun e w' => e = .returned (.slice (some ⟨w.heap.size, 0, none⟩) zs.length zs.length) ∧ w'.ownsRow w.heap.size 3 1 (.slice (some ⟨w.heap.size, 0, none⟩) zs.length zs.length) zs.length (nums zs) ∧ Below w.heap.size w w' := by
  obtain ⟨a, cap, rfl, hl, h⟩ := h
  by_cases h0 : 0 < zs.length
  · obtain ⟨b, off, rfl, hr⟩ := h h0
    exact toIntS_some b off zs.length cap zs w hr
  · have e : zs = [] := List.eq_nil_of_length_eq_zero (by omega)
    subst e
    exact toIntS_none a cap w
set_option maxRecDepth 100000 in
set_option maxHeartbeats 1000000 in
theorem eqIntS_some (b off cap b' off' cap' len : Nat) (zs : List Int) (w : World) (h : RowAt w b off len zs) (h' : RowAt w b' off' len zs) :
    Calls Tryd.prog 8 #[.slice (some ⟨b, off, none⟩) len cap, .slice (some ⟨b', off', none⟩) len cap'] w fun e w' => e = .returned (.bool true) ∧ Below w.heap.size w w' := by
  have HC := Lib.hid h
  have HC' := Lib.hid h'
  have hm := h.2.1
  clear h h'
  go_enter Tryd.func8, Tryd.ntmps8
  go_wp2
  go_loopw [5] (fun i wr => ∃ k : Nat, k ≤ len ∧ i = .int .i64 (k : Int) ∧ Below w.heap.size w wr) (fun i _ => ((len : Int) - intOf i).toNat)
  case atStart => exact ⟨0, by omega, rfl, Below.refl _ _⟩
  case round =>
    obtain ⟨k, hk, rfl, hb⟩ := hrel
    by_cases hlt : (k : Int) < len
    · have hc := (HC.out.on hb).2.2.2 k (by omega)
      have hc' := (HC'.out.on hb).2.2.2 k (by omega)
      go_wp2
      go_quiet (fail)
      go_wp2
      go_roundw
      case rel => exact ⟨k + 1, by omega, by go_num, below_draws hb _⟩
      case measure => simp [intOf]; omega
    · go_wp2
      go_ret
      exact ⟨rfl, hb⟩
set_option maxRecDepth 100000 in
theorem eqIntS_none (a a' : Option Addr) (cap cap' : Nat) (w : World) :
    Calls Tryd.prog 8 #[.slice a 0 cap, .slice a' 0 cap'] w fun e w' => e = .returned (.bool true) ∧ Below w.heap.size w w' := by
  go_enter Tryd.func8, Tryd.ntmps8
  go_wp2
  refine wp_loop_rounds 1 ?_
  rw [rounds_succ]
  go_wp2
  go_ret
  exact ⟨rfl, Below.refl _ _⟩
theorem eqIntS_any (v v' : Value) (zs : List Int) (w : World) (h : SliceIs w v zs) (h' : SliceIs w v' zs) :
    Calls Tryd.prog 8 #[v, v'] w fun e w' => e = .returned (.bool true) ∧ Below w.heap.size w w' := by
  obtain ⟨a, cap, rfl, hl, h⟩ := h
  obtain ⟨a', cap', rfl, hl', h'⟩ := h'
  by_cases h0 : 0 < zs.length
  · obtain ⟨b, off, rfl, hr⟩ := h h0
    obtain ⟨b', off', rfl, hr'⟩ := h' h0
    exact eqIntS_some b off cap b' off' cap' zs.length zs w hr hr'
  · have e : zs = [] := List.eq_nil_of_length_eq_zero (by omega)
    subst e
    exact eqIntS_none a a' cap cap' w
end Go.Proofs.YtocmgggggdcebaaDoor
