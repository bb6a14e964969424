/- A list of integers that came in: its numbers, and a copy of it in new memory. -/
import Derived.Test.YtabnjoohojojnaaInts
import Derived.OpenShut
import Derived.ProofKit
import Derived.OwnWalk
import Derived.Lib.SmallJoins
import Derived.Deep.Slices
import Derived.Deep.Strs
import Derived.Deep.Fields
namespace Go.Proofs.Ytabnjoohojojnaa
open Go.RowKit Go.Joins Go.Deep Go.ChangeShapes Go.WideShapes
set_option linter.unusedVariables false
set_option linter.unusedSimpArgs false
namespace Il
/-- len numbers at an address -/
def At (W : World) (b off len : Nat) (zs : List Int) : Prop := zs.length = len ∧ len ≤ 1048576 ∧ b < W.heap.size ∧ ∀ j, j < len → W.cell? ⟨b, off + j, none⟩ = some (.int .i64 (zs.getD j 0))
theorem At.on {W W' : World} {b off len : Nat} {zs : List Int} (h : At W b off len zs) (hb : Below W.heap.size W W') : At W' b off len zs :=
  ⟨h.1, h.2.1, Nat.lt_of_lt_of_le h.2.2.1 hb.size, fun j hj => (hb.cell (p := ⟨b, off + j, none⟩) h.2.2.1).trans (h.2.2.2 j hj)⟩
def copyOf (zs : List Int) (n k : Nat) : List Value := (zs.take k).map (Value.int .i64) ++ List.replicate (n - k) (.int .i64 0)
theorem copy_start (zs : List Int) (n : Nat) : copyOf zs n 0 = List.replicate n (.int .i64 0) := by simp [copyOf]
theorem copy_step (zs : List Int) (n k : Nat) (hk : k < n) (hn : zs.length = n) : (copyOf zs n k).set k (.int .i64 (zs.getD k 0)) = copyOf zs n (k + 1) := by
  subst hn
  unfold copyOf
  have e : zs.take (k + 1) = zs.take k ++ [zs.getD k 0] := by
    rw [List.take_succ_eq_append_getElem (by omega)]
    simp [List.getD, List.getElem?_eq_getElem hk]
  rw [e, List.set_append_right _ _ (by simp; omega)]
  have e2 : k - ((zs.take k).map (Value.int .i64)).length = 0 := by simp; omega
  rw [e2, show zs.length - k = (zs.length - (k + 1)) + 1 from by omega, List.replicate_succ]
  simp
theorem copy_end (zs : List Int) (n : Nat) (hn : zs.length = n) : copyOf zs n n = Li.nums zs := by
  subst hn
  simp [copyOf, Li.nums]
set_option maxRecDepth 100000 in
set_option maxHeartbeats 1000000 in
theorem toIntS_some (b off len cap : Nat) (zs : List Int) (w : World) (h : At w b off len zs) :
    Calls Try.prog 16 #[.slice (some ⟨b, off, none⟩) len cap] w fun e w' => e = .returned (.slice (some ⟨w.heap.size, 0, none⟩) len len) ∧ w'.ownsRow w.heap.size 3 1 (.slice (some ⟨w.heap.size, 0, none⟩) len len) len (Li.nums zs) ∧ Below w.heap.size w w' := by
  obtain ⟨i0, hi, hz0, hz1, hz2⟩ := info_parts Li.info3
  have HC := Lib.hid h
  have hm := h.2.1
  clear h
  go_enter Try.func16, Try.ntmps16
  go_wp2_with (first | (at_make; refine wpList_make_full _ rfl _ _ 22 rfl w.heap.size 3 i0 (.int .i64 0) 1 Try.underlying22 hi hz0 hz1 _ _ _ _ len rfl rfl rfl rfl (by rw [hz2]; omega) (by unfold maxLen; omega) (Nat.le_refl _) ?_; intro w1 hown hg1))
  have h0 : w1.ownsRow w.heap.size 3 1 (.slice (some ⟨w.heap.size, 0, none⟩) len len) len (copyOf zs len 0) := by
    rw [copy_start]
    have e : (madeCells (Value.int .i64 0).cells (len * 1)).toList = List.replicate len (.int .i64 0) := by rw [Nat.mul_one]; exact toList_madeCells_one _ _
    rw [← e]; exact hown
  have hb0 := Li.below_of_grown hg1
  clear hown hg1
  go_loopw [4] (fun i wr => ∃ k : Nat, k ≤ len ∧ i = .int .i64 (k : Int) ∧ wr.ownsRow w.heap.size 3 1 (.slice (some ⟨w.heap.size, 0, none⟩) len len) len (copyOf zs len k) ∧ Below w.heap.size w wr) (fun i _ => ((len : Int) - intOf i).toNat)
  case atStart => exact ⟨0, by omega, rfl, h0, hb0⟩
  case round =>
    obtain ⟨k, hk, rfl, hown, hb⟩ := hrel
    have hr := HC.out.on hb
    have hl := hr.1
    by_cases hlt : (k : Int) < len
    · have hc := hr.2.2.2 k (by omega)
      have hd : ∃ v, wr.cell? ⟨w.heap.size, k, none⟩ = some v := by
        rw [hown.cellAt k (by omega)]
        exact ⟨_, List.getElem?_eq_getElem (by rw [hown.1]; omega)⟩
      obtain ⟨v, hd⟩ := hd
      have hf := hown.frozenAt k
      have hst := hown.stored k (.int .i64 (zs.getD k 0))
      rw [copy_step zs len k (by omega) hl] at hst
      have HST := Lib.hid hst.1
      have hB := hb.setCell (p := ⟨w.heap.size, k, none⟩) (Nat.le_refl _) (.int .i64 (zs.getD k 0))
      have HB := Lib.hid hB
      have HL := Lib.hid hl
      clear hst hown hr hb hB hl
      go_wp2
      go_roundw
      case rel => exact ⟨k + 1, by omega, by go_num, HST.out, HB.out⟩
      case measure => simp [intOf]; omega
    · have e : k = len := by omega
      rw [e, copy_end zs len hl] at hown
      clear hr hl e
      go_wp2
      go_ret
      exact ⟨rfl, hown, hb⟩
set_option maxRecDepth 100000 in
theorem toIntS_none (a : Option Addr) (cap : Nat) (w : World) :
    Calls Try.prog 16 #[.slice a 0 cap] w fun e w' => e = .returned (.slice (some ⟨w.heap.size, 0, none⟩) 0 0) ∧ w'.ownsRow w.heap.size 3 1 (.slice (some ⟨w.heap.size, 0, none⟩) 0 0) 0 [] ∧ Below w.heap.size w w' := by
  obtain ⟨i0, hi, hz0, hz1, hz2⟩ := info_parts Li.info3
  go_enter Try.func16, Try.ntmps16
  go_wp2_with (first | (at_make; refine wpList_make_full _ rfl _ _ 22 rfl w.heap.size 3 i0 (.int .i64 0) 1 Try.underlying22 hi hz0 hz1 _ _ _ _ 0 rfl rfl rfl rfl (by rw [hz2]; omega) (by unfold maxLen; omega) (Nat.le_refl _) ?_; intro w1 hown hg1))
  refine wp_loop_rounds 1 ?_
  rw [rounds_succ]
  go_wp2
  go_ret
  exact ⟨rfl, by simpa [madeCells] using hown, Li.below_of_grown hg1⟩
/-- a list that came in: empty, or its numbers lie at an address -/
def Came (W : World) (v : Value) (len : Nat) (zs : List Int) : Prop := zs.length = len ∧ len ≤ 1048576 ∧ ((len = 0 ∧ ∃ a cap, v = .slice a 0 cap) ∨ ∃ b off cap, v = .slice (some ⟨b, off, none⟩) len cap ∧ At W b off len zs)
theorem Came.on {W W' : World} {v : Value} {len : Nat} {zs : List Int} (h : Came W v len zs) (hb : Below W.heap.size W W') : Came W' v len zs :=
  ⟨h.1, h.2.1, h.2.2.imp id fun ⟨b, off, cap, e, ha⟩ => ⟨b, off, cap, e, ha.on hb⟩⟩
/-- a copy of it in new memory -/
def Copied (len : Nat) (zs : List Int) (W : World) (e : Ending) (w' : World) : Prop := ∃ g, e = .returned (.slice (some ⟨g, 0, none⟩) len len) ∧ w'.ownsRow W.heap.size 3 1 (.slice (some ⟨g, 0, none⟩) len len) len (Li.nums zs) ∧ Below W.heap.size W w'
theorem toIntS_any {v : Value} {len : Nat} {zs : List Int} {w : World} (h : Came w v len zs) : Calls Try.prog 16 #[v] w (Copied len zs w) := by
  rcases h.2.2 with ⟨rfl, a, cap, rfl⟩ | ⟨b, off, cap, rfl, ha⟩
  · have hz : zs = [] := List.eq_nil_of_length_eq_zero (by have := h.1; omega)
    subst hz
    exact (toIntS_none a cap w).mono fun e w' ⟨he, ho, hb⟩ => ⟨_, he, ho, hb⟩
  · exact (toIntS_some b off len cap zs w ha).mono fun e w' ⟨he, ho, hb⟩ => ⟨_, he, ho, hb⟩
/-- a list as it came in -/
def Raw (W : World) (a : Option Addr) (len : Nat) (zs : List Int) : Prop := zs.length = len ∧ len ≤ maxLen ∧ (len = 0 ∨ ∃ b off, a = some ⟨b, off, none⟩ ∧ b < W.heap.size ∧ ∀ i, i < len → W.cell? ⟨b, off + i, none⟩ = some (.int .i64 (zs.getD i 0)))
theorem Raw.came {W : World} {a : Option Addr} {len cap : Nat} {zs : List Int} (h : Raw W a len zs) (hl : len ≤ 1048576) : Came W (.slice a len cap) len zs := by
  refine ⟨h.1, hl, ?_⟩
  rcases h.2.2 with h0 | ⟨b, off, rfl, hb, hc⟩
  · exact Or.inl ⟨h0, a, cap, by rw [h0]⟩
  · exact Or.inr ⟨b, off, cap, rfl, h.1, hl, hb, hc⟩
theorem rd_open {H : Type} {enc : TypeId × Value → H} {W : World} {fuel : Nat} {a : Option Addr} {len cap : Nat} {x : DataW H × List MemPlace} (h : DataW.trod enc Try.prog W 0 (fun _ => true) true fuel 22 [.slice a len cap] = some x) : ∃ zs, Raw W a len zs := by
  rcases open_ints Try.underlying22 Try.underlying3 (by kernel_rfl) h with ⟨hcs, _⟩ | ⟨b, l, c, zs, hcs, _, hl, hm, hz, _, hcell, _⟩
  · simp at hcs
    obtain ⟨rfl, rfl, rfl⟩ := hcs
    exact ⟨[], by simp, by unfold maxLen; omega, Or.inl rfl⟩
  · simp at hcs
    obtain ⟨rfl, rfl, rfl⟩ := hcs
    simp only [if_true] at hz
    refine ⟨zs.take len, by simp; omega, Nat.le_trans hl hm, ?_⟩
    by_cases h0 : len = 0
    · exact Or.inl h0
    · obtain ⟨bb, off, rfl, hc⟩ := ints_at hcell (by omega)
      refine Or.inr ⟨bb, off, rfl, World.block_lt_of_cell? _ _ (hc 0 (by omega)), fun i hi => ?_⟩
      rw [hc i (by omega)]
      simp [List.getD, List.getElem?_take, hi]
end Il
end Go.Proofs.Ytabnjoohojojnaa
