/- Lists of readers: as rows of their numbers, three a reader; copies of them, and when all of them are readers of a book. -/
import Derived.Test.YthjhnpomnjkclaaRw2
import Derived.OwnWalk
import Derived.Laws.OwnMore
import Derived.Lib.Slices
namespace Go.Proofs.Ythjhnpomnjkclaa
open Go.RowKit Go.Joins
set_option linter.unusedVariables false
set_option linter.unusedSimpArgs false
namespace Rx
def nums (zs : List Int) : List Value := zs.map (Value.int .i64)
theorem infoR : (Try.prog.info? 52).map (fun i => (i.zero, i.size, i.bytes)) = some (some (.agg #[.int .i64 0, .int .i64 0, .int .i64 0]), 3, 24) := by kernel_rfl
theorem below_of_grown {a b : World} (h : a.grownBy b none) : Below a.heap.size a b := ⟨h.os, h.tape, h.output, h.size, fun k hk => h.block k hk (by simp)⟩
/-- len readers at an address: their numbers -/
def At (W : World) (b off len : Nat) (zs : List Int) : Prop := zs.length = 3 * len ∧ len ≤ 1048576 ∧ b < W.heap.size ∧ ∀ i, i < len → W.cell? ⟨b, off + i * 3, none⟩ = some (.int .i64 (zs.getD (i * 3) 0)) ∧ W.cell? ⟨b, off + i * 3 + 1, none⟩ = some (.int .i64 (zs.getD (i * 3 + 1) 0)) ∧ W.cell? ⟨b, off + i * 3 + 2, none⟩ = some (.int .i64 (zs.getD (i * 3 + 2) 0))
theorem At.on {W W' : World} {b off len : Nat} {zs : List Int} (h : At W b off len zs) (hb : Below W.heap.size W W') : At W' b off len zs :=
  ⟨h.1, h.2.1, Nat.lt_of_lt_of_le h.2.2.1 hb.size, fun i hi => ⟨(hb.cell (p := ⟨b, off + i * 3, none⟩) h.2.2.1).trans (h.2.2.2 i hi).1, (hb.cell (p := ⟨b, off + i * 3 + 1, none⟩) h.2.2.1).trans (h.2.2.2 i hi).2.1, (hb.cell (p := ⟨b, off + i * 3 + 2, none⟩) h.2.2.1).trans (h.2.2.2 i hi).2.2⟩⟩
theorem own_on {w w' : World} {base : Nat} {e : TypeId} {size : Nat} {v : Value} {n : Nat} {xs : List Value} (h : w.ownsRow base e size v n xs) (hb : Below w.heap.size w w') : w'.ownsRow base e size v n xs :=
  h.kept (show w.grownBy w' none from ⟨hb.os, hb.tape, hb.output, hb.size, fun k hk _ => hb.block k hk⟩) (by cases hv : v.ownBlock <;> simp)
theorem _root_.Go.World.ownsRow.some_at {w : World} {base g n cap size : Nat} {e : TypeId} {xs : List Value} (h : w.ownsRow base e size (.slice (some ⟨g, 0, none⟩) n cap) n xs) {j : Nat} (hj : j < n * size) : ∃ v, w.cell? ⟨g, j, none⟩ = some v := by
  exact ⟨xs[j]'(by rw [h.1]; exact hj), by rw [h.cellAt j hj]; exact List.getElem?_eq_getElem _⟩
/-- a made list of readers, the first k of them written -/
def copyOf (zs : List Int) (len k : Nat) : List Value := nums (zs.take (k * 3)) ++ List.replicate ((len - k) * 3) (.int .i64 0)
theorem copy_start (zs : List Int) (len : Nat) : copyOf zs len 0 = List.replicate (len * 3) (.int .i64 0) := by simp [copyOf, nums]
theorem set3 (A R : List Value) (n : Nat) (hA : A.length = n) (a b c x y z : Value) : (((A ++ a :: b :: c :: R).set n x).set (n + 1) y).set (n + 2) z = A ++ x :: y :: z :: R := by
  subst hA
  simp [List.set_append]
theorem take1 (zs : List Int) (n : Nat) (h : n < zs.length) : zs.take (n + 1) = zs.take n ++ [zs.getD n 0] := by
  rw [List.take_add_one, List.getElem?_eq_getElem h]
  simp [List.getD, List.getElem?_eq_getElem h]
theorem take3 (zs : List Int) (k : Nat) (h : k * 3 + 2 < zs.length) : zs.take ((k + 1) * 3) = zs.take (k * 3) ++ [zs.getD (k * 3) 0, zs.getD (k * 3 + 1) 0, zs.getD (k * 3 + 2) 0] := by
  rw [show (k + 1) * 3 = k * 3 + 1 + 1 + 1 by omega, take1 zs (k * 3 + 1 + 1) (by omega), take1 zs (k * 3 + 1) (by omega), take1 zs (k * 3) (by omega), List.append_assoc, List.append_assoc]
  rfl
theorem copy_step (zs : List Int) (len k : Nat) (hk : k < len) (hl : zs.length = 3 * len) :
    (((copyOf zs len k).set (k * 3) (.int .i64 (zs.getD (k * 3) 0))).set (k * 3 + 1) (.int .i64 (zs.getD (k * 3 + 1) 0))).set (k * 3 + 2) (.int .i64 (zs.getD (k * 3 + 2) 0)) = copyOf zs len (k + 1) := by
  unfold copyOf
  rw [take3 zs k (by omega), show (len - k) * 3 = (len - (k + 1)) * 3 + 1 + 1 + 1 by omega, List.replicate_succ, List.replicate_succ, List.replicate_succ]
  rw [set3 _ _ _ (by simp [nums]; omega)]
  simp [nums]
theorem copy_end (zs : List Int) (n : Nat) (hn : zs.length = 3 * n) : copyOf zs n n = nums zs := by
  unfold copyOf
  rw [List.take_of_length_le (by omega)]
  simp
theorem made3 (n : Nat) : (madeCells (Value.agg #[.int .i64 0, .int .i64 0, .int .i64 0]).cells (n * 3)).toList = List.replicate (n * 3) (.int .i64 0) := by
  apply List.ext_getElem?
  intro j
  by_cases hj : j < n * 3
  · have h3 : j % 3 = 0 ∨ j % 3 = 1 ∨ j % 3 = 2 := by omega
    rcases h3 with h | h | h <;> simp [madeCells, hj, Value.cells, h]
  · simp [madeCells, hj]
set_option maxRecDepth 100000 in
set_option maxHeartbeats 1000000 in
theorem toReaderS_some (b off len cap : Nat) (zs : List Int) (w : World) (h : At w b off len zs) :
    Calls Try.prog 10 #[.slice (some ⟨b, off, none⟩) len cap] w fun e w' => e = .returned (.slice (some ⟨w.heap.size, 0, none⟩) len len) ∧ w'.ownsRow w.heap.size 52 3 (.slice (some ⟨w.heap.size, 0, none⟩) len len) len (nums zs) ∧ Below w.heap.size w w' := by
  obtain ⟨i0, hi, hz0, hz1, hz2⟩ := info_parts infoR
  have HC := Lib.hid h
  have hm := h.2.1
  clear h
  go_enter Try.func10, Try.ntmps10
  go_wp2_with (first | (at_make; refine wpList_make_full _ rfl _ _ 27 rfl w.heap.size 52 i0 (.agg #[.int .i64 0, .int .i64 0, .int .i64 0]) 3 Try.underlying27 hi hz0 hz1 _ _ _ _ len rfl rfl rfl rfl (by rw [hz2]; omega) (by unfold maxLen; omega) (Nat.le_refl _) ?_; intro w1 hown hg1))
  have h0 : w1.ownsRow w.heap.size 52 3 (.slice (some ⟨w.heap.size, 0, none⟩) len len) len (copyOf zs len 0) := by
    rw [copy_start, ← made3]; exact hown
  have hb0 := below_of_grown hg1
  clear hown hg1
  go_loopw [4] (fun i wr => ∃ k : Nat, k ≤ len ∧ i = .int .i64 (k : Int) ∧ wr.ownsRow w.heap.size 52 3 (.slice (some ⟨w.heap.size, 0, none⟩) len len) len (copyOf zs len k) ∧ Below w.heap.size w wr) (fun i _ => ((len : Int) - intOf i).toNat)
  case atStart => exact ⟨0, by omega, rfl, h0, hb0⟩
  case round =>
    obtain ⟨k, hk, rfl, hown, hb⟩ := hrel
    have hr := HC.out.on hb
    have hl := hr.1
    by_cases hlt : (k : Int) < len
    · obtain ⟨q0, q1, q2⟩ := hr.2.2.2 k (by omega)
      have ES := Lib.hid (copy_step zs len k (by omega) hl)
      generalize zs.getD (k * 3) 0 = m at *
      generalize zs.getD (k * 3 + 1) 0 = d at *
      generalize zs.getD (k * 3 + 2) 0 = r at *
      go_wp2_with fail
      refine (Rw.toReader_any _ _ _ _).mono ?_
      rintro e w2 ⟨rfl, hb2⟩
      have hown2 := own_on hown hb2
      have hB := hb.trans (below_le hb2 hb.size)
      clear hown hb hb2 q0 q1 q2 hr
      obtain ⟨v0, d0⟩ := hown2.some_at (j := k * 3) (by omega)
      obtain ⟨v1, d1⟩ := hown2.some_at (j := k * 3 + 1) (by omega)
      obtain ⟨v2, d2⟩ := hown2.some_at (j := k * 3 + 2) (by omega)
      have f0 := hown2.frozenAt (k * 3)
      have f1 := hown2.frozenAt (k * 3 + 1)
      have f2 := hown2.frozenAt (k * 3 + 2)
      obtain ⟨s0, g0⟩ := hown2.stored (k * 3) (.int .i64 m)
      obtain ⟨s1, g1⟩ := s0.stored (k * 3 + 1) (.int .i64 d)
      obtain ⟨s2, g2⟩ := s1.stored (k * 3 + 2) (.int .i64 r)
      rw [ES.out] at s2
      have HO := Lib.hid s2
      have HB := Lib.hid (((hB.setCell (p := ⟨w.heap.size, k * 3, none⟩) (Nat.le_refl _) (.int .i64 m)).setCell (p := ⟨w.heap.size, k * 3 + 1, none⟩) (Nat.le_refl _) (.int .i64 d)).setCell (p := ⟨w.heap.size, k * 3 + 2, none⟩) (Nat.le_refl _) (.int .i64 r))
      clear hown2 hB s0 s1 s2 g0 g1 g2 ES
      go_wp2
      go_roundw
      case rel => exact ⟨k + 1, by omega, by go_num, HO.out, HB.out⟩
      case measure => simp [intOf]; omega
    · have e : k = len := by omega
      have O := Lib.hid (show wr.ownsRow w.heap.size 52 3 (.slice (some ⟨w.heap.size, 0, none⟩) len len) len (nums zs) by rw [← copy_end zs len hl]; rw [e] at hown; exact hown)
      clear hown e
      go_wp2
      go_ret
      exact ⟨rfl, O.out, hb⟩
set_option maxRecDepth 100000 in
theorem toReaderS_none (a : Option Addr) (cap : Nat) (w : World) :
    Calls Try.prog 10 #[.slice a 0 cap] w fun e w' => e = .returned (.slice (some ⟨w.heap.size, 0, none⟩) 0 0) ∧ w'.ownsRow w.heap.size 52 3 (.slice (some ⟨w.heap.size, 0, none⟩) 0 0) 0 [] ∧ Below w.heap.size w w' := by
  obtain ⟨i0, hi, hz0, hz1, hz2⟩ := info_parts infoR
  go_enter Try.func10, Try.ntmps10
  go_wp2_with (first | (at_make; refine wpList_make_full _ rfl _ _ 27 rfl w.heap.size 52 i0 (.agg #[.int .i64 0, .int .i64 0, .int .i64 0]) 3 Try.underlying27 hi hz0 hz1 _ _ _ _ 0 rfl rfl rfl rfl (by rw [hz2]; omega) (by unfold maxLen; omega) (Nat.le_refl _) ?_; intro w1 hown hg1))
  have h0 : w1.ownsRow w.heap.size 52 3 (.slice (some ⟨w.heap.size, 0, none⟩) 0 0) 0 [] := by
    have e := made3 0
    rw [e] at hown
    exact hown
  have HO := Lib.hid h0
  have HB := Lib.hid (below_of_grown hg1)
  clear hown hg1 h0
  refine wp_loop_rounds 1 ?_
  rw [rounds_succ]
  go_wp2
  go_ret
  exact ⟨rfl, HO.out, HB.out⟩
/-- a list of readers that came in: nil, or its numbers lie at an address -/
def Came (W : World) (v : Value) (len : Nat) (zs : List Int) : Prop := zs.length = 3 * len ∧ len ≤ 1048576 ∧ ((len = 0 ∧ ∃ a cap, v = .slice a 0 cap) ∨ ∃ b off cap, v = .slice (some ⟨b, off, none⟩) len cap ∧ At W b off len zs)
theorem Came.on {W W' : World} {v : Value} {len : Nat} {zs : List Int} (h : Came W v len zs) (hb : Below W.heap.size W W') : Came W' v len zs :=
  ⟨h.1, h.2.1, h.2.2.imp id fun ⟨b, off, cap, e, ha⟩ => ⟨b, off, cap, e, ha.on hb⟩⟩
/-- a copy of it in new memory -/
def Copied (len : Nat) (zs : List Int) (W : World) (e : Ending) (w' : World) : Prop := ∃ g, e = .returned (.slice (some ⟨g, 0, none⟩) len len) ∧ w'.ownsRow W.heap.size 52 3 (.slice (some ⟨g, 0, none⟩) len len) len (nums zs) ∧ Below W.heap.size W w'
theorem toReaderS_any {v : Value} {len : Nat} {zs : List Int} {w : World} (h : Came w v len zs) : Calls Try.prog 10 #[v] w (Copied len zs w) := by
  rcases h.2.2 with ⟨rfl, a, cap, rfl⟩ | ⟨b, off, cap, rfl, ha⟩
  · have hz : zs = [] := List.eq_nil_of_length_eq_zero (by have := h.1; omega)
    subst hz
    exact (toReaderS_none a cap w).mono fun e w' ⟨he, ho, hb⟩ => ⟨_, he, ho, hb⟩
  · exact (toReaderS_some b off len cap zs w ha).mono fun e w' ⟨he, ho, hb⟩ => ⟨_, he, ho, hb⟩
theorem cells3 {w : World} {base g n cap : Nat} {e : TypeId} {zs : List Int} (h : w.ownsRow base e 3 (.slice (some ⟨g, 0, none⟩) n cap) n (nums zs)) {k : Nat} (hk : k < n) :
    w.cell? ⟨g, k * 3, none⟩ = some (.int .i64 (zs.getD (k * 3) 0)) ∧ w.cell? ⟨g, k * 3 + 1, none⟩ = some (.int .i64 (zs.getD (k * 3 + 1) 0)) ∧ w.cell? ⟨g, k * 3 + 2, none⟩ = some (.int .i64 (zs.getD (k * 3 + 2) 0)) := by
  have hl : zs.length = n * 3 := by have := h.1; simpa [nums] using this
  have key : ∀ j, j < n * 3 → w.cell? ⟨g, j, none⟩ = some (.int .i64 (zs.getD j 0)) := fun j hj => by
    rw [h.cellAt j hj]
    simp [nums, List.getD, List.getElem?_eq_getElem (show j < zs.length by omega)]
  exact ⟨key _ (by omega), key _ (by omega), key _ (by omega)⟩
theorem eqReader_same (m d r : Int) (w : World) : Calls Try.prog 41 #[.agg #[.int .i64 m, .int .i64 d, .int .i64 r], .agg #[.int .i64 m, .int .i64 d, .int .i64 r]] w (Rw.Ret (.bool true) w) := by
  go_enter Try.func41, Try.ntmps41
  go_wp2
  go_ret
  exact Rw.ret2 _ _ _ _
end Rx
end Go.Proofs.Ythjhnpomnjkclaa
