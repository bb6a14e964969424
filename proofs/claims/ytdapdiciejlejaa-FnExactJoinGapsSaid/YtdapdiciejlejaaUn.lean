/- Two lists of ranges one behind the other, by the library; the union, by the program. -/
import Derived.Test.YtdapdiciejlejaaCw
import Derived.Lib.Walk
import Derived.Lib.SliceRun
import Derived.Lib.AppendZerosOnto
namespace Go.Proofs.Ytdapdiciejlejaa
open Go.RowKit Go.Joins Go.Deep Go.ChangeShapes Go.WideShapes
set_option linter.unusedVariables false
set_option linter.unusedSimpArgs false
namespace Gw
open Rg Gm
/-- an empty list with room is returned, or none -/
def GrowR (W : World) (e : Ending) (w' : World) : Prop := ∃ v, e = .returned v ∧ Own w' W.heap.size v 0 [] ∧ Below W.heap.size W w'
set_option maxRecDepth 100000 in
set_option maxHeartbeats 4000000 in
theorem grow_any (n : Nat) (hn : n ≤ 100) (w : World) : Calls Try.prog 57 #[.slice none 0 0, .int .i64 (n : Int)] w (GrowR w) := by
  obtain ⟨i0, hi, hz0, hz1, hz2⟩ := info_parts infoG
  by_cases h0 : n = 0
  · subst h0
    go_enter Try.func57, Try.ntmps57
    go_wp2
    go_ret
    exact ⟨_, rfl, World.ownsRow_nil _ _ _ _, Below.refl _ _⟩
  · have h1 : decide ((n : Int) < 0) = false := by simp
    have h3 : wrap64 ((n : Int) - 0) = (n : Int) := by rw [Int.sub_zero]; exact IntWalk.wrap64_in _ (by omega)
    have h3' : wrap64 (n : Int) = (n : Int) := IntWalk.wrap64_in _ (by omega)
    have h4 : decide ((0 : Int) < (n : Int)) = true := by simp; omega
    have hold : (Builtin.firstCells i0.size 0 (.slice none 0 0)).run Try.prog w.drew = .ok ([] : List Value).toArray w.drew := run_firstCells_none w.drew i0.size 0 0 0
    have hrz : ∀ ty, (Builtin.append_ #[24, 3] ty #[.slice none 0 0, .int .i64 (n : Int)]).run Try.prog w = .ok (.slice (some ⟨w.heap.size, 0, none⟩) n (grownCap w n 0 44)) (w.drew.alloc (.cells (([] : List Value).toArray ++ Builtin.zeroCells (Value.agg #[.int .i64 0, .int .i64 0]).cells n ++ Builtin.zeroCells (Value.agg #[.int .i64 0, .int .i64 0]).cells (grownCap w n 0 44 - n)) 44)) := fun ty => by
      have h := Lib.run_append_grow_zeros w 24 3 ty 44 i0 _ .i64 .i64 Try.underlying24 Try.underlying3 hi hz0 none 0 0 [] hold n (by omega) (by omega) (by omega) (by omega) (by rw [hz2]; omega) (growslice_fits (by omega) (by rw [hz2]; omega))
      rw [Nat.zero_add] at h
      exact h
    have hGn : n ≤ grownCap w n 0 44 := grownCap_ge w _ _ _
    have hGm : grownCap w n 0 44 ≤ maxLen := grownCap_le_maxLen w n 0 44 (by unfold maxLen; omega)
    obtain ⟨G, hG⟩ : ∃ G, G = grownCap w n 0 44 := ⟨_, rfl⟩
    rw [← hG] at hrz hGn hGm
    obtain ⟨C, hC⟩ : ∃ C, C = (([] : List Value).toArray ++ Builtin.zeroCells (Value.agg #[.int .i64 0, .int .i64 0]).cells n ++ Builtin.zeroCells (Value.agg #[.int .i64 0, .int .i64 0]).cells (G - n)) := ⟨_, rfl⟩
    have hCs : C.size = G * 2 := by
      rw [hC, Array.size_append, Array.size_append, size_zeroCells, size_zeroCells]
      show 0 + n * 2 + (G - n) * 2 = G * 2
      omega
    rw [← hC] at hrz
    have HOWN := Lib.hid (show Own (w.alloc (.cells C 44)).drew w.heap.size (.slice (some ⟨w.heap.size, 0, none⟩) 0 G) 0 [] from
      ⟨rfl, _root_.Or.inr ⟨w.heap.size, G, C, rfl, Nat.le_refl _, heap_alloc_new w _, Nat.zero_le _, hGm, hCs, rfl⟩⟩)
    have HB := Lib.hid (show Below w.heap.size w (w.alloc (.cells C 44)).drew from (below_alloc1 w (.cells C 44)).drew)
    clear hC hCs
    have hG2 : G ≤ 9223372036854775807 := by unfold maxLen at hGm; omega
    clear hold hG hi hz0 hz1 hz2
    go_enter Try.func57, Try.ntmps57
    go_wp2_with (at_builtin; refine Lib.wpList_append_run _ rfl _ _ _ _ rfl _ _ rfl rfl _ _ (hrz _) ?_)
    all_goals (
      go_ret
      exact ⟨_, rfl, HOWN.out, HB.out⟩)
theorem nums_one (zs : List Int) : ∀ u ∈ Li.nums zs, u.oneCell' = true := fun u hu => by
  unfold Li.nums at hu
  rw [List.mem_map] at hu
  obtain ⟨z, _, rfl⟩ := hu
  rfl
theorem nums_cells {W : World} {b1 g len cap : Nat} {zs : List Int} (h : Own W b1 (.slice (some ⟨g, 0, none⟩) len cap) len zs) : ∀ j u, (Li.nums zs)[j]? = some u → W.cell? ((⟨g, 0, none⟩ : Addr).add j) = some u := by
  intro j u hu
  have hl := own_size h
  have hj : j < zs.length := by
    rcases Nat.lt_or_ge j zs.length with h1 | h1
    · exact h1
    · rw [List.getElem?_eq_none (by simp [Li.nums]; omega)] at hu; cases hu
  have hc := cell_at h (j := j) (by omega)
  have e : u = .int .i64 (zs.getD j 0) := by
    have h1 : (Li.nums zs)[j]? = some (.int .i64 (zs.getD j 0)) := by simp [Li.nums, List.getD, List.getElem?_eq_getElem hj]
    rw [h1] at hu
    injection hu with hu
    exact hu.symm
  rw [e, ← hc]
  by_cases e0 : j = 0
  · subst e0; simp [Addr.add]
  · simp [Addr.add, e0]
theorem own_app {W : World} {base k m : Nat} {v : Value} {ys zs : List Int} {T : TypeId} (h : W.ownsRow base T 2 v (k + m) (Li.nums ys ++ Li.nums zs)) : W.ownsRow base T 2 v (k + m) (Li.nums (ys ++ zs)) := by
  rw [show Li.nums (ys ++ zs) = Li.nums ys ++ Li.nums zs by simp [Li.nums]]
  exact h
def ConR (n : Nat) (zs : List Int) (W : World) (e : Ending) (w' : World) : Prop := ∃ v, e = .returned v ∧ Own w' W.heap.size v n zs ∧ Below W.heap.size W w'
set_option maxRecDepth 100000 in
set_option maxHeartbeats 4000000 in
theorem concat_any {b0 b1 g0 g1 len0 cap0 len1 cap1 bb : Nat} {z0 z1 : List Int} {w : World} (h0 : Own w b0 (.slice (some ⟨g0, 0, none⟩) len0 cap0) len0 z0) (h1 : Own w b1 (.slice (some ⟨g1, 0, none⟩) len1 cap1) len1 z1) (hl0 : len0 ≤ 20) (hl1 : len1 ≤ 20)
    (c0 : w.cell? ⟨bb, 0, none⟩ = some (.slice (some ⟨g0, 0, none⟩) len0 cap0)) (c1 : w.cell? ⟨bb, 1, none⟩ = some (.slice (some ⟨g1, 0, none⟩) len1 cap1)) :
    Calls Try.prog 45 #[.slice (some ⟨bb, 0, none⟩) 2 2] w (ConR (len0 + len1) (z0 ++ z1) w) := by
  obtain ⟨i0, hi, hz0, hz1, hz2⟩ := info_parts infoG
  have HO0 := Lib.hid h0
  have HO1 := Lib.hid h1
  have HC0 := Lib.hid c0
  have HC1 := Lib.hid c1
  have G := Lib.hid (fun W => (Int.natCast_add len0 len1 ▸ grow_any (len0 + len1) (by omega) W : Calls Try.prog 57 #[.slice none 0 0, .int .i64 ((len0 : Int) + (len1 : Int))] W (GrowR W)))
  clear h0 h1 c0 c1
  go_enter Try.func45, Try.ntmps45
  go_wp2
  go_loop [3, 11] (fun s i => ∃ k : Nat, i = .int .i64 (k : Int) ∧ ((k = 0 ∧ s = .int .i64 0) ∨ (k = 1 ∧ s = .int .i64 (len0 : Int)) ∨ (k = 2 ∧ s = .int .i64 ((len0 : Int) + (len1 : Int))))) (fun _ i => ((2 : Int) - intOf i).toNat)
  case atStart => exact ⟨0, rfl, _root_.Or.inl ⟨rfl, rfl⟩⟩
  case round =>
    obtain ⟨k, rfl, hk⟩ := hrel
    rcases hk with ⟨rfl, rfl⟩ | ⟨rfl, rfl⟩ | ⟨rfl, rfl⟩
    · have c0 := HC0.out
      go_wp2
      go_round
      case rel => exact ⟨1, by go_num, _root_.Or.inr (_root_.Or.inl ⟨rfl, rfl⟩)⟩
      case measure => simp [intOf]
    · have c1 := HC1.out
      go_wp2
      go_round
      case rel => exact ⟨2, by go_num, _root_.Or.inr (_root_.Or.inr ⟨rfl, rfl⟩)⟩
      case measure => simp [intOf]
    · go_wp2_with fail
      refine (G.out _).mono ?_
      rintro e w1 ⟨v1, rfl, ho1, hb1⟩
      have HG := Lib.hid ho1
      have HB := Lib.hid hb1
      clear ho1 hb1
      go_wp2
      go_loopw [6, 27] (fun v i wr => ∃ (k : Nat) (vv : Value), vv = v ∧ i = .int .i64 (k : Int) ∧ ((k = 0 ∧ Own wr w.heap.size vv 0 []) ∨ (k = 1 ∧ Own wr w.heap.size vv (0 + len0) ([] ++ z0)) ∨ (k = 2 ∧ Own wr w.heap.size vv (0 + len0 + len1) (([] ++ z0) ++ z1))) ∧ Below w.heap.size w wr) (fun _ i _ => ((2 : Int) - intOf i).toNat)
      case atStart => exact ⟨0, _, rfl, rfl, _root_.Or.inl ⟨rfl, HG.out⟩, HB.out⟩
      case round =>
        obtain ⟨k, vv, rfl, rfl, hk, hb⟩ := hrel
        clear HG HB
        have hs := hb.size
        rcases hk with ⟨rfl, ho⟩ | ⟨rfl, ho⟩ | ⟨rfl, ho⟩
        · have c0 := (hb.cell (p := ⟨bb, 0, none⟩) (lt_of_cell HC0.out)).trans HC0.out
          have hsrc := Lib.hid (Li.own_on HO0.out hb)
          have HLT := Lib.hid (fun k hk => (ho.lt k hk).1)
          have HOW := Lib.hid ho
          have HBb := Lib.hid hb
          clear ho hb
          go_wp2_with (first | (at_builtin; refine wpList_append_own _ rfl _ _ 24 rfl w.heap.size 44 i0 (.agg #[.int .i64 0, .int .i64 0]) 2 16 Try.underlying24 hi hz0 hz1 hz2 rfl (by decide) vv 0 (Li.nums []) rfl HOW.out ⟨g0, 0, none⟩ len0 cap0 (Li.nums z0) rfl (by have := own_size hsrc.out; simp [Li.nums]; omega) (nums_cells hsrc.out) (nums_one z0) (by unfold maxLen; omega) (by omega) hs ?_; intro v' w' ho' hg' hn'))
          have HO2 := Lib.hid (own_app ho')
          have HB2 := Lib.hid (HBb.out.grown hg' HBb.out.size (fun j hj => HLT.out j hj))
          clear ho' hg' hn'
          go_roundw
          case rel => exact ⟨1, _, rfl, by go_num, _root_.Or.inr (_root_.Or.inl ⟨rfl, HO2.out⟩), HB2.out⟩
          case measure => simp [intOf]
        · have c1 := (hb.cell (p := ⟨bb, 1, none⟩) (lt_of_cell HC1.out)).trans HC1.out
          have hsrc := Lib.hid (Li.own_on HO1.out hb)
          have HLT := Lib.hid (fun k hk => (ho.lt k hk).1)
          have HOW := Lib.hid ho
          have HBb := Lib.hid hb
          clear ho hb
          go_wp2_with (first | (at_builtin; refine wpList_append_own _ rfl _ _ 24 rfl w.heap.size 44 i0 (.agg #[.int .i64 0, .int .i64 0]) 2 16 Try.underlying24 hi hz0 hz1 hz2 rfl (by decide) vv (0 + len0) (Li.nums ([] ++ z0)) rfl HOW.out ⟨g1, 0, none⟩ len1 cap1 (Li.nums z1) rfl (by have := own_size hsrc.out; simp [Li.nums]; omega) (nums_cells hsrc.out) (nums_one z1) (by unfold maxLen; omega) (by omega) hs ?_; intro v' w' ho' hg' hn'))
          have HO2 := Lib.hid (own_app ho')
          have HB2 := Lib.hid (HBb.out.grown hg' HBb.out.size (fun j hj => HLT.out j hj))
          clear ho' hg' hn'
          go_roundw
          case rel => exact ⟨2, _, rfl, by go_num, _root_.Or.inr (_root_.Or.inr ⟨rfl, HO2.out⟩), HB2.out⟩
          case measure => simp [intOf]
        · rw [List.nil_append, Nat.zero_add] at ho
          have HOW := Lib.hid ho
          clear ho
          go_wp2
          go_ret
          exact ⟨_, rfl, HOW.out, hb⟩
end Gw
end Go.Proofs.Ytdapdiciejlejaa
