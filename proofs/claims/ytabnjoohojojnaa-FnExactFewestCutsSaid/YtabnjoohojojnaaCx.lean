/- The fewest leaves that are cut out: the program. -/
import Derived.Test.YtabnjoohojojnaaCw
import Derived.Test.YtabnjoohojojnaaCa
import Derived.Maps.AppendAt
import Derived.Deep.RegionLaw
namespace Go.Proofs.Ytabnjoohojojnaa
open Go.RowKit Go.Joins Go.Deep Go.ChangeShapes Go.WideShapes
set_option linter.unusedVariables false
set_option linter.unusedSimpArgs false
namespace Rz
open Ln
theorem po_take {zs : List Int} {k : Nat} (h : k < zs.length) : po (zs.take (k + 1)) = if 0 < at' zs k then po (zs.take k) ++ [at' zs k] else po (zs.take k) := by
  rw [take_snoc h]
  unfold po
  rw [List.filter_append]
  by_cases c : 0 < at' zs k
  · rw [if_pos c]; simp [c]
  · rw [if_neg c]; simp [c]
theorem po_len (zs : List Int) (k : Nat) : (po (zs.take k)).length ≤ k :=
  Nat.le_trans (List.length_filter_le _ _) (List.length_take_le _ _)
theorem own_lit (w : World) (x : Int) : Ow (w.alloc (.cells #[.int .i64 x] 3)) w.heap.size w.heap.size 1 1 [x] := by
  refine ⟨rfl, _root_.Or.inr ⟨w.heap.size, 1, #[.int .i64 x], rfl, Nat.le_refl _, ?_, Nat.le_refl _, by unfold maxLen; omega, rfl, rfl⟩⟩
  show (w.heap.push _)[w.heap.size]? = _
  simp
theorem at_block {g cp n : Nat} {v : Value} {W : World} {base : Nat} {e : TypeId} {xs : List Value} (h : W.ownsRow base e 1 v (n + 1) xs) {B S : Nat} (ha : v.ownBlock = some g ∨ v.ownBlock = some S) (hg : g ≠ B) (hS : S ≠ B) : ∃ g' cp', v = .slice (some ⟨g', 0, none⟩) (n + 1) cp' ∧ g' ≠ B := by
  obtain ⟨g', cp', rfl⟩ := own_pos h (by omega)
  refine ⟨g', cp', rfl, ?_⟩
  rcases ha with h1 | h1
  · have e1 : g' = g := by simpa [Value.ownBlock] using h1
    omega
  · have e1 : g' = S := by simpa [Value.ownBlock] using h1
    omega
theorem e13_of {k e : Nat} {x R : Int} (h1 : x = (e : Int) + 1) (h2 : e ≤ k) (h3 : k ≤ 8) (h4 : (k : Int) - (e : Int) = R) : IntKind.i64.wrap ((k : Int) + 1 - x) = R := by
  rw [IntKind.wrap_i64]; omega
set_option maxRecDepth 100000 in
set_option maxHeartbeats 4000000 in
theorem cuts_any (n : Nat) (zs : List Int) (hl : zs.length = n) (hn : n ≤ 8) (hz8 : ∀ k, k < n → -8 ≤ zs.getD k 0 ∧ zs.getD k 0 ≤ 8 ∧ zs.getD k 0 ≠ 0) (w : World) :
    Calls Try.prog 62 #[.agg (bkA n zs)] w (Ret (.int .i64 ((n : Int) - (eb zs n 100 : Int))) w) := by
  obtain ⟨i0, hi, hz0, hz1, hz2⟩ := info_parts Li.info3
  have HL := Lib.hid hl
  have HK := Lib.hid hz8
  have HT := Lib.hid (show zs.take n = zs from List.take_of_length_le (by omega))
  have HM := Lib.hid (show ∀ z ∈ zs, z < 100 from fun z hz => by
    obtain ⟨k, hk, rfl⟩ := List.getElem_of_mem hz
    have := (hz8 k (by omega)).2.1
    rw [List.getD_eq_getElem?_getD, List.getElem?_eq_getElem hk] at this
    simp at this
    omega)
  have HE := Lib.hid (eb_le zs n 100)
  obtain ⟨R, hR⟩ : ∃ R, (n : Int) - (eb zs n 100 : Int) = R := ⟨_, rfl⟩
  have HR := Lib.hid hR
  rw [hR]
  clear hl hz8 hR
  go_enter Try.func62, Try.ntmps62
  go_wp2_with (first | (with_reducible refine wpList_load17 rfl (.tmp 1) rfl w.heap.size rfl ((Arr.new _ _ _).on (below_alloc1 _ _)) ?_))
  refine (leaves_any n hn zs _).mono ?_
  rintro e w' ⟨rfl, rfl⟩
  go_wp2
  go_loopw [3, 10] (fun v i wr => ∃ (k m g cp : Nat), v = .slice (some ⟨g, 0, none⟩) (m + 1) cp ∧ k ≤ n ∧ i = .int .i64 (k : Int) ∧ m ≤ k ∧ g ≠ w.heap.size + 2 ∧ Hid (wr.ownsRow (w.heap.size + 1) 3 1 (.slice (some ⟨g, 0, none⟩) (m + 1) cp) (m + 1) (Li.nums (0 :: po (zs.take k)))) ∧ Hid (Arr wr (w.heap.size + 2) 54 (bkA n zs)) ∧ Hid (Arr wr w.heap.size 54 (bkA n zs)) ∧ Hid (Below w.heap.size w wr)) (fun _ i _ => ((n : Int) - intOf i).toNat)
  case atStart => exact ⟨0, 0, w.heap.size + 1, 1, by first | rfl | (simp; done), by omega, rfl, by omega, by omega, Lib.hid (by have h := (own_lit (w.alloc (.cells (bkA n zs) 54)) 0).alloc (.cells (bkA n zs) 54); simpa [po] using h), Lib.hid (arr_new _ _ _ (by simp)), Lib.hid (((Arr.new _ _ _).on (below_alloc1 _ _)).on (below_alloc1 _ _)), Lib.hid (((below_alloc1 _ _).alloc (by simp) _).alloc (by simp; omega) _)⟩
  case round =>
    obtain ⟨k, m, g, cp, rfl, hk, rfl, hm, hg, HO, HA, HA0, HB⟩ := hrel
    have hsw := HB.out.size
    have hsA := HA.out.lt
    by_cases hlt : (k : Int) < n
    · obtain ⟨q0, q1⟩ := lf_cells HA.out (k := k) (by omega)
      have hzb := HK.out k (by omega)
      have HP := Lib.hid (po_take (zs := zs) (k := k) (by rw [HL.out]; omega))
      obtain ⟨z, hz⟩ : ∃ z, zs.getD k 0 = z := ⟨_, rfl⟩
      rw [show at' zs k = z from hz] at HP
      rw [hz] at q0 q1 hzb
      have z1 := hzb.1
      have z2 := hzb.2.1
      have z3 := hzb.2.2
      clear hz hzb
      have HA2 := Lib.hid (fun x => HA.out.on (below_alloc1 wr x))
      have HA02 := Lib.hid (fun x => HA0.out.on (below_alloc1 wr x))
      have HB2 := Lib.hid (fun x => HB.out.alloc HB.out.size x)
      have HO2 := Lib.hid (fun x => HO.out.alloc x)
      by_cases c : z < 0
      · have HN := Lib.hid (show po (zs.take (k + 1)) = po (zs.take k) by rw [HP.out, if_neg (by omega)])
        rw [show decide (z < 0) = true by simpa using c] at q1
        obtain ⟨a, ha⟩ : ∃ a, ab z = a := ⟨_, rfl⟩
        rw [ha] at q0
        clear ha
        go_wp2
        go_roundw
        case rel => exact ⟨k + 1, m, g, cp, rfl, by omega, by go_num, by omega, hg, Lib.hid (by rw [HN.out]; exact HO2.out _), Lib.hid (HA2.out _), Lib.hid (HA02.out _), Lib.hid (HB2.out _)⟩
        case measure => simp [intOf]; omega
      · have HN := Lib.hid (show po (zs.take (k + 1)) = po (zs.take k) ++ [z] by rw [HP.out, if_pos (by omega)])
        rw [show decide (z < 0) = false by simpa using c] at q1
        rw [ab_pos c] at q0
        have HB3 := Lib.hid ((HB2.out (.cells #[.int .i64 z, .bool false] 50)).alloc (HB2.out _).size (.cells #[.int .i64 z] 3))
        have HOw := Lib.hid ((HO2.out (.cells #[.int .i64 z, .bool false] 50)).alloc (.cells #[.int .i64 z] 3))
        have HA3 := Lib.hid ((HA2.out (.cells #[.int .i64 z, .bool false] 50)).on (below_alloc1 _ (.cells #[.int .i64 z] 3)))
        have HA03 := Lib.hid ((HA02.out (.cells #[.int .i64 z, .bool false] 50)).on (below_alloc1 _ (.cells #[.int .i64 z] 3)))
        have HLT := Lib.hid (HO.out.lt g rfl).1
        go_wp2_with (first | (at_builtin; refine wpList_append_own_at _ rfl _ _ 22 rfl (w.heap.size + 1) 3 i0 (.int .i64 0) 1 8 Try.underlying22 hi hz0 hz1 hz2 rfl (by decide) (.slice (some ⟨g, 0, none⟩) (m + 1) cp) (m + 1) _ rfl HOw.out ⟨_, 0, none⟩ 1 1 [.int .i64 z] rfl rfl (cell_one_b _ _ _ _ (by simp)) (fun x hx => by simp at hx; subst hx; rfl) (by unfold maxLen; omega) (by omega) (by simp; omega) ?_; intro v3 w3 hown3 hgrow3 _ hat3; obtain ⟨g4, cp4, rfl, hg4⟩ := at_block (g := g) (cp := cp) (B := w.heap.size + 2) (S := ((wr.alloc (.cells #[.int .i64 z, .bool false] 50)).alloc (.cells #[.int .i64 z] 3)).heap.size) hown3 hat3 hg (by simp; omega)))
        have HGJ := Lib.hid (show ∀ j, (Value.slice (some ⟨g, 0, none⟩) (m + 1) cp).ownBlock = some j → g = j from fun j hj => Option.some.inj hj)
        have HB4 := Lib.hid (Below.grown HB3.out hgrow3 (by simp; omega) (fun j hj => by have e := HGJ.out j hj; have := HLT.out; omega))
        have HO3 := Lib.hid (show w3.ownsRow (w.heap.size + 1) 3 1 (.slice (some ⟨g4, 0, none⟩) (m + 1 + 1) cp4) (m + 1 + 1) (Li.nums (0 :: po (zs.take (k + 1)))) by rw [HN.out, ← List.cons_append, nums_snoc]; exact hown3)
        have HA4 := Lib.hid (show Arr w3 (w.heap.size + 2) 54 (bkA n zs) from (hgrow3.block (w.heap.size + 2) (by simp; omega) (fun e => by have e2 := HGJ.out _ e.symm; omega)).trans HA3.out)
        have HA04 := Lib.hid (show Arr w3 w.heap.size 54 (bkA n zs) from (hgrow3.block w.heap.size (by simp; omega) (fun e => by have e2 := HGJ.out _ e.symm; have := HLT.out; omega)).trans HA03.out)
        clear hown3 hgrow3 hat3
        go_roundw
        case rel => exact ⟨k + 1, m + 1, g4, cp4, rfl, by omega, by go_num, by omega, hg4, HO3, HA4, HA04, HB4⟩
        case measure => simp [intOf]; omega
    · have ek : k = n := by omega
      subst ek
      have HO5 := Lib.hid (show Ow wr.drew (w.heap.size + 1) g (m + 1) cp (0 :: po zs) by have h := HO.out; rw [HT.out] at h; exact h.drew)
      have CR := Lib.hid (rising_any HO5.out (by omega) (by omega))
      have qm := HA0.out.cell (j := 16) rfl
      have qm2 := HA0.out.drew.cell (j := 16) rfl
      have hB0 := Lib.hid HB.out.drew
      have hsz : w.heap.size < wr.drew.heap.size := HA0.out.lt
      have e12 : IntKind.i64.wrap ((k : Int) + 1) = (k : Int) + 1 := by rw [IntKind.wrap_i64]; omega
      go_wp2_with fail
      go_region_law (first | (go_simp; go_at_call 82; refine CR.out.mono ?_; rintro e w5 ⟨g5, L5, rfl, ho5, hk5, hb5⟩; have qm5 := (hb5.cell (p := ⟨w.heap.size, 16, none⟩) hsz).trans qm2; have r5 := own_at ho5 (k := 0) (by omega); have HX5 := Lib.hid (rf_head HM.out hk5.2.1); have HB5 := Lib.hid (hB0.out.trans (Ln.below_le hb5 hB0.out.size)); have e13 : IntKind.i64.wrap ((k : Int) + 1 - at' L5 0) = R := e13_of (HL.out ▸ HX5.out) HE.out hn HR.out; clear ho5 hk5 hb5))
      all_goals
        simp [Act.put]
        go_wp2_with fail
        go_ret
        refine ⟨?_, HB5.out⟩
        first | rfl | (simp [e12, e13]; done)
end Rz
end Go.Proofs.Ytabnjoohojojnaa
