/- SwapVolumes of the program, where both volumes are there. -/
import Derived.Test.YtogkebbgkeffcaaSwq
namespace Go.Proofs.Ytogkebbgkeffcaa
open Go.RowKit Go.Joins Go.Deep Go.ChangeShapes Go.WideShapes
set_option linter.unusedVariables false
set_option linter.unusedSimpArgs false
namespace Swp
open Sh So
set_option maxRecDepth 100000 in
set_option maxHeartbeats 4000000 in
theorem iYes {b1 g len cap i j : Nat} {zs : List Int} {c : Int} {w : World} (h : Ow w b1 g len cap zs) (ho : Ok zs c) (hi : i < len) (hj : j < len) :
    Calls Try.prog 39 #[V g len cap c, .int .i64 (i : Int), .int .i64 (j : Int)] w (Gv true (swp zs i j) c w) := by
  have hz := ow_len h
  have hl8 : len ≤ 8 := by have := ho.2.1; omega
  have hl : len ≤ 1048576 := by omega
  have hl1 : 1 ≤ len := by omega
  have hxa : both zs c (i : Int) = true := (both_iff _ _ _).2 ⟨ho, by omega, by omega⟩
  have hxb : both zs c (j : Int) = true := (both_iff _ _ _).2 ⟨ho, by omega, by omega⟩
  have hA0 : Arr ((bx w g len cap c).alloc (.cells #[.slice none 0 0, .int .i64 0] 27)) w.heap.size 27 #[.slice (some ⟨g, 0, none⟩) len cap, .int .i64 c] := arr_alloc (Arr.new w _ _) _
  have hR0 : Arr ((bx w g len cap c).alloc (.cells #[.slice none 0 0, .int .i64 0] 27)) (w.heap.size + 1) 27 #[.slice none 0 0, .int .i64 0] := by
    have := Arr.new (bx w g len cap c) #[.slice none 0 0, .int .i64 0] 27
    have e : (bx w g len cap c).heap.size = w.heap.size + 1 := by simp
    rwa [e] at this
  have hB0 : Below w.heap.size w ((bx w g len cap c).alloc (.cells #[.slice none 0 0, .int .i64 0] 27)) := (below_alloc1 w _).alloc (by simp) _
  have HOw := Lib.hid h
  have HGlt := Lib.hid (ow_lt h).2
  have HA := Lib.hid hA0
  have HR := Lib.hid hR0
  have HB := Lib.hid hB0
  have HZ := Lib.hid hz
  have qa0 := hA0.cell (j := 0) rfl
  have qa1 := hA0.cell (j := 1) rfl
  have CA := Lib.hid (iBoth_any (i : Int) (Li.own_on h hB0) hl true hxa)
  have HXB := Lib.hid hxb
  clear h hA0 hR0 hB0 hxa hxb hz ho
  go_enter Try.func39, Try.ntmps39
  go_wp2_with fail
  refine CA.out.mono ?_
  rintro e w0 ⟨rfl, hb⟩
  have HA1 := Lib.hid (HA.out.on hb)
  have HR1 := Lib.hid (HR.out.on hb)
  have HB1 := Lib.hid (HB.out.trans (Sh.below_le hb HB.out.size))
  have CB := Lib.hid (iBoth_any (j : Int) (Li.own_on HOw.out HB1.out) hl true HXB.out)
  have qb0 := HA1.out.cell (j := 0) rfl
  have qb1 := HA1.out.cell (j := 1) rfl
  clear hb qa0 qa1 HA HR HB
  go_wp2_with fail
  refine CB.out.mono ?_
  rintro e w2 ⟨rfl, hb⟩
  have HA2 := Lib.hid (HA1.out.on hb)
  have HR2 := Lib.hid (HR1.out.on hb)
  have HB2 := Lib.hid (HB1.out.trans (Sh.below_le hb HB1.out.size))
  clear hb qb0 qb1 HA1 HR1 HB1
  have HO2 := Lib.hid (Li.own_on HOw.out HB2.out)
  have HG2 := Lib.hid (show g < w2.heap.size from Nat.lt_of_lt_of_le HGlt.out HB2.out.size)
  have qc0 : w2.cell? ⟨w.heap.size, 0, none⟩ = some (.slice (some ⟨g, 0, none⟩) len cap) := HA2.out.cell (j := 0) rfl
  have qc1 : w2.cell? ⟨w.heap.size, 1, none⟩ = some (.int .i64 c) := HA2.out.cell (j := 1) rfl
  have hs2 : w.heap.size + 1 < w2.heap.size := HR2.out.lt
  have hs2' : w.heap.size < w2.heap.size := by omega
  go_wp2_with fail
  refine (clone_at HG2.out hl hl1 HO2.out).mono ?_
  rintro e w3 ⟨g3, cap3, rfl, ho, hb⟩
  have hB := HB2.out.trans (Sh.below_le hb HB2.out.size)
  have hA := HA2.out.on hb
  have hR := HR2.out.on hb
  have hg3 := (ow_lt ho).1
  obtain ⟨zi, HZI, hdi⟩ := ow_at ho hi
  obtain ⟨zj, HZJ, hdj⟩ := ow_at ho hj
  have hfi : w3.frozen? ⟨g3, i, none⟩ = false := ho.frozenAt i
  have hfj : w3.frozen? ⟨g3, j, none⟩ = false := ho.frozenAt j
  have h6 : (Arr (((w3.setCell ⟨g3, i, none⟩ (.int .i64 zj)).setCell ⟨g3, j, none⟩ (.int .i64 zi)).drew) (w.heap.size + 1) 27 #[.slice none 0 0, .int .i64 0] ∧ Arr (((w3.setCell ⟨g3, i, none⟩ (.int .i64 zj)).setCell ⟨g3, j, none⟩ (.int .i64 zi)).drew) w.heap.size 27 #[.slice (some ⟨g, 0, none⟩) len cap, .int .i64 c]) ∧ Ow (((w3.setCell ⟨g3, i, none⟩ (.int .i64 zj)).setCell ⟨g3, j, none⟩ (.int .i64 zi)).drew) w2.heap.size g3 len cap3 ((zs.set i zj).set j zi) ∧ Below w.heap.size w (((w3.setCell ⟨g3, i, none⟩ (.int .i64 zj)).setCell ⟨g3, j, none⟩ (.int .i64 zi)).drew) := by
    refine ⟨⟨(arr_other (arr_other hR (by omega) _ _) (by omega) _ _).drew, (arr_other (arr_other hA (by omega) _ _) (by omega) _ _).drew⟩, ?_, ((hB.setCell (p := ⟨g3, i, none⟩) (by simp; omega) _).setCell (p := ⟨g3, j, none⟩) (by simp; omega) _).drew⟩
    have h5 := (ho.stored i (.int .i64 zj)).1
    rw [nums_set] at h5
    have h6 := (World.ownsRow.stored h5 j (.int .i64 zi)).1
    rw [nums_set] at h6
    exact h6
  have H6 := Lib.hid h6
  have ES := Lib.hid (show (zs.set i zj).set j zi = swp zs i j by unfold swp; rw [HZI.out, HZJ.out])
  have EQ := Lib.hid (show i = j → zi = zj by intro e; subst e; rw [← HZI.out, HZJ.out])
  clear hb hB hA hR ho h6 HZI HZJ qc0 qc1
  by_cases hij : i = j
  · go_wp2_with fail
    subst hij
    obtain rfl := EQ.out rfl
    go_region
    revert H6
    generalize ((w3.setCell ⟨g3, i, none⟩ (.int .i64 zi)).setCell ⟨g3, i, none⟩ (.int .i64 zi)).drew = W6
    intro H6
    obtain ⟨⟨hR, hA⟩, ho, hB⟩ := H6.out
    have hf0 : W6.frozen? ⟨w.heap.size + 1, 0, none⟩ = false := hR.frozen 0
    have hf1 : W6.frozen? ⟨w.heap.size + 1, 1, none⟩ = false := hR.frozen 1
    have hr0 : W6.cell? ⟨w.heap.size + 1, 0, none⟩ = some (.slice none 0 0) := hR.cell (j := 0) rfl
    have hr1 : W6.cell? ⟨w.heap.size + 1, 1, none⟩ = some (.int .i64 0) := hR.cell (j := 1) rfl
    have qc1 : W6.cell? ⟨w.heap.size, 1, none⟩ = some (.int .i64 c) := hA.cell (j := 1) rfl
    clear hR hA ho hB hdi hfi
    go_wp2_with fail
    obtain ⟨⟨hR, hA⟩, ho, hB⟩ := H6.out
    have HX := arr2 hR (.slice (some ⟨g3, 0, none⟩) len cap3) (.int .i64 c)
    have hB8 := (hB.setCell (p := ⟨w.heap.size + 1, 0, none⟩) (by simp) (.slice (some ⟨g3, 0, none⟩) len cap3)).setCell (p := ⟨w.heap.size + 1, 1, none⟩) (by simp) (.int .i64 c)
    have hO8 := ownsRow_setCell_below (ownsRow_setCell_below ho (a := ⟨w.heap.size + 1, 0, none⟩) (by simpa using hs2) (.slice (some ⟨g3, 0, none⟩) len cap3)) (a := ⟨w.heap.size + 1, 1, none⟩) (by simpa using hs2) (.int .i64 c)
    clear hR hA ho hB hf0 hf1 hr0 hr1 qc1 H6
    revert HX hB8 hO8
    generalize ((W6.setCell ⟨w.heap.size + 1, 0, none⟩ (.slice (some ⟨g3, 0, none⟩) len cap3)).setCell ⟨w.heap.size + 1, 1, none⟩ (.int .i64 c)) = W8
    intro ⟨z0, z1⟩ hB8 hO8
    exact bodyPost_ret (v := .tuple #[.agg #[.slice (some ⟨g3, 0, none⟩) len cap3, .int .i64 c], .bool true]) (by simp [results, Try.results39, go_sem, z0, z1]) rfl (gv_yes (by rw [← ES.out]; simp; exact HZ.out) (by rw [← ES.out]; exact Li.own_le hO8 (by omega)) hB8)
  · have hji : ¬ j = i := fun e => hij e.symm
    go_wp2_with fail
    go_region
    revert H6
    generalize ((w3.setCell ⟨g3, i, none⟩ (.int .i64 zj)).setCell ⟨g3, j, none⟩ (.int .i64 zi)).drew = W6
    intro H6
    obtain ⟨⟨hR, hA⟩, ho, hB⟩ := H6.out
    have hf0 : W6.frozen? ⟨w.heap.size + 1, 0, none⟩ = false := hR.frozen 0
    have hf1 : W6.frozen? ⟨w.heap.size + 1, 1, none⟩ = false := hR.frozen 1
    have hr0 : W6.cell? ⟨w.heap.size + 1, 0, none⟩ = some (.slice none 0 0) := hR.cell (j := 0) rfl
    have hr1 : W6.cell? ⟨w.heap.size + 1, 1, none⟩ = some (.int .i64 0) := hR.cell (j := 1) rfl
    have qc1 : W6.cell? ⟨w.heap.size, 1, none⟩ = some (.int .i64 c) := hA.cell (j := 1) rfl
    clear hR hA ho hB hdi hfi
    go_wp2_with fail
    obtain ⟨⟨hR, hA⟩, ho, hB⟩ := H6.out
    have HX := arr2 hR (.slice (some ⟨g3, 0, none⟩) len cap3) (.int .i64 c)
    have hB8 := (hB.setCell (p := ⟨w.heap.size + 1, 0, none⟩) (by simp) (.slice (some ⟨g3, 0, none⟩) len cap3)).setCell (p := ⟨w.heap.size + 1, 1, none⟩) (by simp) (.int .i64 c)
    have hO8 := ownsRow_setCell_below (ownsRow_setCell_below ho (a := ⟨w.heap.size + 1, 0, none⟩) (by simpa using hs2) (.slice (some ⟨g3, 0, none⟩) len cap3)) (a := ⟨w.heap.size + 1, 1, none⟩) (by simpa using hs2) (.int .i64 c)
    clear hR hA ho hB hf0 hf1 hr0 hr1 qc1 H6
    revert HX hB8 hO8
    generalize ((W6.setCell ⟨w.heap.size + 1, 0, none⟩ (.slice (some ⟨g3, 0, none⟩) len cap3)).setCell ⟨w.heap.size + 1, 1, none⟩ (.int .i64 c)) = W8
    intro ⟨z0, z1⟩ hB8 hO8
    exact bodyPost_ret (v := .tuple #[.agg #[.slice (some ⟨g3, 0, none⟩) len cap3, .int .i64 c], .bool true]) (by simp [results, Try.results39, go_sem, z0, z1]) rfl (gv_yes (by rw [← ES.out]; simp; exact HZ.out) (by rw [← ES.out]; exact Li.own_le hO8 (by omega)) hB8)
/-- the program's answer, and the model's -/
def osOf (zs : List Int) (c a b : Int) : List Int := if (both zs c a && both zs c b) = true then swp zs a.toNat b.toNat else []
def cOf (zs : List Int) (c a b : Int) : Int := if (both zs c a && both zs c b) = true then c else 0
theorem os_len (zs : List Int) (c a b : Int) (hl : zs.length ≤ 1048576) : (osOf zs c a b).length ≤ 1048576 := by
  unfold osOf
  split
  · rw [swp_length]; exact hl
  · simp
theorem s_any {b1 g len cap : Nat} {zs : List Int} {c a b : Int} {w : World} (h : Ow w b1 g len cap zs) (hl : len ≤ 1048576) :
    Calls Try.prog 38 #[V g len cap c, .int .i64 a, .int .i64 b] w (Gv (both zs c a && both zs c b) (osOf zs c a b) (cOf zs c a b) w) := by
  unfold osOf cOf
  cases hx : (both zs c a && both zs c b) with
  | false => exact sNo h hl hx
  | true =>
    rw [Bool.and_eq_true] at hx
    have h1 := (both_iff _ _ _).1 hx.1
    have h2 := (both_iff _ _ _).1 hx.2
    have hz := ow_len h
    obtain ⟨i, rfl⟩ := Int.eq_ofNat_of_zero_le h1.2.1
    obtain ⟨j, rfl⟩ := Int.eq_ofNat_of_zero_le h2.2.1
    exact sYes h h1.1 (by omega) (by omega)
theorem i_any {b1 g len cap : Nat} {zs : List Int} {c a b : Int} {w : World} (h : Ow w b1 g len cap zs) (hl : len ≤ 1048576) :
    Calls Try.prog 39 #[V g len cap c, .int .i64 a, .int .i64 b] w (Gv (both zs c a && both zs c b) (osOf zs c a b) (cOf zs c a b) w) := by
  unfold osOf cOf
  cases hx : (both zs c a && both zs c b) with
  | false => exact iNo h hl hx
  | true =>
    rw [Bool.and_eq_true] at hx
    have h1 := (both_iff _ _ _).1 hx.1
    have h2 := (both_iff _ _ _).1 hx.2
    have hz := ow_len h
    obtain ⟨i, rfl⟩ := Int.eq_ofNat_of_zero_le h1.2.1
    obtain ⟨j, rfl⟩ := Int.eq_ofNat_of_zero_le h2.2.1
    exact iYes h h1.1 (by omega) (by omega)
end Swp
end Go.Proofs.Ytogkebbgkeffcaa
