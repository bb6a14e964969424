/- SwapVolumes of the model, where both volumes are there. -/
import Derived.Test.YtogkebbgkeffcaaSwp
namespace Go.Proofs.Ytogkebbgkeffcaa
open Go.RowKit Go.Joins Go.Deep Go.ChangeShapes Go.WideShapes
set_option linter.unusedVariables false
set_option linter.unusedSimpArgs false
namespace Swp
open Sh So
def GL (zs : List Int) (n : Nat) (W : World) (e : Ending) (w' : World) : Prop := ∃ g cap, e = .returned (.slice (some ⟨g, 0, none⟩) n cap) ∧ Ow w' W.heap.size g n cap zs ∧ Below W.heap.size W w'
theorem gl_of {zs : List Int} {n : Nat} {W w' : World} {e : Ending} (hn : zs.length = n) (h1 : 1 ≤ n) (h : GivesL zs W e w') : GL zs n W e w' := by
  obtain ⟨v, he, ho, hb⟩ := h
  obtain ⟨g, cap, rfl, o, _⟩ := own_some ho hn h1
  exact ⟨g, cap, he, o, hb⟩
theorem own_at {w : World} {b1 g len cap : Nat} {zs : List Int} (hg : g < w.heap.size) (hl : len ≤ 1048576) (h1 : 1 ≤ len) (h : Ow w b1 g len cap zs) :
    Calls Try.prog 58 #[.slice (some ⟨g, 0, none⟩) len cap] w (GL zs len w) := (l1Own_cells g len cap zs (ow_len h) hl w hg (fun j hj => ow_cell h hj)).mono fun _ _ x => gl_of (ow_len h) h1 x
theorem clone_at {w : World} {b1 g len cap : Nat} {zs : List Int} (hg : g < w.heap.size) (hl : len ≤ 1048576) (h1 : 1 ≤ len) (h : Ow w b1 g len cap zs) :
    Calls Try.prog 59 #[.slice (some ⟨g, 0, none⟩) len cap] w (GL zs len w) := (clone_cells g len cap zs (ow_len h) hl w hg (fun j hj => ow_cell h hj)).mono fun _ _ x => gl_of (ow_len h) h1 x
theorem gv_yes {os : List Int} {n g cap : Nat} {c : Int} {W w' : World} (hn : os.length = n) (ho : Ow w' W.heap.size g n cap os) (hb : Below W.heap.size W w') : Gv true os c W (.returned (.tuple #[.agg #[.slice (some ⟨g, 0, none⟩) n cap, .int .i64 c], .bool true])) w' := by
  subst hn
  exact ⟨_, rfl, ho, hb⟩
set_option maxRecDepth 100000 in
set_option maxHeartbeats 4000000 in
theorem sYes {b1 g len cap i j : Nat} {zs : List Int} {c : Int} {w : World} (h : Ow w b1 g len cap zs) (ho : Ok zs c) (hi : i < len) (hj : j < len) :
    Calls Try.prog 38 #[V g len cap c, .int .i64 (i : Int), .int .i64 (j : Int)] w (Gv true (swp zs i j) c w) := by
  have hz := ow_len h
  have hl8 : len ≤ 8 := by have := ho.2.1; omega
  have hl : len ≤ 1048576 := by omega
  have hl1 : 1 ≤ len := by omega
  have hxa : both zs c (i : Int) = true := (both_iff _ _ _).2 ⟨ho, by omega, by omega⟩
  have hxb : both zs c (j : Int) = true := (both_iff _ _ _).2 ⟨ho, by omega, by omega⟩
  have hA0 : Arr ((bx w g len cap c).alloc (.cells #[.slice none 0 0, .int .i64 0] 27)) w.heap.size 27 #[.slice (some ⟨g, 0, none⟩) len cap, .int .i64 c] := arr_alloc (Arr.new w _ _) _
  have hR0 : Arr ((bx w g len cap c).alloc (.cells #[.slice none 0 0, .int .i64 0] 27)) (w.heap.size + 1) 27 #[.slice none 0 0, .int .i64 0] := by
    have := Arr.new (bx w g len cap c) #[.slice none 0 0, .int .i64 0] 27
    have e : (bx w g len cap c).heap.size = w.heap.size + 1 := by simp
    rwa [e] at this
  have hB0 : Below w.heap.size w ((bx w g len cap c).alloc (.cells #[.slice none 0 0, .int .i64 0] 27)) := (below_alloc1 w _).alloc (by simp) _
  have HOw := Lib.hid h
  have HGlt := Lib.hid (ow_lt h).2
  have HA := Lib.hid hA0
  have HR := Lib.hid hR0
  have HB := Lib.hid hB0
  have HZ := Lib.hid hz
  have qa0 := hA0.cell (j := 0) rfl
  have qa1 := hA0.cell (j := 1) rfl
  have CA := Lib.hid (sBoth_any (i : Int) (Li.own_on h hB0) hl true hxa)
  have HXB := Lib.hid hxb
  clear h hA0 hR0 hB0 hxa hxb hz ho
  go_enter Try.func38, Try.ntmps38
  go_wp2_with fail
  refine CA.out.mono ?_
  rintro e w0 ⟨rfl, hb⟩
  have HA1 := Lib.hid (HA.out.on hb)
  have HR1 := Lib.hid (HR.out.on hb)
  have HB1 := Lib.hid (HB.out.trans (Sh.below_le hb HB.out.size))
  have CB := Lib.hid (sBoth_any (j : Int) (Li.own_on HOw.out HB1.out) hl true HXB.out)
  have qb0 := HA1.out.cell (j := 0) rfl
  have qb1 := HA1.out.cell (j := 1) rfl
  clear hb qa0 qa1 HA HR HB
  go_wp2_with fail
  refine CB.out.mono ?_
  rintro e w2 ⟨rfl, hb⟩
  have HA2 := Lib.hid (HA1.out.on hb)
  have HR2 := Lib.hid (HR1.out.on hb)
  have HB2 := Lib.hid (HB1.out.trans (Sh.below_le hb HB1.out.size))
  clear hb qb0 qb1 HA1 HR1 HB1
  have HO2 := Lib.hid (Li.own_on HOw.out HB2.out)
  have HG2 := Lib.hid (show g < w2.heap.size from Nat.lt_of_lt_of_le HGlt.out HB2.out.size)
  have qc0 : w2.cell? ⟨w.heap.size, 0, none⟩ = some (.slice (some ⟨g, 0, none⟩) len cap) := HA2.out.cell (j := 0) rfl
  have qc1 : w2.cell? ⟨w.heap.size, 1, none⟩ = some (.int .i64 c) := HA2.out.cell (j := 1) rfl
  have hs2 : w.heap.size + 1 < w2.heap.size := HR2.out.lt
  have hs2' : w.heap.size < w2.heap.size := by omega
  go_wp2_with fail
  have hs2 : w.heap.size + 1 < w2.heap.size := HR2.out.lt
  rename_i K hK
  have key : ∀ (O g3 cap3 : Nat) (W : World), Arr W w.heap.size 27 #[.slice (some ⟨g, 0, none⟩) len cap, .int .i64 c] → Arr W (w.heap.size + 1) 27 #[.slice none 0 0, .int .i64 0] → Arr W O 27 #[.slice (some ⟨g3, 0, none⟩) len cap3, .int .i64 c] → Ow W w2.heap.size g3 len cap3 zs → O ≠ g3 → Below w.heap.size w W →
      Exit.then K (bodyPost Try.prog Try.f38 (Gv true (swp zs i j) c w)) Exit.normal { tmps := #[V g len cap c, .int .i64 (i : Int), .int .i64 (j : Int), .pointer (some ⟨w.heap.size, 0, none⟩), undef, undef, .pointer (some ⟨w.heap.size + 1, 0, none⟩), .bool false, .pointer (some ⟨O, 0, none⟩), .agg #[.slice (some ⟨g, 0, none⟩) len cap, .int .i64 c], .int .i64 (i : Int), .bool true, .bool false, .bool false, .agg #[.slice (some ⟨g, 0, none⟩) len cap, .int .i64 c], .int .i64 (j : Int), .bool true, .bool false, .bool false, undef, .pointer (some ⟨w.heap.size, 0, none⟩), .slice (some ⟨g, 0, none⟩) len cap, .slice (some ⟨g3, 0, none⟩) len cap3, .pointer (some ⟨w.heap.size, 1, none⟩), .int .i64 c, .agg #[.slice (some ⟨g3, 0, none⟩) len cap3, .int .i64 c], undef, undef, undef, undef, undef, undef, undef, undef, undef, undef, undef, undef, undef, undef, undef, undef, undef, undef, undef], defers := [] } W := by
    intro O g3 cap3 W hA hR hO ho hne hB
    have hg3 := (ow_lt ho).1
    have HSrc := Lib.hid (Li.own_on HOw.out hB)
    obtain ⟨zi, HZI, hci⟩ := ow_at HSrc.out hi
    obtain ⟨zj, HZJ, hcj⟩ := ow_at HSrc.out hj
    obtain ⟨di, HDI, hdi⟩ := ow_at ho hi
    have hfi : W.frozen? ⟨g3, i, none⟩ = false := ho.frozenAt i
    have qa0 : W.cell? ⟨w.heap.size, 0, none⟩ = some (.slice (some ⟨g, 0, none⟩) len cap) := hA.cell (j := 0) rfl
    have qo0 : W.cell? ⟨O, 0, none⟩ = some (.slice (some ⟨g3, 0, none⟩) len cap3) := hO.cell (j := 0) rfl
    have h5 : (Arr ((W.setCell ⟨g3, i, none⟩ (.int .i64 zj)).drew) w.heap.size 27 #[.slice (some ⟨g, 0, none⟩) len cap, .int .i64 c] ∧ Arr ((W.setCell ⟨g3, i, none⟩ (.int .i64 zj)).drew) (w.heap.size + 1) 27 #[.slice none 0 0, .int .i64 0] ∧ Arr ((W.setCell ⟨g3, i, none⟩ (.int .i64 zj)).drew) O 27 #[.slice (some ⟨g3, 0, none⟩) len cap3, .int .i64 c]) ∧ Ow ((W.setCell ⟨g3, i, none⟩ (.int .i64 zj)).drew) w2.heap.size g3 len cap3 (zs.set i zj) ∧ Below w.heap.size w ((W.setCell ⟨g3, i, none⟩ (.int .i64 zj)).drew) := by
      refine ⟨⟨(arr_other hA (by omega) _ _).drew, (arr_other hR (by omega) _ _).drew, (arr_other hO hne _ _).drew⟩, ?_, (hB.setCell (p := ⟨g3, i, none⟩) (by simp; omega) _).drew⟩
      have h6 := (ho.stored i (.int .i64 zj)).1
      rw [nums_set] at h6
      exact h6
    have H5 := Lib.hid h5
    clear hA hR hO ho h5 hB HDI
    go_wp2_with fail
    go_region
    revert H5
    generalize (W.setCell ⟨g3, i, none⟩ (.int .i64 zj)).drew = W5
    intro H5
    obtain ⟨⟨hA, hR, hO⟩, ho, hB⟩ := H5.out
    clear H5 qa0 qo0 hci hcj hdi hfi
    obtain ⟨zi', HZI', hci⟩ := ow_at (Li.own_on HOw.out hB) hi
    obtain rfl : zi' = zi := by rw [← HZI'.out, HZI.out]
    obtain ⟨dj, HDJ, hdj⟩ := ow_at ho hj
    have hfj : W5.frozen? ⟨g3, j, none⟩ = false := ho.frozenAt j
    have qa0 : W5.cell? ⟨w.heap.size, 0, none⟩ = some (.slice (some ⟨g, 0, none⟩) len cap) := hA.cell (j := 0) rfl
    have qo0 : W5.cell? ⟨O, 0, none⟩ = some (.slice (some ⟨g3, 0, none⟩) len cap3) := hO.cell (j := 0) rfl
    have h6 : (Arr ((W5.setCell ⟨g3, j, none⟩ (.int .i64 zi')).drew) (w.heap.size + 1) 27 #[.slice none 0 0, .int .i64 0] ∧ Arr ((W5.setCell ⟨g3, j, none⟩ (.int .i64 zi')).drew) O 27 #[.slice (some ⟨g3, 0, none⟩) len cap3, .int .i64 c]) ∧ Ow ((W5.setCell ⟨g3, j, none⟩ (.int .i64 zi')).drew) w2.heap.size g3 len cap3 ((zs.set i zj).set j zi') ∧ Below w.heap.size w ((W5.setCell ⟨g3, j, none⟩ (.int .i64 zi')).drew) := by
      refine ⟨⟨(arr_other hR (by omega) _ _).drew, (arr_other hO hne _ _).drew⟩, ?_, (hB.setCell (p := ⟨g3, j, none⟩) (by simp; omega) _).drew⟩
      have h6 := (ho.stored j (.int .i64 zi')).1
      rw [nums_set] at h6
      exact h6
    have H6 := Lib.hid h6
    have ES := Lib.hid (show (zs.set i zj).set j zi' = swp zs i j by unfold swp; rw [HZI.out, HZJ.out])
    clear hA hR hO ho h6 hB HDJ HZI HZJ HZI'
    go_wp2_with fail
    go_region
    revert H6
    generalize (W5.setCell ⟨g3, j, none⟩ (.int .i64 zi')).drew = W6
    intro H6
    clear qa0 qo0 hci hdj hfj
    obtain ⟨⟨hR, hO⟩, ho, hB⟩ := H6.out
    have hf0 : W6.frozen? ⟨w.heap.size + 1, 0, none⟩ = false := hR.frozen 0
    have hf1 : W6.frozen? ⟨w.heap.size + 1, 1, none⟩ = false := hR.frozen 1
    have hr0 : W6.cell? ⟨w.heap.size + 1, 0, none⟩ = some (.slice none 0 0) := hR.cell (j := 0) rfl
    have hr1 : W6.cell? ⟨w.heap.size + 1, 1, none⟩ = some (.int .i64 0) := hR.cell (j := 1) rfl
    have qo0 : W6.cell? ⟨O, 0, none⟩ = some (.slice (some ⟨g3, 0, none⟩) len cap3) := hO.cell (j := 0) rfl
    have qo1 : W6.cell? ⟨O, 1, none⟩ = some (.int .i64 c) := hO.cell (j := 1) rfl
    clear hR hO ho hB
    go_wp2_with fail
    obtain ⟨⟨hR, hO⟩, ho, hB⟩ := H6.out
    have HX := arr2 hR (.slice (some ⟨g3, 0, none⟩) len cap3) (.int .i64 c)
    have hB8 := (hB.setCell (p := ⟨w.heap.size + 1, 0, none⟩) (by simp) (.slice (some ⟨g3, 0, none⟩) len cap3)).setCell (p := ⟨w.heap.size + 1, 1, none⟩) (by simp) (.int .i64 c)
    have hO8 := ownsRow_setCell_below (ownsRow_setCell_below ho (a := ⟨w.heap.size + 1, 0, none⟩) (by simpa using hs2) (.slice (some ⟨g3, 0, none⟩) len cap3)) (a := ⟨w.heap.size + 1, 1, none⟩) (by simpa using hs2) (.int .i64 c)
    clear hR hO ho hB hf0 hf1 hr0 hr1 qo0 qo1 H6
    revert HX hB8 hO8
    generalize ((W6.setCell ⟨w.heap.size + 1, 0, none⟩ (.slice (some ⟨g3, 0, none⟩) len cap3)).setCell ⟨w.heap.size + 1, 1, none⟩ (.int .i64 c)) = W8
    intro ⟨z0, z1⟩ hB8 hO8
    exact bodyPost_ret (v := .tuple #[.agg #[.slice (some ⟨g3, 0, none⟩) len cap3, .int .i64 c], .bool true]) (by simp [results, Try.results38, go_sem, z0, z1]) rfl (gv_yes (by rw [← ES.out]; simp; exact HZ.out) (by rw [← ES.out]; exact Li.own_le hO8 (by omega)) hB8)
  go_region_with (first | (go_at_call 58; first | (refine (own_at (show g < w2.drew.heap.size from HG2.out) hl hl1 (show Ow w2.drew b1 g len cap zs from HO2.out)).mono ?_; rintro e w3 ⟨g3, cap3, rfl, o3, hb⟩; have HB3 := Lib.hid (below_via hb); have hs3 : w.heap.size + 1 < w3.heap.size := Nat.lt_of_lt_of_le hs2 HB3.out.size; have hs3' : w.heap.size < w3.heap.size := (by omega); have HS3 := Lib.hid (show w2.heap.size ≤ w3.heap.size from HB3.out.size); have qd1 : w3.cell? ⟨w.heap.size, 1, none⟩ = some (.int .i64 c) := (HA2.out.on HB3.out).cell (j := 1) rfl) | (refine (own_at (by have := HG2.out; simp; omega) hl hl1 (World.ownsRow.alloc (show Ow w2.drew b1 g len cap zs from HO2.out) _)).mono ?_; rintro e w3 ⟨g3, cap3, rfl, o3, hb⟩; have HB3 := Lib.hid (below_via2 hb); have hs3 : w.heap.size + 1 < w3.heap.size := Nat.lt_of_lt_of_le hs2 HB3.out.size; have hs3' : w.heap.size < w3.heap.size := (by omega); have qd1 : w3.cell? ⟨w.heap.size, 1, none⟩ = some (.int .i64 c) := (HA2.out.on HB3.out).cell (j := 1) rfl; have HN3 := Lib.hid (show Arr w3 w2.heap.size 27 #[.slice none 0 0, .int .i64 0] from (Arr.new w2.drew _ _).on hb); have qn0 : w3.cell? ⟨w2.heap.size, 0, none⟩ = some (.slice none 0 0) := HN3.out.cell (j := 0) rfl; have qn1 : w3.cell? ⟨w2.heap.size, 1, none⟩ = some (.int .i64 0) := HN3.out.cell (j := 1) rfl; have qf0 := HN3.out.frozen 0; have qf1 := HN3.out.frozen 1)))
  all_goals first
    | exact key w3.heap.size g3 cap3 _ (arr_alloc (HA2.out.on HB3.out) _) (arr_alloc (HR2.out.on HB3.out) _) (Arr.new w3 _ _) (Li.own_le (World.ownsRow.alloc o3 _) (Nat.le_refl _)) (by have := (ow_lt o3).2; omega) ((HB2.out.trans (Sh.below_le HB3.out HB2.out.size)).alloc (by omega) _)
    | exact key w2.heap.size g3 cap3 _ (arr_other (arr_other (HA2.out.on HB3.out) (by omega) _ _) (by omega) _ _) (arr_other (arr_other (HR2.out.on HB3.out) (by omega) _ _) (by omega) _ _) ((HN3.out.set 0 _).set 1 _) (Li.own_le (ownsRow_setCell_below (ownsRow_setCell_below o3 (a := ⟨w2.heap.size, 0, none⟩) (by simp) _) (a := ⟨w2.heap.size, 1, none⟩) (by simp) _) (by simp)) (by have := (ow_lt o3).1; simp at this; omega) (((HB2.out.trans (Sh.below_le HB3.out HB2.out.size)).setCell (p := ⟨w2.heap.size, 0, none⟩) (by simp; omega) _).setCell (p := ⟨w2.heap.size, 1, none⟩) (by simp; omega) _)
end Swp
end Go.Proofs.Ytogkebbgkeffcaa
