/- A range's short text read back by the program. -/
import Derived.Test.YtlghonnakokioaaDoorLrs
import Derived.Test.YtlghonnakokioaaDoorShelf2
import Derived.Lib.AtoiAllCases
import Derived.Lib.AtoiErrMem
namespace Go.Proofs.YtlghonnakokioaaDoor
open Go.RowKit Go.Joins Go.Deep Go.ChangeShapes Go.WideShapes
set_option linter.unusedVariables false
set_option linter.unusedSimpArgs false
namespace P
/-- what the library's variables hold -/
def Env (W : World) : Prop := (∃ m : Int, W.cell? ⟨0, 0, none⟩ = some (.int .i64 m)) ∧ (∃ t p, W.cell? ⟨1, 0, none⟩ = some (.iface t p)) ∧ (∃ t p, W.cell? ⟨2, 0, none⟩ = some (.iface t p))
theorem cell_lt {W : World} {b o : Nat} {v : Value} (h : W.cell? ⟨b, o, none⟩ = some v) : b < W.heap.size := World.block_lt_of_cell? _ _ h
theorem Env.on {W W' : World} (h : Env W) (hb : Below W.heap.size W W') : Env W' := by
  obtain ⟨⟨m, h1⟩, ⟨t, p, h2⟩, ⟨t', p', h3⟩⟩ := h
  exact ⟨⟨m, (hb.cell (p := ⟨0, 0, none⟩) (cell_lt h1)).trans h1⟩, ⟨t, p, (hb.cell (p := ⟨1, 0, none⟩) (cell_lt h2)).trans h2⟩, ⟨t', p', (hb.cell (p := ⟨2, 0, none⟩) (cell_lt h3)).trans h3⟩⟩
def Reads (p : List UInt8) (v : Int) : Prop := ∀ u : Int, Lib.atoiAll p = .ok u → v = u
theorem atoi_any (p : List UInt8) (hp : p.length ≤ 10000000) (W : World) (hE : Env W) :
    Calls Tryd.prog 39 #[.string ⟨p.toArray⟩] W fun e w' => ∃ (v : Int) (x : Value), e = .returned (.tuple #[.int .i64 v, x]) ∧ Reads p v ∧ Below W.heap.size W w' := by
  have hs : (⟨p.toArray⟩ : ByteArray).size = p.length := by show p.toArray.size = _; simp
  have hl : (⟨p.toArray⟩ : ByteArray).data.toList = p := by simp
  obtain ⟨_, ⟨t, q, h2⟩, ⟨t', q', h3⟩⟩ := hE
  rcases hc : Lib.atoiAll p with v | _ | _
  · refine (Tryd.strconv_Atoi_ok ⟨p.toArray⟩ (by omega) v (by rw [hl]; exact hc) W).mono ?_
    have HR := Lib.hid (show Reads p v from fun u hu => by rw [hc] at hu; cases hu; rfl)
    rintro e w' ⟨rfl, rfl | ⟨t, rfl⟩⟩
    · exact ⟨_, _, rfl, HR.out, Below.refl _ _⟩
    · exact ⟨_, _, rfl, HR.out, Lib.bytesWorld_below _ _ _⟩
  · refine (Tryd.strconv_Atoi_syntax ⟨p.toArray⟩ (by omega) (by rw [hl]; exact hc) (.iface t q) W h2 (Or.inr ⟨t, q, rfl⟩)).mono ?_
    rintro e w' ⟨N, rfl, _, _, hb⟩
    exact ⟨_, _, rfl, (fun u hu => by rw [hc] at hu; cases hu), hb⟩
  · refine (Tryd.strconv_Atoi_range ⟨p.toArray⟩ (by omega) (by rw [hl]; exact hc) (.iface t' q') W h3 (Or.inr ⟨t', q', rfl⟩)).mono ?_
    rintro e w' ⟨N, rfl, _, _, hb⟩
    exact ⟨_, _, rfl, (fun u hu => by rw [hc] at hu; cases hu), hb⟩
theorem cut_any (p : List UInt8) (c : UInt8) (hp : p.length ≤ 10000000) (W : World) (hE : Env W) :
    Calls Tryd.prog 38 #[.string ⟨p.toArray⟩, .string ⟨#[c]⟩] W fun e w' => e = .returned (.tuple #[.string ⟨(Lib.cut p [c]).1.toArray⟩, .string ⟨(Lib.cut p [c]).2.1.toArray⟩, .bool (Lib.cut p [c]).2.2]) ∧ Below W.heap.size W w' := by
  have hs : (⟨p.toArray⟩ : ByteArray).size = p.length := by show p.toArray.size = _; simp
  obtain ⟨⟨m, h1⟩, _⟩ := hE
  refine (Tryd.strings_Cut ⟨p.toArray⟩ ⟨#[c]⟩ m W (by omega) h1).mono ?_
  rintro e w' ⟨rfl, n, rfl⟩
  exact ⟨by simp, Sr.below_dN (Below.refl _ _) _⟩
theorem cut_le (p : List UInt8) (c : UInt8) : (Lib.cut p [c]).1.length ≤ p.length ∧ (Lib.cut p [c]).2.1.length ≤ p.length := by
  unfold Lib.cut
  split
  · exact ⟨by rw [List.length_take]; omega, by rw [List.length_drop]; omega⟩
  · exact ⟨Nat.le_refl _, by simp⟩
end P
namespace Lr
open Rg Gm Sr
open P hiding idx_at sl_from
theorem stx_ne {l : List UInt8} {v u : Int} (hr : rng v u = true) (h : ¬ (rng v u = true ∧ l = sh v.toNat u.toNat)) : (sh v.toNat u.toNat == l) = false := by
  rw [beq_eq_false_iff_ne]
  exact fun e => h ⟨hr, e.symm⟩
theorem Pr2.set0 {W : World} {b : Nat} {x y : Int} (h : Pr2 W b x y) (x' : Int) : Pr2 (W.setCell ⟨b, 0, none⟩ (.int .i64 x')) b x' y := heap_setCell_same W b 0 _ _ (.int .i64 x') h
set_option maxRecDepth 100000 in
set_option maxHeartbeats 4000000 in
theorem iLong_any (l : List UInt8) (hl : l.length ≤ 1048576) (w : World) (hE : Env w) (hT : TabOn w) :
    Calls Tryd.prog 13 #[.string ⟨l.toArray⟩] w (Ret (.tuple #[.agg #[.int .i64 (lF l), .int .i64 (lT l)], .bool (lok l)]) w) := by
  have PR0 := Pr2.new w 0 0
  have HB0 := below_alloc1 w (.cells #[.int .i64 0, .int .i64 0] 26)
  have HEn := Lib.hid (fun W (h : Below w.heap.size w W) => hE.on h)
  have HT := Lib.hid hT
  have CC := Lib.hid (fun W h => cut_any l 45 (by omega) W h)
  obtain ⟨hc1, hc2⟩ := cut_le l 45
  have same := @same l
  obtain ⟨c, hc⟩ : ∃ c, Lib.cut l [45] = c := ⟨_, rfl⟩
  rw [hc] at CC hc1 hc2 same
  clear hc hE hT
  obtain ⟨p0, p1, cb⟩ := c
  simp only at CC hc1 hc2 same
  have A0 := Lib.hid (fun W h => atoi_any p0 (by omega) W h)
  go_enter Tryd.func13, Tryd.ntmps13
  go_wp2_with fail
  refine (CC.out _ (HEn.out _ HB0)).mono ?_
  rintro e wq ⟨rfl, hb1⟩
  have PRq := PR0.on hb1
  have HBq := below_next HB0 hb1
  clear hb1 PR0 HB0 CC
  by_cases hlt : p1.length < p0.length
  · have hlt2 : (p1.length : Int) < (p0.length : Int) := by omega
    have ex : (⟨p0.toArray⟩ : ByteArray).extract 0 (p0.length - p1.length) ++ ⟨p1.toArray⟩ = ⟨(fill p0 p1).toArray⟩ := by
      rw [fill_yes hlt]
      apply ByteArray.ext
      simp
    have A1 := Lib.hid (fun W (h : Env W) => show Calls Tryd.prog 39 #[.string ((⟨p0.toArray⟩ : ByteArray).extract 0 (p0.length - p1.length) ++ ⟨p1.toArray⟩)] W (fun e w' => ∃ (v : Int) (x : Value), e = .returned (.tuple #[.int .i64 v, x]) ∧ Reads (fill p0 p1) v ∧ Below W.heap.size W w') by rw [ex]; exact atoi_any (fill p0 p1) (by rw [fill_yes hlt, List.length_append, List.length_take]; omega) W h)
    clear ex hlt
    have P5 := Pr2.new wq 0 0
    have R5 := PRq.alloc (.cells #[.int .i64 0, .int .i64 0] 26)
    have HB5 := HBq.alloc HBq.size (.cells #[.int .i64 0, .int .i64 0] 26)
    have hsq := PRq.lt
    go_wp2_with fail
    refine (A0.out _ (HEn.out _ HB5)).mono ?_
    rintro e w6 ⟨v, xv, rfl, hv, hb6⟩
    have P6 := P5.on hb6
    have R6 := R5.on hb6
    have HB6 := below_next HB5 hb6
    have g0 := P6.c0
    have fg0 := P6.fr 0
    clear hb6 P5 R5 HB5
    go_wp2_with fail
    have P6s := P6.set0 v
    have R6s := R6.other (a := ⟨wq.heap.size, 0, none⟩) (show w.heap.size ≠ wq.heap.size by omega) (.int .i64 v)
    have HB6s := HB6.setCell (p := ⟨wq.heap.size, 0, none⟩) (show w.heap.size ≤ wq.heap.size by omega) (.int .i64 v)
    refine (A1.out _ (HEn.out _ HB6s)).mono ?_
    rintro e w7 ⟨u, xu, rfl, hu, hb7⟩
    have P7 := P6s.on hb7
    have R7 := R6s.on hb7
    have HB7 := below_next HB6s hb7
    have g1 := P7.c1
    have fg1 := P7.fr 1
    clear hb7 P6 R6 HB6 P6s R6s HB6s g0 fg0
    have P7s := P7.set1 u
    have R7s := R7.other (a := ⟨wq.heap.size, 1, none⟩) (show w.heap.size ≠ wq.heap.size by omega) (.int .i64 u)
    have HB7s := HB7.setCell (p := ⟨wq.heap.size, 1, none⟩) (show w.heap.size ≤ wq.heap.size by omega) (.int .i64 u)
    have h0 := P7s.c0
    have h1 := P7s.c1
    have CS := Lib.hid (fun W hT => iShort v u W hT)
    have HS := Lib.hid (same hv hu)
    clear hv hu
    go_wp2_with fail
    refine (CS.out _ (tabOn_next HT.out HB7s)).mono ?_
    rintro e w8 ⟨rfl, hb8⟩
    have P8 := P7s.on hb8
    have R8 := R7s.on hb8
    have HB7 := Lib.hid (below_next HB7s hb8)
    clear hb8 P7 R7 P7s R7s HB7s h0 h1 g1 fg1 CS
    have d0 := P8.c0
    have d1 := P8.c1
    have k0 := R8.c0
    have k1 := R8.c1
    have fr0 := R8.fr 0
    have fr1 := R8.fr 1
    rcases HS.out with ⟨hr, hl2, eo, ef, et⟩ | ⟨hn, eo, ef, et⟩
    · have EO := Lib.hid eo
      have EF := Lib.hid ef
      have ET := Lib.hid et
      have q : (sh v.toNat u.toNat == l) = true := by rw [beq_iff_eq]; exact hl2.symm
      rw [stx_yes hr, hr]
      have Z0 := Lib.hid (R8.set v u).c0
      have Z1 := Lib.hid (R8.set v u).c1
      clear eo ef et hl2 hr HS P8 R8
      go_wp2
      exact bodyPost_ret (v := .tuple #[.agg #[.int .i64 v, .int .i64 u], .bool true]) (by simp [results, Tryd.results13, go_sem, Z0.out, Z1.out]) rfl ⟨ret_agg EF.out.symm ET.out.symm EO.out.symm, (HB7.out.setCell (p := ⟨w.heap.size, 0, none⟩) (Nat.le_refl _) _).setCell (p := ⟨w.heap.size, 1, none⟩) (Nat.le_refl _) _⟩
    · have EO := Lib.hid eo
      have EF := Lib.hid ef
      have ET := Lib.hid et
      have Z0 := Lib.hid (R8.set 0 0).c0
      have Z1 := Lib.hid (R8.set 0 0).c1
      cases hr : rng v u with
      | true =>
        have q := stx_ne hr hn
        rw [stx_yes hr]
        clear eo ef et hn hr HS P8 R8
        go_wp2
        exact bodyPost_ret (v := .tuple #[.agg #[.int .i64 0, .int .i64 0], .bool false]) (by simp [results, Tryd.results13, go_sem, Z0.out, Z1.out]) rfl ⟨ret_agg EF.out.symm ET.out.symm EO.out.symm, (HB7.out.setCell (p := ⟨w.heap.size, 0, none⟩) (Nat.le_refl _) _).setCell (p := ⟨w.heap.size, 1, none⟩) (Nat.le_refl _) _⟩
      | false =>
        rw [stx_no hr]
        clear eo ef et hn hr HS P8 R8
        go_wp2
        exact bodyPost_ret (v := .tuple #[.agg #[.int .i64 0, .int .i64 0], .bool false]) (by simp [results, Tryd.results13, go_sem, Z0.out, Z1.out]) rfl ⟨ret_agg EF.out.symm ET.out.symm EO.out.symm, (HB7.out.setCell (p := ⟨w.heap.size, 0, none⟩) (Nat.le_refl _) _).setCell (p := ⟨w.heap.size, 1, none⟩) (Nat.le_refl _) _⟩
  · have hlt2 : ¬ (0 : Int) < (p0.length : Int) - (p1.length : Int) := by omega
    rw [fill_no hlt] at same
    have A1 := Lib.hid (fun W h => atoi_any p1 (by omega) W h)
    have x1 : wrap64 ((p0.length : Int) - (p1.length : Int)) = (p0.length : Int) - (p1.length : Int) := IntWalk.wrap64_in _ (by omega)
    clear hlt
    have P5 := Pr2.new wq 0 0
    have R5 := PRq.alloc (.cells #[.int .i64 0, .int .i64 0] 26)
    have HB5 := HBq.alloc HBq.size (.cells #[.int .i64 0, .int .i64 0] 26)
    have hsq := PRq.lt
    go_wp2_with fail
    refine (A0.out _ (HEn.out _ HB5)).mono ?_
    rintro e w6 ⟨v, xv, rfl, hv, hb6⟩
    have P6 := P5.on hb6
    have R6 := R5.on hb6
    have HB6 := below_next HB5 hb6
    have g0 := P6.c0
    have fg0 := P6.fr 0
    clear hb6 P5 R5 HB5
    go_wp2_with fail
    have P6s := P6.set0 v
    have R6s := R6.other (a := ⟨wq.heap.size, 0, none⟩) (show w.heap.size ≠ wq.heap.size by omega) (.int .i64 v)
    have HB6s := HB6.setCell (p := ⟨wq.heap.size, 0, none⟩) (show w.heap.size ≤ wq.heap.size by omega) (.int .i64 v)
    refine (A1.out _ (HEn.out _ HB6s)).mono ?_
    rintro e w7 ⟨u, xu, rfl, hu, hb7⟩
    have P7 := P6s.on hb7
    have R7 := R6s.on hb7
    have HB7 := below_next HB6s hb7
    have g1 := P7.c1
    have fg1 := P7.fr 1
    clear hb7 P6 R6 HB6 P6s R6s HB6s g0 fg0
    have P7s := P7.set1 u
    have R7s := R7.other (a := ⟨wq.heap.size, 1, none⟩) (show w.heap.size ≠ wq.heap.size by omega) (.int .i64 u)
    have HB7s := HB7.setCell (p := ⟨wq.heap.size, 1, none⟩) (show w.heap.size ≤ wq.heap.size by omega) (.int .i64 u)
    have h0 := P7s.c0
    have h1 := P7s.c1
    have CS := Lib.hid (fun W hT => iShort v u W hT)
    have HS := Lib.hid (same hv hu)
    clear hv hu
    go_wp2_with fail
    refine (CS.out _ (tabOn_next HT.out HB7s)).mono ?_
    rintro e w8 ⟨rfl, hb8⟩
    have P8 := P7s.on hb8
    have R8 := R7s.on hb8
    have HB7 := Lib.hid (below_next HB7s hb8)
    clear hb8 P7 R7 P7s R7s HB7s h0 h1 g1 fg1 CS
    have d0 := P8.c0
    have d1 := P8.c1
    have k0 := R8.c0
    have k1 := R8.c1
    have fr0 := R8.fr 0
    have fr1 := R8.fr 1
    rcases HS.out with ⟨hr, hl2, eo, ef, et⟩ | ⟨hn, eo, ef, et⟩
    · have EO := Lib.hid eo
      have EF := Lib.hid ef
      have ET := Lib.hid et
      have q : (sh v.toNat u.toNat == l) = true := by rw [beq_iff_eq]; exact hl2.symm
      rw [stx_yes hr, hr]
      have Z0 := Lib.hid (R8.set v u).c0
      have Z1 := Lib.hid (R8.set v u).c1
      clear eo ef et hl2 hr HS P8 R8
      go_wp2
      exact bodyPost_ret (v := .tuple #[.agg #[.int .i64 v, .int .i64 u], .bool true]) (by simp [results, Tryd.results13, go_sem, Z0.out, Z1.out]) rfl ⟨ret_agg EF.out.symm ET.out.symm EO.out.symm, (HB7.out.setCell (p := ⟨w.heap.size, 0, none⟩) (Nat.le_refl _) _).setCell (p := ⟨w.heap.size, 1, none⟩) (Nat.le_refl _) _⟩
    · have EO := Lib.hid eo
      have EF := Lib.hid ef
      have ET := Lib.hid et
      have Z0 := Lib.hid (R8.set 0 0).c0
      have Z1 := Lib.hid (R8.set 0 0).c1
      cases hr : rng v u with
      | true =>
        have q := stx_ne hr hn
        rw [stx_yes hr]
        clear eo ef et hn hr HS P8 R8
        go_wp2
        exact bodyPost_ret (v := .tuple #[.agg #[.int .i64 0, .int .i64 0], .bool false]) (by simp [results, Tryd.results13, go_sem, Z0.out, Z1.out]) rfl ⟨ret_agg EF.out.symm ET.out.symm EO.out.symm, (HB7.out.setCell (p := ⟨w.heap.size, 0, none⟩) (Nat.le_refl _) _).setCell (p := ⟨w.heap.size, 1, none⟩) (Nat.le_refl _) _⟩
      | false =>
        rw [stx_no hr]
        clear eo ef et hn hr HS P8 R8
        go_wp2
        exact bodyPost_ret (v := .tuple #[.agg #[.int .i64 0, .int .i64 0], .bool false]) (by simp [results, Tryd.results13, go_sem, Z0.out, Z1.out]) rfl ⟨ret_agg EF.out.symm ET.out.symm EO.out.symm, (HB7.out.setCell (p := ⟨w.heap.size, 0, none⟩) (Nat.le_refl _) _).setCell (p := ⟨w.heap.size, 1, none⟩) (Nat.le_refl _) _⟩
end Lr
end Go.Proofs.YtlghonnakokioaaDoor
