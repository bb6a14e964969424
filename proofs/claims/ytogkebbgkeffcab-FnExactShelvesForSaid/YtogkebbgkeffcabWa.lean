/- Arrays of eight widths: their cells, how they are compared; the widths of a shelf's volumes. -/
import Derived.Test.YtogkebbgkeffcabOn
import Derived.Test.YtogkebbgkeffcabSo2
import Derived.ChangeKeysEq
import Derived.Laws.StructEq
namespace Go.Proofs.Ytogkebbgkeffcab
open Go.RowKit Go.Joins Go.Deep Go.ChangeShapes Go.WideShapes
set_option linter.unusedVariables false
set_option linter.unusedSimpArgs false
namespace Sh
open So (Arr)
/-- eight numbers -/
abbrev A8 (f : Nat → Int) : Array Value := #[.int .i64 (f 0), .int .i64 (f 1), .int .i64 (f 2), .int .i64 (f 3), .int .i64 (f 4), .int .i64 (f 5), .int .i64 (f 6), .int .i64 (f 7)]
theorem lt8 {P : Nat → Prop} (h0 : P 0) (h1 : P 1) (h2 : P 2) (h3 : P 3) (h4 : P 4) (h5 : P 5) (h6 : P 6) (h7 : P 7) : ∀ k, k < 8 → P k
  | 0, _ => h0 | 1, _ => h1 | 2, _ => h2 | 3, _ => h3 | 4, _ => h4 | 5, _ => h5 | 6, _ => h6 | 7, _ => h7
  | k + 8, h => by omega
theorem A8_at (f : Nat → Int) : ∀ k, k < 8 → (A8 f)[k]? = some (.int .i64 (f k)) := lt8 rfl rfl rfl rfl rfl rfl rfl rfl
theorem A8_set (f : Nat → Int) (x : Int) : ∀ k, k < 8 → (A8 f).setIfInBounds k (.int .i64 x) = A8 (fun j => if j = k then x else f j) := lt8 rfl rfl rfl rfl rfl rfl rfl rfl
theorem A8_ext {f g : Nat → Int} (h : ∀ j, j < 8 → f j = g j) : A8 f = A8 g := by
  unfold A8
  rw [h 0 (by omega), h 1 (by omega), h 2 (by omega), h 3 (by omega), h 4 (by omega), h 5 (by omega), h 6 (by omega), h 7 (by omega)]
theorem arr_other {W : World} {b b' : Nat} {T : TypeId} {cur : Array Value} (h : Arr W b T cur) (hne : b ≠ b') (j : Nat) (v : Value) : Arr (W.setCell ⟨b', j, none⟩ v) b T cur := (Below.heap_setCell W ⟨b', j, none⟩ v b hne).trans h
theorem eqItems_ints {P : Program} (e : TypeId) (he : P.underlying e = some (.int .i64)) (xs ys : Array Value) (f g : Nat → Int) (d : Nat) (w : World) : ∀ is : List Nat, (∀ i ∈ is, xs[i]? = some (.int .i64 (f i)) ∧ ys[i]? = some (.int .i64 (g i))) →
    (Op.eqItems (d + 1) e 1 xs ys is).run P w = .ok (is.all fun i => f i == g i) w := by
  intro is
  induction is with
  | nil => intro _; rfl
  | cons i is ih =>
    intro h
    obtain ⟨h1, h2⟩ := h i (by simp)
    have px : (part e xs (i * 1)).run P w = .ok (.int .i64 (f i)) w := by simp [part, isAgg, run_underlying he, h1]
    have py : (part e ys (i * 1)).run P w = .ok (.int .i64 (g i)) w := by simp [part, isAgg, run_underlying he, h2]
    have pe := run_equalIn_int (P := P) w d e .i64 .i64 (f i) (g i) he
    have it := ih (fun j hj => h j (by simp [hj]))
    simp only [Op.eqItems, Sem.run_bind, px, py, pe, Result.andThen_ok, List.all_cons]
    cases (f i == g i)
    · rfl
    · simpa using it
theorem A8_equal (f g : Nat → Int) (W : World) : (Op.equalIn 10000 48 (.agg (A8 f)) (.agg (A8 g))).run Try.prog W = .ok ((List.range 8).all fun i => f i == g i) W := by
  obtain ⟨i0, hi, hz0, hz1, hz2⟩ := info_parts Li.info3
  have e3 : Try.prog.cellsOf 3 = 1 := by kernel_rfl
  have hu : Try.prog.underlying 48 = some (.array 8 3) := Try.underlying48
  rw [run_equalIn_array W 9999 (A8 f) (A8 g) hu hi, e3]
  exact eqItems_ints 3 Try.underlying3 (A8 f) (A8 g) f g 9998 W (List.range 8) (fun i hi => ⟨A8_at f i (List.mem_range.1 hi), A8_at g i (List.mem_range.1 hi)⟩)
/-- eight cells -/
def C8 (W : World) (b : Nat) (f : Nat → Int) : Prop := W.cell? ⟨b, 0, none⟩ = some (.int .i64 (f 0)) ∧ W.cell? ⟨b, 1, none⟩ = some (.int .i64 (f 1)) ∧ W.cell? ⟨b, 2, none⟩ = some (.int .i64 (f 2)) ∧ W.cell? ⟨b, 3, none⟩ = some (.int .i64 (f 3)) ∧ W.cell? ⟨b, 4, none⟩ = some (.int .i64 (f 4)) ∧ W.cell? ⟨b, 5, none⟩ = some (.int .i64 (f 5)) ∧ W.cell? ⟨b, 6, none⟩ = some (.int .i64 (f 6)) ∧ W.cell? ⟨b, 7, none⟩ = some (.int .i64 (f 7))
theorem c8 {W : World} {b : Nat} {T : TypeId} {f : Nat → Int} (h : Arr W b T (A8 f)) : C8 W b f :=
  ⟨h.cell (A8_at f 0 (by omega)), h.cell (A8_at f 1 (by omega)), h.cell (A8_at f 2 (by omega)), h.cell (A8_at f 3 (by omega)), h.cell (A8_at f 4 (by omega)), h.cell (A8_at f 5 (by omega)), h.cell (A8_at f 6 (by omega)), h.cell (A8_at f 7 (by omega))⟩
/-- the widths of the first n volumes from j on -/
def wf (zs : List Int) (c : Int) (j n v : Nat) : Int := if j ≤ v ∧ v < n then Sf.own zs c v else 0
theorem small_one {c z : Int} (c1 : 0 ≤ c) (c2 : c ≤ 10) (h : 1 ≤ z ∧ z ≤ 100) : Small c [z] 1 := by
  refine ⟨c1, c2, by omega, fun j hj => ?_⟩
  have e : j = 0 := by omega
  subst e
  exact h
theorem lf_one (c z : Int) : lf c [z] 1 = z + 2 * c := by show 0 + (z + 2 * c) = _; omega
theorem cell_other {W : World} {b o b' j : Nat} {v u : Value} (h : W.cell? ⟨b, o, none⟩ = some v) (hne : b ≠ b') : (W.setCell ⟨b', j, none⟩ u).cell? ⟨b, o, none⟩ = some v :=
  (World.cell?_of_block (w := W) (a := ⟨b, o, none⟩) (Below.heap_setCell W ⟨b', j, none⟩ u b hne)).trans h
theorem cell_alloc {W : World} {b o : Nat} {v : Value} (h : W.cell? ⟨b, o, none⟩ = some v) (x : Obj) : (W.alloc x).cell? ⟨b, o, none⟩ = some v :=
  ((below_alloc1 W x).cell (p := ⟨b, o, none⟩) (World.block_lt_of_cell? _ _ h)).trans h
theorem arr_new (w : World) (cur : Array Value) (T : TypeId) {b : Nat} (hb : b = w.heap.size) : Arr (w.alloc (.cells cur T)) b T cur := by
  subst hb
  exact Arr.new w cur T
theorem below_set8 {B b : Nat} {w wr : World} (hb : Below B w wr) (hp : B ≤ b) (v0 v1 v2 v3 v4 v5 v6 v7 : Value) : Below B w ((((((((wr.setCell ⟨b, 0, none⟩ v0).setCell ⟨b, 1, none⟩ v1).setCell ⟨b, 2, none⟩ v2).setCell ⟨b, 3, none⟩ v3).setCell ⟨b, 4, none⟩ v4).setCell ⟨b, 5, none⟩ v5).setCell ⟨b, 6, none⟩ v6).setCell ⟨b, 7, none⟩ v7) :=
  ((((((((hb.setCell (p := ⟨b, 0, none⟩) hp v0).setCell (p := ⟨b, 1, none⟩) hp v1).setCell (p := ⟨b, 2, none⟩) hp v2).setCell (p := ⟨b, 3, none⟩) hp v3).setCell (p := ⟨b, 4, none⟩) hp v4).setCell (p := ⟨b, 5, none⟩) hp v5).setCell (p := ⟨b, 6, none⟩) hp v6).setCell (p := ⟨b, 7, none⟩) hp v7)
theorem arr_ext {W : World} {b : Nat} {T : TypeId} {f g : Nat → Int} (h : ∀ j, j < 8 → f j = g j) (ha : Arr W b T (A8 f)) : Arr W b T (A8 g) := A8_ext h ▸ ha
theorem arr_set8 {wr : World} {b : Nat} {T : TypeId} {e : Nat → Int} (f : Nat → Int) (h : Arr wr b T (A8 e)) : Arr ((((((((wr.setCell ⟨b, 0, none⟩ (.int .i64 (f 0))).setCell ⟨b, 1, none⟩ (.int .i64 (f 1))).setCell ⟨b, 2, none⟩ (.int .i64 (f 2))).setCell ⟨b, 3, none⟩ (.int .i64 (f 3))).setCell ⟨b, 4, none⟩ (.int .i64 (f 4))).setCell ⟨b, 5, none⟩ (.int .i64 (f 5))).setCell ⟨b, 6, none⟩ (.int .i64 (f 6))).setCell ⟨b, 7, none⟩ (.int .i64 (f 7))) b T (A8 f) := by
  have h0 := So.Arr.set h 0 (.int .i64 (f 0))
  rw [A8_set _ _ 0 (by omega)] at h0
  have h1 := So.Arr.set h0 1 (.int .i64 (f 1))
  rw [A8_set _ _ 1 (by omega)] at h1
  have h2 := So.Arr.set h1 2 (.int .i64 (f 2))
  rw [A8_set _ _ 2 (by omega)] at h2
  have h3 := So.Arr.set h2 3 (.int .i64 (f 3))
  rw [A8_set _ _ 3 (by omega)] at h3
  have h4 := So.Arr.set h3 4 (.int .i64 (f 4))
  rw [A8_set _ _ 4 (by omega)] at h4
  have h5 := So.Arr.set h4 5 (.int .i64 (f 5))
  rw [A8_set _ _ 5 (by omega)] at h5
  have h6 := So.Arr.set h5 6 (.int .i64 (f 6))
  rw [A8_set _ _ 6 (by omega)] at h6
  have h7 := So.Arr.set h6 7 (.int .i64 (f 7))
  rw [A8_set _ _ 7 (by omega)] at h7
  refine arr_ext ?_ h7
  intro j hj
  have hj2 : j = 0 ∨ j = 1 ∨ j = 2 ∨ j = 3 ∨ j = 4 ∨ j = 5 ∨ j = 6 ∨ j = 7 := by omega
  rcases hj2 with rfl | rfl | rfl | rfl | rfl | rfl | rfl | rfl <;> simp
theorem wf_step (zs : List Int) (c : Int) (k : Nat) : A8 (fun j => if j = k then Sf.own zs c k else wf zs c 0 k j) = A8 (wf zs c 0 (k + 1)) := by
  refine A8_ext fun j hj => ?_
  unfold wf
  by_cases e : j = k
  · subst e; rw [if_pos rfl, if_pos (by omega)]
  · rw [if_neg e]
    by_cases e2 : j < k
    · rw [if_pos (by omega), if_pos (by omega)]
    · rw [if_neg (by omega), if_neg (by omega)]
set_option maxRecDepth 100000 in
set_option maxHeartbeats 2000000 in
theorem widths_any {b1 g len cap : Nat} {zs : List Int} {c : Int} {w : World} (h : Ow w b1 g len cap zs) (ho : Ok zs c) :
    Calls Try.prog 41 #[V g len cap c] w (Ret (.agg (A8 (wf zs c 0 len))) w) := by
  have HO0 := Lib.hid h
  have hz := ow_len h
  have hl8 : len ≤ 8 := by have := ho.2.1; omega
  have c1 := ho.2.2.2.1
  have c2 := ho.2.2.2.2
  have HK := Lib.hid ho
  have HZ := Lib.hid hz
  have eg : ∀ args w, (callFunc 52 args).run Try.prog w = .ok (.enter 52 args) w := enters_of Try.func52 (by kernel_rfl) rfl
  have ha1 : Arr (((bx w g len cap c).alloc (.cells (A8 fun _ => 0) 48)).alloc (.cells (A8 fun _ => 0) 48)) (w.heap.size + 1) 48 (A8 fun _ => 0) :=
    (arr_new (bx w g len cap c) (A8 fun _ => 0) 48 (by simp)).on (below_alloc1 _ _)
  have ha2 : Arr (((bx w g len cap c).alloc (.cells (A8 fun _ => 0) 48)).alloc (.cells (A8 fun _ => 0) 48)) (w.heap.size + 1 + 1) 48 (A8 (wf zs c 0 0)) := by
    have h1 := arr_new ((bx w g len cap c).alloc (.cells (A8 fun _ => 0) 48)) (A8 fun _ => 0) 48 (b := w.heap.size + 1 + 1) (by simp)
    rw [A8_ext (f := wf zs c 0 0) (g := fun _ => 0) (fun j hj => by unfold wf; rw [if_neg (by omega)])]
    exact h1
  have hb3 : Below w.heap.size w (((bx w g len cap c).alloc (.cells (A8 fun _ => 0) 48)).alloc (.cells (A8 fun _ => 0) 48)) :=
    ((bx_below w g len cap c).alloc (by simp) _).alloc (by simp; omega) _
  have HA1 := Lib.hid (ha1.on (below_alloc1 _ (.cells #[.slice (some ⟨g, 0, none⟩) len cap, .int .i64 c] 36)))
  have HA2 := Lib.hid (ha2.on (below_alloc1 _ (.cells #[.slice (some ⟨g, 0, none⟩) len cap, .int .i64 c] 36)))
  have HB4 := Lib.hid (hb3.alloc hb3.size (.cells #[.slice (some ⟨g, 0, none⟩) len cap, .int .i64 c] 36))
  have HC4 := Lib.hid (bcell2 (w := ((bx w g len cap c).alloc (.cells (A8 fun _ => 0) 48)).alloc (.cells (A8 fun _ => 0) 48)) (x := .slice (some ⟨g, 0, none⟩) len cap) (y := .int .i64 c) (T := 36) (k := w.heap.size + 1 + 1 + 1) (by simp))
  clear h ho hz ha1 ha2 hb3
  go_enter Try.func41, Try.ntmps41
  go_wp2_with fail
  refine (width_any g len cap c _).mono ?_
  rintro e w' ⟨rfl, rfl⟩
  go_wp2
  go_loopw [12] (fun i wr => ∃ k : Nat, k ≤ len ∧ i = .int .i64 (k : Int) ∧ Arr wr (w.heap.size + 1) 48 (A8 fun _ => 0) ∧ Arr wr (w.heap.size + 1 + 1) 48 (A8 (wf zs c 0 k)) ∧ wr.cell? ⟨w.heap.size + 1 + 1 + 1, 1, none⟩ = some (.int .i64 c) ∧ Below w.heap.size w wr) (fun i _ => ((len : Int) - intOf i).toNat)
  case atStart => exact ⟨0, by omega, rfl, HA1.out, HA2.out, HC4.out, HB4.out⟩
  case round =>
    obtain ⟨k, hk, rfl, a1, a2, hc1, hb⟩ := hrel
    have R1 := Lib.hid a1
    have R2 := Lib.hid a2
    have R3 := Lib.hid hc1
    have HB := Lib.hid hb
    clear a1 a2 hc1 hb
    by_cases hlt : (k : Int) < len
    · have hk2 : k < len := by omega
      have hk8 : k < 8 := by omega
      obtain ⟨z, HZK, hc⟩ := ow_at (Li.own_on HO0.out HB.out) hk2
      have ht := HK.out.2.2.1 k (by rw [HZ.out]; omega)
      rw [HZK.out] at ht
      have EO := Lib.hid (show Sf.own zs c k = z + 2 * c by unfold Sf.own; rw [HZK.out])
      have CC := Lib.hid (show ∀ W, W = wr.alloc (.cells #[.int .i64 z] 3) → Calls Try.prog 52 #[.slice (some ⟨wr.heap.size, 0, none⟩) 1 1, .pointer (some ⟨w.heap.size + 1 + 1 + 1, 0, none⟩)] W fun e w' => e = .returned (.int .i64 (z + 2 * c)) ∧ W = w' from by
        rintro W rfl
        rw [← lf_one]
        exact width1_any (small_one c1 c2 ht) (fun j hj => by
          have e : j = 0 := by omega
          subst e
          show _ = some (Value.int .i64 z)
          simp [go_sem]) (cell_alloc R3.out _))
      have HB2 := Lib.hid (HB.out.alloc HB.out.size (.cells #[.int .i64 z] 3))
      have S1 := Lib.hid (R1.out.on (below_alloc1 wr (.cells #[.int .i64 z] 3)))
      have S2 := Lib.hid (R2.out.on (below_alloc1 wr (.cells #[.int .i64 z] 3)))
      have S3 := Lib.hid (cell_alloc R3.out (.cells #[.int .i64 z] 3))
      clear ht
      go_wp2_with fail
      refine (CC.out _ rfl).mono ?_
      rintro e w' ⟨rfl, rfl⟩
      obtain ⟨w5, hw5⟩ : ∃ w5, wr.alloc (.cells #[.int .i64 z] 3) = w5 := ⟨_, rfl⟩
      have T1 := S1.out
      have T2 := S2.out
      have T3 := S3.out
      have HB5 := HB2.out
      rw [hw5] at T1 T2 T3 HB5
      simp only [hw5]
      have hq := T2.cell (A8_at (wf zs c 0 k) k hk8)
      have hfz := T2.frozen k
      have U1 := Lib.hid (arr_other T1 (b' := w.heap.size + 1 + 1) (by omega) k (.int .i64 (z + 2 * c)))
      have U3 := Lib.hid (cell_other (b' := w.heap.size + 1 + 1) (j := k) (u := .int .i64 (z + 2 * c)) T3 (by omega))
      have U2 := Lib.hid (show Arr (w5.setCell ⟨w.heap.size + 1 + 1, k, none⟩ (.int .i64 (z + 2 * c))) (w.heap.size + 1 + 1) 48 (A8 (wf zs c 0 (k + 1))) by
        have h1 := T2.set k (.int .i64 (z + 2 * c))
        rw [A8_set _ _ k hk8, ← EO.out, wf_step] at h1
        rw [← EO.out]
        exact h1)
      have HB6 := Lib.hid (HB5.setCell (p := ⟨w.heap.size + 1 + 1, k, none⟩) (by simp; omega) (.int .i64 (z + 2 * c)))
      clear T1 T2 T3 HB5 hw5
      go_wp2
      go_roundw
      case rel => exact ⟨k + 1, by omega, by go_num, U1.out, U2.out, U3.out, HB6.out⟩
      case measure => simp [intOf]; omega
    · have e : k = len := by omega
      subst e
      obtain ⟨q0, q1, q2, q3, q4, q5, q6, q7⟩ := c8 R2.out
      obtain ⟨r0, r1, r2, r3, r4, r5, r6, r7⟩ := c8 R1.out
      have hfz := fun j => R1.out.frozen j
      go_wp2
      have hC := c8 (arr_set8 (wf zs c 0 k) R1.out)
      have hB := below_set8 HB.out (show w.heap.size ≤ w.heap.size + 1 by omega) (.int .i64 (wf zs c 0 k 0)) (.int .i64 (wf zs c 0 k 1)) (.int .i64 (wf zs c 0 k 2)) (.int .i64 (wf zs c 0 k 3)) (.int .i64 (wf zs c 0 k 4)) (.int .i64 (wf zs c 0 k 5)) (.int .i64 (wf zs c 0 k 6)) (.int .i64 (wf zs c 0 k 7))
      clear q0 q1 q2 q3 q4 q5 q6 q7 r0 r1 r2 r3 r4 r5 r6 r7 hfz
      revert hC hB
      generalize ((((((((wr.setCell ⟨w.heap.size + 1, 0, none⟩ (.int .i64 (wf zs c 0 k 0))).setCell ⟨w.heap.size + 1, 1, none⟩ (.int .i64 (wf zs c 0 k 1))).setCell ⟨w.heap.size + 1, 2, none⟩ (.int .i64 (wf zs c 0 k 2))).setCell ⟨w.heap.size + 1, 3, none⟩ (.int .i64 (wf zs c 0 k 3))).setCell ⟨w.heap.size + 1, 4, none⟩ (.int .i64 (wf zs c 0 k 4))).setCell ⟨w.heap.size + 1, 5, none⟩ (.int .i64 (wf zs c 0 k 5))).setCell ⟨w.heap.size + 1, 6, none⟩ (.int .i64 (wf zs c 0 k 6))).setCell ⟨w.heap.size + 1, 7, none⟩ (.int .i64 (wf zs c 0 k 7))) = W8
      intro hC hB
      obtain ⟨q0, q1, q2, q3, q4, q5, q6, q7⟩ := hC
      exact bodyPost_ret (v := .agg (A8 (wf zs c 0 k))) (by simp [results, Try.results41, go_sem, q0, q1, q2, q3, q4, q5, q6, q7]) rfl ⟨rfl, hB⟩
end Sh
end Go.Proofs.Ytogkebbgkeffcab
