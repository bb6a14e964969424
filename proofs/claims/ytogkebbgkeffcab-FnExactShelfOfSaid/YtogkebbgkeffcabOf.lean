/- On which shelf each volume stands, from the program's side. -/
import Derived.Test.YtogkebbgkeffcabBs
import Derived.Deep.LoopGhost
import Derived.OneCell
namespace Go.Proofs.Ytogkebbgkeffcab
open Go.RowKit Go.Joins Go.Deep Go.ChangeShapes Go.WideShapes
set_option linter.unusedVariables false
set_option linter.unusedSimpArgs false
namespace Sh
open So (Arr)
theorem own_set8 {wr : World} {base n b : Nat} {v : Value} {xs : List Value} (h : wr.ownsRow base 3 1 v n xs) (hne : v.ownBlock ≠ some b) (v0 v1 v2 v3 v4 v5 v6 v7 : Value) : ((((((((wr.setCell ⟨b, 0, none⟩ v0).setCell ⟨b, 1, none⟩ v1).setCell ⟨b, 2, none⟩ v2).setCell ⟨b, 3, none⟩ v3).setCell ⟨b, 4, none⟩ v4).setCell ⟨b, 5, none⟩ v5).setCell ⟨b, 6, none⟩ v6).setCell ⟨b, 7, none⟩ v7).ownsRow base 3 1 v n xs :=
  (ownsRow_setCell_other (ownsRow_setCell_other (ownsRow_setCell_other (ownsRow_setCell_other (ownsRow_setCell_other (ownsRow_setCell_other (ownsRow_setCell_other (ownsRow_setCell_other h (a := ⟨b, 0, none⟩) hne v0) (a := ⟨b, 1, none⟩) hne v1) (a := ⟨b, 2, none⟩) hne v2) (a := ⟨b, 3, none⟩) hne v3) (a := ⟨b, 4, none⟩) hne v4) (a := ⟨b, 5, none⟩) hne v5) (a := ⟨b, 6, none⟩) hne v6) (a := ⟨b, 7, none⟩) hne v7)
def Lm (f : Nat → Int) (n : Nat) : List Int := (List.range n).map f
theorem Lm_len (f : Nat → Int) (n : Nat) : (Lm f n).length = n := by simp [Lm]
theorem Lm_at (f : Nat → Int) {n k : Nat} (h : k < n) : (Lm f n).getD k 0 = f k := by simp [Lm, List.getD, h]
theorem Lm_ext {f g : Nat → Int} {n : Nat} (h : ∀ k, k < n → f k = g k) : Lm f n = Lm g n := List.map_congr_left fun k hk => h k (List.mem_range.1 hk)
theorem Lm_set (f : Nat → Int) {n k : Nat} (h : k < n) (x : Int) : (Li.nums (Lm f n)).set k (.int .i64 x) = Li.nums (Lm (fun u => if u = k then x else f u) n) := by
  unfold Li.nums Lm
  apply List.ext_getElem
  · simp
  · intro i h1 h2
    by_cases e : i = k
    · subst e; simp
    · rw [List.getElem_set_ne (fun e2 => e e2.symm)]
      simp [e]
def Lf (zs : List Int) (c wide : Int) (j : Nat) (t : Int) (u : Nat) : Int := if u < j then Sf.on zs c wide u else t
def mix (v : Nat) (a b : Nat → Int) (u : Nat) : Int := if u < v then a u else b u
theorem all_same {zs : List Int} {c : Int} {j j2 n : Nat} (ho : Ok zs c) (hn : zs.length = n) (h1 : j ≤ j2) (h2 : j2 ≤ n) : ((List.range 8).all fun i => wf zs c j2 n i == wf zs c j n i) = decide (j2 = j) := by
  rw [Bool.eq_iff_iff]
  simp only [List.all_eq_true, List.mem_range, beq_iff_eq, decide_eq_true_eq]
  constructor
  · intro h
    apply Classical.byContradiction
    intro hne
    have hj : j < n := by omega
    have h8 := ho.2.1
    have := h j (by omega)
    rw [wf_out (by omega), wf_in (Nat.le_refl _) hj] at this
    have := own_in ho j (by omega)
    omega
  · rintro rfl i _; rfl
theorem all_zero {zs : List Int} {c : Int} {j n : Nat} (ho : Ok zs c) (hn : zs.length = n) (h1 : j ≤ n) : ((List.range 8).all fun i => wf zs c j n i == 0) = decide (j = n) := by
  rw [Bool.eq_iff_iff]
  simp only [List.all_eq_true, List.mem_range, beq_iff_eq, decide_eq_true_eq]
  constructor
  · intro h
    apply Classical.byContradiction
    intro hne
    have hj : j < n := by omega
    have h8 := ho.2.1
    have := h j (by omega)
    rw [wf_in (Nat.le_refl _) hj] at this
    have := own_in ho j (by omega)
    omega
  · rintro rfl i _
    exact wf_out (by omega)
def OfR (zs : List Int) (c wide : Int) (n : Nat) (bl go : Nat) (w : World) (gk : Nat) (wr : World) : Prop :=
  ∃ (j : Nat) (t : Int), gk = n - j ∧ j ≤ n ∧ 0 ≤ t ∧ t ≤ j ∧ Arr wr bl 48 (A8 (wf zs c j n)) ∧ wr.ownsRow w.heap.size 3 1 (.slice (some ⟨go, 0, none⟩) n n) n (Li.nums (Lm (Lf zs c wide j t) n)) ∧
    (j < n → Sf.own zs c j ≤ wide → Sf.st zs c wide (j + 1) = (t, wide - Sf.own zs c j)) ∧ (∀ u, u < j → Sf.own zs c u ≤ wide) ∧ Below w.heap.size w wr
def InR (zs : List Int) (c wide : Int) (n : Nat) (bl br go j j2 : Nat) (t : Int) (w : World) (v : Nat) (wr : World) : Prop :=
  v ≤ n ∧ Arr wr bl 48 (A8 (wf zs c j n)) ∧ Arr wr br 48 (A8 (wf zs c j2 n)) ∧ wr.ownsRow w.heap.size 3 1 (.slice (some ⟨go, 0, none⟩) n n) n (Li.nums (Lm (mix v (Lf zs c wide j2 (t + 1)) (Lf zs c wide j t)) n)) ∧ Below w.heap.size w wr
set_option maxRecDepth 100000 in
set_option maxHeartbeats 4000000 in
theorem iOf_yes {b1 g len cap : Nat} {zs : List Int} {c : Int} {w : World} (h : Ow w b1 g len cap zs) (hl : len ≤ 1048576) (hg : good zs c = true) (wide : Int) (hw1 : 1 ≤ wide) (hw2 : wide ≤ 2000) (ok : Bool) (hok : fitB zs c wide = ok) (os : List Int) (hos : (if ok = true then Sf.list zs c wide zs.length else []) = os) :
    Calls Try.prog 25 #[V g len cap c, .int .i64 wide] w (Li.Gives ok os w) := by
  obtain ⟨i0, hi, hz0, hz1, hz2⟩ := info_parts Li.info3
  have HO := Lib.hid (bx_ow h c)
  have hz := ow_len h
  have HB0 := Lib.hid (bx_below w g len cap c)
  have ho := (good_iff zs c).1 hg
  have hl8 : len ≤ 8 := by have := ho.2.1; omega
  have hl1 : 1 ≤ len := by have := ho.1; omega
  have HK := Lib.hid ho
  have HZ := Lib.hid hz
  have HG := Lib.hid hg
  have HOK := Lib.hid hok
  have HOS := Lib.hid hos
  have B := bx_b2 w g len cap c
  obtain ⟨-, q0, q1⟩ := id B
  clear h ho hz hok hos hg
  go_enter Try.func25, Try.ntmps25
  go_wp2_with fail
  refine (iGood_any HO.out hl true HG.out).mono ?_
  rintro e w1 ⟨rfl, hb⟩
  have HB := Lib.hid (HB0.out.trans (below_le hb HB0.out.size))
  have HO1 := Lib.hid (Li.own_on HO.out hb)
  replace B := B.on hb
  clear hb q0 q1
  obtain ⟨-, q0, q1⟩ := id B
  have t1 : decide (wide < 1) = false := by simp; omega
  have t2 : decide (2000 < wide) = false := by simp; omega
  go_wp2_with (first | (at_make; refine wpList_make_full _ rfl _ _ 22 rfl w1.heap.size 3 i0 (.int .i64 0) 1 Try.underlying22 hi hz0 hz1 _ _ _ _ len rfl rfl rfl rfl (by rw [hz2]; omega) (by unfold maxLen; omega) (Nat.le_refl _) ?_; intro w2 hown hg2; have hb2 := Li.below_of_grown hg2; have B3 := B.on hb2; obtain ⟨-, r0, r1⟩ := id B3))
  clear q0 q1 B
  have HS2 := Lib.hid hb2.size
  have HB2 := Lib.hid (HB.out.trans (below_le hb2 HB.out.size))
  have HO2 := Lib.hid (Li.own_on HO1.out hb2)
  have hown0 : w2.ownsRow w.heap.size 3 1 (.slice (some ⟨w1.heap.size, 0, none⟩) len len) len (Li.nums (Lm (Lf zs c wide 0 0) len)) := by
    have e : (madeCells (Value.int .i64 0).cells (len * 1)).toList = Li.nums (Lm (Lf zs c wide 0 0) len) := by
      have e0 : (madeCells (Value.int .i64 0).cells (len * 1)).toList = List.replicate len (.int .i64 0) := by rw [Nat.mul_one]; exact toList_madeCells_one _ _
      rw [e0]
      unfold Li.nums Lm Lf
      rw [List.map_map]
      apply List.ext_getElem
      · simp
      · intro i h1 h2; simp
    rw [← e]
    exact Li.own_le hown HB.out.size
  have HOW := Lib.hid hown0
  clear hown hown0 hg2 hb2
  refine (widths_any HO2.out HK.out).mono ?_
  rintro e w3 ⟨rfl, hb⟩
  have HB3 := Lib.hid (HB2.out.trans (below_le hb HB2.out.size))
  have HOW3 := Lib.hid (Li.own_on HOW.out hb)
  have HL3 := Lib.hid (Arr.new w3 (A8 (wf zs c 0 len)) 48)
  have HGO := Lib.hid (show w.heap.size ≤ w1.heap.size ∧ w1.heap.size < w3.heap.size from ⟨HB.out.size, by have := (HOW3.out.lt _ rfl).2; exact this⟩)
  have HBL := Lib.hid (show w.heap.size ≤ w3.heap.size from HB3.out.size)
  clear hb r0 r1 B3 HOW HO2 HB2 HS2
  go_wp2
  obtain ⟨bl, hbl⟩ : ∃ bl, w3.heap.size = bl := ⟨_, rfl⟩
  obtain ⟨go, hgo⟩ : ∃ go, w1.heap.size = go := ⟨_, rfl⟩
  obtain ⟨w4, hw4⟩ : ∃ w4, w3.alloc (.cells (A8 (wf zs c 0 len)) 48) = w4 := ⟨_, rfl⟩
  have R1' := HL3.out
  have R2' := HOW3.out.alloc (.cells (A8 (wf zs c 0 len)) 48)
  have R3' := HB3.out.alloc HB3.out.size (.cells (A8 (wf zs c 0 len)) 48)
  have GL' := HGO.out
  have BL' := HBL.out
  rw [hw4, hbl] at R1'
  rw [hw4, hgo] at R2'
  rw [hw4] at R3'
  rw [hbl, hgo] at GL'
  rw [hbl] at BL'
  have R1 := Lib.hid R1'
  have R2 := Lib.hid R2'
  have R3 := Lib.hid R3'
  have GL := Lib.hid GL'
  have BL := Lib.hid BL'
  simp only [hw4, hbl, hgo]
  clear R1' R2' R3' GL' BL' HL3 HOW3 HB3 HGO HBL
  clear hw4 hbl hgo
  go_loopg [8] len (fun gk p wr => OfR zs c wide len bl go w gk wr)
  case atStart =>
    exact ⟨0, 0, rfl, Nat.zero_le _, Int.le_refl _, Int.le_refl _, R1.out, R2.out, fun h0 hw => by
      show (if (Sf.st zs c wide 0).2 < Sf.own zs c 0 then ((Sf.st zs c wide 0).1 + 1, wide - Sf.own zs c 0) else ((Sf.st zs c wide 0).1, (Sf.st zs c wide 0).2 - Sf.own zs c 0)) = _
      show (if wide < Sf.own zs c 0 then _ else ((0 : Int), wide - Sf.own zs c 0)) = _
      rw [if_neg (by omega)], fun u hu => by omega, R3.out⟩
  case round =>
    obtain ⟨j, t, hgk, hj, ht0, ht1, a1, a2, a3, a4, hb⟩ := hrel
    have GK := Lib.hid hgk
    have S1 := Lib.hid a1
    have S2 := Lib.hid a2
    have S3 := Lib.hid a3
    have S4 := Lib.hid a4
    have SB := Lib.hid hb
    have SZ := Lib.hid (all_zero HK.out HZ.out hj)
    have hEq0 := A8_equal (wf zs c j len) (fun _ => 0)
    obtain ⟨q0, q1, q2, q3, q4, q5, q6, q7⟩ := c8 a1
    clear hgk a1 a2 a3 a4 hb
    by_cases hjn : j = len
    · subst hjn
      have hEq0' : ∀ W, (Op.equalIn 10000 48 (.agg (A8 (wf zs c j j))) (.agg (A8 fun _ => 0))).run Try.prog W = .ok true W := fun W => by rw [hEq0, SZ.out]; simp
      have E := Lib.hid (show ok = true by
        rw [← HOK.out]
        exact (fitB_iff zs c wide).2 fun u hu => S4.out u (by rw [HZ.out] at hu; omega))
      have E2 := Lib.hid (show os = Lm (Lf zs c wide j t) j by
        rw [← HOS.out, E.out, HZ.out]
        show Sf.list zs c wide j = _
        exact (Lm_ext (fun k hk => by unfold Lf; rw [if_pos hk])).symm)
      have O := Lib.hid (show wr.ownsRow w.heap.size 3 1 (.slice (some ⟨go, 0, none⟩) j j) os.length (Li.nums os) by
        rw [E2.out, Lm_len]
        exact S2.out)
      clear hEq0
      go_wp2
      go_ret2
      rw [E.out]
      exact ⟨_, rfl, O.out, SB.out⟩
    · have hEq0' : ∀ W, (Op.equalIn 10000 48 (.agg (A8 (wf zs c j len))) (.agg (A8 fun _ => 0))).run Try.prog W = .ok false W := fun W => by rw [hEq0, SZ.out]; simp [hjn]
      clear hEq0
      have hj3 : j < len := by omega
      go_wp2_with fail
      refine (behind_any HK.out HZ.out hj hw1 hw2 S3.out).mono ?_
      rintro e w5 ⟨j2, hj1, hj2, rfl, hb5, hbf⟩
      have BF := Lib.hid hbf
      have T1 := Lib.hid ((S1.out.on hb5).on (below_alloc1 w5 (.cells (A8 (wf zs c j2 len)) 48)))
      have T2 := Lib.hid ((Li.own_on S2.out hb5).alloc (.cells (A8 (wf zs c j2 len)) 48))
      have TB := Lib.hid ((SB.out.trans (below_le hb5 SB.out.size)).alloc (Nat.le_trans SB.out.size hb5.size) (.cells (A8 (wf zs c j2 len)) 48))
      have T3 := Lib.hid (Arr.new w5 (A8 (wf zs c j2 len)) 48)
      have TN := Lib.hid (show bl ≠ w5.heap.size ∧ go ≠ w5.heap.size from ⟨by have := S1.out.lt; have := hb5.size; omega, by have := (S2.out.lt go rfl).2; have := hb5.size; omega⟩)
      clear q0 q1 q2 q3 q4 q5 q6 q7 hEq0' hbf hb5
      obtain ⟨q0, q1, q2, q3, q4, q5, q6, q7⟩ := c8 T1.out
      have hEq1 := A8_equal (wf zs c j2 len) (wf zs c j len)
      have SM := Lib.hid (all_same HK.out HZ.out hj1 hj2)
      by_cases hjj : j2 = j
      · have hEq1' : ∀ W, (Op.equalIn 10000 48 (.agg (A8 (wf zs c j2 len))) (.agg (A8 (wf zs c j len)))).run Try.prog W = .ok true W := fun W => by rw [hEq1, SM.out]; simp [hjj]
        have E := Lib.hid (show ok = false by
          rw [← HOK.out]
          cases h2 : fitB zs c wide with
          | false => rfl
          | true =>
            have := (fitB_iff zs c wide).1 h2 j (by rw [HZ.out]; omega)
            have := BF.out.2.2 hjj hj3
            omega)
        have E2 := Lib.hid (show os = [] by rw [← HOS.out, E.out]; rfl)
        clear hEq1 hjj
        go_wp2
        go_ret2
        rw [E.out]
        exact gives_none E2.out TB.out
      · have hEq1' : ∀ W, (Op.equalIn 10000 48 (.agg (A8 (wf zs c j2 len))) (.agg (A8 (wf zs c j len)))).run Try.prog W = .ok false W := fun W => by rw [hEq1, SM.out]; simp [hjj]
        have hj4 : j < j2 := by omega
        clear hEq1
        go_wp2
        clear q0 q1 q2 q3 q4 q5 q6 q7 hEq1'
        obtain ⟨br, hbr⟩ : ∃ br, w5.heap.size = br := ⟨_, rfl⟩
        obtain ⟨w6, hw6⟩ : ∃ w6, w5.alloc (.cells (A8 (wf zs c j2 len)) 48) = w6 := ⟨_, rfl⟩
        have T1' := T1.out
        have T2' := T2.out
        have T3' := T3.out
        have TB' := TB.out
        have TN' := TN.out
        rw [hw6] at T1' T2' TB'
        rw [hw6, hbr] at T3'
        rw [hbr] at TN'
        simp only [hw6, hbr]
        have IS := Lib.hid (show InR zs c wide len bl br go j j2 t w 0 w6 from ⟨Nat.zero_le _, T1', T3', by
          rw [Lm_ext (f := mix 0 (Lf zs c wide j2 (t + 1)) (Lf zs c wide j t)) (g := Lf zs c wide j t) (fun k hk => by unfold mix; rw [if_neg (by omega)])]
          exact T2', TB'⟩)
        have NN := Lib.hid TN'
        clear T1' T2' T3' TB' TN' T1 T2 T3 TB TN hw6 hbr SM
        go_loopw [38] (fun i wi => ∃ v : Nat, i = .int .i64 (v : Int) ∧ InR zs c wide len bl br go j j2 t w v wi) (fun i _ => ((len : Int) - intOf i).toNat)
        case atStart => exact ⟨0, rfl, IS.out⟩
        case round =>
          obtain ⟨v, rfl, hv, b1', b2', b3', hb'⟩ := hrel
          have V1 := Lib.hid b1'
          have V2 := Lib.hid b2'
          have V3 := Lib.hid b3'
          have VB := Lib.hid hb'
          clear b1' b2' b3' hb'
          by_cases hlt : (v : Int) < len
          · have hv2 : v < len := by omega
            have hv8 : v < 8 := by omega
            have hq := V2.out.cell (A8_at (wf zs c j2 len) v hv8)
            by_cases hvj : j2 ≤ v
            · rw [wf_in hvj hv2] at hq
              have oo := own_in HK.out v (by rw [HZ.out]; omega)
              obtain ⟨y, hy⟩ : ∃ y, Sf.own zs c v = y := ⟨_, rfl⟩
              rw [hy] at hq oo
              have y1 := oo.1
              have hcell : wr.cell? ⟨go, v, none⟩ = some (.int .i64 t) := by
                rw [ow_cell V3.out hv2, Lm_at _ hv2]
                unfold mix Lf
                rw [if_neg (by omega), if_neg (by omega)]
              have hfz := V3.out.frozenAt v
              obtain ⟨st1, gr1⟩ := V3.out.stored v (.int .i64 (t + 1))
              have W3 := Lib.hid (show (wr.setCell ⟨go, v, none⟩ (.int .i64 (t + 1))).ownsRow w.heap.size 3 1 (.slice (some ⟨go, 0, none⟩) len len) len (Li.nums (Lm (mix (v + 1) (Lf zs c wide j2 (t + 1)) (Lf zs c wide j t)) len)) by
                rw [Lm_set _ hv2] at st1
                rw [Lm_ext (f := mix (v + 1) (Lf zs c wide j2 (t + 1)) (Lf zs c wide j t)) (g := fun u => if u = v then t + 1 else mix v (Lf zs c wide j2 (t + 1)) (Lf zs c wide j t) u) (fun k hk => by
                  by_cases ek : k = v
                  · subst ek
                    rw [if_pos rfl]
                    unfold mix Lf
                    rw [if_pos (by omega), if_neg (by omega)]
                  · rw [if_neg ek]
                    unfold mix
                    by_cases e2 : k < v
                    · rw [if_pos (by omega), if_pos e2]
                    · rw [if_neg (by omega), if_neg e2])]
                exact st1)
              have W1 := Lib.hid (arr_other V1.out (b' := go) (by have := GL.out; omega) v (.int .i64 (t + 1)))
              have W2 := Lib.hid (arr_other V2.out (b' := go) (by have := NN.out.2; omega) v (.int .i64 (t + 1)))
              have WB := Lib.hid (VB.out.setCell (p := ⟨go, v, none⟩) GL.out.1 (.int .i64 (t + 1)))
              clear st1 gr1 hy oo
              go_wp2
              go_roundw
              case rel => exact ⟨v + 1, by go_num, by omega, W1.out, W2.out, W3.out, WB.out⟩
              case measure => simp [intOf]; omega
            · rw [wf_out (by omega)] at hq
              have W3 := Lib.hid (show wr.ownsRow w.heap.size 3 1 (.slice (some ⟨go, 0, none⟩) len len) len (Li.nums (Lm (mix (v + 1) (Lf zs c wide j2 (t + 1)) (Lf zs c wide j t)) len)) by
                rw [Lm_ext (f := mix (v + 1) (Lf zs c wide j2 (t + 1)) (Lf zs c wide j t)) (g := mix v (Lf zs c wide j2 (t + 1)) (Lf zs c wide j t)) (fun k hk => by
                  unfold mix
                  by_cases e2 : k < v
                  · rw [if_pos (by omega), if_pos e2]
                  · by_cases ek : k = v
                    · subst ek
                      rw [if_pos (by omega), if_neg e2]
                      unfold Lf
                      rw [if_pos (by omega)]
                      by_cases e3 : k < j
                      · rw [if_pos e3]
                      · rw [if_neg e3, (BF.out.1 k (by omega) (by omega)).1]
                    · rw [if_neg (by omega), if_neg e2])]
                exact V3.out)
              go_wp2
              go_roundw
              case rel => exact ⟨v + 1, by go_num, by omega, V1.out, V2.out, W3.out, VB.out⟩
              case measure => simp [intOf]; omega
          · have e : v = len := by omega
            subst e
            obtain ⟨q0, q1, q2, q3, q4, q5, q6, q7⟩ := c8 V2.out
            obtain ⟨r0, r1, r2, r3, r4, r5, r6, r7⟩ := c8 V1.out
            have hfz := fun u => V1.out.frozen u
            have N1 := Lib.hid (arr_set8 (wf zs c j2 v) V1.out)
            have NB := Lib.hid (below_set8 VB.out BL.out (.int .i64 (wf zs c j2 v 0)) (.int .i64 (wf zs c j2 v 1)) (.int .i64 (wf zs c j2 v 2)) (.int .i64 (wf zs c j2 v 3)) (.int .i64 (wf zs c j2 v 4)) (.int .i64 (wf zs c j2 v 5)) (.int .i64 (wf zs c j2 v 6)) (.int .i64 (wf zs c j2 v 7)))
            have N3' : wr.ownsRow w.heap.size 3 1 (.slice (some ⟨go, 0, none⟩) v v) v (Li.nums (Lm (Lf zs c wide j2 (t + 1)) v)) := by
              rw [Lm_ext (f := Lf zs c wide j2 (t + 1)) (g := mix v (Lf zs c wide j2 (t + 1)) (Lf zs c wide j t)) (fun k hk => by unfold mix; rw [if_pos hk])]
              exact V3.out
            have hgb : (Value.slice (some ⟨go, 0, none⟩) v v).ownBlock ≠ some bl := fun e => by
              have e2 : some go = some bl := e
              injection e2 with e2
              have := GL.out.2
              omega
            have N3 := Lib.hid (own_set8 N3' hgb (.int .i64 (wf zs c j2 v 0)) (.int .i64 (wf zs c j2 v 1)) (.int .i64 (wf zs c j2 v 2)) (.int .i64 (wf zs c j2 v 3)) (.int .i64 (wf zs c j2 v 4)) (.int .i64 (wf zs c j2 v 5)) (.int .i64 (wf zs c j2 v 6)) (.int .i64 (wf zs c j2 v 7)))
            have NU := Lib.hid (show ∀ u, u < j2 → Sf.own zs c u ≤ wide from fun u hu => by
              by_cases e3 : u < j
              · exact S4.out u e3
              · exact (BF.out.1 u (by omega) hu).2)
            clear N3' hgb
            go_wp2
            go_roundg (v - j2)
            case measure => have := GK.out; omega
            case rel => exact ⟨j2, t + 1, rfl, hj2, by omega, by omega, N1.out, N3.out, BF.out.2.1, NU.out, NB.out⟩
end Sh
end Go.Proofs.Ytogkebbgkeffcab
