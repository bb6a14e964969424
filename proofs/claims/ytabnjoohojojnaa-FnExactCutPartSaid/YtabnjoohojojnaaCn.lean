/- A part cut out and put in, by the program. -/
import Derived.Test.YtabnjoohojojnaaCm
import Derived.Test.YtabnjoohojojnaaMvShelf
import Derived.Test.YtabnjoohojojnaaBy
import Derived.Test.YtabnjoohojojnaaBx
import Derived.Shelf.SlicesG.Delete
import Derived.Shelf.Spec.SlicesInsert
import Derived.Lib.RowBridge
namespace Go.Proofs.Ytabnjoohojojnaa
open Go.RowKit Go.Joins Go.Deep Go.ChangeShapes Go.WideShapes
set_option linter.unusedVariables false
set_option linter.ambiguousOpen false
set_option linter.unusedSimpArgs false
namespace Ln
theorem own_setCells {base g n cap B : Nat} {w0 : World} : ∀ (vs xs : List Value) (k : Nat) (w : World), w.ownsRow base 3 1 (.slice (some ⟨g, 0, none⟩) n cap) n xs → Below B w0 w → B ≤ g → (w.setCells g k vs).ownsRow base 3 1 (.slice (some ⟨g, 0, none⟩) n cap) n (setL xs k vs) ∧ Below B w0 (w.setCells g k vs)
  | [], xs, k, w, h, hb, hg => ⟨h, hb⟩
  | v :: r, xs, k, w, h, hb, hg => own_setCells r (xs.set k v) (k + 1) (w.setCell ⟨g, k, none⟩ v) (h.stored k v).1 (hb.setCell (p := ⟨g, k, none⟩) hg v) hg
theorem row_block {W : World} {base g n cap : Nat} {xs : List Value} (h : W.ownsRow base 3 1 (.slice (some ⟨g, 0, none⟩) n cap) n xs) : ∃ cur, W.heap[g]? = some (.cells cur 3 (0, 0)) ∧ cur.size = cap := by
  obtain ⟨_, ⟨h0, _⟩ | ⟨g', cap', cur, hv, hbase, hheap, hncap, hcapmax, hsize, htake⟩⟩ := h
  · injection h0 with e; cases e
  · injection hv with e1 e2 e3
    injection e1 with e4
    injection e4 with e5
    subst e5 e3
    exact ⟨cur, hheap, by omega⟩
theorem nums_at (R : List Int) (k : Nat) (v : Value) (h : (Li.nums R)[k]? = some v) : k < R.length ∧ v = .int .i64 (R.getD k 0) := by
  have hk : k < R.length := by
    rcases Nat.lt_or_ge k R.length with h1 | h1
    · exact h1
    · rw [List.getElem?_eq_none (by rw [Li.nums_length]; omega)] at h
      cases h
  refine ⟨hk, ?_⟩
  simp [Li.nums, hk] at h
  rw [← h]
  simp [List.getD, hk]
theorem app_at (R S : List Int) (k : Nat) (h : k < R.length) : (R ++ S).getD k 0 = R.getD k 0 := by simp [List.getD, List.getElem?_append_left h]
theorem nil_no (a : Addr) (n c : Nat) (w : World) : (binOp BinOp.eql 22 (.slice (some a) n c) (.slice none 0 0)).run Try.prog w = .ok (.bool false) w := by
  first | rfl | kernel_rfl
set_option maxRecDepth 100000 in
set_option maxHeartbeats 1000000 in
theorem clone_s {go n cap b1 : Nat} {zs : List Int} {w : World} (h : Ow w b1 go n cap zs) (hn : n ≤ 1048576) (h1 : 1 ≤ n) : Calls Try.prog 80 #[.slice (some ⟨go, 0, none⟩) n cap] w (GS zs n w) := by
  obtain ⟨i0, hi, hz0, hz1, hz2⟩ := info_parts Li.info3
  have O := own_empty w w.heap.size (Nat.le_refl _) #[] rfl
  have HO := Lib.hid O
  have hl := ow_len h
  have HH := Lib.hid (src_s hl (ow_lt h).2 (fun j hj => ow_cell h hj) #[])
  have HN := Lib.hid (show (Li.nums zs).length = n * 1 by rw [Li.nums_length, hl, Nat.mul_one])
  clear h hl
  have hnil := nil_no ⟨go, 0, none⟩ n cap
  go_enter Try.func80, Try.ntmps80
  go_wp2_with (first | (at_builtin; refine wpList_append_own _ rfl _ _ 22 rfl w.heap.size 3 i0 (.int .i64 0) 1 8 Try.underlying22 hi hz0 hz1 hz2 rfl (by decide) _ _ _ rfl O ⟨go, 0, none⟩ n cap (Li.nums zs) rfl HN.out HH.out (nums_one zs) (by unfold maxLen; omega) (by omega) (by simp) ?_; intro v2 w2 hown2 hgrow2 hnil2))
  clear O
  obtain ⟨g2, c2, rfl⟩ := some_of_not hown2 (fun e => by have := (hnil2.1 e).1; injection this with h1; cases h1)
  have HO2 := Lib.hid hown2
  clear hown2 hnil2
  go_ret
  refine ⟨g2, c2, by simp, ?_, ?_⟩
  · simpa using HO2.out
  · exact (below_alloc1 w (.cells #[] 3)).grown hgrow2 (by simp) (fun j hj => by have := (HO.out.lt j hj).1; omega)
theorem del_any {base g len cap f m B : Nat} {zs : List Int} {w w0 : World} (h : Ow w base g len cap zs) (hl : len ≤ 1048576) (hm : 1 ≤ m) (hf : f + m ≤ len) (ti : Int) (hti : ti = ((f + m : Nat) : Int)) (hb : Below B w0 w) (hB : B ≤ g) :
    Calls Try.prog 79 #[.slice (some ⟨g, 0, none⟩) len cap, .int .i64 (f : Int), .int .i64 ti] w fun e w' => e = .returned (.slice (some ⟨g, 0, none⟩) (len - m) cap) ∧ Ow w' base g len cap (rst zs f m ++ List.replicate m 0) ∧ Below B w0 w' := by
  subst hti
  have hz := ow_len h
  have hc := ow_cap h
  have hc2 := hc.2
  unfold maxLen at hc2
  have HH : Sort.Holds (Value.int .i64) w g 0 zs.toArray := by
    intro j hj
    have hj2 : j < len := by simpa [hz] using hj
    have hj3 : j < zs.length := by omega
    refine ⟨?_, by rw [Nat.zero_add]; exact World.ownsRow.frozenAt h j⟩
    rw [Nat.zero_add, ow_cell h hj2]
    simp [List.getD, hj3]
  have D := AnyG.slices_Delete_int Try.laysDel g 0 cap f (f + m) zs w HH (by omega) (by omega) (by omega) (by omega)
  rw [hz] at D
  refine D.mono ?_
  rintro e w' ⟨rfl, q, rfl⟩
  have hr := rst_len zs (f := f) (m := m) (by omega)
  have hlen : (zs.take f ++ zs.drop (f + m) ++ List.replicate (f + m - f) 0).length = zs.toArray.size := by simp; omega
  rw [Lib.putRow_eq_setCells (Value.int .i64) w g 0 zs.toArray _ q HH hlen]
  have X := own_setCells ((zs.take f ++ zs.drop (f + m) ++ List.replicate (f + m - f) 0).map (Value.int .i64)) (Li.nums zs) 0 (w.drewN q) (show (w.drewN q).ownsRow base 3 1 _ len _ from h) (Li.below_draws hb q) hB
  refine ⟨by rw [show f + m - f = m by omega], ?_, X.2⟩
  have X1 := X.1
  rw [setL_gen _ _ _ (by simp [Li.nums]; omega)] at X1
  have e3 : (Li.nums zs).drop (0 + ((zs.take f ++ zs.drop (f + m) ++ List.replicate (f + m - f) 0).map (Value.int .i64)).length) = [] := by
    apply List.drop_eq_nil_of_le
    rw [List.length_map, hlen]
    simp [Li.nums]
  rw [e3, show f + m - f = m by omega] at X1
  show World.ownsRow _ base 3 1 _ len (Li.nums (rst zs f m ++ List.replicate m 0))
  simpa [Li.nums, rst, show f + m - f = m by omega] using X1
theorem ins_any {base g n cap j vb vo vc m B b2 vl : Nat} {R V Z : List Int} {w w0 : World} (h : Ow w base g (n + m) cap (R ++ List.replicate m 0)) (hR : R.length = n) (hl : n + m ≤ 1048576) (hj : j ≤ n) (hm : 1 ≤ m) (hV : V.length = m)
    (hZ : Ow w b2 vb vl vc Z) (hvo : vo + m ≤ vl) (hVZ : ∀ k, k < m → V.getD k 0 = Z.getD (vo + k) 0) (hvb : vb ≠ g) (hb : Below B w0 w) (hB : B ≤ g) :
    Calls Try.prog 81 #[.slice (some ⟨g, 0, none⟩) n cap, .int .i64 (j : Int), .slice (some ⟨vb, vo, none⟩) m (vc - vo)] w fun e w' => e = .returned (.slice (some ⟨g, 0, none⟩) (n + m) cap) ∧ Ow w' base g (n + m) cap ((R.take j ++ V) ++ R.drop j) ∧ Below B w0 w' := by
  have hc := ow_cap h
  have hc2 := hc.2
  unfold maxLen at hc2
  obtain ⟨cur, hcur, hcs⟩ := row_block h
  obtain ⟨cuv, hcuv, hcvs⟩ := row_block hZ
  have hvcap := (ow_cap hZ).1
  have hsp : ∀ k, k < n + m → (w.cell? ⟨g, 0 + k, none⟩).isSome = true := fun k hk => by rw [Nat.zero_add, ow_cell h hk]; rfl
  have hfz : ∀ k, k < n + m → w.frozen? ⟨g, 0 + k, none⟩ = false := fun k hk => by rw [Nat.zero_add]; exact World.ownsRow.frozenAt h k
  have hvs : ∀ (k : Nat) (v : Value), (Li.nums V)[k]? = some v → w.cell? ⟨vb, vo + k, none⟩ = some v := fun k v hk => by
    obtain ⟨h1, rfl⟩ := nums_at V k v hk
    rw [ow_cell hZ (by omega), hVZ k (by omega)]
  have h1v := nums_one V
  by_cases hjn : j < n
  · have I := Any2.slices_Insert_int_shift Try.lays2i21 g 0 n cap j vb vo m (vc - vo) (Li.nums R) (Li.nums V) w hjn (by omega) (by omega) (by omega) hvb (by rw [Li.nums_length, hR]) (by rw [Li.nums_length, hV])
      (fun k v hk => by obtain ⟨h1, rfl⟩ := nums_at R k v hk; rw [Nat.zero_add, ow_cell h (by omega), app_at R _ k h1]) hsp hfz hvs (nums_one R) h1v 3 3 vc cap (by simp [World.shape?, hcuv, hcvs]) (by simp [World.shape?, hcur, hcs]) (by omega) (by simp [World.frozen?, hcuv]) (by simp [World.frozen?, hcuv])
    refine I.mono ?_
    rintro e w' ⟨rfl, rfl⟩
    have X1 := own_setCells ((Li.nums R).drop j) (Li.nums (R ++ List.replicate m 0)) (0 + (j + m)) w.drew (show w.drew.ownsRow base 3 1 _ (n + m) _ from h) hb.drew hB
    have X2 := own_setCells (Li.nums V) _ (0 + j) _ X1.1 X1.2 hB
    refine ⟨rfl, ?_, X2.2⟩
    have X := X2.1
    have hd : ((Li.nums R).drop j).length = n - j := by rw [List.length_drop, Li.nums_length, hR]
    have hx : (Li.nums (R ++ List.replicate m 0)).length = n + m := by rw [Li.nums_length]; simp [hR]
    have hv : (Li.nums V).length = m := by rw [Li.nums_length, hV]
    rw [setL_gen ((Li.nums R).drop j) _ _ (by rw [hd, hx]; omega), setL_gen _ _ _ (by simp only [List.length_append, List.length_take, List.length_drop, hd, hx, hv, Li.nums_length, hR]; omega)] at X
    show World.ownsRow _ base 3 1 _ (n + m) (Li.nums ((R.take j ++ V) ++ R.drop j))
    have e1 : (Li.nums (R ++ List.replicate m 0)).drop (0 + (j + m) + ((Li.nums R).drop j).length) = [] := List.drop_eq_nil_of_le (by rw [hd, hx]; omega)
    rw [e1, List.append_nil] at X
    have e2 : ((Li.nums (R ++ List.replicate m 0)).take (0 + (j + m)) ++ (Li.nums R).drop j).take (0 + j) = (Li.nums R).take j := by
      rw [List.take_append_of_le_length (by rw [List.length_take, hx]; omega), List.take_take, show min (0 + j) (0 + (j + m)) = j by omega]
      rw [nums_app, List.take_append_of_le_length (by rw [Li.nums_length, hR]; omega)]
    have e3 : ((Li.nums (R ++ List.replicate m 0)).take (0 + (j + m)) ++ (Li.nums R).drop j).drop (0 + j + (Li.nums V).length) = (Li.nums R).drop j := by
      rw [show 0 + j + (Li.nums V).length = ((Li.nums (R ++ List.replicate m 0)).take (0 + (j + m))).length by rw [List.length_take, hx, hv]; omega, List.drop_left]
    rw [e2, e3] at X
    rw [nums_app, nums_app]
    simpa [Li.nums, List.map_take, List.map_drop] using X
  · have ej : j = n := by omega
    subst ej
    have I := Any2.slices_Insert_int_end_room Try.lays2i21 g 0 j cap vb vo m (vc - vo) (Li.nums V) w (by omega) (by omega) (by omega) (by rw [Li.nums_length, hV]) (fun k hk => by have := hsp (j + k) (by omega); rwa [show 0 + j + k = 0 + (j + k) by omega]) (fun k hk => by have := hfz (j + k) (by omega); rwa [show 0 + j + k = 0 + (j + k) by omega]) hvs h1v
    refine I.mono ?_
    rintro e w' ⟨rfl, rfl⟩
    have X1 := own_setCells (Li.nums V) (Li.nums (R ++ List.replicate m 0)) (0 + j) w h hb hB
    refine ⟨rfl, ?_, X1.2⟩
    have X := X1.1
    have hv : (Li.nums V).length = m := by rw [Li.nums_length, hV]
    rw [setL_gen _ _ _ (by simp only [Li.nums_length, hV]; simp [hR])] at X
    show World.ownsRow _ base 3 1 _ (j + m) (Li.nums ((R.take j ++ V) ++ R.drop j))
    have e1 : (Li.nums (R ++ List.replicate m 0)).drop (0 + j + (Li.nums V).length) = [] := List.drop_eq_nil_of_le (by rw [Li.nums_length, hv]; simp [hR])
    have e2 : (Li.nums (R ++ List.replicate m 0)).take (0 + j) = Li.nums R := by rw [nums_app, List.take_left' (by rw [Li.nums_length, hR]; omega)]
    rw [e1, e2, List.append_nil] at X
    rw [List.take_of_length_le (by omega), List.drop_eq_nil_of_le (by omega), List.append_nil, nums_app]
    exact X
set_option maxRecDepth 100000 in
set_option maxHeartbeats 2000000 in
theorem movePart_any {b1 g len cap f t i : Nat} {zs : List Int} {w : World} (h : Ow w b1 g len cap zs) (h8 : len ≤ 8) (hft : f ≤ t) (ht : t < len) (hi : i + (t + 1 - f) ≤ len) :
    Calls Try.prog 60 #[.slice (some ⟨g, 0, none⟩) len cap, .int .i64 (f : Int), .int .i64 (t : Int), .int .i64 (i : Int)] w fun e w' => ∃ v, e = .returned v ∧ w'.ownsRow w.heap.size 3 1 v len (Li.nums (cutL zs f (t + 1 - f) i)) ∧ Below w.heap.size w w' := by
  have hz := ow_len h
  have HOw := Lib.hid h
  have hgl := (ow_lt h).2
  have hcap := (ow_cap h).1
  have HZ := Lib.hid hz
  obtain ⟨m, hm⟩ : ∃ m, t + 1 - f = m := ⟨_, rfl⟩
  have HFM := Lib.hid (show f + m = t + 1 by omega)
  have HIM := Lib.hid (show i + m ≤ len by omega)
  have hm1 : 1 ≤ m := by omega
  rw [hm]
  have e35 : IntKind.i64.wrap ((t : Int) + 1) = (t : Int) + 1 := IntWalk.i64_in _ (by omega)
  have r22 := mid_run g len cap f m ((t : Int) + 1) (by have := HFM.out; omega) hm1 (by have := HFM.out; omega) hcap
  have CC := Lib.hid (clone_s h (by omega) (by omega))
  clear h hz hm
  go_enter Try.func60, Try.ntmps60
  go_wp2_with fail
  refine CC.out.mono ?_
  rintro e w2 ⟨g2, cp2, rfl, o2, hb⟩
  have HB2 := Lib.hid hb
  have hg2 := (ow_lt o2).1
  have O2 := Lib.hid o2
  clear hb o2
  go_wp2_with fail
  refine (del_any O2.out (by omega) hm1 (by have := HFM.out; omega) ((t : Int) + 1) (by have := HFM.out; omega) HB2.out (by omega)).mono ?_
  rintro e w3 ⟨rfl, o3, hb3⟩
  obtain ⟨n1, hn1⟩ : ∃ n1, len - m = n1 := ⟨_, rfl⟩
  have hn2 : n1 + m = len := by have := HIM.out; omega
  have hrl : (rst zs f m).length = n1 := by rw [rst_len zs (by rw [HZ.out]; have := HFM.out; omega), HZ.out]; omega
  have HRL := Lib.hid hrl
  rw [hn1]
  have O3 := Lib.hid o3
  have HB3 := Lib.hid hb3
  have HN2 := Lib.hid hn2
  have OZ := Lib.hid (Li.own_on HOw.out hb3)
  clear hn1 hrl o3 hb3 e35 hn2
  go_wp2_with fail
  have ins := ins_any (w := w3) (w0 := w) (B := w.heap.size) (base := w.heap.size) (g := g2) (n := n1) (cap := cp2) (j := i) (vb := g) (vo := f) (vc := cap) (m := m) (R := rst zs f m) (V := (zs.drop f).take m) (Z := zs) (b2 := b1) (vl := len) (by rw [HN2.out]; exact O3.out) HRL.out (by have := HN2.out; omega) (by have := HN2.out; have := HIM.out; omega) hm1 (by rw [List.length_take, List.length_drop, HZ.out]; have := HFM.out; omega) OZ.out (by have := HFM.out; omega) (fun k hk => by simp [List.getD, List.getElem?_take, hk]) (by omega) HB3.out (by omega)
  refine ins.mono ?_
  rintro e w5 ⟨rfl, o5, hb5⟩
  have O5 := Lib.hid o5
  have HB5 := Lib.hid hb5
  clear o5 hb5 ins
  go_wp2_with fail
  go_ret
  refine ⟨_, rfl, ?_, HB5.out⟩
  have o5 := O5.out
  rw [HN2.out] at o5 ⊢
  exact o5
end Ln
end Go.Proofs.Ytabnjoohojojnaa
