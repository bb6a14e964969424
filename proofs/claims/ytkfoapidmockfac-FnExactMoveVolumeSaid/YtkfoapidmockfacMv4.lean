/- slices.Delete of one number and slices.Insert of one, in a list of the call's own with room. -/
import Derived.Test.YtkfoapidmockfacMv2
import Derived.Test.YtkfoapidmockfacMvShelf
import Derived.Shelf.SlicesG.Delete
import Derived.Shelf.Spec.SlicesInsert
import Derived.Lib.RowBridge
namespace Go.Proofs.Ytkfoapidmockfac
open Go.RowKit Go.Joins Go.Deep
set_option linter.unusedVariables false
set_option linter.ambiguousOpen false
set_option linter.unusedSimpArgs false
namespace Mv
open Sh So
theorem nums_app (xs ys : List Int) : Li.nums (xs ++ ys) = Li.nums xs ++ Li.nums ys := by simp [Li.nums]
def setL (xs : List Value) : Nat → List Value → List Value
  | _, [] => xs
  | k, v :: r => setL (xs.set k v) (k + 1) r
theorem setL_gen : ∀ (vs xs : List Value) (k : Nat), k + vs.length ≤ xs.length → setL xs k vs = xs.take k ++ vs ++ xs.drop (k + vs.length)
  | [], xs, k, h => by simp [setL]
  | v :: r, xs, k, h => by
    have h2 : k + (r.length + 1) ≤ xs.length := by simpa using h
    rw [setL, setL_gen r (xs.set k v) (k + 1) (by simp; omega)]
    have e1 : (xs.set k v).take (k + 1) = xs.take k ++ [v] := by
      rw [List.take_succ_eq_append_getElem (by simp; omega), List.take_set_of_le (Nat.le_refl k)]
      simp
    have e2 : (xs.set k v).drop (k + 1 + r.length) = xs.drop (k + (v :: r).length) := by
      rw [List.drop_set_of_lt (by omega)]
      congr 1
      simp
      omega
    rw [e1, e2]
    simp
theorem own_setCells {base g n cap B : Nat} {w0 : World} : ∀ (vs xs : List Value) (k : Nat) (w : World), w.ownsRow base 3 1 (.slice (some ⟨g, 0, none⟩) n cap) n xs → Below B w0 w → B ≤ g → (w.setCells g k vs).ownsRow base 3 1 (.slice (some ⟨g, 0, none⟩) n cap) n (setL xs k vs) ∧ Below B w0 (w.setCells g k vs)
  | [], xs, k, w, h, hb, hg => ⟨h, hb⟩
  | v :: r, xs, k, w, h, hb, hg => own_setCells r (xs.set k v) (k + 1) (w.setCell ⟨g, k, none⟩ v) (h.stored k v).1 (hb.setCell (p := ⟨g, k, none⟩) hg v) hg
theorem del_any {base g len cap i B : Nat} {zs : List Int} {w w0 : World} (h : Ow w base g len cap zs) (hl : len ≤ 1048576) (hi : i < len) (hb : Below B w0 w) (hB : B ≤ g) :
    Calls Try.prog 40 #[.slice (some ⟨g, 0, none⟩) len cap, .int .i64 (i : Int), .int .i64 ((i : Int) + 1)] w fun e w' => e = .returned (.slice (some ⟨g, 0, none⟩) (len - 1) cap) ∧ Ow w' base g len cap (rest zs i ++ [0]) ∧ Below B w0 w' := by
  have hz := ow_len h
  have hc := ow_cap h
  have hc2 := hc.2
  unfold maxLen at hc2
  have e : ((i : Int) + 1) = ((i + 1 : Nat) : Int) := by omega
  rw [e]
  have HH : Sort.Holds (Value.int .i64) w g 0 zs.toArray := by
    intro j hj
    have hj2 : j < len := by simpa [hz] using hj
    have hj3 : j < zs.length := by omega
    refine ⟨?_, by rw [Nat.zero_add]; exact World.ownsRow.frozenAt h j⟩
    rw [Nat.zero_add, ow_cell h hj2]
    simp [List.getD, hj3]
  have D := AnyG.slices_Delete_int Try.laysDel g 0 cap i (i + 1) zs w HH (by omega) (by omega) (by omega) (by omega)
  rw [hz] at D
  refine D.mono ?_
  rintro e w' ⟨rfl, q, rfl⟩
  have hr := rest_length zs i (by omega)
  have hlen : (zs.take i ++ zs.drop (i + 1) ++ List.replicate (i + 1 - i) 0).length = zs.toArray.size := by simp; omega
  rw [Lib.putRow_eq_setCells (Value.int .i64) w g 0 zs.toArray _ q HH hlen]
  have X := own_setCells ((zs.take i ++ zs.drop (i + 1) ++ List.replicate (i + 1 - i) 0).map (Value.int .i64)) (Li.nums zs) 0 (w.drewN q) (show (w.drewN q).ownsRow base 3 1 _ len _ from h) (Li.below_draws hb q) hB
  refine ⟨by rw [show i + 1 - i = 1 by omega], ?_, X.2⟩
  have X1 := X.1
  rw [setL_gen _ _ _ (by simp [Li.nums]; omega)] at X1
  have e3 : (Li.nums zs).drop (0 + ((zs.take i ++ zs.drop (i + 1) ++ List.replicate (i + 1 - i) 0).map (Value.int .i64)).length) = [] := by
    apply List.drop_eq_nil_of_le
    rw [List.length_map, hlen]
    simp [Li.nums]
  rw [e3, show i + 1 - i = 1 by omega] at X1
  show World.ownsRow _ base 3 1 _ len (Li.nums (rest zs i ++ [0]))
  simpa [Li.nums, rest, show i + 1 - i = 1 by omega] using X1
theorem row_block {W : World} {base g n cap : Nat} {xs : List Value} (h : W.ownsRow base 3 1 (.slice (some ⟨g, 0, none⟩) n cap) n xs) : ∃ cur, W.heap[g]? = some (.cells cur 3 (0, 0)) ∧ cur.size = cap := by
  obtain ⟨_, ⟨h0, _⟩ | ⟨g', cap', cur, hv, hbase, hheap, hncap, hcapmax, hsize, htake⟩⟩ := h
  · injection h0 with e; cases e
  · injection hv with e1 e2 e3
    injection e1 with e4
    injection e4 with e5
    subst e5 e3
    exact ⟨cur, hheap, by omega⟩
theorem nums_at (R : List Int) (k : Nat) (v : Value) (h : (Li.nums R)[k]? = some v) : k < R.length ∧ v = .int .i64 (R.getD k 0) := by
  have hk : k < R.length := by
    rcases Nat.lt_or_ge k R.length with h1 | h1
    · exact h1
    · rw [List.getElem?_eq_none (by rw [Li.nums_length]; omega)] at h
      cases h
  refine ⟨hk, ?_⟩
  simp [Li.nums, hk] at h
  rw [← h]
  simp [List.getD, hk]
theorem snoc_at (R : List Int) (k : Nat) (h : k < R.length) : (R ++ [0]).getD k 0 = R.getD k 0 := by simp [List.getD, List.getElem?_append_left h]
theorem ins_any {base g n cap j vb B : Nat} {R : List Int} {z : Int} {w w0 : World} (h : Ow w base g (n + 1) cap (R ++ [0])) (hR : R.length = n) (hl : n ≤ 1048576) (hj : j ≤ n) (hv : w.heap[vb]? = some (.cells #[.int .i64 z] 3 (0, 0))) (hvb : vb ≠ g) (hb : Below B w0 w) (hB : B ≤ g) :
    Calls Try.prog 42 #[.slice (some ⟨g, 0, none⟩) n cap, .int .i64 (j : Int), .slice (some ⟨vb, 0, none⟩) 1 1] w fun e w' => e = .returned (.slice (some ⟨g, 0, none⟩) (n + 1) cap) ∧ Ow w' base g (n + 1) cap ((R.take j ++ [z]) ++ R.drop j) ∧ Below B w0 w' := by
  have hc := ow_cap h
  have hc2 := hc.2
  unfold maxLen at hc2
  obtain ⟨cur, hcur, hcs⟩ := row_block h
  have hsp : ∀ k, k < n + 1 → (w.cell? ⟨g, 0 + k, none⟩).isSome = true := fun k hk => by rw [Nat.zero_add, ow_cell h hk]; rfl
  have hfz : ∀ k, k < n + 1 → w.frozen? ⟨g, 0 + k, none⟩ = false := fun k hk => by rw [Nat.zero_add]; exact World.ownsRow.frozenAt h k
  have hvs : ∀ (k : Nat) (v : Value), ([Value.int .i64 z] : List Value)[k]? = some v → w.cell? ⟨vb, 0 + k, none⟩ = some v := fun k v hk => by
    cases k with
    | zero => simp at hk; subst hk; simp [World.cell?, hv]
    | succ k => simp at hk
  have h1v : ∀ v ∈ ([Value.int .i64 z] : List Value), v.oneCell' = true := fun v hv => by simp at hv; subst hv; rfl
  by_cases hjn : j < n
  · have I := Any2.slices_Insert_int_shift Try.lays2i21 g 0 n cap j vb 0 1 1 (Li.nums R) [.int .i64 z] w hjn (by omega) (by omega) (by omega) hvb (by rw [Li.nums_length, hR]) rfl
      (fun k v hk => by obtain ⟨h1, rfl⟩ := nums_at R k v hk; rw [Nat.zero_add, ow_cell h (by omega), snoc_at R k h1]) hsp hfz hvs (nums_one R) h1v 3 3 1 cap (by simp [World.shape?, hv]) (by simp [World.shape?, hcur, hcs]) (by omega) (by simp [World.frozen?, hv]) (by simp [World.frozen?, hv])
    refine I.mono ?_
    rintro e w' ⟨rfl, rfl⟩
    have X1 := own_setCells ((Li.nums R).drop j) (Li.nums (R ++ [0])) (0 + (j + 1)) w.drew (show w.drew.ownsRow base 3 1 _ (n + 1) _ from h) hb.drew hB
    have X2 := own_setCells [.int .i64 z] _ (0 + j) _ X1.1 X1.2 hB
    refine ⟨rfl, ?_, X2.2⟩
    have X := X2.1
    have hd : ((Li.nums R).drop j).length = n - j := by rw [List.length_drop, Li.nums_length, hR]
    have hx : (Li.nums (R ++ [0])).length = n + 1 := by rw [Li.nums_length]; simp [hR]
    rw [setL_gen ((Li.nums R).drop j) _ _ (by rw [hd, hx]; omega), setL_gen _ _ _ (by simp only [List.length_append, List.length_take, List.length_drop, hd, hx]; simp; omega)] at X
    show World.ownsRow _ base 3 1 _ (n + 1) (Li.nums ((R.take j ++ [z]) ++ R.drop j))
    have e1 : (Li.nums (R ++ [0])).drop (0 + (j + 1) + ((Li.nums R).drop j).length) = [] := List.drop_eq_nil_of_le (by rw [hd, hx]; omega)
    rw [e1, List.append_nil] at X
    have e2 : ((Li.nums (R ++ [0])).take (0 + (j + 1)) ++ (Li.nums R).drop j).take (0 + j) = (Li.nums R).take j := by
      rw [List.take_append_of_le_length (by rw [List.length_take, hx]; omega), List.take_take, show min (0 + j) (0 + (j + 1)) = j by omega]
      rw [nums_app, List.take_append_of_le_length (by rw [Li.nums_length, hR]; omega)]
    have e3 : ((Li.nums (R ++ [0])).take (0 + (j + 1)) ++ (Li.nums R).drop j).drop (0 + j + ([Value.int .i64 z] : List Value).length) = (Li.nums R).drop j := by
      rw [show 0 + j + ([Value.int .i64 z] : List Value).length = ((Li.nums (R ++ [0])).take (0 + (j + 1))).length by rw [List.length_take, hx]; simp; omega, List.drop_left]
    rw [e2, e3] at X
    rw [nums_app, nums_app]
    simpa [Li.nums, List.map_take, List.map_drop] using X
  · have ej : j = n := by omega
    subst ej
    have I := Any2.slices_Insert_int_end_room Try.lays2i21 g 0 j cap vb 0 1 1 [.int .i64 z] w (by omega) (by omega) (by omega) rfl (fun k hk => by have := hsp (j + k) (by omega); rwa [show 0 + j + k = 0 + (j + k) by omega]) (fun k hk => by have := hfz (j + k) (by omega); rwa [show 0 + j + k = 0 + (j + k) by omega]) hvs h1v
    refine I.mono ?_
    rintro e w' ⟨rfl, rfl⟩
    have X1 := own_setCells [.int .i64 z] (Li.nums (R ++ [0])) (0 + j) w h hb hB
    refine ⟨rfl, ?_, X1.2⟩
    have X := X1.1
    rw [setL_gen _ _ _ (by rw [Li.nums_length]; simp [hR])] at X
    show World.ownsRow _ base 3 1 _ (j + 1) (Li.nums ((R.take j ++ [z]) ++ R.drop j))
    have e1 : (Li.nums (R ++ [0])).drop (0 + j + ([Value.int .i64 z] : List Value).length) = [] := List.drop_eq_nil_of_le (by rw [Li.nums_length]; simp [hR])
    have e2 : (Li.nums (R ++ [0])).take (0 + j) = Li.nums R := by rw [nums_app, List.take_left' (by rw [Li.nums_length, hR]; omega)]
    rw [e1, e2, List.append_nil] at X
    rw [List.take_of_length_le (by omega), List.drop_eq_nil_of_le (by omega), List.append_nil, nums_app]
    exact X
end Mv
end Go.Proofs.Ytkfoapidmockfac
