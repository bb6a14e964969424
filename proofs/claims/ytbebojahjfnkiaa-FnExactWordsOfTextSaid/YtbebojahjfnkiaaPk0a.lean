/- Blanks that are stretched: both sides. -/
import Derived.Test.YtbebojahjfnkiaaAr
import Derived.Deep.QuietTactic
namespace Go.Proofs.Ytbebojahjfnkiaa
open Go.RowKit Go.Joins Go.Deep Go.ChangeShapes Go.WideShapes
set_option linter.unusedVariables false
set_option linter.unusedSimpArgs false
namespace Ln
/-- left blanks among k places, greater ones first -/
def sht (left : Int) : Nat → List Int
  | 0 => []
  | k + 1 => (left + ((k + 1 : Nat) : Int) - 1).tdiv ((k + 1 : Nat) : Int) :: sht (left - (left + ((k + 1 : Nat) : Int) - 1).tdiv ((k + 1 : Nat) : Int)) k
theorem sht_len : ∀ (k : Nat) (left : Int), (sht left k).length = k := by
  intro k
  induction k with
  | zero => intro _; rfl
  | succ k ih => intro left; simp [sht, ih]
theorem sht_bd (left : Int) (k : Nat) (h : 0 ≤ left) (h2 : left ≤ 1000) (hk : 1 ≤ k) : 0 ≤ (left + (k : Int) - 1).tdiv (k : Int) ∧ (left + (k : Int) - 1).tdiv (k : Int) ≤ left := by
  obtain ⟨j, rfl⟩ : ∃ j, k = j + 1 := ⟨k - 1, by omega⟩
  have hb := shr_bd left j h h2
  have e : (left + ((j + 1 : Nat) : Int) - 1).tdiv ((j + 1 : Nat) : Int) = (left + ((j : Int) + 1) - 1) / ((j : Int) + 1) := by
    rw [Int.natCast_succ, Int.tdiv_eq_ediv_of_nonneg (by omega)]
  rw [e]
  exact hb
def ssB (zs : List Int) (wide : Int) : Bool := (fits zs wide && !decide (zs.length = 1)) && decide (need zs 0 zs.length ≤ wide)
def ssZ (zs : List Int) (wide : Int) : List Int := if ssB zs wide = true then sht (wide - need zs 0 zs.length + (zs.length : Int) - 1) (zs.length - 1) else []
theorem ssZ_len (zs : List Int) (wide : Int) (h : zs.length ≤ 1048576) : (ssZ zs wide).length ≤ 1048576 := by
  unfold ssZ
  split
  · rw [sht_len]; omega
  · simp
theorem need_el {zs : List Int} (ho : Ok zs) (k : Nat) (hk : k < zs.length) : zs.getD k 0 ≤ need zs 0 zs.length := by
  have h1 := psum_ok ho 0 k (by omega) (by omega)
  have h2 := psum_ok ho (k + 1) zs.length (by omega) (by omega)
  have h3 := psum_step zs k
  have h4 := ho.1
  have h5 : psum zs 0 = 0 := rfl
  unfold need
  omega
theorem fits_need {zs : List Int} {wide : Int} (hg : good zs = true) (hw : wideB wide = true) (hn : need zs 0 zs.length ≤ wide) : fits zs wide = true := by
  have ho := (good_iff zs).1 hg
  unfold fits
  rw [hg, hw]
  exact (allB_iff zs 1 wide).2 fun k hk => ⟨(ho.2.2 k hk).1, by have := need_el ho k hk; omega⟩
set_option maxRecDepth 100000 in
set_option maxHeartbeats 4000000 in
theorem lnStretch_any {b1 g len cap : Nat} {zs : List Int} {wide : Int} {w : World} (h : Ow w b1 g len cap zs) (ho : Ok zs) (hn : need zs 0 zs.length ≤ wide) (hw : wide ≤ 80) :
    Calls Try.prog 23 #[.slice (some ⟨g, 0, none⟩) len cap, .int .i64 wide] w fun e w' => ∃ v, e = .returned v ∧ w'.ownsRow w.heap.size 3 1 v (len - 1) (Li.nums (sht (wide - need zs 0 zs.length + (len : Int) - 1) (len - 1))) ∧ Below w.heap.size w w' := by
  have hz := ow_len h
  have h30 : len ≤ 30 := by have := ho.2.1; omega
  have h1 : 1 ≤ len := by have := ho.1; omega
  have hnb : 1 ≤ need zs 0 zs.length := by have := need_el ho 0 (by omega); have := (ho.2.2 0 (by omega)).1; omega
  have CN := Lib.hid (lnNeed_any (cap := cap) (seg_of h 0 len (by omega)) ho h1 (by omega))
  rw [Nat.zero_add] at CN
  rw [hz] at hn hnb ⊢
  obtain ⟨N, hN⟩ : ∃ N, need zs 0 len = N := ⟨_, rfl⟩
  rw [hN] at CN hn hnb ⊢
  obtain ⟨i0, hi, hz0, hz1, hz2⟩ := info_parts Li.info3
  obtain ⟨k0, rfl⟩ : ∃ k0, len = k0 + 1 := ⟨len - 1, by omega⟩
  obtain ⟨l0, hl0⟩ : ∃ l0, wide - N + ((k0 + 1 : Nat) : Int) - 1 = l0 := ⟨_, rfl⟩
  have e1 : wide - N + ((k0 : Int) + 1) - 1 = l0 := by omega
  have b1 : 0 ≤ l0 := by omega
  have b2 : l0 ≤ 120 := by omega
  rw [hl0, Nat.add_sub_cancel]
  clear h ho hz hN hl0
  go_enter Try.func23, Try.ntmps23
  go_wp2_with fail
  refine CN.out.mono ?_
  rintro e w' ⟨rfl, rfl⟩
  go_wp2
  go_loopw [5, 6, 7] (fun v l x wr => ∃ (k : Nat) (l1 : Int) (L : List Int) (vv : Value), vv = v ∧ k ≤ k0 ∧ L.length = k0 - k ∧ x = .int .i64 (k : Int) ∧ l = .int .i64 l1 ∧ 0 ≤ l1 ∧ l1 ≤ 120 ∧ wr.ownsRow w.heap.size 3 1 vv L.length (Li.nums L) ∧ Hid (sht l0 k0 = L ++ sht l1 k) ∧ Below w.heap.size w wr) (fun _ _ x _ => (intOf x).toNat)
  case atStart => exact ⟨k0, l0, [], _, rfl, by omega, by simp, by first | rfl | go_num, by first | rfl | (rw [e1]) | go_num, b1, b2, World.ownsRow_nil _ _ _ _, Lib.hid (by simp), Below.refl _ _⟩
  case round =>
    obtain ⟨k, l1, L, vv, rfl, hk, hL, rfl, rfl, q1, q2, hown, HF, hb⟩ := hrel
    have HB := Lib.hid hb
    have hsw := hb.size
    clear hb
    by_cases hlt : 0 < k
    · have hlt2 : (0 : Int) < (k : Int) := by omega
      have hqb := sht_bd l1 k q1 (by omega) (by omega)
      have HST : Hid (sht l1 k = (l1 + (k : Int) - 1).tdiv (k : Int) :: sht (l1 - (l1 + (k : Int) - 1).tdiv (k : Int)) (k - 1)) := by
        obtain ⟨j, rfl⟩ : ∃ j, k = j + 1 := ⟨k - 1, by omega⟩
        exact Lib.hid rfl
      obtain ⟨Q, hQ⟩ : ∃ Q, (l1 + (k : Int) - 1).tdiv (k : Int) = Q := ⟨_, rfl⟩
      rw [hQ] at hqb HST
      have r1 := hqb.1
      have r2 := hqb.2
      have hk0 : (k : Int) ≠ 0 := by omega
      have HOw := Lib.hid (hown.alloc (.cells #[.int .i64 Q] 3))
      have HLT := Lib.hid (fun j hj => (hown.lt j hj).1)
      clear hqb hown
      go_wp2_with (first | (at_builtin; refine wpList_append_own _ rfl _ _ 22 rfl w.heap.size 3 i0 (.int .i64 0) 1 8 Try.underlying22 hi hz0 hz1 hz2 rfl (by decide) _ _ _ rfl HOw.out ⟨_, 0, none⟩ 1 1 [.int .i64 Q] rfl rfl (cell_one_new _ _ _) (fun x hx => by simp at hx; subst hx; rfl) (by unfold maxLen; omega) (by omega) (by simp; omega) ?_; intro v3 w3 hown3 hgrow3 _))
      have HB4 := Lib.hid (Below.grown (HB.out.alloc HB.out.size (.cells #[.int .i64 Q] 3)) hgrow3 (by simp; omega) HLT.out)
      have HO3 := Lib.hid (show w3.ownsRow w.heap.size 3 1 v3 (L ++ [Q]).length (Li.nums (L ++ [Q])) by rw [nums_snoc, List.length_append]; exact hown3)
      have HF3 := Lib.hid (show sht l0 k0 = (L ++ [Q]) ++ sht (l1 - Q) (k - 1) by rw [HF.out, HST.out]; simp)
      clear hown3 hgrow3
      go_roundw
      case rel => exact ⟨k - 1, l1 - Q, L ++ [Q], _, rfl, by omega, by simp; omega, by first | (congr 1; omega) | go_num, by first | rfl | go_num, by omega, by omega, HO3.out, HF3, HB4.out⟩
      case measure => simp [intOf] <;> omega
    · obtain rfl : k = 0 := by omega
      have HOw := Lib.hid (show wr.ownsRow w.heap.size 3 1 vv k0 (Li.nums (sht l0 k0)) by rw [HF.out, show sht l1 0 = [] from rfl, List.append_nil, show k0 = L.length by omega]; exact hown)
      clear hown
      go_wp2
      go_ret
      exact ⟨_, rfl, HOw.out, HB.out⟩
theorem dividedUp_any (N D Q : Int) (h1 : -10000 ≤ N) (h2 : N ≤ 10000) (h3 : 1 ≤ D) (h4 : D ≤ 3000) (hQ : (N + D - 1).tdiv D = Q) (w : World) :
    Calls Try.prog 46 #[.int .i64 N, .int .i64 D] w fun e w' => e = .returned (.int .i64 Q) ∧ w = w' := by
  have HQ := Lib.hid hQ
  rw [← HQ.out]
  clear hQ
  go_enter Try.func46, Try.ntmps46
  go_wp2
  go_ret
  exact ⟨rfl, rfl⟩
/-- so far, and what is to come -/
def evr (L : List Int) (n : Nat) : List Int := L ++ List.replicate (n - L.length) 0
theorem evr_len (L : List Int) (n : Nat) (h : L.length ≤ n) : (evr L n).length = n := by simp [evr]; omega
theorem evr_set (L : List Int) (n : Nat) (Q : Int) (h : L.length < n) : (Li.nums (evr L n)).set L.length (.int .i64 Q) = Li.nums (evr (L ++ [Q]) n) := by
  unfold evr Li.nums
  obtain ⟨m, hm⟩ : ∃ m, n - L.length = m + 1 := ⟨n - L.length - 1, by omega⟩
  have e : n - (L ++ [Q]).length = m := by simp; omega
  rw [e, hm, List.replicate_succ, List.map_append, List.map_append, List.map_append, List.set_append_right _ _ (by simp)]
  simp
theorem evr_end (L : List Int) (n : Nat) (h : L.length = n) : evr L n = L := by unfold evr; rw [h]; simp
set_option maxRecDepth 100000 in
set_option maxHeartbeats 4000000 in
theorem evenParts_any {l0 : Int} {n : Nat} {w : World} (b1 : 0 ≤ l0) (b2 : l0 ≤ 120) (hn : n ≤ 30) :
    Calls Try.prog 36 #[.int .i64 l0, .int .i64 (n : Int)] w fun e w' => ∃ v, e = .returned v ∧ w'.ownsRow w.heap.size 3 1 v n (Li.nums (sht l0 n)) ∧ Below w.heap.size w w' := by
  obtain ⟨i0, hi, hz0, hz1, hz2⟩ := info_parts Li.info3
  go_enter Try.func36, Try.ntmps36
  go_wp2_with (first | (at_make; refine wpList_make_full _ rfl _ _ 22 rfl w.heap.size 3 i0 (.int .i64 0) 1 Try.underlying22 hi hz0 hz1 _ _ _ _ n rfl rfl rfl rfl (by rw [hz2]; omega) (by unfold maxLen; omega) (Nat.le_refl _) ?_; intro w1 hown hg1))
  have h0 : Ow w1 w.heap.size w.heap.size n n (evr [] n) := by
    have e : (madeCells (Value.int .i64 0).cells (n * 1)).toList = List.replicate n (.int .i64 0) := by rw [Nat.mul_one]; exact toList_madeCells_one _ _
    have := hown
    rw [e, show List.replicate n (Value.int .i64 0) = Li.nums (evr [] n) by simp [evr, Li.nums]] at this
    exact this
  have H0 := Lib.hid h0
  have HB0 := Lib.hid (Li.below_of_grown hg1)
  clear hown hg1 h0
  go_loopw [0, 11] (fun l x wr => ∃ (l1 : Int) (L : List Int), L.length ≤ n ∧ x = .int .i64 (L.length : Int) ∧ l = .int .i64 l1 ∧ 0 ≤ l1 ∧ l1 ≤ 120 ∧ Hid (Ow wr w.heap.size w.heap.size n n (evr L n)) ∧ Hid (sht l0 n = L ++ sht l1 (n - L.length)) ∧ Hid (Below w.heap.size w wr)) (fun _ x _ => ((n : Int) - intOf x).toNat)
  case atStart => exact ⟨l0, [], by simp, by first | rfl | simp, rfl, b1, b2, H0, Lib.hid (by simp), HB0⟩
  case round =>
    obtain ⟨l1, L, hL, rfl, rfl, q1, q2, HT, HF, HB⟩ := hrel
    clear H0 HB0
    obtain ⟨p, hp⟩ : ∃ p, L.length = p := ⟨_, rfl⟩
    rw [hp] at hL ⊢
    have HP := Lib.hid hp
    by_cases hlt : p < n
    · have hlt2 : (p : Int) < (n : Int) := by omega
      obtain ⟨k, hk⟩ : ∃ k, n - p = k + 1 := ⟨n - p - 1, by omega⟩
      have hqb := sht_bd l1 (k + 1) q1 (by omega) (by omega)
      have HST := Lib.hid (show sht l1 (k + 1) = (l1 + ((k + 1 : Nat) : Int) - 1).tdiv ((k + 1 : Nat) : Int) :: sht (l1 - (l1 + ((k + 1 : Nat) : Int) - 1).tdiv ((k + 1 : Nat) : Int)) k from rfl)
      obtain ⟨Q, hQ⟩ : ∃ Q, (l1 + ((k + 1 : Nat) : Int) - 1).tdiv ((k + 1 : Nat) : Int) = Q := ⟨_, rfl⟩
      have hD : (n : Int) - (p : Int) = ((k + 1 : Nat) : Int) := by omega
      have C := Lib.hid (fun W => dividedUp_any l1 ((n : Int) - (p : Int)) Q (by omega) (by omega) (by omega) (by omega) (by rw [hD]; exact hQ) W)
      rw [hQ] at hqb HST
      have r1 := hqb.1
      have r2 := hqb.2
      have HF3 := Lib.hid (show sht l0 n = (L ++ [Q]) ++ sht (l1 - Q) (n - (L ++ [Q]).length) by
        rw [HF.out, hp, hk, HST.out, List.length_append, hp, show n - (p + [Q].length) = k by simp; omega]
        simp)
      have hc : wr.cell? ⟨w.heap.size, p, none⟩ = some (.int .i64 ((evr L n).getD p 0)) := ow_cell HT.out hlt
      obtain ⟨z, hz⟩ : ∃ z, (evr L n).getD p 0 = z := ⟨_, rfl⟩
      rw [hz] at hc
      have hf := HT.out.frozenAt p
      have hst := (HT.out.stored p (.int .i64 Q)).1
      rw [← hp, evr_set L n Q (by omega), hp] at hst
      have HST2 := Lib.hid hst
      have HB3 := Lib.hid (HB.out.setCell (p := ⟨w.heap.size, p, none⟩) (Nat.le_refl _) (.int .i64 Q))
      have HLN := Lib.hid (show (L ++ [Q]).length = p + 1 by simp [hp])
      clear hst hz hqb hk hD hQ hp
      go_wp2_with fail
      refine (C.out _).mono ?_
      rintro e w' ⟨rfl, rfl⟩
      go_wp2
      go_roundw
      case rel => exact ⟨l1 - Q, L ++ [Q], by have := HLN.out; omega, by rw [HLN.out] <;> first | rfl | go_num, by first | rfl | go_num, by omega, by omega, HST2, HF3, HB3⟩
      case measure => simp [intOf] <;> omega
    · have HO2 := Lib.hid (show Ow wr w.heap.size w.heap.size n n (sht l0 n) by
        rw [HF.out, show n - L.length = 0 by omega, show sht l1 0 = [] from rfl, List.append_nil, ← evr_end L n (by omega)]
        exact HT.out)
      have hlt2 : ¬ (p : Int) < (n : Int) := by omega
      clear hp
      go_wp2
      go_ret
      exact ⟨_, rfl, HO2.out, HB.out⟩
end Ln
end Go.Proofs.Ytbebojahjfnkiaa
