/- How many volumes are needed, asked from both sides, of a list and of what is left of it. -/
import Derived.Test.YtkfoapidmockfaaLc5
namespace Go.Proofs.Ytkfoapidmockfaa
open Go.RowKit Go.Joins Go.Deep Go.ChangeShapes Go.WideShapes
set_option linter.unusedVariables false
set_option linter.unusedSimpArgs false
namespace Ch
open Sh
theorem ow_off {W : World} {b1 g len cap : Nat} {zs : List Int} (h : Ow W b1 g len cap zs) (hl : len ≤ 1048576) : Il.At W g 0 len zs :=
  ⟨ow_len h, hl, (ow_lt h).2, fun j hj => by rw [Nat.zero_add]; exact ow_cell h hj⟩
theorem at_drop {W : World} {b o n : Nat} {l : List Int} (h : Il.At W b o n l) (k : Nat) (hk : k ≤ n) : Il.At W b (o + k) (n - k) (l.drop k) := by
  refine ⟨by rw [List.length_drop, h.1], by have := h.2.1; omega, h.2.2.1, fun j hj => ?_⟩
  have e := h.2.2.2 (k + j) (by omega)
  rw [show o + k + j = o + (k + j) by omega, e]
  simp [List.getD]
theorem at_cell {W : World} {b o n : Nat} {l : List Int} (h : Il.At W b o n l) {k : Nat} (hk : k < n) : ∃ z, Hid (l.getD k 0 = z) ∧ W.cell? ⟨b, o + k, none⟩ = some (.int .i64 z) := ⟨_, Lib.hid rfl, h.2.2.2 k hk⟩
theorem good_of {zs : List Int} (h : Ok zs) : Good zs := ⟨h.2.1, fun z hz => by obtain ⟨k, hk, e⟩ := at_mem hz; have := h.2.2 k hk; rw [e] at this; exact this⟩
/-- the count's state at k, its bounds -/
theorem st_in {m : Int} {l : List Int} (hg : Good l) {k : Nat} (hk : k ≤ l.length) (hm : ∀ j, j < k → l.getD j 0 ≤ m) (h0 : 0 ≤ m) : (run m (0, 0) (l.take k)).1 ≤ k ∧ 0 ≤ (run m (0, 0) (l.take k)).2 ∧ (run m (0, 0) (l.take k)).2 ≤ m := by
  have a := (run_up m (l.take k) (0, 0)).2
  have b := run_room_in (m := m) (l.take k) (0, 0) (fun z hz => by
    obtain ⟨j, hj, e⟩ := at_mem hz
    rw [List.length_take] at hj
    have e2 : (l.take k).getD j 0 = l.getD j 0 := by simp [List.getD, List.getElem?_take, show j < k by omega]
    rw [e2] at e
    have := hm j (by omega)
    have := (hg.2 z (List.mem_of_mem_take hz)).1
    omega) (Int.le_refl _) h0
  rw [List.length_take] at a
  refine ⟨?_, b⟩
  simp only [] at a
  omega
set_option maxRecDepth 100000 in
set_option maxHeartbeats 1000000 in
theorem vn_any {b o n cap : Nat} {l : List Int} {m : Int} {w : World} (h : Il.At w b o n l) (hg : Good l) (hm : ∀ j, j < n → l.getD j 0 ≤ m) (h0 : 0 ≤ m) (h5 : m ≤ 5000) :
    Calls Try.prog 50 #[.slice (some ⟨b, o, none⟩) n cap, .int .i64 m] w fun e w' => e = .returned (.int .i64 ((vn m l : Nat) : Int)) ∧ w = w' := by
  have HA := Lib.hid h
  have HZ := Lib.hid h.1
  have HG := Lib.hid hg
  have HM := Lib.hid hm
  have hn : n ≤ 12 := by have := hg.1; have := h.1; omega
  have h00 := Lib.hid h0
  clear h hg hm
  go_enter Try.func50, Try.ntmps50
  go_wp2
  go_loop [5, 6, 11] (fun v r i => ∃ k : Nat, k ≤ n ∧ i = .int .i64 (k : Int) ∧ v = .int .i64 (((run m (0, 0) (l.take k)).1 : Nat) : Int) ∧ r = .int .i64 (run m (0, 0) (l.take k)).2) (fun _ _ i => ((n : Int) - intOf i).toNat)
  case atStart => exact ⟨0, by omega, rfl, rfl, rfl⟩
  case round =>
    obtain ⟨k, hk, rfl, rfl, rfl⟩ := hrel
    have si := st_in HG.out (k := k) (by rw [HZ.out]; exact hk) (fun j hj => HM.out j (by omega)) h00.out
    by_cases hlt : (k : Int) < n
    · obtain ⟨z, HZK, hc⟩ := at_cell HA.out (k := k) (by omega)
      have hz1 := HG.out.2 _ (mem_at (l := l) (k := k) (by rw [HZ.out]; omega))
      have hz2 := HM.out k (by omega)
      rw [HZK.out] at hz1 hz2
      have hz3 := hz1.1
      have hz4 := hz1.2
      have ST := Lib.hid (show run m (0, 0) (l.take (k + 1)) = stp m (run m (0, 0) (l.take k)) z by rw [run_take _ _ _ _ (by rw [HZ.out]; omega), HZK.out])
      obtain ⟨⟨a, r⟩, hs⟩ : ∃ s, run m (0, 0) (l.take k) = s := ⟨_, rfl⟩
      rw [hs] at ST si ⊢
      simp only [] at si ⊢
      obtain ⟨s1, s2, s3⟩ := si
      clear hs hz1
      by_cases c : r < z
      · have ES := Lib.hid (show run m (0, 0) (l.take (k + 1)) = (a + 1, m - z) by rw [ST.out]; unfold stp; rw [if_pos c])
        go_wp2
        go_round
        case rel => exact ⟨k + 1, by omega, by go_num, by rw [ES.out]; go_num, by rw [ES.out]⟩
        case measure => simp [intOf]; omega
      · have ES := Lib.hid (show run m (0, 0) (l.take (k + 1)) = (a, r - z) by rw [ST.out]; unfold stp; rw [if_neg c])
        go_wp2
        go_round
        case rel => exact ⟨k + 1, by omega, by go_num, by rw [ES.out], by rw [ES.out]⟩
        case measure => simp [intOf]; omega
    · have EK := Lib.hid (show (((run m (0, 0) (l.take k)).1 : Nat) : Int) = ((vn m l : Nat) : Int) by rw [List.take_of_length_le (by rw [HZ.out]; omega)]; rfl)
      rw [EK.out]
      clear si
      go_wp2
      go_ret
      exact ⟨rfl, rfl⟩
set_option maxRecDepth 100000 in
set_option maxHeartbeats 1000000 in
theorem cv_any {b o n cap : Nat} {l : List Int} {m : Int} {w : World} (h : Il.At w b o n l) (hg : Good l) (h0 : 0 ≤ m) (h5 : m ≤ 5000) :
    Calls Try.prog 51 #[.slice (some ⟨b, o, none⟩) n cap, .int .i64 m] w fun e w' => e = .returned (.int .i64 ((cv m l : Nat) : Int)) ∧ w = w' := by
  have HA := Lib.hid h
  have HZ := Lib.hid h.1
  have HG := Lib.hid hg
  have hn : n ≤ 12 := by have := hg.1; have := h.1; omega
  have h00 := Lib.hid h0
  clear h hg
  go_enter Try.func51, Try.ntmps51
  go_wp2
  go_loop [5, 6, 11] (fun v r i => ∃ k : Nat, k ≤ n ∧ i = .int .i64 (k : Int) ∧ v = .int .i64 (((run m (0, 0) (l.take k)).1 : Nat) : Int) ∧ r = .int .i64 (run m (0, 0) (l.take k)).2 ∧ ∀ j, j < k → l.getD j 0 ≤ m) (fun _ _ i => ((n : Int) - intOf i).toNat)
  case atStart => exact ⟨0, by omega, rfl, rfl, rfl, fun j hj => by omega⟩
  case round =>
    obtain ⟨k, hk, rfl, rfl, rfl, hall⟩ := hrel
    have HAL := Lib.hid hall
    clear hall
    have si := st_in HG.out (k := k) (by rw [HZ.out]; exact hk) HAL.out h00.out
    by_cases hlt : (k : Int) < n
    · obtain ⟨z, HZK, hc⟩ := at_cell HA.out (k := k) (by omega)
      have hz1 := HG.out.2 _ (mem_at (l := l) (k := k) (by rw [HZ.out]; omega))
      rw [HZK.out] at hz1
      have hz3 := hz1.1
      have hz4 := hz1.2
      by_cases hzm : m < z
      · have EC := Lib.hid (show ((cv m l : Nat) : Int) = 0 by
          rw [cv_no]
          · rfl
          · rw [Bool.eq_false_iff]
            intro h2
            have := (allLe_iff m l).1 h2 _ (mem_at (l := l) (k := k) (by rw [HZ.out]; omega))
            rw [HZK.out] at this
            omega)
        clear si hz1
        generalize (run m (0, 0) (l.take k)) = s at *
        go_wp2
        go_ret
        exact ⟨Li.ret_int EC.out.symm, rfl⟩
      · have ST := Lib.hid (show run m (0, 0) (l.take (k + 1)) = stp m (run m (0, 0) (l.take k)) z by rw [run_take _ _ _ _ (by rw [HZ.out]; omega), HZK.out])
        have HAN := Lib.hid (show ∀ j, j < k + 1 → l.getD j 0 ≤ m from fun j hj => by
          by_cases e : j = k
          · rw [e, HZK.out]; omega
          · exact HAL.out j (by omega))
        obtain ⟨⟨a, r⟩, hs⟩ : ∃ s, run m (0, 0) (l.take k) = s := ⟨_, rfl⟩
        rw [hs] at ST si ⊢
        simp only [] at si ⊢
        obtain ⟨s1, s2, s3⟩ := si
        clear hs hz1
        by_cases c : r < z
        · have ES := Lib.hid (show run m (0, 0) (l.take (k + 1)) = (a + 1, m - z) by rw [ST.out]; unfold stp; rw [if_pos c])
          go_wp2
          go_round
          case rel => exact ⟨k + 1, by omega, by go_num, by rw [ES.out]; go_num, by rw [ES.out], HAN.out⟩
          case measure => simp [intOf]; omega
        · have ES := Lib.hid (show run m (0, 0) (l.take (k + 1)) = (a, r - z) by rw [ST.out]; unfold stp; rw [if_neg c])
          go_wp2
          go_round
          case rel => exact ⟨k + 1, by omega, by go_num, by rw [ES.out], by rw [ES.out], HAN.out⟩
          case measure => simp [intOf]; omega
    · have EK := Lib.hid (show (((run m (0, 0) (l.take k)).1 : Nat) : Int) = ((cv m l : Nat) : Int) by
        rw [List.take_of_length_le (by rw [HZ.out]; omega), cv_yes]
        · rfl
        · refine (allLe_iff m l).2 fun z hz => ?_
          obtain ⟨j, hj, e⟩ := at_mem hz
          rw [← e]
          exact HAL.out j (by rw [HZ.out] at hj; omega))
      rw [EK.out]
      clear si
      go_wp2
      go_ret
      exact ⟨rfl, rfl⟩
/-! FewestVolumes -/
def wv (zs : List Int) (m : Int) : Bool := good zs && (decide (1 ≤ m) && decide (m ≤ 1440)) && allLe m zs
def fvv (zs : List Int) (m : Int) : Int := if wv zs m = true then ((vn m zs : Nat) : Int) else 0
theorem fvv_no {zs : List Int} {m : Int} (h : wv zs m = false) : fvv zs m = 0 := by unfold fvv; rw [h]; rfl
theorem fvv_yes {zs : List Int} {m : Int} (h : wv zs m = true) : fvv zs m = ((vn m zs : Nat) : Int) := by unfold fvv; rw [if_pos h]
theorem rib2 {a b : Int} {v v' : Bool} (h : a = b) (h2 : v = v') : Ending.returned (.tuple #[.int .i64 a, .bool v]) = .returned (.tuple #[.int .i64 b, .bool v']) := by rw [h, h2]
set_option maxRecDepth 100000 in
set_option maxHeartbeats 1000000 in
theorem sFewestV {b1 g len cap : Nat} {zs : List Int} {w : World} (h : Ow w b1 g len cap zs) (hl : len ≤ 1048576) (m : Int) :
    Calls Try.prog 32 #[.slice (some ⟨g, 0, none⟩) len cap, .int .i64 m] w (Ret (.tuple #[.int .i64 (fvv zs m), .bool (wv zs m)]) w) := by
  have HO := Lib.hid h
  have hz := ow_len h
  obtain ⟨x2, hx2⟩ : ∃ x, (decide (1 ≤ m) && decide (m ≤ 1440)) = x := ⟨_, rfl⟩
  cases hg : good zs with
  | false =>
    have HG := Lib.hid hg
    have W0 : wv zs m = false := by unfold wv; rw [hg]; rfl
    have E := Lib.hid (fvv_no W0)
    have HW := Lib.hid W0
    rw [E.out, HW.out]
    clear h hz hg hx2 W0
    go_enter Try.func32, Try.ntmps32
    go_wp2_with fail
    refine (sGood_any HO.out hl false HG.out).mono ?_
    rintro e w' ⟨rfl, rfl⟩
    go_wp2
    go_ret2
    exact ⟨rfl, Below.refl _ _⟩
  | true =>
    have HG := Lib.hid hg
    cases x2 with
    | false =>
      have HX := Lib.hid hx2
      have W0 : wv zs m = false := by unfold wv; rw [hg, hx2]; rfl
      have E := Lib.hid (fvv_no W0)
      have HW := Lib.hid W0
      rw [E.out, HW.out]
      clear h hz hg hx2 W0
      go_enter Try.func32, Try.ntmps32
      go_wp2_with fail
      refine (sGood_any HO.out hl true HG.out).mono ?_
      rintro e w' ⟨rfl, rfl⟩
      go_wp2_with fail
      refine (l1In_any _ _ _ false HX.out _).mono ?_
      rintro e w' ⟨rfl, rfl⟩
      go_wp2
      go_ret2
      exact ⟨rfl, Below.refl _ _⟩
    | true =>
      have HX := Lib.hid hx2
      have ho := (good_iff zs).1 hg
      have hm : 1 ≤ m ∧ m ≤ 1440 := by simpa using hx2
      have C := Lib.hid (cv_any (cap := cap) (ow_off h hl) (good_of ho) (show 0 ≤ m by omega) (by omega))
      cases ha : allLe m zs with
      | false =>
        have W0 : wv zs m = false := by unfold wv; rw [hg, hx2, ha]; rfl
        have E := Lib.hid (fvv_no W0)
        have HW := Lib.hid W0
        rw [cv_no ha] at C
        rw [E.out, HW.out]
        clear h hz hg hx2 W0 ho hm ha
        go_enter Try.func32, Try.ntmps32
        go_wp2_with fail
        refine (sGood_any HO.out hl true HG.out).mono ?_
        rintro e w' ⟨rfl, rfl⟩
        go_wp2_with fail
        refine (l1In_any _ _ _ true HX.out _).mono ?_
        rintro e w' ⟨rfl, rfl⟩
        go_wp2_with fail
        refine C.out.mono ?_
        rintro e w' ⟨rfl, rfl⟩
        go_wp2
        go_ret2
        exact ⟨rfl, Below.refl _ _⟩
      | true =>
        have W0 : wv zs m = true := by unfold wv; rw [hg, hx2, ha]; rfl
        have E := Lib.hid (fvv_yes W0)
        have HW := Lib.hid W0
        rw [cv_yes ha] at C
        have hp : 1 ≤ vn m zs := by
          have h1 := ho.1
          cases zs with
          | nil => simp at h1
          | cons z l => exact vn_pos m z l ((good_of ho).2 z (by simp)).1
        have hp2 : vn m zs ≤ 12 := Nat.le_trans (vn_le m zs) ho.2.1
        rw [E.out, HW.out]
        obtain ⟨V, hV⟩ : ∃ V, vn m zs = V := ⟨_, rfl⟩
        rw [hV] at C hp hp2 ⊢
        clear h hz hg hx2 W0 ho hm ha hV
        go_enter Try.func32, Try.ntmps32
        go_wp2_with fail
        refine (sGood_any HO.out hl true HG.out).mono ?_
        rintro e w' ⟨rfl, rfl⟩
        go_wp2_with fail
        refine (l1In_any _ _ _ true HX.out _).mono ?_
        rintro e w' ⟨rfl, rfl⟩
        go_wp2_with fail
        refine C.out.mono ?_
        rintro e w' ⟨rfl, rfl⟩
        go_wp2
        go_ret2
        exact ⟨rib2 rfl (by simp; omega), Below.refl _ _⟩
theorem max_allLe {zs : List Int} {M m : Int} (h1 : ∃ q, q < zs.length ∧ zs.getD q 0 = M) (h2 : ∀ q, q < zs.length → zs.getD q 0 ≤ M) : allLe m zs = decide (M ≤ m) := by
  rw [Bool.eq_iff_iff, allLe_iff, decide_eq_true_eq]
  constructor
  · intro h
    obtain ⟨q, q1, q2⟩ := h1
    rw [← q2]
    exact h _ (mem_at q1)
  · intro h z hz
    obtain ⟨k, hk, e⟩ := at_mem hz
    have := h2 k hk
    omega
set_option maxRecDepth 100000 in
set_option maxHeartbeats 1000000 in
theorem iFewestV {b1 g len cap : Nat} {zs : List Int} {w : World} (h : Ow w b1 g len cap zs) (hl : len ≤ 1048576) (m : Int) :
    Calls Try.prog 33 #[.slice (some ⟨g, 0, none⟩) len cap, .int .i64 m] w (Ret (.tuple #[.int .i64 (fvv zs m), .bool (wv zs m)]) w) := by
  have HO := Lib.hid h
  have hz := ow_len h
  cases hg : good zs with
  | false =>
    have HG := Lib.hid hg
    have W0 : wv zs m = false := by unfold wv; rw [hg]; rfl
    have E := Lib.hid (fvv_no W0)
    have HW := Lib.hid W0
    rw [E.out, HW.out]
    clear h hz hg W0
    go_enter Try.func33, Try.ntmps33
    go_wp2_with fail
    refine (iGood_any HO.out hl false HG.out).mono ?_
    rintro e w' ⟨rfl, rfl⟩
    go_wp2
    go_ret2
    exact ⟨rfl, Below.refl _ _⟩
  | true =>
    have HG := Lib.hid hg
    have ho := (good_iff zs).1 hg
    have hl1 : 1 ≤ len := by have := ho.1; omega
    by_cases m1 : 1440 < m
    · have W0 : wv zs m = false := by unfold wv; rw [hg, show decide (m ≤ 1440) = false by simp; omega]; simp
      have E := Lib.hid (fvv_no W0)
      have HW := Lib.hid W0
      rw [E.out, HW.out]
      clear h hz hg W0 ho
      go_enter Try.func33, Try.ntmps33
      go_wp2_with fail
      refine (iGood_any HO.out hl true HG.out).mono ?_
      rintro e w' ⟨rfl, rfl⟩
      go_wp2
      go_ret2
      exact ⟨rfl, Below.refl _ _⟩
    · have HK := Lib.hid ho
      have HZ := Lib.hid hz
      clear h hz hg ho
      go_enter Try.func33, Try.ntmps33
      go_wp2_with fail
      refine (iGood_any HO.out hl true HG.out).mono ?_
      rintro e w' ⟨rfl, rfl⟩
      go_wp2_with fail
      refine (max_any HO.out hl hl1).mono ?_
      rintro e w' ⟨M, rfl, hM1, hM2, rfl⟩
      have HM := Lib.hid (max_allLe (m := m) (by rw [HZ.out]; exact hM1) (by rw [HZ.out]; exact hM2))
      have hM3 : 1 ≤ M := by
        obtain ⟨q, q1, q2⟩ := hM1
        have := HK.out.2.2 q (by rw [HZ.out]; exact q1)
        omega
      have HMA := Lib.hid hM2
      clear hM1 hM2
      by_cases m2 : m < M
      · have W0 : wv zs m = false := by unfold wv; rw [HM.out, show decide (M ≤ m) = false by simp; omega]; simp
        have E := Lib.hid (fvv_no W0)
        have HW := Lib.hid W0
        clear W0
        go_wp2
        go_ret2
        exact ⟨rib2 E.out.symm HW.out.symm, Below.refl _ _⟩
      · have W0 : wv zs m = true := by unfold wv; rw [HM.out, HG.out, show decide (M ≤ m) = true by simp; omega]; simp; omega
        have E := Lib.hid (fvv_yes W0)
        have HW := Lib.hid W0
        have C := Lib.hid (vn_any (cap := cap) (ow_off HO.out hl) (good_of HK.out) (fun j hj => Int.le_trans (HMA.out j hj) (show M ≤ m by omega)) (by omega) (by omega))
        clear W0
        go_wp2_with fail
        refine C.out.mono ?_
        rintro e w' ⟨rfl, rfl⟩
        go_wp2
        go_ret2
        exact ⟨rib2 E.out.symm HW.out.symm, Below.refl _ _⟩
end Ch
end Go.Proofs.Ytkfoapidmockfaa
