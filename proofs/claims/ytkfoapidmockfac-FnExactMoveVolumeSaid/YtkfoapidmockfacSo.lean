/- When a list is a standing, asked from both sides. -/
import Derived.Test.YtkfoapidmockfacCb
import Derived.Test.YtkfoapidmockfacNsm
import Derived.Laws.Rows
namespace Go.Proofs.Ytkfoapidmockfac
open Go.RowKit Go.Joins Go.Deep Go.ChangeShapes Go.WideShapes
set_option linter.unusedVariables false
set_option linter.unusedSimpArgs false
namespace So
open Sh
/-- a block of cells -/
def Arr (W : World) (b : Nat) (T : TypeId) (cur : Array Value) : Prop := W.heap[b]? = some (.cells cur T)
theorem Arr.lt {W : World} {b : Nat} {T : TypeId} {cur : Array Value} (h : Arr W b T cur) : b < W.heap.size := by
  rcases Nat.lt_or_ge b W.heap.size with h1 | h1
  · exact h1
  · unfold Arr at h
    rw [Array.getElem?_eq_none h1] at h
    cases h
theorem Arr.cell {W : World} {b : Nat} {T : TypeId} {cur : Array Value} (h : Arr W b T cur) {j : Nat} {v : Value} (hj : cur[j]? = some v) : W.cell? ⟨b, j, none⟩ = some v := by
  unfold Arr at h
  simp [World.cell?, h, hj]
theorem Arr.frozen {W : World} {b : Nat} {T : TypeId} {cur : Array Value} (h : Arr W b T cur) (j : Nat) : W.frozen? ⟨b, j, none⟩ = false := by
  unfold Arr at h
  simp [World.frozen?, h]
theorem Arr.set {W : World} {b : Nat} {T : TypeId} {cur : Array Value} (h : Arr W b T cur) (j : Nat) (v : Value) : Arr (W.setCell ⟨b, j, none⟩ v) b T (cur.setIfInBounds j v) :=
  heap_setCell_same W b j cur T v h
theorem Arr.on {W W' : World} {b : Nat} {T : TypeId} {cur : Array Value} (h : Arr W b T cur) (hb : Below W.heap.size W W') : Arr W' b T cur := (hb.block b h.lt).trans h
theorem Arr.new (w : World) (cur : Array Value) (T : TypeId) : Arr (w.alloc (.cells cur T)) w.heap.size T cur := heap_alloc_new w _
theorem Arr.drew {W : World} {b : Nat} {T : TypeId} {cur : Array Value} (h : Arr W b T cur) : Arr W.drew b T cur := h
/-- a slice of the first k numbers of a list -/
def hasTo (zs : List Int) (x : Int) (k : Nat) : Bool := (List.range k).any fun j => decide (zs.getD j 0 = x)
theorem hasTo_iff (zs : List Int) (x : Int) (k : Nat) : hasTo zs x k = true ↔ ∃ j, j < k ∧ zs.getD j 0 = x := by
  unfold hasTo
  simp only [List.any_eq_true, List.mem_range, decide_eq_true_eq]
set_option maxRecDepth 100000 in
set_option maxHeartbeats 1000000 in
theorem l1Has_any {b1 g len cap cp : Nat} {zs : List Int} {w : World} (x : Int) (h : Ow w b1 g len cap zs) (hl : len ≤ 1048576) (n : Nat) (hn : n ≤ len) (v : Bool) (hv : hasTo zs x n = v) :
    Calls Try.prog 39 #[.slice (some ⟨g, 0, none⟩) n cp, .int .i64 x] w fun e w' => e = .returned (.bool v) ∧ w = w' := by
  have HO := Lib.hid h
  have HV := Lib.hid hv
  clear h hv
  go_enter Try.func39, Try.ntmps39
  go_wp2
  go_loop [9] (fun i => ∃ k : Nat, k ≤ n ∧ i = .int .i64 (k : Int) ∧ ∀ j, j < k → zs.getD j 0 ≠ x) (fun i => ((n : Int) - intOf i).toNat)
  case atStart => exact ⟨0, by omega, rfl, fun j hj => by omega⟩
  case round =>
    obtain ⟨k, hk, rfl, hall⟩ := hrel
    have HA := Lib.hid hall
    clear hall
    by_cases hlt : (k : Int) < n
    · obtain ⟨z, HZK, hc⟩ := ow_at HO.out (k := k) (by omega)
      by_cases c : z = x
      · have E := Lib.hid (show v = true by rw [← HV.out]; exact (hasTo_iff zs x n).2 ⟨k, by omega, HZK.out.trans c⟩)
        have t1 : (z == x) = true := by simpa using c
        clear c
        go_wp2
        go_ret
        exact ⟨rb E.out rfl, rfl⟩
      · have HS := Lib.hid (show zs.getD k 0 ≠ x by rw [HZK.out]; exact c)
        have t1 : (z == x) = false := by simpa using c
        clear c
        go_wp2
        go_round
        case rel => exact ⟨k + 1, by omega, by go_num, fun j hj => by
          by_cases e : j = k
          · subst e; exact HS.out
          · exact HA.out j (by omega)⟩
        case measure => simp [intOf]; omega
    · have E := Lib.hid (show v = false by
        cases h2 : v with
        | false => rfl
        | true =>
          obtain ⟨j, hj, e⟩ := (hasTo_iff zs x n).1 (HV.out.trans h2)
          exact absurd e (HA.out j (by omega)))
      go_wp2
      go_ret
      exact ⟨rb E.out rfl, rfl⟩
theorem okTo_step (zs : List Int) (k : Nat) : Ns.okTo zs (k + 1) = (Ns.okTo zs k && (decide (0 ≤ zs.getD k 0) && decide (zs.getD k 0 < zs.length) && !hasTo zs (zs.getD k 0) k)) := by
  show (Ns.okTo zs k && (decide (0 ≤ zs.getD k 0) && decide (zs.getD k 0 < zs.length) && (List.range k).all (fun j => decide (zs.getD j 0 ≠ zs.getD k 0)))) = _
  congr 1
  congr 1
  rw [Bool.eq_iff_iff]
  simp only [List.all_eq_true, List.mem_range, decide_eq_true_eq, Bool.not_eq_true', ← Bool.not_eq_true, hasTo_iff]
  constructor
  · rintro h ⟨j, hj, e⟩; exact h j hj e
  · intro h j hj e; exact h ⟨j, hj, e⟩
theorem okTo_le (zs : List Int) {j k : Nat} (hjk : j ≤ k) (h : Ns.okTo zs j = false) : Ns.okTo zs k = false := by
  induction k with
  | zero => rw [show j = 0 by omega] at h; exact h
  | succ k ih =>
    by_cases e : j = k + 1
    · rw [← e]; exact h
    · rw [okTo_step, ih (by omega)]; rfl
theorem good_no {zs : List Int} {k : Nat} (hk : k ≤ zs.length) (h : Ns.okTo zs k = false) : Ns.good zs = false := by
  unfold Ns.good
  rw [okTo_le zs hk h, Bool.and_false]
set_option maxRecDepth 100000 in
set_option maxHeartbeats 1000000 in
theorem sStands_any {b1 g len cap : Nat} {zs : List Int} {w : World} (h : Ow w b1 g len cap zs) (hl : len ≤ 1048576) (v : Bool) (hv : Ns.good zs = v) :
    Calls Try.prog 29 #[.slice (some ⟨g, 0, none⟩) len cap] w fun e w' => e = .returned (.bool v) ∧ w = w' := by
  have hz := ow_len h
  have hcap := (ow_cap h).1
  have hcap2 := (ow_cap h).2
  unfold maxLen at hcap2
  have HO := Lib.hid h
  have HV := Lib.hid hv
  have HZ := Lib.hid hz
  clear h hv hz
  obtain ⟨x1, hx1⟩ : ∃ x, (decide ((1 : Int) ≤ (len : Int)) && decide ((len : Int) ≤ 8)) = x := ⟨_, rfl⟩
  have HX1 := Lib.hid hx1
  clear hx1
  cases x1
  · have E := Lib.hid (show v = false by
      rw [← HV.out]
      unfold Ns.good
      have := HX1.out
      rw [HZ.out]
      rw [Bool.and_eq_false_iff] at *
      left
      rw [Bool.and_eq_false_iff]
      simp only [decide_eq_false_iff_not] at *
      omega)
    go_enter Try.func29, Try.ntmps29
    go_wp2_with (first | (go_at_call 27; refine (l1In_any _ _ _ false HX1.out _).mono ?_; rintro e w' ⟨rfl, rfl⟩))
    go_ret
    exact ⟨rb E.out rfl, rfl⟩
  · have hb : 1 ≤ len ∧ len ≤ 8 := by have := HX1.out; simp only [Bool.and_eq_true, decide_eq_true_eq] at this; omega
    have h18 := hb.1
    have h28 := hb.2
    have GE := Lib.hid (show v = Ns.okTo zs len by
      rw [← HV.out]
      unfold Ns.good
      rw [HZ.out]
      simp [h18, h28])
    clear hb
    go_enter Try.func29, Try.ntmps29
    go_wp2_with (first | (go_at_call 27; refine (l1In_any _ _ _ true HX1.out _).mono ?_; rintro e w' ⟨rfl, rfl⟩))
    go_loop [11] (fun i => ∃ k : Nat, k ≤ len ∧ i = .int .i64 (k : Int) ∧ Ns.okTo zs k = true) (fun i => ((len : Int) - intOf i).toNat)
    case atStart => exact ⟨0, by omega, rfl, rfl⟩
    case round =>
      obtain ⟨k, hk, rfl, hall⟩ := hrel
      have HA := Lib.hid hall
      clear hall
      by_cases hlt : (k : Int) < len
      · obtain ⟨z, HZK, hc⟩ := ow_at HO.out (k := k) (by omega)
        have ES := okTo_step zs k
        rw [HA.out, HZK.out, HZ.out, Bool.true_and] at ES
        have HES := Lib.hid ES
        clear ES
        obtain ⟨x2, hx2⟩ : ∃ x, (decide ((0 : Int) ≤ z) && decide (z ≤ (len : Int) - 1)) = x := ⟨_, rfl⟩
        have HX2 := Lib.hid hx2
        clear hx2
        have hkc : k ≤ cap := by omega
        cases x2
        · have E := Lib.hid (show v = false by
            rw [GE.out]
            refine okTo_le zs (j := k + 1) (by omega) ?_
            rw [HES.out]
            have := HX2.out
            rw [Bool.and_eq_false_iff] at *
            left
            rw [Bool.and_eq_false_iff]
            simp only [decide_eq_false_iff_not] at *
            omega)
          go_wp2_with (first | (go_at_call 27; refine (l1In_any _ _ _ false HX2.out _).mono ?_; rintro e w' ⟨rfl, rfl⟩))
          go_ret
          exact ⟨rb E.out rfl, rfl⟩
        · have hz12 : 0 ≤ z ∧ z < len := by have := HX2.out; simp only [Bool.and_eq_true, decide_eq_true_eq] at this; omega
          obtain ⟨x3, hx3⟩ : ∃ x, hasTo zs z k = x := ⟨_, rfl⟩
          have HX3 := Lib.hid hx3
          have HN := Lib.hid (show Ns.okTo zs (k + 1) = !x3 by
            rw [HES.out, hx3]
            simp [hz12.1, hz12.2])
          clear hx3 hz12
          cases x3
          · go_wp2_with (first | (go_at_call 27; refine (l1In_any _ _ _ true HX2.out _).mono ?_; rintro e w' ⟨rfl, rfl⟩) | (go_at_call 39; refine (l1Has_any z HO.out hl k (by omega) false HX3.out).mono ?_; rintro e w' ⟨rfl, rfl⟩))
            go_round
            case rel => exact ⟨k + 1, by omega, by go_num, HN.out⟩
            case measure => simp [intOf]; omega
          · have E := Lib.hid (show v = false by rw [GE.out]; exact okTo_le zs (j := k + 1) (by omega) HN.out)
            go_wp2_with (first | (go_at_call 27; refine (l1In_any _ _ _ true HX2.out _).mono ?_; rintro e w' ⟨rfl, rfl⟩) | (go_at_call 39; refine (l1Has_any z HO.out hl k (by omega) true HX3.out).mono ?_; rintro e w' ⟨rfl, rfl⟩))
            go_ret
            exact ⟨rb E.out rfl, rfl⟩
      · have E := Lib.hid (show v = true by rw [GE.out, show len = k by omega]; exact HA.out)
        go_wp2
        go_ret
        exact ⟨rb E.out rfl, rfl⟩
end So
end Go.Proofs.Ytkfoapidmockfac
