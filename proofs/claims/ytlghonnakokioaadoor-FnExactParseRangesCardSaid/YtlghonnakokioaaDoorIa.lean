/- When a list is a list of ranges, by the program. -/
import Derived.Test.YtlghonnakokioaaDoorGw
namespace Go.Proofs.YtlghonnakokioaaDoor
open Go.RowKit Go.Joins Go.Deep Go.ChangeShapes Go.WideShapes
set_option linter.unusedVariables false
set_option linter.unusedSimpArgs false
namespace Gw
open Rg Gm
theorem hasPage_any (n hi : Int) (v : Bool) (hv : (decide (1 ≤ n) && decide (n ≤ hi)) = v) (w : World) :
    Calls Tryd.prog 69 #[.int .i64 hi, .int .i64 n] w fun e w' => e = .returned (.bool v) ∧ w = w' := by
  by_cases c1 : 1 ≤ n
  · by_cases c2 : n ≤ hi
    · have e : v = true := by rw [← hv]; simp [c1, c2]
      subst e
      clear hv
      go_enter Tryd.func69, Tryd.ntmps69
      go_wp2
      go_ret
      exact ⟨rfl, rfl⟩
    · have e : v = false := by rw [← hv]; simp [c2]
      subst e
      have t2 : decide (n ≤ hi) = false := by simpa using c2
      clear hv c2
      go_enter Tryd.func69, Tryd.ntmps69
      go_wp2
      go_ret
      exact ⟨rfl, rfl⟩
  · have e : v = false := by rw [← hv]; simp [c1]
    subst e
    have t2 : decide (1 ≤ n) = false := by simpa using c1
    clear hv c1
    go_enter Tryd.func69, Tryd.ntmps69
    go_wp2
    go_ret
    exact ⟨rfl, rfl⟩
theorem isIndexable_any (n : Int) (v : Bool) (hv : (decide (1 ≤ n) && decide (n ≤ 2000)) = v) (w : World) :
    Calls Tryd.prog 57 #[.int .i64 n] w fun e w' => e = .returned (.bool v) ∧ w = w' := by
  have C := Lib.hid (fun W => hasPage_any n 2000 v hv W)
  clear hv
  go_enter Tryd.func57, Tryd.ntmps57
  go_wp2_with fail
  refine (C.out _).mono ?_
  rintro e w' ⟨rfl, rfl⟩
  go_wp2
  go_ret
  exact ⟨rfl, rfl⟩
theorem rng_parts (f t : Int) : rng f t = ((decide (1 ≤ f) && decide (f ≤ 2000)) && (decide (1 ≤ t) && decide (t ≤ 2000)) && decide (f ≤ t)) := by
  rw [Bool.eq_iff_iff, rng_iff]
  simp only [Bool.and_eq_true, decide_eq_true_eq]
  omega
set_option maxRecDepth 100000 in
set_option maxHeartbeats 1000000 in
theorem isRange_any (f t : Int) (v : Bool) (hv : rng f t = v) (w : World) :
    Calls Tryd.prog 34 #[.agg #[.int .i64 f, .int .i64 t]] w (Ret (.bool v) w) := by
  obtain ⟨x1, hx1⟩ : ∃ x, (decide ((1 : Int) ≤ f) && decide (f ≤ 2000)) = x := ⟨_, rfl⟩
  obtain ⟨x2, hx2⟩ : ∃ x, (decide ((1 : Int) ≤ t) && decide (t ≤ 2000)) = x := ⟨_, rfl⟩
  obtain ⟨x3, hx3⟩ : ∃ x, decide (f ≤ t) = x := ⟨_, rfl⟩
  have e : v = ((x1 && x2) && x3) := by rw [← hv, rng_parts, hx1, hx2, hx3]
  subst e
  have HX1 := Lib.hid hx1
  have HX2 := Lib.hid hx2
  clear hv hx1 hx2
  have C1 := Lib.hid (fun W => isIndexable_any f x1 HX1.out W)
  have C2 := Lib.hid (fun W => isIndexable_any t x2 HX2.out W)
  clear HX1 HX2
  cases x1
  · go_enter Tryd.func34, Tryd.ntmps34
    go_wp2_with fail
    refine (C1.out _).mono ?_
    rintro e w' ⟨rfl, rfl⟩
    go_wp2
    go_ret
    exact ⟨rfl, below_alloc1 _ _⟩
  · cases x2
    · go_enter Tryd.func34, Tryd.ntmps34
      go_wp2_with fail
      refine (C1.out _).mono ?_
      rintro e w' ⟨rfl, rfl⟩
      go_wp2_with fail
      refine (C2.out _).mono ?_
      rintro e w' ⟨rfl, rfl⟩
      go_wp2
      go_ret
      exact ⟨rfl, below_alloc1 _ _⟩
    · cases x3
      all_goals (
        go_enter Tryd.func34, Tryd.ntmps34
        go_wp2_with fail
        refine (C1.out _).mono ?_
        rintro e w' ⟨rfl, rfl⟩
        go_wp2_with fail
        refine (C2.out _).mono ?_
        rintro e w' ⟨rfl, rfl⟩
        go_wp2
        go_ret
        exact ⟨rfl, below_alloc1 _ _⟩)
/-- the least beginning of the range k -/
def lst (zs : List Int) (k : Nat) : Int := if k = 0 then 1 else zs.getD ((k - 1) * 2 + 1) 0 + 2
theorem lst_next (zs : List Int) (k : Nat) : lst zs (k + 1) = zs.getD (k * 2 + 1) 0 + 2 := by unfold lst; rw [if_neg (by omega), show k + 1 - 1 = k by omega]
theorem okk_lst (zs : List Int) (k : Nat) (hr : rng (zs.getD (k * 2) 0) (zs.getD (k * 2 + 1) 0) = true) : okk zs k = true ↔ lst zs k ≤ zs.getD (k * 2) 0 := by
  rw [okk_iff]
  rw [rng_iff] at hr
  unfold lst
  by_cases h0 : k = 0
  · rw [if_pos h0]
    constructor
    · intro h; exact hr.1
    · intro h; exact ⟨hr, fun h => by omega⟩
  · rw [if_neg h0]
    constructor
    · intro h; exact h.2 (by omega)
    · intro h; exact ⟨hr, fun _ => h⟩
theorem below_r {wr w' w : World} {o : Obj} (hb : Below w.heap.size w wr) (h : Below (wr.alloc o).heap.size (wr.alloc o) w') : Below w.heap.size w w' :=
  (hb.alloc hb.size o).trans (Rg.below_le h (by simp; exact Nat.le_succ_of_le hb.size))
set_option maxRecDepth 100000 in
set_option maxHeartbeats 1000000 in
theorem areRanges_some {b1 g len cap : Nat} {zs : List Int} {w : World} (h : Own w b1 (.slice (some ⟨g, 0, none⟩) len cap) len zs) (hl : len ≤ 1048576) (v : Bool) (hv : good zs len = v) :
    Calls Tryd.prog 42 #[.slice (some ⟨g, 0, none⟩) len cap] w (Ret (.bool v) w) := by
  have hz := own_size h
  have HO := Lib.hid h
  have HV := Lib.hid hv
  by_cases h20 : len ≤ 20
  · clear h hv
    have hl2 : (len : Int) ≤ 20 := by omega
    go_enter Tryd.func42, Tryd.ntmps42
    go_wp2
    go_loopw [3, 11] (fun l i wr => ∃ k : Nat, k ≤ len ∧ i = .int .i64 (k : Int) ∧ l = .int .i64 (lst zs k) ∧ Below w.heap.size w wr ∧ ∀ j, j < k → okk zs j = true) (fun _ i _ => ((len : Int) - intOf i).toNat)
    case atStart => exact ⟨0, by omega, rfl, rfl, Below.refl _ _, fun j hj => by omega⟩
    case round =>
      obtain ⟨k, hk, rfl, rfl, hb, ha⟩ := hrel
      have HA := Lib.hid ha
      have HB := Lib.hid hb
      clear ha hb
      by_cases hlt : (k : Int) < len
      · have hk2 : k < len := by omega
        obtain ⟨q0, q1⟩ := cells2 (Li.own_on HO.out HB.out) (k := k) hk2
        have HK := Lib.hid (okk_lst zs k)
        have HN := Lib.hid (lst_next zs k)
        obtain ⟨x, hx⟩ : ∃ x, rng (zs.getD (k * 2) 0) (zs.getD (k * 2 + 1) 0) = x := ⟨_, rfl⟩
        have HX := Lib.hid hx
        clear hx
        obtain ⟨L, hL⟩ : ∃ L, lst zs k = L := ⟨_, rfl⟩
        rw [hL] at HK ⊢
        clear hL
        obtain ⟨f, hf⟩ : ∃ f, zs.getD (k * 2) 0 = f := ⟨_, rfl⟩
        obtain ⟨t, ht⟩ : ∃ t, zs.getD (k * 2 + 1) 0 = t := ⟨_, rfl⟩
        have EK := Lib.hid (show rng f t = false → okk zs k = false from fun e => by
          cases ho : okk zs k with
          | false => rfl
          | true => have := ((okk_iff zs k).1 ho).1; rw [hf, ht, ← rng_iff, e] at this; cases this)
        rw [hf] at q0 HX HK
        rw [ht] at q1 HX HK HN
        clear hf ht
        have X := B2.new wr (.int .i64 f) (.int .i64 t) 26
        have CX := Lib.hid (fun W => isRange_any f t x HX.out W)
        cases x
        · have EF := Lib.hid (show v = false from by rw [← HV.out]; exact good_not hk2 (EK.out HX.out))
          go_wp2_with fail
          refine (CX.out _).mono ?_
          rintro e w4 ⟨rfl, hb4⟩
          have HB4 := Lib.hid (below_r HB.out hb4)
          clear hb4 X q0 q1
          go_wp2
          go_ret
          exact ⟨rb EF.out rfl, HB4.out⟩
        · have HR := (rng_iff f t).1 HX.out
          have r1 := HR.1
          have r2 := HR.2.1
          have r3 := HR.2.2
          clear HR
          by_cases hd : f < L
          · have EF := Lib.hid (show v = false from by
              rw [← HV.out]
              refine good_not hk2 ?_
              cases ho : okk zs k with
              | false => rfl
              | true => have := (HK.out HX.out).1 ho; omega)
            go_wp2_with fail
            refine (CX.out _).mono ?_
            rintro e w4 ⟨rfl, hb4⟩
            have HB4 := Lib.hid (below_r HB.out hb4)
            obtain ⟨_, p0, p1⟩ := X.on hb4
            clear hb4 X q0 q1
            go_wp2
            go_ret
            exact ⟨rb EF.out rfl, HB4.out⟩
          · have OK := Lib.hid (show okk zs k = true from (HK.out HX.out).2 (by omega))
            go_wp2_with fail
            refine (CX.out _).mono ?_
            rintro e w4 ⟨rfl, hb4⟩
            have HB4 := Lib.hid (below_r HB.out hb4)
            obtain ⟨_, p0, p1⟩ := X.on hb4
            clear hb4 X q0 q1
            go_wp2
            go_roundw
            case rel => exact ⟨k + 1, by omega, by go_num, by rw [HN.out] <;> first | rfl | go_num, HB4.out, fun j hj => by
              by_cases e : j = k
              · rw [e]; exact OK.out
              · exact HA.out j (by omega)⟩
            case measure => simp [intOf]; omega
      · have E := Lib.hid (show v = true from by
          rw [← HV.out]
          exact (good_iff zs len).2 ⟨h20, fun j hj => HA.out j (by omega)⟩)
        go_wp2
        go_ret
        exact ⟨rb E.out rfl, HB.out⟩
  · have E := Lib.hid (show v = false from by rw [← hv]; exact good_len h20)
    clear h hv hz
    go_enter Tryd.func42, Tryd.ntmps42
    go_wp2
    go_ret
    exact ⟨rb E.out rfl, Below.refl _ _⟩
end Gw
end Go.Proofs.YtlghonnakokioaaDoor
