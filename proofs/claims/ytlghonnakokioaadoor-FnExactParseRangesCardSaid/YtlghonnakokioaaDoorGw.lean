/- When a list is a list of ranges, by the model. -/
import Derived.Test.YtlghonnakokioaaDoorGm2
import Derived.BigRegion
namespace Go.Proofs.YtlghonnakokioaaDoor
open Go.RowKit Go.Joins Go.Deep Go.ChangeShapes Go.WideShapes
set_option linter.unusedVariables false
set_option linter.unusedSimpArgs false
namespace Gw
open Rg Gm
theorem l1In_any (n lo hi : Int) (v : Bool) (hv : (decide (lo ≤ n) && decide (n ≤ hi)) = v) (w : World) :
    Calls Tryd.prog 53 #[.int .i64 n, .int .i64 lo, .int .i64 hi] w fun e w' => e = .returned (.bool v) ∧ w = w' := by
  by_cases c1 : lo ≤ n
  · by_cases c2 : n ≤ hi
    · have e : v = true := by rw [← hv]; simp [c1, c2]
      subst e
      clear hv
      go_enter Tryd.func53, Tryd.ntmps53
      go_wp2
      go_ret
      exact ⟨rfl, rfl⟩
    · have e : v = false := by rw [← hv]; simp [c2]
      subst e
      have t2 : decide (n ≤ hi) = false := by simpa using c2
      clear hv c2
      go_enter Tryd.func53, Tryd.ntmps53
      go_wp2
      go_ret
      exact ⟨rfl, rfl⟩
  · have e : v = false := by rw [← hv]; simp [c1]
    subst e
    have t2 : decide (lo ≤ n) = false := by simpa using c1
    clear hv c1
    go_enter Tryd.func53, Tryd.ntmps53
    go_wp2
    go_ret
    exact ⟨rfl, rfl⟩

set_option maxRecDepth 100000 in
set_option maxHeartbeats 1000000 in
theorem ixRange_any (f t : Int) (v : Bool) (hv : rng f t = v) (w : World) :
    Calls Tryd.prog 32 #[.agg #[.int .i64 f, .int .i64 t]] w (Ret (.bool v) w) := by
  obtain ⟨x1, hx1⟩ : ∃ x, (decide ((1 : Int) ≤ f) && decide (f ≤ 2000)) = x := ⟨_, rfl⟩
  obtain ⟨x2, hx2⟩ : ∃ x, (decide (f ≤ t) && decide (t ≤ 2000)) = x := ⟨_, rfl⟩
  have e : v = (x1 && x2) := by rw [← hv]; unfold rng; rw [hx1, hx2]
  subst e
  have HX1 := Lib.hid hx1
  have HX2 := Lib.hid hx2
  clear hv hx1 hx2
  have C1 := Lib.hid (fun W => l1In_any f 1 2000 x1 HX1.out W)
  have C2 := Lib.hid (fun W => l1In_any t f 2000 x2 HX2.out W)
  clear HX1 HX2
  cases x1
  · go_enter Tryd.func32, Tryd.ntmps32
    go_wp2_with fail
    refine (C1.out _).mono ?_
    rintro e w' ⟨rfl, rfl⟩
    go_wp2
    go_ret
    exact ⟨rfl, below_alloc1 _ _⟩
  · go_enter Tryd.func32, Tryd.ntmps32
    go_wp2_with fail
    refine (C1.out _).mono ?_
    rintro e w' ⟨rfl, rfl⟩
    go_wp2_with fail
    refine (C2.out _).mono ?_
    rintro e w' ⟨rfl, rfl⟩
    go_wp2
    go_ret
    exact ⟨rfl, below_alloc1 _ _⟩
theorem rb {v v' : Bool} {x : Value} (e : v = v') (h : x = .bool v') : Ending.returned x = .returned (.bool v) := by rw [h, e]
theorem good_len {zs : List Int} {n : Nat} (h : ¬ n ≤ 20) : good zs n = false := by
  unfold good
  rw [decide_eq_false h]
  rfl
theorem good_not {zs : List Int} {n k : Nat} (hk : k < n) (h : okk zs k = false) : good zs n = false := by
  cases hg : good zs n with
  | false => rfl
  | true => have := ((good_iff zs n).1 hg).2 k hk; rw [h] at this; cases this
theorem ixGood_none (a : Option Addr) (cap : Nat) (w : World) : Calls Tryd.prog 40 #[.slice a 0 cap] w (Ret (.bool true) w) := by
  go_enter Tryd.func40, Tryd.ntmps40
  go_wp2
  refine wp_loop_rounds 1 ?_
  rw [rounds_succ]
  go_wp2
  go_ret
  exact ⟨rfl, Below.refl _ _⟩
set_option maxRecDepth 100000 in
set_option maxHeartbeats 2500000 in
theorem ixGood_some {b1 g len cap : Nat} {zs : List Int} {w : World} (h : Own w b1 (.slice (some ⟨g, 0, none⟩) len cap) len zs) (hl : len ≤ 1048576) (v : Bool) (hv : good zs len = v) :
    Calls Tryd.prog 40 #[.slice (some ⟨g, 0, none⟩) len cap] w (Ret (.bool v) w) := by
  have hz := own_size h
  have HO := Lib.hid h
  have HV := Lib.hid hv
  by_cases h20 : len ≤ 20
  · clear h hv
    have hl2 : (len : Int) ≤ 20 := by omega
    go_enter Tryd.func40, Tryd.ntmps40
    go_wp2
    go_loopw [10] (fun i wr => ∃ k : Nat, k ≤ len ∧ i = .int .i64 (k : Int) ∧ Below w.heap.size w wr ∧ ∀ j, j < k → okk zs j = true) (fun i _ => ((len : Int) - intOf i).toNat)
    case atStart => exact ⟨0, by omega, rfl, Below.refl _ _, fun j hj => by omega⟩
    case round =>
      obtain ⟨k, hk, rfl, hb, ha⟩ := hrel
      have HA := Lib.hid ha
      have HB := Lib.hid hb
      clear ha hb
      by_cases hlt : (k : Int) < len
      · have hk2 : k < len := by omega
        have hO := Li.own_on HO.out HB.out
        obtain ⟨q0, q1⟩ := cells2 hO (k := k) hk2
        have qp : 0 < k → wr.cell? ⟨g, (k - 1) * 2 + 1, none⟩ = some (.int .i64 (zs.getD ((k - 1) * 2 + 1) 0)) := fun hp => (cells2 hO (k := k - 1) (by omega)).2
        have HQP := Lib.hid qp
        have HK := Lib.hid (okk_iff zs k)
        obtain ⟨x, hx⟩ : ∃ x, rng (zs.getD (k * 2) 0) (zs.getD (k * 2 + 1) 0) = x := ⟨_, rfl⟩
        have HX := Lib.hid hx
        have hs := HB.out.size
        clear hO qp hx
        obtain ⟨f, hf⟩ : ∃ f, zs.getD (k * 2) 0 = f := ⟨_, rfl⟩
        obtain ⟨t, ht⟩ : ∃ t, zs.getD (k * 2 + 1) 0 = t := ⟨_, rfl⟩
        obtain ⟨p, hp⟩ : ∃ p, zs.getD ((k - 1) * 2 + 1) 0 = p := ⟨_, rfl⟩
        have HPB := Lib.hid (show 0 < k → 1 ≤ p ∧ p ≤ 2000 from fun h0 => by
          have := ((okk_iff zs (k - 1)).1 (HA.out (k - 1) (by omega))).1
          rw [hp] at this
          omega)
        rw [hf] at q0 HX HK
        rw [ht] at q1 HX HK
        rw [hp] at HQP HK
        clear hf ht hp
        have X := B2.new wr (.int .i64 f) (.int .i64 t) 26
        have CX := Lib.hid (fun W => ixRange_any f t x HX.out W)
        cases x
        · have EF := Lib.hid (show v = false from by
            rw [← HV.out]
            refine good_not hk2 ?_
            cases ho : okk zs k with
            | false => rfl
            | true => have := ((HK.out).1 ho).1; rw [← rng_iff, HX.out] at this; cases this)
          go_wp2
          refine wp_region_held_drew (S := fun w' => w'.cell? ⟨wr.heap.size, 0, none⟩ = some (.int .i64 f) ∧ w'.cell? ⟨wr.heap.size, 1, none⟩ = some (.int .i64 t)) (by kernel_rfl) ⟨X.drew.2.1, X.drew.2.2⟩ (fun hHeld => ?_)
          refine wpAnyH_take (i := 0) (v := ?_) rfl (by kernel_rfl) (by kernel_rfl) (by kernel_rfl) (fun _ _ _ h => h) (Or.inl ⟨by kernel_rfl, ?_⟩) (by assumption) ?_
          rotate_left
          · intro w0 hS0
            try dsimp only at hS0
            obtain ⟨e0, e1⟩ := hS0
            go_simp
            try with_reducible rfl
          try simp only [Act.put, List.getElem_toArray, List.getElem_cons_zero, List.getElem_cons_succ, List.setIfInBounds_toArray, List.set_cons_zero, List.set_cons_succ]
          refine wpAnyH_ready (rs := [1]) (by kernel_rfl) (by simp) ?_
          refine AllReadyH.cons rfl (fun K hK => ?_) AllReadyH.nil
          go_simp
          refine (CX.out _).mono ?_
          rintro e w4 ⟨rfl, hb4⟩
          have X4 := X.drew.on hb4
          go_simp
          refine hK.out _ _ ⟨X4.2.1, X4.2.2⟩ (fun hHeld => ?_)
          clear hK K
          try simp only [Act.put, List.getElem_toArray, List.getElem_cons_zero, List.getElem_cons_succ, List.setIfInBounds_toArray, List.set_cons_zero, List.set_cons_succ]
          refine wpAnyH_take (i := 2) (v := ?_) rfl (by kernel_rfl) (by kernel_rfl) (by kernel_rfl) (fun _ _ _ h => h) (Or.inl ⟨by kernel_rfl, ?_⟩) (by assumption) ?_
          rotate_left
          · intro w0 hS0
            try dsimp only at hS0
            obtain ⟨e0, e1⟩ := hS0
            go_simp
            try with_reducible rfl
          try simp only [Act.put, List.getElem_toArray, List.getElem_cons_zero, List.getElem_cons_succ, List.setIfInBounds_toArray, List.set_cons_zero, List.set_cons_succ]
          refine wpAnyH_take (i := 3) (v := ?_) rfl (by kernel_rfl) (by kernel_rfl) (by kernel_rfl) (fun _ _ _ h => h) (Or.inl ⟨by kernel_rfl, ?_⟩) (by assumption) ?_
          rotate_left
          · intro w0 hS0
            try dsimp only at hS0
            obtain ⟨e0, e1⟩ := hS0
            go_simp
            try with_reducible rfl
          try simp only [Act.put, List.getElem_toArray, List.getElem_cons_zero, List.getElem_cons_succ, List.setIfInBounds_toArray, List.set_cons_zero, List.set_cons_succ]
          refine wpAnyH_take (i := 4) (v := undef) rfl (by kernel_rfl) (by kernel_rfl) (by kernel_rfl) (fun _ _ _ h => h) (Or.inr ⟨by kernel_rfl, rfl⟩) (by assumption) ?_
          try simp only [Act.put, List.getElem_toArray, List.getElem_cons_zero, List.getElem_cons_succ, List.setIfInBounds_toArray, List.set_cons_zero, List.set_cons_succ]
          refine wpAnyH_take (i := 5) (v := undef) rfl (by kernel_rfl) (by kernel_rfl) (by kernel_rfl) (fun _ _ _ h => h) (Or.inr ⟨by kernel_rfl, rfl⟩) (by assumption) ?_
          try simp only [Act.put, List.getElem_toArray, List.getElem_cons_zero, List.getElem_cons_succ, List.setIfInBounds_toArray, List.set_cons_zero, List.set_cons_succ]
          refine wpAnyH_take (i := 6) (v := undef) rfl (by kernel_rfl) (by kernel_rfl) (by kernel_rfl) (fun _ _ _ h => h) (Or.inr ⟨by kernel_rfl, rfl⟩) (by assumption) ?_
          try simp only [Act.put, List.getElem_toArray, List.getElem_cons_zero, List.getElem_cons_succ, List.setIfInBounds_toArray, List.set_cons_zero, List.set_cons_succ]
          refine wpAnyH_take (i := 7) (v := undef) rfl (by kernel_rfl) (by kernel_rfl) (by kernel_rfl) (fun _ _ _ h => h) (Or.inr ⟨by kernel_rfl, rfl⟩) (by assumption) ?_
          try simp only [Act.put, List.getElem_toArray, List.getElem_cons_zero, List.getElem_cons_succ, List.setIfInBounds_toArray, List.set_cons_zero, List.set_cons_succ]
          refine wpAnyH_take (i := 8) (v := undef) rfl (by kernel_rfl) (by kernel_rfl) (by kernel_rfl) (fun _ _ _ h => h) (Or.inr ⟨by kernel_rfl, rfl⟩) (by assumption) ?_
          try simp only [Act.put, List.getElem_toArray, List.getElem_cons_zero, List.getElem_cons_succ, List.setIfInBounds_toArray, List.set_cons_zero, List.set_cons_succ]
          refine wpAnyH_take (i := 9) (v := undef) rfl (by kernel_rfl) (by kernel_rfl) (by kernel_rfl) (fun _ _ _ h => h) (Or.inr ⟨by kernel_rfl, rfl⟩) (by assumption) ?_
          try simp only [Act.put, List.getElem_toArray, List.getElem_cons_zero, List.getElem_cons_succ, List.setIfInBounds_toArray, List.set_cons_zero, List.set_cons_succ]
          refine wpAnyH_take (i := 10) (v := undef) rfl (by kernel_rfl) (by kernel_rfl) (by kernel_rfl) (fun _ _ _ h => h) (Or.inr ⟨by kernel_rfl, rfl⟩) (by assumption) ?_
          try simp only [Act.put, List.getElem_toArray, List.getElem_cons_zero, List.getElem_cons_succ, List.setIfInBounds_toArray, List.set_cons_zero, List.set_cons_succ]
          refine wpAnyH_take (i := 11) (v := undef) rfl (by kernel_rfl) (by kernel_rfl) (by kernel_rfl) (fun _ _ _ h => h) (Or.inr ⟨by kernel_rfl, rfl⟩) (by assumption) ?_
          try simp only [Act.put, List.getElem_toArray, List.getElem_cons_zero, List.getElem_cons_succ, List.setIfInBounds_toArray, List.set_cons_zero, List.set_cons_succ]
          refine wpAnyH_take (i := 12) (v := undef) rfl (by kernel_rfl) (by kernel_rfl) (by kernel_rfl) (fun _ _ _ h => h) (Or.inr ⟨by kernel_rfl, rfl⟩) (by assumption) ?_
          try simp only [Act.put, List.getElem_toArray, List.getElem_cons_zero, List.getElem_cons_succ, List.setIfInBounds_toArray, List.set_cons_zero, List.set_cons_succ]
          refine wpAnyH_take (i := 13) (v := undef) rfl (by kernel_rfl) (by kernel_rfl) (by kernel_rfl) (fun _ _ _ h => h) (Or.inr ⟨by kernel_rfl, rfl⟩) (by assumption) ?_
          try simp only [Act.put, List.getElem_toArray, List.getElem_cons_zero, List.getElem_cons_succ, List.setIfInBounds_toArray, List.set_cons_zero, List.set_cons_succ]
          refine wpAnyH_take (i := 14) (v := undef) rfl (by kernel_rfl) (by kernel_rfl) (by kernel_rfl) (fun _ _ _ h => h) (Or.inr ⟨by kernel_rfl, rfl⟩) (by assumption) ?_
          try simp only [Act.put, List.getElem_toArray, List.getElem_cons_zero, List.getElem_cons_succ, List.setIfInBounds_toArray, List.set_cons_zero, List.set_cons_succ]
          refine wpAnyH_take (i := 15) (v := undef) rfl (by kernel_rfl) (by kernel_rfl) (by kernel_rfl) (fun _ _ _ h => h) (Or.inr ⟨by kernel_rfl, rfl⟩) (by assumption) ?_
          try simp only [Act.put, List.getElem_toArray, List.getElem_cons_zero, List.getElem_cons_succ, List.setIfInBounds_toArray, List.set_cons_zero, List.set_cons_succ]
          refine wpAnyH_take (i := 16) (v := undef) rfl (by kernel_rfl) (by kernel_rfl) (by kernel_rfl) (fun _ _ _ h => h) (Or.inr ⟨by kernel_rfl, rfl⟩) (by assumption) ?_
          try simp only [Act.put, List.getElem_toArray, List.getElem_cons_zero, List.getElem_cons_succ, List.setIfInBounds_toArray, List.set_cons_zero, List.set_cons_succ]
          refine wpAnyH_take (i := 17) (v := undef) rfl (by kernel_rfl) (by kernel_rfl) (by kernel_rfl) (fun _ _ _ h => h) (Or.inr ⟨by kernel_rfl, rfl⟩) (by assumption) ?_
          try simp only [Act.put, List.getElem_toArray, List.getElem_cons_zero, List.getElem_cons_succ, List.setIfInBounds_toArray, List.set_cons_zero, List.set_cons_succ]
          refine wpAnyH_take (i := 18) (v := ?_) rfl (by kernel_rfl) (by kernel_rfl) (by kernel_rfl) (fun _ _ _ h => h) (Or.inl ⟨by kernel_rfl, ?_⟩) (by assumption) ?_
          rotate_left
          · intro w0 hS0
            try dsimp only at hS0
            obtain ⟨e0, e1⟩ := hS0
            go_simp
            try with_reducible rfl
          try simp only [Act.put, List.getElem_toArray, List.getElem_cons_zero, List.getElem_cons_succ, List.setIfInBounds_toArray, List.set_cons_zero, List.set_cons_succ]
          refine wpAnyH_done (by kernel_rfl) ?_ _
          have HB4 := Lib.hid (HB.out.trans (Rg.below_le ((below_alloc1 wr (.cells #[.int .i64 f, .int .i64 t] 26)).drew.trans (Rg.below_le hb4 (by simp))) hs))
          clear hb4 X X4 q0 q1
          go_wp2
          go_ret
          exact ⟨rb EF.out rfl, HB4.out⟩
        · have HR := Lib.hid ((rng_iff f t).1 HX.out)
          by_cases hk0 : 0 < k
          · have qp := HQP.out hk0
            obtain ⟨j0, hj⟩ : ∃ j0, k = j0 + 1 := ⟨k - 1, by omega⟩
            rw [show k - 1 = j0 by omega] at qp
            have hj0 : j0 < len := by omega
            have qa : (wr.alloc (.cells #[.int .i64 f, .int .i64 t] 26)).cell? ⟨g, j0 * 2 + 1, none⟩ = some (.int .i64 p) := ((below_alloc1 wr _).cell (p := ⟨g, j0 * 2 + 1, none⟩) (lt_of_cell qp)).trans qp
            have t6 : decide ((0 : Int) < (k : Int)) = true := by rw [decide_eq_true_eq]; omega
            have hpb := HPB.out hk0
            have ej8 : IntKind.i64.wrap (p + 2) = p + 2 := IntWalk.i64_in _ (by omega)
            have ej3 : (j0 : Int) < (len : Int) := by omega
            have ej4 : (0 : Int) ≤ (j0 : Int) := by omega
            have ej5 : IntKind.i64.wrap ((k : Int) - 1) = (j0 : Int) := by rw [show (k : Int) - 1 = (j0 : Int) by omega]; exact IntWalk.i64_in _ (by omega)
            clear hj
            by_cases hd : f < p + 2
            · have EF := Lib.hid (show v = false from by
                rw [← HV.out]
                refine good_not hk2 ?_
                cases ho : okk zs k with
                | false => rfl
                | true => have := ((HK.out).1 ho).2 hk0; omega)
              have t5 : decide (f < p + 2) = true := by simpa using hd
              go_wp2
              go_region_held3 (fun w' => w'.cell? ⟨wr.heap.size, 0, none⟩ = some (.int .i64 f) ∧ w'.cell? ⟨wr.heap.size, 1, none⟩ = some (.int .i64 t) ∧ w'.cell? ⟨g, j0 * 2 + 1, none⟩ = some (.int .i64 p))
                (first | exact ⟨X.drew.2.1, X.drew.2.2, qa⟩ | exact ⟨p0, p1, p2⟩ | go_keep)
                (first | (go_at_call 32; refine (CX.out _).mono ?_; rintro e w4 ⟨rfl, hb4⟩; have X4 := X.drew.on hb4; obtain ⟨-, p0, p1⟩ := id X4; have p2 := (hb4.cell (p := ⟨g, j0 * 2 + 1, none⟩) (lt_of_cell qa)).trans qa))
              have HB4 := Lib.hid (HB.out.trans (Rg.below_le ((below_alloc1 wr (.cells #[.int .i64 f, .int .i64 t] 26)).drew.trans (Rg.below_le hb4 (by simp))) hs))
              clear hb4 X X4 p0 p1 p2 q0 q1 qp qa
              go_wp2
              go_ret
              exact ⟨rb EF.out rfl, HB4.out⟩
            · have OK := Lib.hid (show okk zs k = true from HK.out.2 ⟨HR.out, fun _ => by omega⟩)
              have t5 : decide (f < p + 2) = false := by simp; omega
              go_wp2
              go_region_held3 (fun w' => w'.cell? ⟨wr.heap.size, 0, none⟩ = some (.int .i64 f) ∧ w'.cell? ⟨wr.heap.size, 1, none⟩ = some (.int .i64 t) ∧ w'.cell? ⟨g, j0 * 2 + 1, none⟩ = some (.int .i64 p))
                (first | exact ⟨X.drew.2.1, X.drew.2.2, qa⟩ | exact ⟨p0, p1, p2⟩ | go_keep)
                (first | (go_at_call 32; refine (CX.out _).mono ?_; rintro e w4 ⟨rfl, hb4⟩; have X4 := X.drew.on hb4; obtain ⟨-, p0, p1⟩ := id X4; have p2 := (hb4.cell (p := ⟨g, j0 * 2 + 1, none⟩) (lt_of_cell qa)).trans qa))
              have HB4 := Lib.hid (HB.out.trans (Rg.below_le ((below_alloc1 wr (.cells #[.int .i64 f, .int .i64 t] 26)).drew.trans (Rg.below_le hb4 (by simp))) hs))
              clear hb4 X X4 p0 p1 p2 q0 q1 qp qa
              go_wp2
              go_roundw
              case rel => exact ⟨k + 1, by omega, by go_num, HB4.out, fun j hj => by
                by_cases e : j = k
                · subst e; exact OK.out
                · exact HA.out j (by omega)⟩
              case measure => simp [intOf]; omega
          · have e0 : k = 0 := by omega
            subst e0
            have OK := Lib.hid (show okk zs 0 = true from HK.out.2 ⟨HR.out, fun h => by omega⟩)
            go_wp2
            refine wp_region_held_drew (S := fun w' => w'.cell? ⟨wr.heap.size, 0, none⟩ = some (.int .i64 f) ∧ w'.cell? ⟨wr.heap.size, 1, none⟩ = some (.int .i64 t)) (by kernel_rfl) ⟨X.drew.2.1, X.drew.2.2⟩ (fun hHeld => ?_)
            refine wpAnyH_take (i := 0) (v := ?_) rfl (by kernel_rfl) (by kernel_rfl) (by kernel_rfl) (fun _ _ _ h => h) (Or.inl ⟨by kernel_rfl, ?_⟩) (by assumption) ?_
            rotate_left
            · intro w0 hS0
              try dsimp only at hS0
              obtain ⟨e0, e1⟩ := hS0
              go_simp
              try with_reducible rfl
            try simp only [Act.put, List.getElem_toArray, List.getElem_cons_zero, List.getElem_cons_succ, List.setIfInBounds_toArray, List.set_cons_zero, List.set_cons_succ]
            refine wpAnyH_ready (rs := [1]) (by kernel_rfl) (by simp) ?_
            refine AllReadyH.cons rfl (fun K hK => ?_) AllReadyH.nil
            go_simp
            refine (CX.out _).mono ?_
            rintro e w4 ⟨rfl, hb4⟩
            have X4 := X.drew.on hb4
            go_simp
            refine hK.out _ _ ⟨X4.2.1, X4.2.2⟩ (fun hHeld => ?_)
            clear hK K
            try simp only [Act.put, List.getElem_toArray, List.getElem_cons_zero, List.getElem_cons_succ, List.setIfInBounds_toArray, List.set_cons_zero, List.set_cons_succ]
            refine wpAnyH_take (i := 2) (v := ?_) rfl (by kernel_rfl) (by kernel_rfl) (by kernel_rfl) (fun _ _ _ h => h) (Or.inl ⟨by kernel_rfl, ?_⟩) (by assumption) ?_
            rotate_left
            · intro w0 hS0
              try dsimp only at hS0
              obtain ⟨e0, e1⟩ := hS0
              go_simp
              try with_reducible rfl
            try simp only [Act.put, List.getElem_toArray, List.getElem_cons_zero, List.getElem_cons_succ, List.setIfInBounds_toArray, List.set_cons_zero, List.set_cons_succ]
            refine wpAnyH_take (i := 3) (v := ?_) rfl (by kernel_rfl) (by kernel_rfl) (by kernel_rfl) (fun _ _ _ h => h) (Or.inl ⟨by kernel_rfl, ?_⟩) (by assumption) ?_
            rotate_left
            · intro w0 hS0
              try dsimp only at hS0
              obtain ⟨e0, e1⟩ := hS0
              go_simp
              try with_reducible rfl
            try simp only [Act.put, List.getElem_toArray, List.getElem_cons_zero, List.getElem_cons_succ, List.setIfInBounds_toArray, List.set_cons_zero, List.set_cons_succ]
            refine wpAnyH_take (i := 4) (v := ?_) rfl (by kernel_rfl) (by kernel_rfl) (by kernel_rfl) (fun _ _ _ h => h) (Or.inl ⟨by kernel_rfl, ?_⟩) (by assumption) ?_
            rotate_left
            · intro w0 hS0
              try dsimp only at hS0
              obtain ⟨e0, e1⟩ := hS0
              go_simp
              try with_reducible rfl
            try simp only [Act.put, List.getElem_toArray, List.getElem_cons_zero, List.getElem_cons_succ, List.setIfInBounds_toArray, List.set_cons_zero, List.set_cons_succ]
            refine wpAnyH_take (i := 5) (v := ?_) rfl (by kernel_rfl) (by kernel_rfl) (by kernel_rfl) (fun _ _ _ h => h) (Or.inl ⟨by kernel_rfl, ?_⟩) (by assumption) ?_
            rotate_left
            · intro w0 hS0
              try dsimp only at hS0
              obtain ⟨e0, e1⟩ := hS0
              go_simp
              try with_reducible rfl
            try simp only [Act.put, List.getElem_toArray, List.getElem_cons_zero, List.getElem_cons_succ, List.setIfInBounds_toArray, List.set_cons_zero, List.set_cons_succ]
            refine wpAnyH_take (i := 6) (v := ?_) rfl (by kernel_rfl) (by kernel_rfl) (by kernel_rfl) (fun _ _ _ h => h) (Or.inl ⟨by kernel_rfl, ?_⟩) (by assumption) ?_
            rotate_left
            · intro w0 hS0
              try dsimp only at hS0
              obtain ⟨e0, e1⟩ := hS0
              go_simp
              try with_reducible rfl
            try simp only [Act.put, List.getElem_toArray, List.getElem_cons_zero, List.getElem_cons_succ, List.setIfInBounds_toArray, List.set_cons_zero, List.set_cons_succ]
            refine wpAnyH_take (i := 7) (v := undef) rfl (by kernel_rfl) (by kernel_rfl) (by kernel_rfl) (fun _ _ _ h => h) (Or.inr ⟨by kernel_rfl, rfl⟩) (by assumption) ?_
            try simp only [Act.put, List.getElem_toArray, List.getElem_cons_zero, List.getElem_cons_succ, List.setIfInBounds_toArray, List.set_cons_zero, List.set_cons_succ]
            refine wpAnyH_take (i := 8) (v := undef) rfl (by kernel_rfl) (by kernel_rfl) (by kernel_rfl) (fun _ _ _ h => h) (Or.inr ⟨by kernel_rfl, rfl⟩) (by assumption) ?_
            try simp only [Act.put, List.getElem_toArray, List.getElem_cons_zero, List.getElem_cons_succ, List.setIfInBounds_toArray, List.set_cons_zero, List.set_cons_succ]
            refine wpAnyH_take (i := 9) (v := undef) rfl (by kernel_rfl) (by kernel_rfl) (by kernel_rfl) (fun _ _ _ h => h) (Or.inr ⟨by kernel_rfl, rfl⟩) (by assumption) ?_
            try simp only [Act.put, List.getElem_toArray, List.getElem_cons_zero, List.getElem_cons_succ, List.setIfInBounds_toArray, List.set_cons_zero, List.set_cons_succ]
            refine wpAnyH_take (i := 10) (v := undef) rfl (by kernel_rfl) (by kernel_rfl) (by kernel_rfl) (fun _ _ _ h => h) (Or.inr ⟨by kernel_rfl, rfl⟩) (by assumption) ?_
            try simp only [Act.put, List.getElem_toArray, List.getElem_cons_zero, List.getElem_cons_succ, List.setIfInBounds_toArray, List.set_cons_zero, List.set_cons_succ]
            refine wpAnyH_take (i := 11) (v := undef) rfl (by kernel_rfl) (by kernel_rfl) (by kernel_rfl) (fun _ _ _ h => h) (Or.inr ⟨by kernel_rfl, rfl⟩) (by assumption) ?_
            try simp only [Act.put, List.getElem_toArray, List.getElem_cons_zero, List.getElem_cons_succ, List.setIfInBounds_toArray, List.set_cons_zero, List.set_cons_succ]
            refine wpAnyH_take (i := 12) (v := undef) rfl (by kernel_rfl) (by kernel_rfl) (by kernel_rfl) (fun _ _ _ h => h) (Or.inr ⟨by kernel_rfl, rfl⟩) (by assumption) ?_
            try simp only [Act.put, List.getElem_toArray, List.getElem_cons_zero, List.getElem_cons_succ, List.setIfInBounds_toArray, List.set_cons_zero, List.set_cons_succ]
            refine wpAnyH_take (i := 13) (v := undef) rfl (by kernel_rfl) (by kernel_rfl) (by kernel_rfl) (fun _ _ _ h => h) (Or.inr ⟨by kernel_rfl, rfl⟩) (by assumption) ?_
            try simp only [Act.put, List.getElem_toArray, List.getElem_cons_zero, List.getElem_cons_succ, List.setIfInBounds_toArray, List.set_cons_zero, List.set_cons_succ]
            refine wpAnyH_take (i := 14) (v := undef) rfl (by kernel_rfl) (by kernel_rfl) (by kernel_rfl) (fun _ _ _ h => h) (Or.inr ⟨by kernel_rfl, rfl⟩) (by assumption) ?_
            try simp only [Act.put, List.getElem_toArray, List.getElem_cons_zero, List.getElem_cons_succ, List.setIfInBounds_toArray, List.set_cons_zero, List.set_cons_succ]
            refine wpAnyH_take (i := 15) (v := undef) rfl (by kernel_rfl) (by kernel_rfl) (by kernel_rfl) (fun _ _ _ h => h) (Or.inr ⟨by kernel_rfl, rfl⟩) (by assumption) ?_
            try simp only [Act.put, List.getElem_toArray, List.getElem_cons_zero, List.getElem_cons_succ, List.setIfInBounds_toArray, List.set_cons_zero, List.set_cons_succ]
            refine wpAnyH_take (i := 16) (v := undef) rfl (by kernel_rfl) (by kernel_rfl) (by kernel_rfl) (fun _ _ _ h => h) (Or.inr ⟨by kernel_rfl, rfl⟩) (by assumption) ?_
            try simp only [Act.put, List.getElem_toArray, List.getElem_cons_zero, List.getElem_cons_succ, List.setIfInBounds_toArray, List.set_cons_zero, List.set_cons_succ]
            refine wpAnyH_take (i := 17) (v := ?_) rfl (by kernel_rfl) (by kernel_rfl) (by kernel_rfl) (fun _ _ _ h => h) (Or.inl ⟨by kernel_rfl, ?_⟩) (by assumption) ?_
            rotate_left
            · intro w0 hS0
              try dsimp only at hS0
              obtain ⟨e0, e1⟩ := hS0
              go_simp
              try with_reducible rfl
            try simp only [Act.put, List.getElem_toArray, List.getElem_cons_zero, List.getElem_cons_succ, List.setIfInBounds_toArray, List.set_cons_zero, List.set_cons_succ]
            refine wpAnyH_take (i := 18) (v := ?_) rfl (by kernel_rfl) (by kernel_rfl) (by kernel_rfl) (fun _ _ _ h => h) (Or.inl ⟨by kernel_rfl, ?_⟩) (by assumption) ?_
            rotate_left
            · intro w0 hS0
              try dsimp only at hS0
              obtain ⟨e0, e1⟩ := hS0
              go_simp
              try with_reducible rfl
            try simp only [Act.put, List.getElem_toArray, List.getElem_cons_zero, List.getElem_cons_succ, List.setIfInBounds_toArray, List.set_cons_zero, List.set_cons_succ]
            refine wpAnyH_done (by kernel_rfl) ?_ _
            have HB4 := Lib.hid (HB.out.trans (Rg.below_le ((below_alloc1 wr (.cells #[.int .i64 f, .int .i64 t] 26)).drew.trans (Rg.below_le hb4 (by simp))) hs))
            clear hb4 X X4 q0 q1
            go_wp2
            go_roundw
            case rel => exact ⟨1, by omega, by go_num, HB4.out, fun j hj => by
              have e : j = 0 := by omega
              subst e
              exact OK.out⟩
            case measure => simp [intOf]; omega
      · have E := Lib.hid (show v = true from by
          rw [← HV.out]
          exact (good_iff zs len).2 ⟨h20, fun j hj => HA.out j (by omega)⟩)
        go_wp2
        go_ret
        exact ⟨rb E.out rfl, HB.out⟩
  · have E := Lib.hid (show v = false from by rw [← hv]; exact good_len h20)
    clear h hv hz
    go_enter Tryd.func40, Tryd.ntmps40
    go_wp2
    go_ret
    exact ⟨rb E.out rfl, Below.refl _ _⟩
end Gw
end Go.Proofs.YtlghonnakokioaaDoor
