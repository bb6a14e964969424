/- What countsByLength answers: a new map, with an entry for each length of the numbers of a book of 1 to 2000 pages, its counts those of the numbers of that length. -/
import Derived.Test.YtnaikhfhimijdaaWith
import Derived.Maps.RangeWalk
namespace Go.Proofs.Ytnaikhfhimijdaa
open Go.RowKit Go.WideMaps Go.Maps
theorem law : Keyed Try.prog 3 := int_keyed Try.underlying3
/-- how ten counts read -/
def encRow (g : Int → Int) : DataW Unit := .agg [.lit (.int .i64 (g 0)), .lit (.int .i64 (g 1)), .lit (.int .i64 (g 2)), .lit (.int .i64 (g 3)), .lit (.int .i64 (g 4)), .lit (.int .i64 (g 5)), .lit (.int .i64 (g 6)), .lit (.int .i64 (g 7)), .lit (.int .i64 (g 8)), .lit (.int .i64 (g 9))]
theorem row_inj {g h : Int → Int} (e : row g = row h) : encRow g = encRow h := by
  simp only [row_eq, Array.mk.injEq, List.cons.injEq, Value.int.injEq, true_and, and_true] at e
  obtain ⟨e0, e1, e2, e3, e4, e5, e6, e7, e8, e9⟩ := e
  unfold encRow
  rw [e0, e1, e2, e3, e4, e5, e6, e7, e8, e9]
open Classical in
noncomputable def R (v : Value) : Option (DataW Unit × List MemPlace) := if h : ∃ g, v = .agg (row g) then some (encRow (Classical.choose h), []) else none
theorem R_mk (g : Int → Int) : R (.agg (row g)) = some (encRow g, []) := by
  have h : ∃ g', Value.agg (row g) = .agg (row g') := ⟨g, rfl⟩
  unfold R
  rw [dif_pos h]
  have := Classical.choose_spec h
  rw [row_inj (Value.agg.inj this)]
theorem R_inv {v : Value} {y : DataW Unit × List MemPlace} (h : R v = some y) : ∃ g, v = .agg (row g) ∧ y = (encRow g, []) := by
  unfold R at h
  split at h
  · rename_i hg
    obtain ⟨g, rfl⟩ := hg
    have := R_mk g
    unfold R at this
    rw [dif_pos ⟨g, rfl⟩] at this
    rw [this] at h
    exact ⟨g, rfl, (Option.some.inj h).symm⟩
  · cases h
theorem enc_inj {g h : Int → Int} (e : encRow g = encRow h) (d : Int) (h1 : 0 ≤ d) (h2 : d ≤ 9) : g d = h d := by
  unfold encRow at e
  simp only [DataW.agg.injEq, List.cons.injEq, DataW.lit.injEq, Lit.int.injEq, true_and, and_true] at e
  obtain ⟨e0, e1, e2, e3, e4, e5, e6, e7, e8, e9⟩ := e
  rcases (show d = 0 ∨ d = 1 ∨ d = 2 ∨ d = 3 ∨ d = 4 ∨ d = 5 ∨ d = 6 ∨ d = 7 ∨ d = 8 ∨ d = 9 from by omega) with rfl | rfl | rfl | rfl | rfl | rfl | rfl | rfl | rfl | rfl
  all_goals assumption
/-- the counts of the numbers of i + 1 digits of a book of p pages -/
def C (p i : Nat) : Int → Int := D.cs (10 ^ i) (min p (10 ^ (i + 1) - 1) + 1 - 10 ^ i)
def key (i : Nat) : Lit := .int .i64 ((10 ^ i : Nat) : Int)
noncomputable def Dm (p : Nat) : Nat → DataW Unit
  | 0 => .map []
  | i + 1 => (Dm p i).put (key i) (encRow (C p i))
theorem dm_isMap (p i : Nat) : IsMap (Dm p i) := by
  induction i with
  | zero => exact isMap_empty
  | succ i ih => obtain ⟨es, h⟩ := ih; unfold Dm; rw [h]; exact ⟨_, rfl⟩
theorem key_ok (i : Nat) (h : i ≤ 4) : WideAt.IsKeyLit (key i) ∧ keyOf Try.prog 3 (.int .i64 ((10 ^ i : Nat) : Int)) = some (key i) := by
  have hw : (Lit.int .i64 ((10 ^ i : Nat) : Int)).wf = true := by
    rcases (show i = 0 ∨ i = 1 ∨ i = 2 ∨ i = 3 ∨ i = 4 from by omega) with rfl | rfl | rfl | rfl | rfl <;> decide
  have hk := keyOf_int_mk Try.underlying3 hw
  exact ⟨law.key hk, hk⟩
theorem key_ne {i j : Nat} (h : i ≠ j) : key i ≠ key j := by
  intro e
  unfold key at e
  have e1 : ((10 ^ i : Nat) : Int) = ((10 ^ j : Nat) : Int) := by injection e
  have e2 : 10 ^ i = 10 ^ j := by exact_mod_cast e1
  by_cases c : i < j
  · have := Nat.pow_lt_pow_right (a := 10) (by decide) c; omega
  · have := Nat.pow_lt_pow_right (a := 10) (by decide) (show j < i by omega); omega
theorem dm_has (p m : Nat) (hm : m ≤ 4) (kl : Lit) (h : Maps.has (Dm p m) kl = true) : ∃ i, i < m ∧ kl = key i := by
  induction m with
  | zero => simp [Dm, Maps.has] at h
  | succ m ih =>
    by_cases e : kl = key m
    · exact ⟨m, by omega, e⟩
    · unfold Dm at h
      rw [has_put_other e] at h
      obtain ⟨i, hi, hk⟩ := ih (by omega) h
      exact ⟨i, by omega, hk⟩
theorem dm_mem (p m i : Nat) (hm : m ≤ 4) (h : i < m) : Maps.has (Dm p m) (key i) = true := by
  induction m with
  | zero => omega
  | succ m ih =>
    unfold Dm
    by_cases e : i = m
    · subst e; exact has_put_same (dm_isMap p i) (key_ok i (by omega)).1 _
    · rw [has_put_other (key_ne e)]; exact ih (by omega) (by omega)
theorem dm_at (p m i : Nat) (hm : m ≤ 4) (h : i < m) (z : DataW Unit) : (Dm p m).atKey (key i) z = encRow (C p i) := by
  induction m with
  | zero => omega
  | succ m ih =>
    unfold Dm
    by_cases e : i = m
    · subst e; exact atKey_put_same (dm_isMap p i) (key_ok i (by omega)).1 _ _
    · rw [atKey_put_other (key_ne e)]; exact ih (by omega) (by omega)
theorem countsBetween_int (f l : Int) (h1 : 1 ≤ f) (h2 : f ≤ 3000) (h3 : l ≤ 3000) (h4 : f ≤ l + 1) (w : World) :
    Calls Try.prog 46 #[.int .i64 f, .int .i64 l] w fun e w' => e = .returned (.agg (row (D.cs f.toNat (l.toNat + 1 - f.toNat)))) ∧ Grown w w' ∧ w.grownBy w' none := by
  obtain ⟨a, rfl⟩ := Int.eq_ofNat_of_zero_le (show 0 ≤ f by omega)
  obtain ⟨b, rfl⟩ := Int.eq_ofNat_of_zero_le (show 0 ≤ l by omega)
  exact countsBetween_all a b (by omega) (by omega) (by omega) (by omega) w
/-- m lengths, of the numbers of p pages -/
def Len (p m : Nat) : Prop := m ≤ 4 ∧ (m = 0 ∨ 10 ^ (m - 1) ≤ p)
set_option maxRecDepth 100000 in
set_option maxHeartbeats 4000000 in
theorem byLength_any (p : Nat) (h1 : 1 ≤ p) (h2 : p ≤ 2000) (w : World) :
    Calls Try.prog 41 #[.int .i64 p] w fun e w' => ∃ m : Nat, Len p m ∧ p < 10 ^ m ∧ e = .returned (.map (some w.heap.size)) ∧ w'.ownsMap Try.prog 3 R w.heap.size m (Dm p m) ∧ Below w.heap.size w w' := by
  have hmm := @run_makeMap Try.prog
  go_enter Try.func41, Try.ntmps41
  go_wp2
  go_loopw [4] (fun q wr => ∃ i : Nat, Len p i ∧ q = .int .i64 ((10 ^ i : Nat) : Int) ∧ wr.ownsMap Try.prog 3 R w.heap.size i (Dm p i) ∧ Below w.heap.size w wr) (fun q _ => (20000 - intOf q).toNat)
  case atStart => exact ⟨0, ⟨by omega, Or.inl rfl⟩, rfl, World.ownsMap_made _ _ _ _, (Below.refl _ _).alloc (Nat.le_refl _) _⟩
  case round =>
    obtain ⟨i, ⟨hi1, hi2⟩, rfl, hown, hnx⟩ := hrel
    rcases (show i = 0 ∨ i = 1 ∨ i = 2 ∨ i = 3 ∨ i = 4 from by omega) with rfl | rfl | rfl | rfl | rfl
    · rw [show ((10 ^ 0 : Nat) : Int) = 1 from rfl]
      by_cases hF : (1 : Int) ≤ p
      · by_cases hmin : (p : Int) ≤ 9
        · have hC : C p 0 = D.cs 1 (p + 1 - 1) := by
            unfold C
            rw [show min p (10 ^ (0 + 1) - 1) = p from by simp only [Nat.min_def]; split <;> omega]
          have B1 : Hid (∀ w : World, Calls Try.prog 46 #[.int .i64 1, .int .i64 (p : Int)] w fun e w' => e = .returned (.agg (row (C p 0))) ∧ Grown w w' ∧ w.grownBy w' none) := Lib.hid (fun w => by rw [hC]; exact countsBetween_int 1 (p : Int) (by omega) (by omega) (by omega) (by omega) w)
          clear hC
          go_wp2_with fail
          refine (B1.out _).mono ?_
          rintro e w' ⟨rfl, hg, hgb⟩
          go_wp2_with (first | (at_mapUpdate; refine wpList_mapUpdate_own _ rfl _ _ _ 34 rfl 3 37 law Try.underlying34 R w.heap.size 0 (Dm p 0) rfl (hown.kept hgb (by simp)) (by unfold maxLen; omega) _ _ _ rfl rfl (key_ok 0 (by omega)).2 (encRow (C p 0)) [] (R_mk _) ?_; intro w1 hown1 hgrow1))
          go_roundw
          case rel => exact ⟨1, ⟨by omega, Or.inr (by omega)⟩, rfl, hown1, (hnx.grown hgb hnx.size (by simp)).grown hgrow1 (Nat.le_trans hnx.size hgb.size) (fun j hj => by cases hj; exact Nat.le_refl _)⟩
          case measure => simp [intOf]
        · have hC : C p 0 = D.cs 1 (9 + 1 - 1) := by
            unfold C
            rw [show min p (10 ^ (0 + 1) - 1) = 9 from by simp only [Nat.min_def]; split <;> omega]
          have B1 : Hid (∀ w : World, Calls Try.prog 46 #[.int .i64 1, .int .i64 9] w fun e w' => e = .returned (.agg (row (C p 0))) ∧ Grown w w' ∧ w.grownBy w' none) := Lib.hid (fun w => by rw [hC]; exact countsBetween_int 1 9 (by omega) (by omega) (by omega) (by omega) w)
          clear hC
          go_wp2_with fail
          refine (B1.out _).mono ?_
          rintro e w' ⟨rfl, hg, hgb⟩
          go_wp2_with (first | (at_mapUpdate; refine wpList_mapUpdate_own _ rfl _ _ _ 34 rfl 3 37 law Try.underlying34 R w.heap.size 0 (Dm p 0) rfl (hown.kept hgb (by simp)) (by unfold maxLen; omega) _ _ _ rfl rfl (key_ok 0 (by omega)).2 (encRow (C p 0)) [] (R_mk _) ?_; intro w1 hown1 hgrow1))
          go_roundw
          case rel => exact ⟨1, ⟨by omega, Or.inr (by omega)⟩, rfl, hown1, (hnx.grown hgb hnx.size (by simp)).grown hgrow1 (Nat.le_trans hnx.size hgb.size) (fun j hj => by cases hj; exact Nat.le_refl _)⟩
          case measure => simp [intOf]
      · exfalso; omega
    · rw [show ((10 ^ 1 : Nat) : Int) = 10 from rfl]
      by_cases hF : (10 : Int) ≤ p
      · by_cases hmin : (p : Int) ≤ 99
        · have hC : C p 1 = D.cs 10 (p + 1 - 10) := by
            unfold C
            rw [show min p (10 ^ (1 + 1) - 1) = p from by simp only [Nat.min_def]; split <;> omega]
          have B1 : Hid (∀ w : World, Calls Try.prog 46 #[.int .i64 10, .int .i64 (p : Int)] w fun e w' => e = .returned (.agg (row (C p 1))) ∧ Grown w w' ∧ w.grownBy w' none) := Lib.hid (fun w => by rw [hC]; exact countsBetween_int 10 (p : Int) (by omega) (by omega) (by omega) (by omega) w)
          clear hC
          go_wp2_with fail
          refine (B1.out _).mono ?_
          rintro e w' ⟨rfl, hg, hgb⟩
          go_wp2_with (first | (at_mapUpdate; refine wpList_mapUpdate_own _ rfl _ _ _ 34 rfl 3 37 law Try.underlying34 R w.heap.size 1 (Dm p 1) rfl (hown.kept hgb (by simp)) (by unfold maxLen; omega) _ _ _ rfl rfl (key_ok 1 (by omega)).2 (encRow (C p 1)) [] (R_mk _) ?_; intro w1 hown1 hgrow1))
          go_roundw
          case rel => exact ⟨2, ⟨by omega, Or.inr (by omega)⟩, rfl, hown1, (hnx.grown hgb hnx.size (by simp)).grown hgrow1 (Nat.le_trans hnx.size hgb.size) (fun j hj => by cases hj; exact Nat.le_refl _)⟩
          case measure => simp [intOf]
        · have hC : C p 1 = D.cs 10 (99 + 1 - 10) := by
            unfold C
            rw [show min p (10 ^ (1 + 1) - 1) = 99 from by simp only [Nat.min_def]; split <;> omega]
          have B1 : Hid (∀ w : World, Calls Try.prog 46 #[.int .i64 10, .int .i64 99] w fun e w' => e = .returned (.agg (row (C p 1))) ∧ Grown w w' ∧ w.grownBy w' none) := Lib.hid (fun w => by rw [hC]; exact countsBetween_int 10 99 (by omega) (by omega) (by omega) (by omega) w)
          clear hC
          go_wp2_with fail
          refine (B1.out _).mono ?_
          rintro e w' ⟨rfl, hg, hgb⟩
          go_wp2_with (first | (at_mapUpdate; refine wpList_mapUpdate_own _ rfl _ _ _ 34 rfl 3 37 law Try.underlying34 R w.heap.size 1 (Dm p 1) rfl (hown.kept hgb (by simp)) (by unfold maxLen; omega) _ _ _ rfl rfl (key_ok 1 (by omega)).2 (encRow (C p 1)) [] (R_mk _) ?_; intro w1 hown1 hgrow1))
          go_roundw
          case rel => exact ⟨2, ⟨by omega, Or.inr (by omega)⟩, rfl, hown1, (hnx.grown hgb hnx.size (by simp)).grown hgrow1 (Nat.le_trans hnx.size hgb.size) (fun j hj => by cases hj; exact Nat.le_refl _)⟩
          case measure => simp [intOf]
      · go_wp2
        go_ret
        exact ⟨1, ⟨by omega, hi2⟩, by omega, rfl, hown, hnx⟩
    · rw [show ((10 ^ 2 : Nat) : Int) = 100 from rfl]
      by_cases hF : (100 : Int) ≤ p
      · by_cases hmin : (p : Int) ≤ 999
        · have hC : C p 2 = D.cs 100 (p + 1 - 100) := by
            unfold C
            rw [show min p (10 ^ (2 + 1) - 1) = p from by simp only [Nat.min_def]; split <;> omega]
          have B1 : Hid (∀ w : World, Calls Try.prog 46 #[.int .i64 100, .int .i64 (p : Int)] w fun e w' => e = .returned (.agg (row (C p 2))) ∧ Grown w w' ∧ w.grownBy w' none) := Lib.hid (fun w => by rw [hC]; exact countsBetween_int 100 (p : Int) (by omega) (by omega) (by omega) (by omega) w)
          clear hC
          go_wp2_with fail
          refine (B1.out _).mono ?_
          rintro e w' ⟨rfl, hg, hgb⟩
          go_wp2_with (first | (at_mapUpdate; refine wpList_mapUpdate_own _ rfl _ _ _ 34 rfl 3 37 law Try.underlying34 R w.heap.size 2 (Dm p 2) rfl (hown.kept hgb (by simp)) (by unfold maxLen; omega) _ _ _ rfl rfl (key_ok 2 (by omega)).2 (encRow (C p 2)) [] (R_mk _) ?_; intro w1 hown1 hgrow1))
          go_roundw
          case rel => exact ⟨3, ⟨by omega, Or.inr (by omega)⟩, rfl, hown1, (hnx.grown hgb hnx.size (by simp)).grown hgrow1 (Nat.le_trans hnx.size hgb.size) (fun j hj => by cases hj; exact Nat.le_refl _)⟩
          case measure => simp [intOf]
        · have hC : C p 2 = D.cs 100 (999 + 1 - 100) := by
            unfold C
            rw [show min p (10 ^ (2 + 1) - 1) = 999 from by simp only [Nat.min_def]; split <;> omega]
          have B1 : Hid (∀ w : World, Calls Try.prog 46 #[.int .i64 100, .int .i64 999] w fun e w' => e = .returned (.agg (row (C p 2))) ∧ Grown w w' ∧ w.grownBy w' none) := Lib.hid (fun w => by rw [hC]; exact countsBetween_int 100 999 (by omega) (by omega) (by omega) (by omega) w)
          clear hC
          go_wp2_with fail
          refine (B1.out _).mono ?_
          rintro e w' ⟨rfl, hg, hgb⟩
          go_wp2_with (first | (at_mapUpdate; refine wpList_mapUpdate_own _ rfl _ _ _ 34 rfl 3 37 law Try.underlying34 R w.heap.size 2 (Dm p 2) rfl (hown.kept hgb (by simp)) (by unfold maxLen; omega) _ _ _ rfl rfl (key_ok 2 (by omega)).2 (encRow (C p 2)) [] (R_mk _) ?_; intro w1 hown1 hgrow1))
          go_roundw
          case rel => exact ⟨3, ⟨by omega, Or.inr (by omega)⟩, rfl, hown1, (hnx.grown hgb hnx.size (by simp)).grown hgrow1 (Nat.le_trans hnx.size hgb.size) (fun j hj => by cases hj; exact Nat.le_refl _)⟩
          case measure => simp [intOf]
      · go_wp2
        go_ret
        exact ⟨2, ⟨by omega, hi2⟩, by omega, rfl, hown, hnx⟩
    · rw [show ((10 ^ 3 : Nat) : Int) = 1000 from rfl]
      by_cases hF : (1000 : Int) ≤ p
      · have hmin : (p : Int) ≤ 9999 := by omega
        have hC : C p 3 = D.cs 1000 (p + 1 - 1000) := by
          unfold C
          rw [show min p (10 ^ (3 + 1) - 1) = p from by simp only [Nat.min_def]; split <;> omega]
        have B1 : Hid (∀ w : World, Calls Try.prog 46 #[.int .i64 1000, .int .i64 (p : Int)] w fun e w' => e = .returned (.agg (row (C p 3))) ∧ Grown w w' ∧ w.grownBy w' none) := Lib.hid (fun w => by rw [hC]; exact countsBetween_int 1000 (p : Int) (by omega) (by omega) (by omega) (by omega) w)
        clear hC
        go_wp2_with fail
        refine (B1.out _).mono ?_
        rintro e w' ⟨rfl, hg, hgb⟩
        go_wp2_with (first | (at_mapUpdate; refine wpList_mapUpdate_own _ rfl _ _ _ 34 rfl 3 37 law Try.underlying34 R w.heap.size 3 (Dm p 3) rfl (hown.kept hgb (by simp)) (by unfold maxLen; omega) _ _ _ rfl rfl (key_ok 3 (by omega)).2 (encRow (C p 3)) [] (R_mk _) ?_; intro w1 hown1 hgrow1))
        go_roundw
        case rel => exact ⟨4, ⟨by omega, Or.inr (by omega)⟩, rfl, hown1, (hnx.grown hgb hnx.size (by simp)).grown hgrow1 (Nat.le_trans hnx.size hgb.size) (fun j hj => by cases hj; exact Nat.le_refl _)⟩
        case measure => simp [intOf]
      · go_wp2
        go_ret
        exact ⟨3, ⟨by omega, hi2⟩, by omega, rfl, hown, hnx⟩
    · rw [show ((10 ^ 4 : Nat) : Int) = 10000 from rfl]
      go_wp2
      go_ret
      exact ⟨4, ⟨by omega, hi2⟩, by omega, rfl, hown, hnx⟩
end Go.Proofs.Ytnaikhfhimijdaa
