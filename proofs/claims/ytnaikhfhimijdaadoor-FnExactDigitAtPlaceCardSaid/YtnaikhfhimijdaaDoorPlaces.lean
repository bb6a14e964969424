/- What spec.DigitAtPlace and impl.DigitAtPlace answer, each by its own loop, for the places 1 to 6893; and that it is one answer. The library's table of powers of ten is taken to read as its own text lays it. -/
import Derived.Test.YtnaikhfhimijdaaDoorWalks
namespace Go.Proofs.YtnaikhfhimijdaaDoor
open Go.RowKit
/-- place P lies in page k + 1, j digits stand ahead of it there -/
def AtP (P : Int) (k j : Nat) : Prop := P = ds k + j + 1 ∧ (j : Int) < ((numS (k + 1)).size : Int)
theorem atP_one {P : Int} {k j k' j' : Nat} (h : AtP P k j) (g : AtP P k' j') : k = k' ∧ j = j' := by
  have e : k = k' := by
    by_cases c : k < k'
    · have := ds_mono (show k + 1 ≤ k' by omega)
      rw [ds_next] at this
      have := h.1; have := h.2; have := g.1; omega
    · by_cases c' : k' < k
      · have := ds_mono (show k' + 1 ≤ k by omega)
        rw [ds_next] at this
        have := g.1; have := g.2; have := h.1; omega
      · omega
  subst e
  exact ⟨rfl, by have := h.1; have := g.1; omega⟩
def Place (P : Int) (e : Ending) : Prop := ∃ (k j : Nat) (h : j < (numS (k + 1)).size), AtP P k j ∧ e = .returned (.tuple #[.int .i64 ((((numS (k + 1))[j]).toNat - 48 : Int) % 256), .int .i64 ((k : Int) + 1), .bool true])
theorem place_mk {P : Int} {k j : Nat} (h : j < (numS (k + 1)).size) (hp : P = ds k + j + 1) : Place P (.returned (.tuple #[.int .i64 ((((numS (k + 1))[j]).toNat - 48 : Int) % 256), .int .i64 ((k : Int) + 1), .bool true])) :=
  ⟨k, j, h, ⟨hp, by omega⟩, rfl⟩
set_option maxRecDepth 100000 in
set_option maxHeartbeats 1000000 in
theorem spec_place (P : Int) (h1 : 1 ≤ P) (h2 : P ≤ 6893) (w : World) :
    Calls Tryd.prog 7 #[.int .i64 P] w fun e w' => Place P e ∧ Below w.heap.size w w' := by
  go_enter Tryd.func7, Tryd.ntmps7
  go_wp2_with (go_at_call 9; refine (l1In_yes _ _ _ h1 h2 _).mono ?_; rintro e w' ⟨rfl, rfl⟩)
  go_loopw [0, 5] (fun r q wr => ∃ (k j : Nat), q = .int .i64 ((k : Int) + 1) ∧ r = .int .i64 ((j : Int) + 1) ∧ P = ds k + j + 1 ∧ Below w.heap.size w wr) (fun r _ _ => (intOf r).toNat)
  case atStart => exact ⟨0, (P - 1).toNat, rfl, by go_num, by show P = 0 + _ + 1; omega, Below.refl _ _⟩
  case round =>
    obtain ⟨k, j, rfl, rfl, hp, hb⟩ := hrel
    have hk := ds_ge k
    have hk2 : k ≤ 6893 := by omega
    have hj2 : j ≤ 6893 := by omega
    have HP := Lib.hid hp
    have B1 : Hid (∀ W : World, Calls Tryd.prog 10 #[.int .i64 ((k : Int) + 1)] W fun e w' => e = .returned (.string (numS (k + 1))) ∧ Below W.heap.size W w') := Lib.hid (fun W => l1Num_any (k + 1) (by omega) W)
    obtain ⟨s1, s2⟩ := size_bd (k + 1)
    clear hp hk
    by_cases hlt : ((numS (k + 1)).size : Int) < (j : Int) + 1
    · go_wp2_with fail
      refine (B1.out _).mono ?_
      rintro e w1 ⟨rfl, hb1⟩
      go_wp2_with fail
      refine (B1.out _).mono ?_
      rintro e w2 ⟨rfl, hb2⟩
      go_wp2_with fail
      go_roundw
      case rel => exact ⟨k + 1, j - (numS (k + 1)).size, by go_num, by go_num, by rw [ds_next]; have := HP.out; omega, below_next (below_next hb hb1) hb2⟩
      case measure => simp [intOf]; omega
    · go_wp2_with fail
      refine (B1.out _).mono ?_
      rintro e w1 ⟨rfl, hb1⟩
      go_wp2_with fail
      refine (B1.out _).mono ?_
      rintro e w2 ⟨rfl, hb2⟩
      go_wp2_with fail
      go_ret3
      exact ⟨place_mk (by omega) HP.out, below_next (below_next hb hb1) hb2⟩
theorem numS_one : numS 1 = ⟨#[49]⟩ := by
  rw [numS_small (by omega)]; rfl
set_option maxRecDepth 100000 in
set_option maxHeartbeats 1000000 in
theorem impl_place (P : Int) (h1 : 1 ≤ P) (h2 : P ≤ 6893) (w : World) (ht : TabOn w) :
    Calls Tryd.prog 8 #[.int .i64 P] w fun e w' => Place P e ∧ Below w.heap.size w w' := by
  have HT := Lib.hid ht
  clear ht
  have d1 : ¬ P < 1 := by omega
  have d2 : ¬ 6893 < P := by omega
  go_enter Tryd.func8, Tryd.ntmps8
  go_wp2_with fail
  go_loopw [0, 5, 6] (fun r q s wr => ∃ (k j : Nat), q = .int .i64 ((k : Int) + 1) ∧ s = .string (numS (k + 1)) ∧ r = .int .i64 ((j : Int) + 1) ∧ P = ds k + j + 1 ∧ Below w.heap.size w wr) (fun r _ _ _ => (intOf r).toNat)
  case atStart => exact ⟨0, (P - 1).toNat, rfl, by rw [numS_one], by go_num, by show P = 0 + _ + 1; omega, Below.refl _ _⟩
  case round =>
    obtain ⟨k, j, rfl, rfl, rfl, hp, hb⟩ := hrel
    have hk := ds_ge k
    have hk2 : k ≤ 6893 := by omega
    have hj2 : j ≤ 6893 := by omega
    have HP := Lib.hid hp
    obtain ⟨s1, s2⟩ := size_bd (k + 1)
    clear hp hk
    by_cases hlt : ((numS (k + 1)).size : Int) < (j : Int) + 1
    · have B1 : Hid (∀ W : World, Tab W → Calls Tryd.prog 11 #[.int .i64 ((k : Int) + 1 + 1)] W fun e w' => e = .returned (.string (numS (k + 1 + 1))) ∧ Below W.heap.size W w') := Lib.hid (fun W hW => itoa_any (k + 1 + 1) (by omega) W hW)
      go_wp2_with fail
      refine (B1.out _ (HT.out _ hb)).mono ?_
      rintro e w1 ⟨rfl, hb1⟩
      go_wp2_with fail
      go_roundw
      case rel => exact ⟨k + 1, j - (numS (k + 1)).size, by go_num, rfl, by go_num, by rw [ds_next]; have := HP.out; omega, below_next hb hb1⟩
      case measure => simp [intOf]; omega
    · go_wp2_with fail
      go_ret3
      exact ⟨place_mk (by omega) HP.out, hb⟩
theorem place_no7 (P : Int) (h : ¬ 1 ≤ P ∨ ¬ P ≤ 6893) (w : World) :
    Calls Tryd.prog 7 #[.int .i64 P] w fun e w' => e = .returned (.tuple #[.int .i64 0, .int .i64 0, .bool false]) ∧ w = w' := by
  by_cases c : 1 ≤ P
  · have c2 : ¬ P ≤ 6893 := by omega
    clear h
    go_enter Tryd.func7, Tryd.ntmps7
    go_wp2
    go_ret3
    exact ⟨rfl, rfl⟩
  · clear h
    go_enter Tryd.func7, Tryd.ntmps7
    go_wp2
    go_ret3
    exact ⟨rfl, rfl⟩
theorem place_no8 (P : Int) (h : ¬ 1 ≤ P ∨ ¬ P ≤ 6893) (w : World) :
    Calls Tryd.prog 8 #[.int .i64 P] w fun e w' => e = .returned (.tuple #[.int .i64 0, .int .i64 0, .bool false]) ∧ w = w' := by
  by_cases c : P < 1
  · clear h
    go_enter Tryd.func8, Tryd.ntmps8
    go_wp2_with fail
    go_ret3
    exact ⟨rfl, rfl⟩
  · have c2 : 6893 < P := by omega
    clear h
    go_enter Tryd.func8, Tryd.ntmps8
    go_wp2_with fail
    go_ret3
    exact ⟨rfl, rfl⟩
theorem law_place (a0 : Int) (w : World) (ht : TabOn w) :
    Calls Tryd.prog 4 #[.int .i64 a0] w fun e w' => e = .returned (.bool true) ∧ Below w.heap.size w w' := by
  by_cases c : 1 ≤ a0 ∧ a0 ≤ 6893
  · have S := Lib.hid (fun w => spec_place a0 c.1 c.2 w)
    have I := Lib.hid (fun w h => impl_place a0 c.1 c.2 w h)
    have HT := Lib.hid ht
    clear c ht
    go_enter Tryd.func4, Tryd.ntmps4
    go_wp2_with fail
    refine (S.out _).mono ?_
    rintro e w1 ⟨⟨k, j, hj, hp, rfl⟩, hb⟩
    clear S
    go_wp2_with fail
    refine (I.out _ (fun W hW => HT.out W (below_next hb hW))).mono ?_
    rintro e w2 ⟨⟨k', j', hj', hp', rfl⟩, hb2⟩
    clear I
    obtain ⟨rfl, rfl⟩ := atP_one hp hp'
    clear hp hp'
    go_wp2_with fail
    go_ret
    exact ⟨rfl, below_next hb hb2⟩
  · have S := Lib.hid (fun w => place_no7 a0 (by omega) w)
    have I := Lib.hid (fun w => place_no8 a0 (by omega) w)
    clear c ht
    go_enter Tryd.func4, Tryd.ntmps4
    go_wp2_with fail
    refine (S.out _).mono ?_
    rintro e w1 ⟨rfl, rfl⟩
    go_wp2_with fail
    refine (I.out _).mono ?_
    rintro e w2 ⟨rfl, rfl⟩
    go_wp2_with fail
    go_ret
    exact ⟨rfl, Below.refl _ _⟩
end Go.Proofs.YtnaikhfhimijdaaDoor
