/- Where a page lies: what spec.PlaceOfPage and the methods has answer, for up to 100 sheets and pages that there are. -/
import Derived.Test.YtjoapogkooblgaaWalks1
import Derived.Laws.OwnMore
namespace Go.Proofs.Ytjoapogkooblgaa
open Go.RowKit
set_option linter.unusedVariables false
namespace Pl
/-- the sheet with page p in a signature of n sheets -/
def pl (n p : Int) : Int := if p ≤ 2 * n then (p + 1) / 2 else (4 * n + 2 - p) / 2
def bk (n p : Int) : Bool := decide (2 * pl n p = p ∨ 4 * n + 1 - 2 * pl n p = p)
def rt (n p : Int) : Bool := decide (2 * pl n p - 1 = p ∨ 4 * n + 1 - 2 * pl n p = p)
theorem pl_bd (n p : Int) (h1 : 1 ≤ n) (h3 : 1 ≤ p) (h4 : p ≤ 4 * n) : 1 ≤ pl n p ∧ pl n p ≤ n := by unfold pl; split <;> omega
theorem pl_iff (n p s : Int) (h1 : 1 ≤ n) (h3 : 1 ≤ p) (h4 : p ≤ 4 * n) (h5 : 1 ≤ s) (h6 : s ≤ n) :
    pl n p = s ↔ (4 * n + 2 - 2 * s = p ∨ 2 * s - 1 = p ∨ 2 * s = p ∨ 4 * n + 1 - 2 * s = p) := by unfold pl; split <;> omega
theorem ret_pl {a a' : Int} {b b' c c' : Bool} (h : a = a') (h2 : b = b') (h3 : c = c') : Ending.returned (.tuple #[.int .i64 a, .bool b, .bool c, .bool true]) = .returned (.tuple #[.int .i64 a', .bool b', .bool c', .bool true]) := by rw [h, h2, h3]
theorem front_ret (n p s : Int) (h1 : 1 ≤ n) (h3 : 1 ≤ p) (h4 : p ≤ 4 * n) (h5 : 1 ≤ s) (h6 : s ≤ n) (h : 4 * n + 2 - 2 * s = p ∨ 2 * s - 1 = p) :
    s = pl n p ∧ false = bk n p ∧ (2 * s - 1 == p) = rt n p := by
  have e : pl n p = s := (pl_iff n p s h1 h3 h4 h5 h6).mpr (by omega)
  refine ⟨e.symm, ?_, ?_⟩
  · unfold bk; rw [e]; symm; rw [decide_eq_false_iff_not]; omega
  · unfold rt; rw [e, Bool.eq_iff_iff]; simp only [beq_iff_eq, decide_eq_true_eq]; omega
theorem back_ret (n p s : Int) (h1 : 1 ≤ n) (h3 : 1 ≤ p) (h4 : p ≤ 4 * n) (h5 : 1 ≤ s) (h6 : s ≤ n) (h : 2 * s = p ∨ 4 * n + 1 - 2 * s = p) :
    s = pl n p ∧ true = bk n p ∧ (4 * n + 1 - 2 * s == p) = rt n p := by
  have e : pl n p = s := (pl_iff n p s h1 h3 h4 h5 h6).mpr (by omega)
  refine ⟨e.symm, ?_, ?_⟩
  · unfold bk; rw [e]; symm; rw [decide_eq_true_eq]; omega
  · unfold rt; rw [e, Bool.eq_iff_iff]; simp only [beq_iff_eq, decide_eq_true_eq]; omega
theorem foPage_yes (n p : Int) (h1 : 1 ≤ n) (h2 : n ≤ 100) (h3 : 1 ≤ p) (h4 : p ≤ 4 * n) (w : World) :
    Calls Try.prog 48 #[.int .i64 n, .int .i64 p] w fun e w' => e = .returned (.bool true) ∧ w = w' := by
  go_enter Try.func48, Try.ntmps48
  go_wp2
  go_ret
  exact ⟨rfl, rfl⟩
theorem foSide_front (n s : Int) (h1 : 1 ≤ n) (h2 : n ≤ 100) (h3 : 1 ≤ s) (h4 : s ≤ n) (w : World) :
    Calls Try.prog 45 #[.int .i64 n, .int .i64 s, .bool false] w fun e w' => e = .returned (.tuple #[.int .i64 (4 * n + 2 - 2 * s), .int .i64 (2 * s - 1)]) ∧ w = w' := by
  go_enter Try.func45, Try.ntmps45
  go_wp2
  go_ret2
  exact ⟨rfl, rfl⟩
theorem foSide_back (n s : Int) (h1 : 1 ≤ n) (h2 : n ≤ 100) (h3 : 1 ≤ s) (h4 : s ≤ n) (w : World) :
    Calls Try.prog 45 #[.int .i64 n, .int .i64 s, .bool true] w fun e w' => e = .returned (.tuple #[.int .i64 (2 * s), .int .i64 (4 * n + 1 - 2 * s)]) ∧ w = w' := by
  go_enter Try.func45, Try.ntmps45
  go_wp2
  go_ret2
  exact ⟨rfl, rfl⟩
set_option maxRecDepth 100000 in
set_option maxHeartbeats 1000000 in
theorem place_any (n p : Int) (h1 : 1 ≤ n) (h2 : n ≤ 100) (h3 : 1 ≤ p) (h4 : p ≤ 4 * n) (w : World) :
    Calls Try.prog 54 #[.int .i64 n, .int .i64 p] w fun e w' => e = .returned (.tuple #[.int .i64 (pl n p), .bool (bk n p), .bool (rt n p), .bool true]) ∧ Below w.heap.size w w' := by
  obtain ⟨p1, p2⟩ := pl_bd n p h1 h3 h4
  go_enter Try.func54, Try.ntmps54
  go_wp2_with (go_at_call 48; refine (foPage_yes _ _ h1 h2 h3 h4 _).mono ?_; rintro e w' ⟨rfl, rfl⟩)
  go_loopw [8] (fun i wr => ∃ s : Int, 1 ≤ s ∧ s ≤ pl n p ∧ i = .int .i64 s ∧ Below w.heap.size w wr) (fun i _ => (n + 1 - intOf i).toNat)
  case atStart => exact ⟨1, by omega, p1, rfl, Below.refl _ _⟩
  case round =>
    obtain ⟨s, s1, s2, rfl, hb⟩ := hrel
    have hs : s ≤ n := by omega
    obtain ⟨wo, rfl⟩ : ∃ wo : World, wo = wr := ⟨_, rfl⟩
    go_wp2_with fail
    go_loop [24] (fun j => j = .int .i64 0 ∨ (j = .int .i64 1 ∧ Hid (¬ (4 * n + 2 - 2 * s = p ∨ 2 * s - 1 = p))) ∨ (j = .int .i64 2 ∧ Hid (¬ (4 * n + 2 - 2 * s = p ∨ 2 * s - 1 = p)) ∧ Hid (¬ (2 * s = p ∨ 4 * n + 1 - 2 * s = p)))) (fun j => 2 - (intOf j).toNat)
    case atStart => exact Or.inl rfl
    case round =>
      rcases hrel with rfl | ⟨rfl, hf⟩ | ⟨rfl, hf, hk⟩
      · by_cases hc : 4 * n + 2 - 2 * s = p
        · have HR := Lib.hid (front_ret n p s h1 h3 h4 s1 hs (by omega))
          have q1 : (4 * n + 2 - 2 * s == p) = true := by simp; omega
          clear hc
          go_wp2_with (go_at_call 45; refine (foSide_front _ _ h1 h2 s1 hs _).mono ?_; rintro e w' ⟨rfl, rfl⟩)
          exact bodyPost_ret (v := .tuple #[.int .i64 s, .bool false, .bool (2 * s - 1 == p), .bool true]) (by simp [results, Try.results54, go_sem]) rfl ⟨ret_pl HR.out.1 HR.out.2.1 (HR.out.2.2), hb.alloc hb.size _⟩
        · by_cases hc2 : 2 * s - 1 = p
          · have HR := Lib.hid (front_ret n p s h1 h3 h4 s1 hs (by omega))
            have q1 : (4 * n + 2 - 2 * s == p) = false := by simp; omega
            have q2 : (2 * s - 1 == p) = true := by simp; omega
            clear hc
            clear hc2
            go_wp2_with (go_at_call 45; refine (foSide_front _ _ h1 h2 s1 hs _).mono ?_; rintro e w' ⟨rfl, rfl⟩)
            exact bodyPost_ret (v := .tuple #[.int .i64 s, .bool false, .bool true, .bool true]) (by simp [results, Try.results54, go_sem]) rfl ⟨ret_pl HR.out.1 HR.out.2.1 (by rw [← HR.out.2.2]; exact q2.symm), hb.alloc hb.size _⟩
          · have q1 : (4 * n + 2 - 2 * s == p) = false := by simp; omega
            have q2 : (2 * s - 1 == p) = false := by simp; omega
            have HM := Lib.hid (show ¬ (4 * n + 2 - 2 * s = p ∨ 2 * s - 1 = p) by omega)
            clear hc hc2
            go_wp2_with (go_at_call 45; refine (foSide_front _ _ h1 h2 s1 hs _).mono ?_; rintro e w' ⟨rfl, rfl⟩)
            go_round
            case rel => exact Or.inr (Or.inl ⟨rfl, HM⟩)
            case measure => simp [intOf]
      · by_cases hc : 2 * s = p
        · have HR := Lib.hid (back_ret n p s h1 h3 h4 s1 hs (by omega))
          have q1 : (2 * s == p) = true := by simp; omega
          clear hc
          go_wp2_with (go_at_call 45; refine (foSide_back _ _ h1 h2 s1 hs _).mono ?_; rintro e w' ⟨rfl, rfl⟩)
          exact bodyPost_ret (v := .tuple #[.int .i64 s, .bool true, .bool (4 * n + 1 - 2 * s == p), .bool true]) (by simp [results, Try.results54, go_sem]) rfl ⟨ret_pl HR.out.1 HR.out.2.1 (HR.out.2.2), hb.alloc hb.size _⟩
        · by_cases hc2 : 4 * n + 1 - 2 * s = p
          · have HR := Lib.hid (back_ret n p s h1 h3 h4 s1 hs (by omega))
            have q1 : (2 * s == p) = false := by simp; omega
            have q2 : (4 * n + 1 - 2 * s == p) = true := by simp; omega
            clear hc
            clear hc2
            go_wp2_with (go_at_call 45; refine (foSide_back _ _ h1 h2 s1 hs _).mono ?_; rintro e w' ⟨rfl, rfl⟩)
            exact bodyPost_ret (v := .tuple #[.int .i64 s, .bool true, .bool true, .bool true]) (by simp [results, Try.results54, go_sem]) rfl ⟨ret_pl HR.out.1 HR.out.2.1 (by rw [← HR.out.2.2]; exact q2.symm), hb.alloc hb.size _⟩
          · have q1 : (2 * s == p) = false := by simp; omega
            have q2 : (4 * n + 1 - 2 * s == p) = false := by simp; omega
            have HM := Lib.hid (show ¬ (2 * s = p ∨ 4 * n + 1 - 2 * s = p) by omega)
            clear hc hc2
            go_wp2_with (go_at_call 45; refine (foSide_back _ _ h1 h2 s1 hs _).mono ?_; rintro e w' ⟨rfl, rfl⟩)
            go_round
            case rel => exact Or.inr (Or.inr ⟨rfl, hf, HM⟩)
            case measure => simp [intOf]
      · have hlt : s < pl n p := by
          have := mt (pl_iff n p s h1 h3 h4 s1 hs).mp (by have := hf.out; have := hk.out; omega)
          omega
        go_wp2
        go_roundw
        case rel => exact ⟨s + 1, by omega, by omega, rfl, hb.alloc hb.size _⟩
        case measure => simp [intOf]; omega
theorem side_has_yes (a b p : Int) (h : a = p ∨ b = p) (w : World) :
    Calls Try.prog 56 #[.agg #[.int .i64 a, .int .i64 b], .int .i64 p] w fun e w' => e = .returned (.bool true) ∧ Below w.heap.size w w' := by
  by_cases c : a = p
  · have q1 : (a == p) = true := by simp; omega
    clear h c
    go_enter Try.func56, Try.ntmps56
    go_wp2
    go_ret
    exact ⟨rfl, (Below.refl _ _).alloc (Nat.le_refl _) _⟩
  · have q1 : (a == p) = false := by simp; omega
    have q2 : (b == p) = true := by simp; omega
    clear h c
    go_enter Try.func56, Try.ntmps56
    go_wp2
    go_ret
    exact ⟨rfl, (Below.refl _ _).alloc (Nat.le_refl _) _⟩
theorem side_has_no (a b p : Int) (h1 : ¬ a = p) (h2 : ¬ b = p) (w : World) :
    Calls Try.prog 56 #[.agg #[.int .i64 a, .int .i64 b], .int .i64 p] w fun e w' => e = .returned (.bool false) ∧ Below w.heap.size w w' := by
  have q1 : (a == p) = false := by simp; omega
  have q2 : (b == p) = false := by simp; omega
  clear h1 h2
  go_enter Try.func56, Try.ntmps56
  go_wp2
  go_ret
  exact ⟨rfl, (Below.refl _ _).alloc (Nat.le_refl _) _⟩
theorem has_yes (n p s : Int) (h1 : 1 ≤ n) (h3 : 1 ≤ p) (h4 : p ≤ 4 * n) (h5 : 1 ≤ s) (h6 : s ≤ n) (h : pl n p = s) (w : World) :
    Calls Try.prog 55 #[sheetV n s, .int .i64 p] w fun e w' => e = .returned (.bool true) ∧ Below w.heap.size w w' := by
  have hh := (pl_iff n p s h1 h3 h4 h5 h6).mp h
  unfold sheetV
  by_cases c : 4 * n + 2 - 2 * s = p ∨ 2 * s - 1 = p
  · have C := Lib.hid c
    clear hh h c
    go_enter Try.func55, Try.ntmps55
    go_wp2_with (go_at_call 56; refine (side_has_yes _ _ _ C.out _).mono ?_; rintro e w1 ⟨rfl, hb⟩)
    go_ret
    exact ⟨rfl, ((Below.refl _ _).alloc (Nat.le_refl _) _).trans (hb.mono (by simp))⟩
  · have C := Lib.hid (show ¬ 4 * n + 2 - 2 * s = p ∧ ¬ 2 * s - 1 = p by omega)
    have D := Lib.hid (show 2 * s = p ∨ 4 * n + 1 - 2 * s = p by omega)
    clear hh h c
    go_enter Try.func55, Try.ntmps55
    go_wp2_with fail
    refine (side_has_no _ _ _ C.out.1 C.out.2 _).mono ?_
    rintro e w1 ⟨rfl, hb⟩
    obtain ⟨hc, hf⟩ := bcell hb
    go_wp2_with fail
    refine (side_has_yes _ _ _ D.out _).mono ?_
    rintro e w2 ⟨rfl, hb2⟩
    go_wp2
    go_ret
    exact ⟨rfl, (((Below.refl _ _).alloc (Nat.le_refl _) _).trans (hb.mono (by simp))).trans (hb2.mono (by have := hb.size; simp at this; omega))⟩
theorem has_no (n p s : Int) (h1 : 1 ≤ n) (h3 : 1 ≤ p) (h4 : p ≤ 4 * n) (h5 : 1 ≤ s) (h6 : s ≤ n) (h : ¬ pl n p = s) (w : World) :
    Calls Try.prog 55 #[sheetV n s, .int .i64 p] w fun e w' => e = .returned (.bool false) ∧ Below w.heap.size w w' := by
  have hh := mt (pl_iff n p s h1 h3 h4 h5 h6).mpr h
  unfold sheetV
  have C := Lib.hid (show ¬ 4 * n + 2 - 2 * s = p ∧ ¬ 2 * s - 1 = p by omega)
  have D := Lib.hid (show ¬ 2 * s = p ∧ ¬ 4 * n + 1 - 2 * s = p by omega)
  clear hh h
  go_enter Try.func55, Try.ntmps55
  go_wp2_with fail
  refine (side_has_no _ _ _ C.out.1 C.out.2 _).mono ?_
  rintro e w1 ⟨rfl, hb⟩
  obtain ⟨hc, hf⟩ := bcell hb
  go_wp2_with fail
  refine (side_has_no _ _ _ D.out.1 D.out.2 _).mono ?_
  rintro e w2 ⟨rfl, hb2⟩
  go_wp2
  go_ret
  exact ⟨rfl, (((Below.refl _ _).alloc (Nat.le_refl _) _).trans (hb.mono (by simp))).trans (hb2.mono (by have := hb.size; simp at this; omega))⟩
end Pl
end Go.Proofs.Ytjoapogkooblgaa
