/- What spec.PagesForDigits and impl.PagesForDigits answer, each by its own loop, for 1 to 6893 digits; and that it is one answer. The library's table of powers of ten is taken to read as its own text lays it. -/
import Derived.Test.YtnaikhfhimijdaaDoorNum
import Derived.Test.YtnaikhfhimijdaaDoorShelf
import Derived.Lib.AppendIntMem
import Derived.Lib.ItoaMem
namespace Go.Proofs.YtnaikhfhimijdaaDoor
open Go.RowKit
theorem decN_eq (n : Nat) : decN n = Lib.decDigits n := by
  induction n using Nat.strongRecOn with
  | ind n ih =>
    by_cases h : n < 10
    · rw [decN_small h, Lib.decDigits, dif_pos h]; rfl
    · rw [decN_great h, Lib.decDigits, dif_neg h, ih (n / 10) (by omega)]; rfl
def Tab (W : World) : Prop := Lib.TabIs Tryd.prog W "internal/strconv.uint64pow10" .u64 Lib.pow10Tab
def TabOn (W : World) : Prop := ∀ W', Below W.heap.size W W' → Tab W'
theorem tabOn_of {W : World} (h : Tab W) : TabOn W := fun W' hb => Lib.tabBelow_of_tabIs h W' hb
theorem below_of_grown {a b : World} (h : a.grownBy b none) : Below a.heap.size a b := ⟨h.os, h.tape, h.output, h.size, fun k hk => h.block k hk (by simp)⟩
theorem below_next {a b c : World} (h : Below a.heap.size a b) (k : Below b.heap.size b c) : Below a.heap.size a c := h.trans (k.mono h.size)
theorem itoa_any (n : Nat) (hn : n ≤ 1000000000000000000) (W : World) (h : Tab W) :
    Calls Tryd.prog 11 #[.int .i64 n] W fun e w' => e = .returned (.string (numS n)) ∧ Below W.heap.size W w' := by
  refine (Any.strconv_Itoa Tryd.laysM171 n (by omega) (by omega) W h).mono ?_
  rintro e w' ⟨he, k, os, rfl⟩
  refine ⟨?_, Lib.below_grow _ W (Nat.le_refl _) k os⟩
  rw [he, Lib.itoa_nonneg, ← decN_eq]
  rfl
theorem l1Num_any (n : Nat) (hn : n ≤ 1000000000000000000) (W : World) :
    Calls Tryd.prog 10 #[.int .i64 n] W fun e w' => e = .returned (.string (numS n)) ∧ Below W.heap.size W w' :=
  (num_any n n W (Nat.le_refl _) hn).mono fun _ _ h => ⟨h.1, below_of_grown h.2.2⟩
/-- how many digits the first k page numbers have -/
def ds : Nat → Int
  | 0 => 0
  | k + 1 => ds k + ((numS (k + 1)).size : Int)
theorem ds_next (k : Nat) : ds (k + 1) = ds k + ((numS (k + 1)).size : Int) := rfl
theorem size_bd (k : Nat) : 1 ≤ ((numS k).size : Int) ∧ ((numS k).size : Int) ≤ k + 1 := by
  have := decN_length k
  rw [numS_size]
  omega
theorem ds_ge (k : Nat) : (k : Int) ≤ ds k := by
  induction k with
  | zero => simp [ds]
  | succ k ih =>
    have := size_bd (k + 1)
    rw [ds_next]
    omega
theorem ds_mono {a b : Nat} (h : a ≤ b) : ds a ≤ ds b := by
  induction b with
  | zero => have : a = 0 := by omega
            subst this; exact Int.le_refl _
  | succ b ih =>
    by_cases e : a = b + 1
    · subst e; exact Int.le_refl _
    · have := ih (by omega)
      have := size_bd (b + 1)
      rw [ds_next]
      omega
/-- the first p page numbers have D digits or more, no fewer have -/
def Fits (D : Int) (p : Nat) : Prop := D ≤ ds p ∧ ∀ q, q < p → ds q < D
theorem fits_one {D : Int} {p q : Nat} (h : Fits D p) (g : Fits D q) : p = q := by
  by_cases c : p < q
  · have := g.2 p c; have := h.1; omega
  · by_cases c' : q < p
    · have := h.2 q c'; have := g.1; omega
    · omega
def Low (D : Int) (k : Nat) : Prop := ∀ q, q < k → ds q < D
theorem low_next {D : Int} {k : Nat} (h : Low D k) (hk : ds k < D) : Low D (k + 1) := by
  intro q hq
  by_cases e : q = k
  · rw [e]; exact hk
  · exact h q (by omega)
theorem low_bd {D : Int} {k : Nat} (h : Low D k) (h1 : 1 ≤ D) (h2 : D ≤ 6893) : k ≤ 6893 := by
  cases k with
  | zero => omega
  | succ k =>
    have := h k (by omega)
    have := ds_ge k
    omega
def outX (D : Int) (p : Nat) : Int := if ds p = D then (p : Int) else 0
def outB (D : Int) (p : Nat) : Bool := decide (ds p = D)
def Out (D : Int) (e : Ending) : Prop := ∃ p, Fits D p ∧ e = .returned (.tuple #[.int .i64 (outX D p), .bool (outB D p)])
theorem out_yes {D q : Int} {p : Nat} (h : Low D p) (hd : ds p = D) (hq : q = (p : Int)) : Out D (.returned (.tuple #[.int .i64 q, .bool true])) := by
  subst hq
  refine ⟨p, ⟨by omega, h⟩, ?_⟩
  unfold outX outB
  rw [if_pos hd]
  simp [hd]
theorem out_no {D : Int} {p : Nat} (h : Low D p) (hd : D < ds p) : Out D (.returned (.tuple #[.int .i64 0, .bool false])) := by
  refine ⟨p, ⟨by omega, h⟩, ?_⟩
  unfold outX outB
  rw [if_neg (by omega)]
  have : ¬ ds p = D := by omega
  simp [this]
theorem l1In_yes (n lo hi : Int) (h1 : lo ≤ n) (h2 : n ≤ hi) (w : World) :
    Calls Tryd.prog 9 #[.int .i64 n, .int .i64 lo, .int .i64 hi] w fun e w' => e = .returned (.bool true) ∧ w = w' := by
  go_enter Tryd.func9, Tryd.ntmps9
  go_wp2
  go_ret
  exact ⟨rfl, rfl⟩
theorem v_int {a b : Int} (h : a = b) : Value.int .i64 a = .int .i64 b := by rw [h]
set_option maxRecDepth 100000 in
set_option maxHeartbeats 1000000 in
theorem spec_pages (D : Int) (h1 : 1 ≤ D) (h2 : D ≤ 6893) (w : World) :
    Calls Tryd.prog 5 #[.int .i64 D] w fun e w' => Out D e ∧ Below w.heap.size w w' := by
  go_enter Tryd.func5, Tryd.ntmps5
  go_wp2_with (go_at_call 9; refine (l1In_yes _ _ _ h1 h2 _).mono ?_; rintro e w' ⟨rfl, rfl⟩)
  go_loopw [2, 3, 4, 5] (fun a b n q wr => a = .int .i64 0 ∧ b = .bool false ∧ ∃ (k : Nat) (x : Int), q = .int .i64 ((k : Int) + 1) ∧ n = .int .i64 x ∧ 0 ≤ x ∧ x ≤ 100000 ∧ x = ds k ∧ Low D k ∧ ¬ ds k = D ∧ Below w.heap.size w wr) (fun _ _ n _ _ => (D - intOf n).toNat)
  case atStart => exact ⟨rfl, rfl, 0, 0, rfl, rfl, by omega, by omega, rfl, fun q hq => by omega, by show ¬ (0 : Int) = D; omega, Below.refl _ _⟩
  case round =>
    obtain ⟨rfl, rfl, k, x, rfl, rfl, x1, x2, hx, hl, hne, hb⟩ := hrel
    have hk := low_bd hl h1 h2
    have HX := Lib.hid hx
    have HN := Lib.hid hne
    by_cases hlt : x < D
    · have hl2 := low_next hl (by omega)
      have hk2 := low_bd hl2 h1 h2
      have B1 : Hid (∀ W : World, Calls Tryd.prog 10 #[.int .i64 ((k : Int) + 1)] W fun e w' => e = .returned (.string (numS (k + 1))) ∧ Below W.heap.size W w') := Lib.hid (fun W => l1Num_any (k + 1) (by omega) W)
      obtain ⟨s1, s2⟩ := size_bd (k + 1)
      have HD : Hid (ds (k + 1) = x + ((numS (k + 1)).size : Int)) := Lib.hid (by rw [ds_next, HX.out])
      clear hx hne hl
      by_cases heq : x + ((numS (k + 1)).size : Int) = D
      · have HO : Hid (Out D (.returned (.tuple #[.int .i64 ((k : Int) + 1), .bool true]))) := Lib.hid (out_yes hl2 (by rw [HD.out]; exact heq) (by omega))
        go_wp2_with fail
        refine (B1.out _).mono ?_
        rintro e w1 ⟨rfl, hb1⟩
        go_wp2_with fail
        go_ret2
        exact ⟨HO.out, below_next hb hb1⟩
      · go_wp2_with fail
        refine (B1.out _).mono ?_
        rintro e w1 ⟨rfl, hb1⟩
        go_wp2_with fail
        go_roundw
        case rel => exact ⟨rfl, rfl, k + 1, x + ((numS (k + 1)).size : Int), by go_num, rfl, by omega, by omega, HD.out.symm, hl2, by rw [HD.out]; exact heq, below_next hb hb1⟩
        case measure => simp [intOf]; omega
    · have HO := Lib.hid (out_no hl (show D < ds k by omega))
      clear hx hne
      go_wp2_with fail
      go_ret2
      exact ⟨HO.out, hb⟩
set_option maxRecDepth 100000 in
set_option maxHeartbeats 1000000 in
theorem impl_pages (D : Int) (h1 : 1 ≤ D) (h2 : D ≤ 6893) (w : World) (ht : TabOn w) :
    Calls Tryd.prog 6 #[.int .i64 D] w fun e w' => Out D e ∧ Below w.heap.size w w' := by
  have HT := Lib.hid ht
  clear ht
  have d1 : ¬ D < 1 := by omega
  have d2 : ¬ 6893 < D := by omega
  go_enter Tryd.func6, Tryd.ntmps6
  go_wp2_with fail
  go_loopw [4, 5] (fun q n wr => ∃ (k : Nat) (x : Int), q = .int .i64 (k : Int) ∧ n = .int .i64 x ∧ 0 ≤ x ∧ x ≤ 100000 ∧ x = ds k ∧ Low D k ∧ Below w.heap.size w wr) (fun _ n _ => (D - intOf n).toNat)
  case atStart => exact ⟨0, 0, rfl, rfl, by omega, by omega, rfl, fun q hq => by omega, Below.refl _ _⟩
  case round =>
    obtain ⟨k, x, rfl, rfl, x1, x2, hx, hl, hb⟩ := hrel
    have hk := low_bd hl h1 h2
    have HX := Lib.hid hx
    by_cases hlt : x < D
    · have hl2 := low_next hl (by omega)
      have hk2 := low_bd hl2 h1 h2
      have B1 : Hid (∀ W : World, Tab W → Calls Tryd.prog 11 #[.int .i64 ((k : Int) + 1)] W fun e w' => e = .returned (.string (numS (k + 1))) ∧ Below W.heap.size W w') := Lib.hid (fun W hW => itoa_any (k + 1) (by omega) W hW)
      obtain ⟨s1, s2⟩ := size_bd (k + 1)
      have HD : Hid (ds (k + 1) = x + ((numS (k + 1)).size : Int)) := Lib.hid (by rw [ds_next, HX.out])
      clear hx hl
      go_wp2_with fail
      refine (B1.out _ (HT.out _ hb)).mono ?_
      rintro e w1 ⟨rfl, hb1⟩
      go_wp2_with fail
      go_roundw
      case rel => exact ⟨k + 1, x + ((numS (k + 1)).size : Int), by go_num, rfl, by omega, by omega, HD.out.symm, hl2, below_next hb hb1⟩
      case measure => simp [intOf]; omega
    · by_cases heq : x = D
      · have HO : Hid (Out D (.returned (.tuple #[.int .i64 (k : Int), .bool true]))) := Lib.hid (out_yes hl (by omega) rfl)
        clear hx
        subst heq
        go_wp2_with fail
        go_ret2
        exact ⟨HO.out, hb⟩
      · have HO := Lib.hid (out_no hl (show D < ds k by omega))
        have hne : (x != D) = true := by simp; exact heq
        clear hx heq
        go_wp2_with fail
        go_ret2
        exact ⟨HO.out, hb⟩
theorem pages_no5 (D : Int) (h : ¬ 1 ≤ D ∨ ¬ D ≤ 6893) (w : World) :
    Calls Tryd.prog 5 #[.int .i64 D] w fun e w' => e = .returned (.tuple #[.int .i64 0, .bool false]) ∧ w = w' := by
  by_cases c : 1 ≤ D
  · have c2 : ¬ D ≤ 6893 := by omega
    clear h
    go_enter Tryd.func5, Tryd.ntmps5
    go_wp2
    go_ret2
    exact ⟨rfl, rfl⟩
  · clear h
    go_enter Tryd.func5, Tryd.ntmps5
    go_wp2
    go_ret2
    exact ⟨rfl, rfl⟩
theorem pages_no6 (D : Int) (h : ¬ 1 ≤ D ∨ ¬ D ≤ 6893) (w : World) :
    Calls Tryd.prog 6 #[.int .i64 D] w fun e w' => e = .returned (.tuple #[.int .i64 0, .bool false]) ∧ w = w' := by
  by_cases c : D < 1
  · clear h
    go_enter Tryd.func6, Tryd.ntmps6
    go_wp2_with fail
    go_ret2
    exact ⟨rfl, rfl⟩
  · have c2 : 6893 < D := by omega
    clear h
    go_enter Tryd.func6, Tryd.ntmps6
    go_wp2_with fail
    go_ret2
    exact ⟨rfl, rfl⟩
theorem law_pages (a0 : Int) (w : World) (ht : TabOn w) :
    Calls Tryd.prog 3 #[.int .i64 a0] w fun e w' => e = .returned (.bool true) ∧ Below w.heap.size w w' := by
  by_cases c : 1 ≤ a0 ∧ a0 ≤ 6893
  · have S := Lib.hid (fun w => spec_pages a0 c.1 c.2 w)
    have I := Lib.hid (fun w h => impl_pages a0 c.1 c.2 w h)
    have HT := Lib.hid ht
    clear c ht
    go_enter Tryd.func3, Tryd.ntmps3
    go_wp2_with fail
    refine (S.out _).mono ?_
    rintro e w1 ⟨⟨p, hp, rfl⟩, hb⟩
    clear S
    go_wp2_with fail
    refine (I.out _ (fun W hW => HT.out W (below_next hb hW))).mono ?_
    rintro e w2 ⟨⟨q, hq, rfl⟩, hb2⟩
    clear I
    obtain rfl := fits_one hp hq
    clear hp hq
    go_wp2_with fail
    go_ret
    exact ⟨rfl, below_next hb hb2⟩
  · have S := Lib.hid (fun w => pages_no5 a0 (by omega) w)
    have I := Lib.hid (fun w => pages_no6 a0 (by omega) w)
    clear c ht
    go_enter Tryd.func3, Tryd.ntmps3
    go_wp2_with fail
    refine (S.out _).mono ?_
    rintro e w1 ⟨rfl, rfl⟩
    go_wp2_with fail
    refine (I.out _).mono ?_
    rintro e w2 ⟨rfl, rfl⟩
    go_wp2_with fail
    go_ret
    exact ⟨rfl, Below.refl _ _⟩
end Go.Proofs.YtnaikhfhimijdaaDoor
