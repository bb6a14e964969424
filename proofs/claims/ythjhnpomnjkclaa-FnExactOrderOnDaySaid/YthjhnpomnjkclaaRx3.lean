/- All of a list of readers are readers of a book, or one is not; from both sides. -/
import Derived.Test.YthjhnpomnjkclaaRx2
namespace Go.Proofs.Ythjhnpomnjkclaa
open Go.RowKit Go.Joins
set_option linter.unusedVariables false
set_option linter.unusedSimpArgs false
namespace Rx
/-- the reader k of a list is a reader of the book -/
def ib (p : Int) (zs : List Int) (k : Nat) : Bool := Rd.inb p (zs.getD (k * 3) 0) (zs.getD (k * 3 + 1) 0) (zs.getD (k * 3 + 2) 0)
theorem l1In_len (len : Nat) (h1 : 1 ≤ len) (h6 : len ≤ 6) (w : World) :
    Calls Try.prog 42 #[.int .i64 (len : Int), .int .i64 1, .int .i64 6] w fun e w' => e = .returned (.bool true) ∧ w = w' := by
  have t1 : decide ((1 : Int) ≤ (len : Int)) = true := by simp; omega
  have t2 : decide ((len : Int) ≤ 6) = true := by simp; omega
  go_enter Try.func42, Try.ntmps42
  go_wp2
  go_ret
  exact ⟨rfl, rfl⟩
set_option maxRecDepth 100000 in
set_option maxHeartbeats 1000000 in
theorem rdAll_any (p : Int) {b1 g len cap n : Nat} {zs : List Int} {w : World} (h : w.ownsRow b1 52 3 (.slice (some ⟨g, 0, none⟩) len cap) len (nums zs)) (h1 : 1 ≤ len) (h6 : len ≤ 6) (hn : n ≤ len)
    (ha : ∀ k, k < n → ib p zs k = true) (he : n < len → ib p zs n = false) :
    Calls Try.prog 29 #[.int .i64 p, .slice (some ⟨g, 0, none⟩) len cap] w (Rw.Ret (.bool (decide (n = len))) w) := by
  have HC := Lib.hid h
  have HA := Lib.hid ha
  have HE := Lib.hid he
  clear h ha he
  go_enter Try.func29, Try.ntmps29
  go_wp2_with (first | (go_at_call 42; refine (l1In_len len h1 h6 _).mono ?_; rintro e w' ⟨rfl, rfl⟩))
  go_loopw [13] (fun i wr => ∃ k : Nat, k ≤ n ∧ i = .int .i64 (k : Int) ∧ Below w.heap.size w wr) (fun i _ => ((len : Int) - intOf i).toNat)
  case atStart => exact ⟨0, by omega, rfl, Below.refl _ _⟩
  case round =>
    obtain ⟨k, hk, rfl, hb⟩ := hrel
    by_cases hlt : (k : Int) < len
    · obtain ⟨q0, q1, q2⟩ := cells3 (own_on HC.out hb) (k := k) (by omega)
      by_cases hn : k < n
      · have hv := HA.out k hn
        unfold ib at hv
        generalize zs.getD (k * 3) 0 = m at *
        generalize zs.getD (k * 3 + 1) 0 = d at *
        generalize zs.getD (k * 3 + 2) 0 = r at *
        have HV := Lib.hid hv
        have hs := hb.size
        clear hv
        go_wp2_with fail
        refine (Rw.rdBook_any _ _ _ _ _ HV.out _).mono ?_
        rintro e w4 ⟨rfl, hb4⟩
        have HB := Lib.hid (hb.trans (below_le (Rw.bx_below hb4) hs))
        clear hb hb4 q0 q1 q2
        go_wp2
        go_roundw
        case rel => exact ⟨k + 1, by omega, by go_num, HB.out⟩
        case measure => simp [intOf]; omega
      · obtain rfl : k = n := by omega
        have hv := HE.out (by omega)
        unfold ib at hv
        have hne : decide (k = len) = false := by simp; omega
        generalize zs.getD (k * 3) 0 = m at *
        generalize zs.getD (k * 3 + 1) 0 = d at *
        generalize zs.getD (k * 3 + 2) 0 = r at *
        have HV := Lib.hid hv
        have hs := hb.size
        clear hv
        go_wp2_with fail
        refine (Rw.rdBook_any _ _ _ _ _ HV.out _).mono ?_
        rintro e w4 ⟨rfl, hb4⟩
        have HB := Lib.hid (hb.trans (below_le (Rw.bx_below hb4) hs))
        have HN := Lib.hid hne
        clear hb hb4 q0 q1 q2 hne
        go_wp2
        go_ret
        exact ⟨by rw [HN.out]; rfl, HB.out⟩
    · have hne : decide (n = len) = true := by simp; omega
      have HN := Lib.hid hne
      clear hne
      go_wp2
      go_ret
      exact ⟨by rw [HN.out]; rfl, hb⟩
set_option maxRecDepth 100000 in
set_option maxHeartbeats 1000000 in
theorem rdAll_len (p : Int) (a : Option Addr) (len cap : Nat) (h : ¬ 1 ≤ len ∨ ¬ len ≤ 6) (w : World) :
    Calls Try.prog 29 #[.int .i64 p, .slice a len cap] w (Rw.Ret (.bool false) w) := by
  by_cases h1 : 1 ≤ len
  · have t1 : decide ((1 : Int) ≤ (len : Int)) = true := by simp; omega
    have t2 : decide ((len : Int) ≤ 6) = false := by simp; omega
    have t3 : decide ((len : Int) < 1) = false := by simp; omega
    have t4 : decide ((6 : Int) < (len : Int)) = true := by simp; omega
    clear h h1
    go_enter Try.func29, Try.ntmps29
    go_wp2
    go_ret
    exact Rw.ret0 _ _
  · have h0 : len = 0 := by omega
    subst h0
    clear h h1
    go_enter Try.func29, Try.ntmps29
    go_wp2
    go_ret
    exact Rw.ret0 _ _
set_option maxRecDepth 100000 in
set_option maxHeartbeats 1000000 in
theorem areReaders_any (p : Int) {b1 g len cap n : Nat} {zs : List Int} {w : World} (h : w.ownsRow b1 52 3 (.slice (some ⟨g, 0, none⟩) len cap) len (nums zs)) (h1 : 1 ≤ len) (h6 : len ≤ 6) (hn : n ≤ len)
    (ha : ∀ k, k < n → ib p zs k = true) (he : n < len → ib p zs n = false) :
    Calls Try.prog 35 #[.int .i64 p, .slice (some ⟨g, 0, none⟩) len cap] w (Rw.Ret (.bool (decide (n = len))) w) := by
  have HC := Lib.hid h
  have HA := Lib.hid ha
  have HE := Lib.hid he
  have t1 : decide ((1 : Int) ≤ (len : Int)) = true := by simp; omega
  have t2 : decide ((len : Int) ≤ 6) = true := by simp; omega
  have t3 : decide ((len : Int) < 1) = false := by simp; omega
  have t4 : decide ((6 : Int) < (len : Int)) = false := by simp; omega
  clear h ha he
  go_enter Try.func35, Try.ntmps35
  go_wp2
  go_loopw [17] (fun i wr => ∃ k : Nat, k ≤ n ∧ i = .int .i64 (k : Int) ∧ Below w.heap.size w wr) (fun i _ => ((len : Int) - intOf i).toNat)
  case atStart => exact ⟨0, by omega, rfl, Below.refl _ _⟩
  case round =>
    obtain ⟨k, hk, rfl, hb⟩ := hrel
    by_cases hlt : (k : Int) < len
    · obtain ⟨q0, q1, q2⟩ := cells3 (own_on HC.out hb) (k := k) (by omega)
      by_cases hn : k < n
      · have hv := HA.out k hn
        unfold ib at hv
        generalize zs.getD (k * 3) 0 = m at *
        generalize zs.getD (k * 3 + 1) 0 = d at *
        generalize zs.getD (k * 3 + 2) 0 = r at *
        have HV := Lib.hid hv
        have hs := hb.size
        clear hv
        go_wp2_with fail
        refine (Rw.isReaderOf_any _ _ _ _ _ HV.out _).mono ?_
        rintro e w4 ⟨rfl, hb4⟩
        have HB := Lib.hid (hb.trans (below_le (Rw.bx_below hb4) hs))
        clear hb hb4 q0 q1 q2
        go_wp2
        go_roundw
        case rel => exact ⟨k + 1, by omega, by go_num, HB.out⟩
        case measure => simp [intOf]; omega
      · obtain rfl : k = n := by omega
        have hv := HE.out (by omega)
        unfold ib at hv
        have hne : decide (k = len) = false := by simp; omega
        generalize zs.getD (k * 3) 0 = m at *
        generalize zs.getD (k * 3 + 1) 0 = d at *
        generalize zs.getD (k * 3 + 2) 0 = r at *
        have HV := Lib.hid hv
        have hs := hb.size
        clear hv
        go_wp2_with fail
        refine (Rw.isReaderOf_any _ _ _ _ _ HV.out _).mono ?_
        rintro e w4 ⟨rfl, hb4⟩
        have HB := Lib.hid (hb.trans (below_le (Rw.bx_below hb4) hs))
        have HN := Lib.hid hne
        clear hb hb4 q0 q1 q2 hne
        go_wp2
        go_ret
        exact ⟨by rw [HN.out]; rfl, HB.out⟩
    · have hne : decide (n = len) = true := by simp; omega
      have HN := Lib.hid hne
      clear hne
      go_wp2
      go_ret
      exact ⟨by rw [HN.out]; rfl, hb⟩
set_option maxRecDepth 100000 in
set_option maxHeartbeats 1000000 in
theorem areReaders_len (p : Int) (a : Option Addr) (len cap : Nat) (h : ¬ 1 ≤ len ∨ ¬ len ≤ 6) (w : World) :
    Calls Try.prog 35 #[.int .i64 p, .slice a len cap] w (Rw.Ret (.bool false) w) := by
  by_cases h1 : 1 ≤ len
  · have t1 : decide ((1 : Int) ≤ (len : Int)) = true := by simp; omega
    have t2 : decide ((len : Int) ≤ 6) = false := by simp; omega
    have t3 : decide ((len : Int) < 1) = false := by simp; omega
    have t4 : decide ((6 : Int) < (len : Int)) = true := by simp; omega
    clear h h1
    go_enter Try.func35, Try.ntmps35
    go_wp2
    go_ret
    exact Rw.ret0 _ _
  · have h0 : len = 0 := by omega
    subst h0
    clear h h1
    go_enter Try.func35, Try.ntmps35
    go_wp2
    go_ret
    exact Rw.ret0 _ _
/-- all are readers of the book -/
def allOf (p : Int) (zs : List Int) (len : Nat) : Prop := 1 ≤ len ∧ len ≤ 6 ∧ ∀ k, k < len → ib p zs k = true
theorem first_bad {p : Int} {zs : List Int} {len : Nat} (h1 : 1 ≤ len) (h6 : len ≤ 6) (h : ¬ allOf p zs len) : ∃ n, n < len ∧ (∀ k, k < n → ib p zs k = true) ∧ ib p zs n = false := by
  have hx : ¬ ∀ k, k < len → ib p zs k = true := fun hh => h ⟨h1, h6, hh⟩
  obtain ⟨k, hk⟩ := Classical.not_forall.1 hx
  obtain ⟨hk1, hk2⟩ := Classical.not_imp.1 hk
  have key : ∀ q, q < len → ib p zs q ≠ true → ∃ n, n < len ∧ (∀ k, k < n → ib p zs k = true) ∧ ib p zs n = false := by
    intro q
    induction q using Nat.strongRecOn with
    | _ q ih =>
      intro hq hn
      by_cases h2 : ∀ j, j < q → ib p zs j = true
      · exact ⟨q, hq, h2, by simpa using hn⟩
      · obtain ⟨i, hi⟩ := Classical.not_forall.1 h2
        obtain ⟨hi1, hi2⟩ := Classical.not_imp.1 hi
        exact ih i hi1 (by omega) hi2
  exact key k hk1 hk2
theorem rdAll_yes {p : Int} {b1 g len cap : Nat} {zs : List Int} {w : World} (h : w.ownsRow b1 52 3 (.slice (some ⟨g, 0, none⟩) len cap) len (nums zs)) (ha : allOf p zs len) :
    Calls Try.prog 29 #[.int .i64 p, .slice (some ⟨g, 0, none⟩) len cap] w (Rw.Ret (.bool true) w) := by
  have := rdAll_any p (n := len) h ha.1 ha.2.1 (Nat.le_refl _) ha.2.2 (fun hh => absurd hh (Nat.lt_irrefl _))
  simpa using this
theorem rdAll_no {p : Int} {b1 g len cap : Nat} {zs : List Int} {w : World} (h : w.ownsRow b1 52 3 (.slice (some ⟨g, 0, none⟩) len cap) len (nums zs)) (ha : ¬ allOf p zs len) :
    Calls Try.prog 29 #[.int .i64 p, .slice (some ⟨g, 0, none⟩) len cap] w (Rw.Ret (.bool false) w) := by
  by_cases h1 : 1 ≤ len ∧ len ≤ 6
  · obtain ⟨n, hn, h2, h3⟩ := first_bad h1.1 h1.2 ha
    have := rdAll_any p (n := n) h h1.1 h1.2 (by omega) h2 (fun _ => h3)
    rwa [show decide (n = len) = false by simp; omega] at this
  · exact rdAll_len p _ len cap (by omega) w
theorem areReaders_yes {p : Int} {b1 g len cap : Nat} {zs : List Int} {w : World} (h : w.ownsRow b1 52 3 (.slice (some ⟨g, 0, none⟩) len cap) len (nums zs)) (ha : allOf p zs len) :
    Calls Try.prog 35 #[.int .i64 p, .slice (some ⟨g, 0, none⟩) len cap] w (Rw.Ret (.bool true) w) := by
  have := areReaders_any p (n := len) h ha.1 ha.2.1 (Nat.le_refl _) ha.2.2 (fun hh => absurd hh (Nat.lt_irrefl _))
  simpa using this
theorem areReaders_no {p : Int} {b1 g len cap : Nat} {zs : List Int} {w : World} (h : w.ownsRow b1 52 3 (.slice (some ⟨g, 0, none⟩) len cap) len (nums zs)) (ha : ¬ allOf p zs len) :
    Calls Try.prog 35 #[.int .i64 p, .slice (some ⟨g, 0, none⟩) len cap] w (Rw.Ret (.bool false) w) := by
  by_cases h1 : 1 ≤ len ∧ len ≤ 6
  · obtain ⟨n, hn, h2, h3⟩ := first_bad h1.1 h1.2 ha
    have := areReaders_any p (n := n) h h1.1 h1.2 (by omega) h2 (fun _ => h3)
    rwa [show decide (n = len) = false by simp; omega] at this
  · exact areReaders_len p _ len cap (by omega) w
end Rx
end Go.Proofs.Ythjhnpomnjkclaa
