/- Numbers in Roman letters, told by both sides. -/
import Derived.Test.YtkfoapidmockfabChecked
import Derived.Test.YtkfoapidmockfabShelf
import Derived.WalkKit
import Derived.Lib.Hide
import Derived.Below
import Derived.OpenShut
import Derived.ProofKit
import Derived.Lib.SmallJoins
import Derived.Deep.LoopGhost
namespace Go.Proofs.Ytkfoapidmockfab
open Go.RowKit Go.Joins Go.Deep
set_option linter.unusedVariables false
set_option linter.ambiguousOpen false
set_option linter.unusedSimpArgs false
namespace Rm
def Ret (v : Value) (w : World) (e : Ending) (w' : World) : Prop := e = .returned v ∧ Below w.heap.size w w'
theorem below_le {B a : Nat} {w w' : World} (h : Below a w w') (hb : B ≤ a) : Below B w w' := h.mono hb
/-- b, and k times one behind it -/
def rp (b one : ByteArray) (k : Nat) : ByteArray := b ++ ⟨(Lib.repeatL one.data.toList k).toArray⟩
theorem repeat_snoc (l : List UInt8) : ∀ c, Lib.repeatL l (c + 1) = Lib.repeatL l c ++ l
  | 0 => by simp [Lib.repeatL]
  | c + 1 => by
    have := repeat_snoc l c
    show l ++ Lib.repeatL l (c + 1) = (l ++ Lib.repeatL l c) ++ l
    rw [List.append_assoc, this]
theorem mk_append (a b : List UInt8) : (⟨a.toArray⟩ : ByteArray) ++ ⟨b.toArray⟩ = ⟨(a ++ b).toArray⟩ := by
  apply ByteArray.ext
  simp [ByteArray.data_append]
theorem mk_self (b : ByteArray) : (⟨b.data.toList.toArray⟩ : ByteArray) = b := by
  apply ByteArray.ext
  simp
theorem rp_zero (b one : ByteArray) : rp b one 0 = b := by
  unfold rp
  apply ByteArray.ext
  simp [ByteArray.data_append, Lib.repeatL]
theorem rp_succ (b one : ByteArray) (k : Nat) : rp b one k ++ one = rp b one (k + 1) := by
  unfold rp
  rw [repeat_snoc, ByteArray.append_assoc]
  congr 1
theorem rp_size (b one : ByteArray) (k : Nat) : (rp b one k).size = b.size + k * one.size := by
  induction k with
  | zero => rw [rp_zero]; omega
  | succ k ih => rw [← rp_succ, ByteArray.size_append, ih, Nat.add_mul]; omega
theorem rp_none (one : ByteArray) (k : Nat) : rp ⟨#[]⟩ one k = ⟨(Lib.repeatL one.data.toList k).toArray⟩ := by
  unfold rp
  apply ByteArray.ext
  simp [ByteArray.data_append]
/-- a digit, by the letters for one, five and ten -/
def pt (d : Nat) (one five ten : ByteArray) : ByteArray :=
  if d = 4 then one ++ five else if d = 9 then one ++ ten else if 5 ≤ d then rp five one (d - 5) else rp ⟨#[]⟩ one d
theorem pt_four (one five ten : ByteArray) : pt 4 one five ten = one ++ five := rfl
theorem pt_nine (one five ten : ByteArray) : pt 9 one five ten = one ++ ten := rfl
theorem pt_high {d : Nat} (one five ten : ByteArray) (h9 : d ≠ 9) (h5 : 5 ≤ d) : pt d one five ten = rp five one (d - 5) := by
  unfold pt
  rw [if_neg (by omega), if_neg h9, if_pos h5]
theorem pt_low {d : Nat} (one five ten : ByteArray) (h4 : d ≠ 4) (h5 : ¬ 5 ≤ d) : pt d one five ten = rp ⟨#[]⟩ one d := by
  unfold pt
  rw [if_neg h4, if_neg (by omega), if_neg h5]
theorem pt_size (d : Nat) (hd : d ≤ 9) (one five ten : ByteArray) (h1 : one.size ≤ 1) (h5 : five.size ≤ 1) (h10 : ten.size ≤ 1) : (pt d one five ten).size ≤ 10 := by
  unfold pt
  split
  · rw [ByteArray.size_append]; omega
  · split
    · rw [ByteArray.size_append]; omega
    · split
      · rw [rp_size]
        have : (d - 5) * one.size ≤ (d - 5) * 1 := Nat.mul_le_mul_left _ h1
        omega
      · rw [rp_size]
        have : d * one.size ≤ d * 1 := Nat.mul_le_mul_left _ h1
        have e : (⟨#[]⟩ : ByteArray).size = 0 := rfl
        omega
theorem ret_s {a b : ByteArray} (h : a = b) : Ending.returned (.string a) = .returned (.string b) := by rw [h]
set_option maxRecDepth 100000 in
set_option maxHeartbeats 1000000 in
theorem caPart_at (z : Int) (d : Nat) (hz : z = (d : Int)) (hd : d ≤ 9) (one five ten : ByteArray) (h1 : one.size ≤ 1) (h5 : five.size ≤ 1) (h10 : ten.size ≤ 1) (w : World) :
    Calls Try.prog 17 #[.int .i64 z, .string one, .string five, .string ten] w fun e w' => e = .returned (.string (pt d one five ten)) ∧ w = w' := by
  subst hz
  by_cases e4 : d = 4
  · subst e4
    go_enter Try.func17, Try.ntmps17
    go_wp2
    go_ret
    exact ⟨rfl, rfl⟩
  by_cases e9 : d = 9
  · subst e9
    go_enter Try.func17, Try.ntmps17
    go_wp2
    go_ret
    exact ⟨rfl, rfl⟩
  have t4 : ((d : Int) == 4) = false := by simp; omega
  have t9 : ((d : Int) == 9) = false := by simp; omega
  by_cases c5 : 5 ≤ d
  · have E := Lib.hid (pt_high one five ten e9 c5)
    have c5' : (5 : Int) ≤ (d : Int) := by omega
    rw [E.out]
    clear e4 e9
    go_enter Try.func17, Try.ntmps17
    go_wp2
    go_loop [0, 9] (fun i o => ∃ j k : Nat, j + k = d - 5 ∧ i = .int .i64 (j : Int) ∧ o = .string (rp five one k)) (fun i _ => (intOf i).toNat)
    case atStart => exact ⟨d - 5, 0, by omega, by congr 1; omega, by rw [rp_zero]⟩
    case round =>
      obtain ⟨j, k, hjk, rfl, rfl⟩ := hrel
      have HJK := Lib.hid hjk
      have hsz := rp_size five one k
      have hk1 : k * one.size ≤ k * 1 := Nat.mul_le_mul_left _ h1
      have hs2 : (rp five one k).size ≤ 10 := by omega
      have hj9 : j ≤ 9 := by omega
      clear hjk hsz hk1
      by_cases hlt : (0 : Int) < (j : Int)
      · have S := Lib.hid (rp_succ five one k)
        go_wp2
        go_round
        case rel => exact ⟨j - 1, k + 1, by have := HJK.out; omega, by congr 1; omega, by rw [← S.out]⟩
        case measure => simp [intOf]; omega
      · have EK := Lib.hid (show k = d - 5 by have := HJK.out; omega)
        go_wp2
        go_ret
        exact ⟨ret_s (by rw [EK.out]), rfl⟩
  · have E := Lib.hid (pt_low one five ten e4 c5)
    have c5' : ¬ (5 : Int) ≤ (d : Int) := by omega
    rw [E.out]
    clear e4 e9
    go_enter Try.func17, Try.ntmps17
    go_wp2
    go_loop [0, 9] (fun i o => ∃ j k : Nat, j + k = d ∧ i = .int .i64 (j : Int) ∧ o = .string (rp ⟨#[]⟩ one k)) (fun i _ => (intOf i).toNat)
    case atStart => exact ⟨d, 0, by omega, rfl, by rw [rp_zero]⟩
    case round =>
      obtain ⟨j, k, hjk, rfl, rfl⟩ := hrel
      have HJK := Lib.hid hjk
      have hsz := rp_size ⟨#[]⟩ one k
      have hk1 : k * one.size ≤ k * 1 := Nat.mul_le_mul_left _ h1
      have hs2 : (rp ⟨#[]⟩ one k).size ≤ 10 := by rw [show (⟨#[]⟩ : ByteArray).size = 0 from rfl] at hsz; omega
      have hj9 : j ≤ 9 := by omega
      clear hjk hsz hk1
      by_cases hlt : (0 : Int) < (j : Int)
      · have S := Lib.hid (rp_succ ⟨#[]⟩ one k)
        go_wp2
        go_round
        case rel => exact ⟨j - 1, k + 1, by have := HJK.out; omega, by congr 1; omega, by rw [← S.out]⟩
        case measure => simp [intOf]; omega
      · have EK := Lib.hid (show k = d by have := HJK.out; omega)
        go_wp2
        go_ret
        exact ⟨ret_s (by rw [EK.out]), rfl⟩
theorem repeat_at (s : ByteArray) (hs : s.size ≤ 1) (z : Int) (k : Nat) (hz : z = (k : Int)) (hk : k ≤ 100) (w : World) :
    Calls Try.prog 14 #[.string s, .int .i64 z] w (Ret (.string (rp ⟨#[]⟩ s k)) w) := by
  subst hz
  rw [rp_none]
  have : s.size * k ≤ 1 * k := Nat.mul_le_mul_right _ hs
  exact Try.strings_Repeat s k w (by omega) (by omega)
set_option maxRecDepth 100000 in
set_option maxHeartbeats 1000000 in
theorem digit_at (z : Int) (d : Nat) (hz : z = (d : Int)) (hd : d ≤ 9) (one five ten : ByteArray) (h1 : one.size ≤ 1) (h5 : five.size ≤ 1) (h10 : ten.size ≤ 1) (w : World) :
    Calls Try.prog 15 #[.int .i64 z, .string one, .string five, .string ten] w (Ret (.string (pt d one five ten)) w) := by
  subst hz
  by_cases e9 : d = 9
  · subst e9
    go_enter Try.func15, Try.ntmps15
    go_wp2
    go_ret
    exact ⟨rfl, Below.refl _ _⟩
  by_cases e4 : d = 4
  · subst e4
    go_enter Try.func15, Try.ntmps15
    go_wp2
    go_ret
    exact ⟨rfl, Below.refl _ _⟩
  have t4 : ((d : Int) == 4) = false := by simp; omega
  have t9 : ((d : Int) == 9) = false := by simp; omega
  by_cases c5 : 5 ≤ d
  · have E := Lib.hid (pt_high one five ten e9 c5)
    have c5' : (5 : Int) ≤ (d : Int) := by omega
    have C := Lib.hid (fun W => repeat_at one h1 ((d : Int) - 5) (d - 5) (by omega) (by omega) W)
    have ES := Lib.hid (show five ++ rp ⟨#[]⟩ one (d - 5) = rp five one (d - 5) by rw [rp_none]; rfl)
    have hs2 : (rp ⟨#[]⟩ one (d - 5)).size ≤ 10 := by
      rw [rp_size]
      have hk1 : (d - 5) * one.size ≤ (d - 5) * 1 := Nat.mul_le_mul_left _ h1
      rw [show (⟨#[]⟩ : ByteArray).size = 0 from rfl]
      omega
    rw [E.out]
    generalize rp ⟨#[]⟩ one (d - 5) = R at *
    clear e4 e9
    go_enter Try.func15, Try.ntmps15
    go_wp2_with fail
    refine (C.out _).mono ?_
    rintro e w1 ⟨rfl, hb⟩
    have HB := Lib.hid hb
    clear hb
    go_wp2
    go_ret
    exact ⟨ret_s ES.out, HB.out⟩
  · have E := Lib.hid (pt_low one five ten e4 c5)
    have c5' : ¬ (5 : Int) ≤ (d : Int) := by omega
    have C := Lib.hid (fun W => repeat_at one h1 (d : Int) d rfl (by omega) W)
    rw [E.out]
    generalize rp ⟨#[]⟩ one d = R at *
    clear e4 e9
    go_enter Try.func15, Try.ntmps15
    go_wp2_with fail
    refine (C.out _).mono ?_
    rintro e w1 ⟨rfl, hb⟩
    have HB := Lib.hid hb
    clear hb
    go_wp2
    go_ret
    exact ⟨rfl, HB.out⟩
/-- a number in Roman letters -/
def rom (n : Nat) : ByteArray := (pt (n / 100) ⟨#[99]⟩ ⟨#[100]⟩ ⟨#[]⟩ ++ pt (n / 10 % 10) ⟨#[120]⟩ ⟨#[108]⟩ ⟨#[99]⟩) ++ pt (n % 10) ⟨#[105]⟩ ⟨#[118]⟩ ⟨#[120]⟩
theorem rom_size (n : Nat) (h : n ≤ 399) : (rom n).size ≤ 30 := by
  unfold rom
  rw [ByteArray.size_append, ByteArray.size_append]
  have a := pt_size (n / 100) (by omega) ⟨#[99]⟩ ⟨#[100]⟩ ⟨#[]⟩ (by decide) (by decide) (by decide)
  have b := pt_size (n / 10 % 10) (by omega) ⟨#[120]⟩ ⟨#[108]⟩ ⟨#[99]⟩ (by decide) (by decide) (by decide)
  have c := pt_size (n % 10) (by omega) ⟨#[105]⟩ ⟨#[118]⟩ ⟨#[120]⟩ (by decide) (by decide) (by decide)
  omega
set_option maxRecDepth 100000 in
set_option maxHeartbeats 1000000 in
theorem caRoman_any (n : Nat) (hn : n ≤ 399) (w : World) :
    Calls Try.prog 13 #[.int .i64 (n : Int)] w fun e w' => e = .returned (.string (rom n)) ∧ w = w' := by
  have C1 := Lib.hid (fun W => caPart_at ((n : Int) / 100) (n / 100) (by omega) (by omega) ⟨#[99]⟩ ⟨#[100]⟩ ⟨#[]⟩ (by decide) (by decide) (by decide) W)
  have C2 := Lib.hid (fun W => caPart_at ((n : Int) / 10 % 10) (n / 10 % 10) (by omega) (by omega) ⟨#[120]⟩ ⟨#[108]⟩ ⟨#[99]⟩ (by decide) (by decide) (by decide) W)
  have C3 := Lib.hid (fun W => caPart_at ((n : Int) % 10) (n % 10) (by omega) (by omega) ⟨#[105]⟩ ⟨#[118]⟩ ⟨#[120]⟩ (by decide) (by decide) (by decide) W)
  have a := pt_size (n / 100) (by omega) ⟨#[99]⟩ ⟨#[100]⟩ ⟨#[]⟩ (by decide) (by decide) (by decide)
  have b := pt_size (n / 10 % 10) (by omega) ⟨#[120]⟩ ⟨#[108]⟩ ⟨#[99]⟩ (by decide) (by decide) (by decide)
  have c := pt_size (n % 10) (by omega) ⟨#[105]⟩ ⟨#[118]⟩ ⟨#[120]⟩ (by decide) (by decide) (by decide)
  have E := Lib.hid (show rom n = (pt (n / 100) ⟨#[99]⟩ ⟨#[100]⟩ ⟨#[]⟩ ++ pt (n / 10 % 10) ⟨#[120]⟩ ⟨#[108]⟩ ⟨#[99]⟩) ++ pt (n % 10) ⟨#[105]⟩ ⟨#[118]⟩ ⟨#[120]⟩ from rfl)
  rw [E.out]
  generalize pt (n / 100) ⟨#[99]⟩ ⟨#[100]⟩ ⟨#[]⟩ = A at *
  generalize pt (n / 10 % 10) ⟨#[120]⟩ ⟨#[108]⟩ ⟨#[99]⟩ = B at *
  generalize pt (n % 10) ⟨#[105]⟩ ⟨#[118]⟩ ⟨#[120]⟩ = D at *
  have hab := ByteArray.size_append (a := A) (b := B)
  have hab2 : (A ++ B).size ≤ 20 := by omega
  clear hab
  go_enter Try.func13, Try.ntmps13
  go_wp2_with fail
  refine (C1.out _).mono ?_
  rintro e w' ⟨rfl, rfl⟩
  go_wp2_with fail
  refine (C2.out _).mono ?_
  rintro e w' ⟨rfl, rfl⟩
  go_wp2_with fail
  refine (C3.out _).mono ?_
  rintro e w' ⟨rfl, rfl⟩
  go_wp2
  go_ret
  exact ⟨rfl, rfl⟩
def rin (n : Int) : Bool := decide (1 ≤ n) && decide (n ≤ 399)
def ro (n : Int) : ByteArray := if rin n = true then rom n.toNat else ⟨#[]⟩
theorem rin_iff (n : Int) : rin n = true ↔ 1 ≤ n ∧ n ≤ 399 := by simp [rin]
theorem l1In_any (n lo hi : Int) (v : Bool) (hv : (decide (lo ≤ n) && decide (n ≤ hi)) = v) (w : World) :
    Calls Try.prog 16 #[.int .i64 n, .int .i64 lo, .int .i64 hi] w fun e w' => e = .returned (.bool v) ∧ w = w' := by
  by_cases c1 : lo ≤ n
  · by_cases c2 : n ≤ hi
    · have e : v = true := by rw [← hv]; simp [c1, c2]
      subst e
      clear hv
      go_enter Try.func16, Try.ntmps16
      go_wp2
      go_ret
      exact ⟨rfl, rfl⟩
    · have e : v = false := by rw [← hv]; simp [c2]
      subst e
      have t2 : decide (n ≤ hi) = false := by simpa using c2
      clear hv c2
      go_enter Try.func16, Try.ntmps16
      go_wp2
      go_ret
      exact ⟨rfl, rfl⟩
  · have e : v = false := by rw [← hv]; simp [c1]
    subst e
    have t2 : decide (lo ≤ n) = false := by simpa using c1
    clear hv c1
    go_enter Try.func16, Try.ntmps16
    go_wp2
    go_ret
    exact ⟨rfl, rfl⟩
theorem caNumber_any (n : Int) (v : Bool) (hv : rin n = v) (w : World) : Calls Try.prog 12 #[.int .i64 n] w fun e w' => e = .returned (.bool v) ∧ w = w' := by
  have HV := Lib.hid hv
  clear hv
  go_enter Try.func12, Try.ntmps12
  go_wp2_with fail
  refine (l1In_any n 1 399 v HV.out _).mono ?_
  rintro e w' ⟨rfl, rfl⟩
  go_wp2
  go_ret
  exact ⟨rfl, rfl⟩
theorem sRoman (n : Int) (w : World) : Calls Try.prog 6 #[.int .i64 n] w (Ret (.tuple #[.string (ro n), .bool (rin n)]) w) := by
  cases hg : rin n with
  | false =>
    have HG := Lib.hid hg
    have E := Lib.hid (show ro n = ⟨#[]⟩ by unfold ro; rw [hg]; rfl)
    rw [E.out]
    clear hg
    go_enter Try.func6, Try.ntmps6
    go_wp2_with fail
    refine (caNumber_any n false HG.out _).mono ?_
    rintro e w' ⟨rfl, rfl⟩
    go_wp2
    go_ret2
    exact ⟨rfl, Below.refl _ _⟩
  | true =>
    have HG := Lib.hid hg
    have hb := (rin_iff n).1 hg
    have E := Lib.hid (show ro n = rom n.toNat by unfold ro; rw [if_pos hg])
    rw [E.out]
    obtain ⟨N, rfl⟩ := Int.eq_ofNat_of_zero_le (show 0 ≤ n by omega)
    rw [Int.toNat_natCast]
    have hn : N ≤ 399 := by omega
    clear hg hb
    go_enter Try.func6, Try.ntmps6
    go_wp2_with fail
    refine (caNumber_any (N : Int) true HG.out _).mono ?_
    rintro e w' ⟨rfl, rfl⟩
    go_wp2_with fail
    refine (caRoman_any N hn _).mono ?_
    rintro e w' ⟨rfl, rfl⟩
    go_wp2
    go_ret2
    exact ⟨rfl, Below.refl _ _⟩
set_option maxRecDepth 100000 in
set_option maxHeartbeats 1000000 in
theorem iRoman (n : Int) (w : World) : Calls Try.prog 7 #[.int .i64 n] w (Ret (.tuple #[.string (ro n), .bool (rin n)]) w) := by
  by_cases c1 : n < 1
  · have E := Lib.hid (show rin n = false by unfold rin; rw [show decide (1 ≤ n) = false by simp; omega]; rfl)
    have E2 := Lib.hid (show ro n = ⟨#[]⟩ by unfold ro; rw [E.out]; rfl)
    rw [E.out, E2.out]
    go_enter Try.func7, Try.ntmps7
    go_wp2
    go_ret2
    exact ⟨rfl, Below.refl _ _⟩
  by_cases c2 : 399 < n
  · have E := Lib.hid (show rin n = false by unfold rin; rw [show decide (n ≤ 399) = false by simp; omega, Bool.and_false])
    have E2 := Lib.hid (show ro n = ⟨#[]⟩ by unfold ro; rw [E.out]; rfl)
    rw [E.out, E2.out]
    go_enter Try.func7, Try.ntmps7
    go_wp2
    go_ret2
    exact ⟨rfl, Below.refl _ _⟩
  obtain ⟨N, rfl⟩ := Int.eq_ofNat_of_zero_le (show 0 ≤ n by omega)
  have hg : rin (N : Int) = true := (rin_iff _).2 ⟨by omega, by omega⟩
  have HG := Lib.hid hg
  have E := Lib.hid (show ro (N : Int) = (pt (N / 100) ⟨#[99]⟩ ⟨#[100]⟩ ⟨#[]⟩ ++ pt (N / 10 % 10) ⟨#[120]⟩ ⟨#[108]⟩ ⟨#[99]⟩) ++ pt (N % 10) ⟨#[105]⟩ ⟨#[118]⟩ ⟨#[120]⟩ by unfold ro; rw [if_pos hg, Int.toNat_natCast]; rfl)
  rw [E.out, HG.out]
  have C1 := Lib.hid (fun W => show Calls Try.prog 14 #[.string ⟨#[99]⟩, .int .i64 ((N : Int) / 100)] W (Ret (.string (pt (N / 100) ⟨#[99]⟩ ⟨#[100]⟩ ⟨#[]⟩)) W) from by
    rw [pt_low _ _ _ (by omega) (by omega)]
    exact repeat_at ⟨#[99]⟩ (by decide) _ (N / 100) (by omega) (by omega) W)
  have C2 := Lib.hid (fun W => digit_at ((N : Int) / 10 % 10) (N / 10 % 10) (by omega) (by omega) ⟨#[120]⟩ ⟨#[108]⟩ ⟨#[99]⟩ (by decide) (by decide) (by decide) W)
  have C3 := Lib.hid (fun W => digit_at ((N : Int) % 10) (N % 10) (by omega) (by omega) ⟨#[105]⟩ ⟨#[118]⟩ ⟨#[120]⟩ (by decide) (by decide) (by decide) W)
  have a := pt_size (N / 100) (by omega) ⟨#[99]⟩ ⟨#[100]⟩ ⟨#[]⟩ (by decide) (by decide) (by decide)
  have b := pt_size (N / 10 % 10) (by omega) ⟨#[120]⟩ ⟨#[108]⟩ ⟨#[99]⟩ (by decide) (by decide) (by decide)
  have c := pt_size (N % 10) (by omega) ⟨#[105]⟩ ⟨#[118]⟩ ⟨#[120]⟩ (by decide) (by decide) (by decide)
  generalize pt (N / 100) ⟨#[99]⟩ ⟨#[100]⟩ ⟨#[]⟩ = A at *
  generalize pt (N / 10 % 10) ⟨#[120]⟩ ⟨#[108]⟩ ⟨#[99]⟩ = B at *
  generalize pt (N % 10) ⟨#[105]⟩ ⟨#[118]⟩ ⟨#[120]⟩ = D at *
  have hab := ByteArray.size_append (a := A) (b := B)
  have hab2 : (A ++ B).size ≤ 20 := by omega
  clear hab hg
  go_enter Try.func7, Try.ntmps7
  go_wp2_with fail
  refine (C1.out _).mono ?_
  rintro e w1 ⟨rfl, hb⟩
  have HB := Lib.hid hb
  clear hb
  go_wp2_with fail
  refine (C2.out _).mono ?_
  rintro e w2 ⟨rfl, hb⟩
  have HB2 := Lib.hid (HB.out.trans (below_le hb HB.out.size))
  clear hb
  go_wp2_with fail
  refine (C3.out _).mono ?_
  rintro e w3 ⟨rfl, hb⟩
  have HB3 := Lib.hid (HB2.out.trans (below_le hb HB2.out.size))
  clear hb
  go_wp2
  go_ret2
  exact ⟨rfl, HB3.out⟩
end Rm
end Go.Proofs.Ytkfoapidmockfab
