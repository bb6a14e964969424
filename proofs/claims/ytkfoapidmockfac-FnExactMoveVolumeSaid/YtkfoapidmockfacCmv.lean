/- MoveVolume from both sides. -/
import Derived.Test.YtkfoapidmockfacMv3
import Derived.Test.YtkfoapidmockfacMv5
import Derived.Test.YtkfoapidmockfacSo2
namespace Go.Proofs.Ytkfoapidmockfac
open Go.RowKit Go.Joins Go.Deep
set_option linter.unusedVariables false
set_option linter.ambiguousOpen false
set_option linter.unusedSimpArgs false
namespace Mv
open Sh So
def inB (p : Int) (n : Nat) : Bool := decide (0 ≤ p) && decide (p < (n : Int))
theorem inB_iff (p : Int) (n : Nat) : inB p n = true ↔ 0 ≤ p ∧ p < (n : Int) := by simp [inB]
theorem inB_hi (p : Int) (n : Nat) (v : Bool) (h : inB p n = v) : (decide (0 ≤ p) && decide (p ≤ (n : Int) - 1)) = v := by
  rw [← h]
  unfold inB
  rw [Bool.eq_iff_iff]
  simp only [Bool.and_eq_true, decide_eq_true_eq]
  omega
theorem hp_any (g len cap : Nat) (p : Int) (v : Bool) (hv : inB p len = v) (w : World) :
    Calls Try.prog 32 #[.slice (some ⟨g, 0, none⟩) len cap, .int .i64 p] w fun e w' => e = .returned (.bool v) ∧ w = w' := by
  by_cases h1 : 0 ≤ p
  · by_cases h2 : p < (len : Int)
    · have e : v = true := by rw [← hv]; exact (inB_iff p len).2 ⟨h1, h2⟩
      subst e
      clear hv
      go_enter Try.func32, Try.ntmps32
      go_wp2
      go_ret
      exact ⟨rfl, rfl⟩
    · have e : v = false := by
        rw [← hv, Bool.eq_false_iff]
        exact fun h => h2 ((inB_iff p len).1 h).2
      subst e
      have t : decide (p < (len : Int)) = false := by simpa using h2
      clear hv h2
      go_enter Try.func32, Try.ntmps32
      go_wp2
      go_ret
      exact ⟨rfl, rfl⟩
  · have e : v = false := by
      rw [← hv, Bool.eq_false_iff]
      exact fun h => h1 ((inB_iff p len).1 h).1
    subst e
    clear hv
    go_enter Try.func32, Try.ntmps32
    go_wp2
    go_ret
    exact ⟨rfl, rfl⟩
def mvOk (zs : List Int) (a b : Int) : Bool := Ns.good zs && inB a zs.length && inB b zs.length
set_option maxRecDepth 100000 in
set_option maxHeartbeats 1000000 in
theorem sNo {b1 g len cap : Nat} {zs : List Int} {a b : Int} {w : World} (h : Ow w b1 g len cap zs) (hl : len ≤ 1048576) (hx : mvOk zs a b = false) :
    Calls Try.prog 20 #[.slice (some ⟨g, 0, none⟩) len cap, .int .i64 a, .int .i64 b] w (Li.Gives false [] w) := by
  have hz := ow_len h
  unfold mvOk at hx
  rw [hz] at hx
  obtain ⟨x1, h1⟩ : ∃ x, Ns.good zs = x := ⟨_, rfl⟩
  obtain ⟨x2, h2⟩ : ∃ x, inB a len = x := ⟨_, rfl⟩
  obtain ⟨x3, h3⟩ : ∃ x, inB b len = x := ⟨_, rfl⟩
  have C1 := Lib.hid (sStands_any h hl x1 h1)
  have C2 := Lib.hid (fun W => l1In_any a 0 ((len : Int) - 1) x2 (inB_hi a len x2 h2) W)
  have C3 := Lib.hid (fun W => l1In_any b 0 ((len : Int) - 1) x3 (inB_hi b len x3 h3) W)
  rw [h1, h2, h3] at hx
  clear h hz h1 h2 h3
  cases x1 with
  | false =>
    clear hx
    go_enter Try.func20, Try.ntmps20
    go_wp2_with fail
    refine C1.out.mono ?_
    rintro e w' ⟨rfl, rfl⟩
    go_wp2_with fail
    go_ret2
    exact Li.Gives.none (Below.refl _ _)
  | true =>
    cases x2 with
    | false =>
      clear hx
      go_enter Try.func20, Try.ntmps20
      go_wp2_with fail
      refine C1.out.mono ?_
      rintro e w' ⟨rfl, rfl⟩
      go_wp2_with fail
      refine (C2.out _).mono ?_
      rintro e w' ⟨rfl, rfl⟩
      go_wp2_with fail
      go_ret2
      exact Li.Gives.none (Below.refl _ _)
    | true =>
      have e3 : x3 = false := by simpa using hx
      subst e3
      clear hx
      go_enter Try.func20, Try.ntmps20
      go_wp2_with fail
      refine C1.out.mono ?_
      rintro e w' ⟨rfl, rfl⟩
      go_wp2_with fail
      refine (C2.out _).mono ?_
      rintro e w' ⟨rfl, rfl⟩
      go_wp2_with fail
      refine (C3.out _).mono ?_
      rintro e w' ⟨rfl, rfl⟩
      go_wp2_with fail
      go_ret2
      exact Li.Gives.none (Below.refl _ _)
set_option maxRecDepth 100000 in
set_option maxHeartbeats 1000000 in
theorem iNo {b1 g len cap : Nat} {zs : List Int} {a b : Int} {w : World} (h : Ow w b1 g len cap zs) (hl : len ≤ 1048576) (hx : mvOk zs a b = false) :
    Calls Try.prog 21 #[.slice (some ⟨g, 0, none⟩) len cap, .int .i64 a, .int .i64 b] w (Li.Gives false [] w) := by
  have hz := ow_len h
  unfold mvOk at hx
  rw [hz] at hx
  obtain ⟨x1, h1⟩ : ∃ x, Ns.good zs = x := ⟨_, rfl⟩
  obtain ⟨x2, h2⟩ : ∃ x, inB a len = x := ⟨_, rfl⟩
  obtain ⟨x3, h3⟩ : ∃ x, inB b len = x := ⟨_, rfl⟩
  have C1 := Lib.hid (iStands_any h hl x1 h1)
  have C2 := Lib.hid (fun W => hp_any g len cap a x2 h2 W)
  have C3 := Lib.hid (fun W => hp_any g len cap b x3 h3 W)
  rw [h1, h2, h3] at hx
  clear h hz h1 h2 h3
  cases x1 with
  | false =>
    clear hx
    go_enter Try.func21, Try.ntmps21
    go_wp2_with fail
    refine C1.out.mono ?_
    rintro e w1 ⟨rfl, hb⟩
    go_wp2_with fail
    go_ret2
    exact Li.Gives.none hb
  | true =>
    cases x2 with
    | false =>
      clear hx
      go_enter Try.func21, Try.ntmps21
      go_wp2_with fail
      refine C1.out.mono ?_
      rintro e w1 ⟨rfl, hb⟩
      go_wp2_with fail
      refine (C2.out _).mono ?_
      rintro e w' ⟨rfl, rfl⟩
      go_wp2_with fail
      go_ret2
      exact Li.Gives.none hb
    | true =>
      have e3 : x3 = false := by simpa using hx
      subst e3
      clear hx
      go_enter Try.func21, Try.ntmps21
      go_wp2_with fail
      refine C1.out.mono ?_
      rintro e w1 ⟨rfl, hb⟩
      go_wp2_with fail
      refine (C2.out _).mono ?_
      rintro e w' ⟨rfl, rfl⟩
      go_wp2_with fail
      refine (C3.out _).mono ?_
      rintro e w' ⟨rfl, rfl⟩
      go_wp2_with fail
      go_ret2
      exact Li.Gives.none hb
set_option maxRecDepth 100000 in
set_option maxHeartbeats 2000000 in
theorem iYes {b1 g len cap i j : Nat} {zs : List Int} {w : World} (h : Ow w b1 g len cap zs) (hg : Ns.good zs = true) (h8 : len ≤ 8) (hi : i < len) (hj : j < len) :
    Calls Try.prog 21 #[.slice (some ⟨g, 0, none⟩) len cap, .int .i64 (i : Int), .int .i64 (j : Int)] w (Li.Gives true (mv zs i j) w) := by
  have hz := ow_len h
  have C1 := Lib.hid (iStands_any h (by omega) true hg)
  have C2 := Lib.hid (fun W => hp_any g len cap (i : Int) true ((inB_iff _ _).2 ⟨by omega, by omega⟩) W)
  have C3 := Lib.hid (fun W => hp_any g len cap (j : Int) true ((inB_iff _ _).2 ⟨by omega, by omega⟩) W)
  have C4 := Lib.hid (fun (W : World) (hW : Below w.heap.size w W) => item_any (Li.own_on h hW) (by omega) hi hj)
  have EL := Lib.hid (show (mv zs i j).length = len by rw [mv_length zs i j (by omega), hz])
  clear h hg hz
  go_enter Try.func21, Try.ntmps21
  go_wp2_with fail
  refine C1.out.mono ?_
  rintro e w1 ⟨rfl, hb1⟩
  have HB1 := Lib.hid hb1
  clear hb1
  go_wp2_with fail
  refine (C2.out _).mono ?_
  rintro e w' ⟨rfl, rfl⟩
  go_wp2_with fail
  refine (C3.out _).mono ?_
  rintro e w' ⟨rfl, rfl⟩
  go_wp2_with fail
  refine (C4.out _ HB1.out).mono ?_
  rintro e w2 ⟨g2, cp2, rfl, o2, hb⟩
  have HO := Lib.hid (Li.own_le o2 HB1.out.size)
  have HB := Lib.hid (HB1.out.trans (hb.mono HB1.out.size))
  clear o2 hb
  go_wp2_with fail
  go_ret2
  exact ⟨_, rfl, by rw [EL.out]; exact HO.out, HB.out⟩
/-- the answer of both -/
def osOf (zs : List Int) (a b : Int) : List Int := if mvOk zs a b = true then mv zs a.toNat b.toNat else []
theorem os_len (zs : List Int) (a b : Int) (hl : zs.length ≤ 1048576) : (osOf zs a b).length ≤ 1048576 := by
  unfold osOf
  cases hx : mvOk zs a b with
  | false => simp
  | true =>
    unfold mvOk at hx
    simp only [Bool.and_eq_true] at hx
    have h1 := (inB_iff _ _).1 hx.1.2
    simp only [if_true]
    rw [mv_length zs _ _ (by omega)]
    exact hl
theorem yes_parts {zs : List Int} {a b : Int} (hx : mvOk zs a b = true) : Ns.good zs = true ∧ ∃ i j : Nat, a = i ∧ b = j ∧ i < zs.length ∧ j < zs.length := by
  unfold mvOk at hx
  simp only [Bool.and_eq_true] at hx
  have h1 := (inB_iff _ _).1 hx.1.2
  have h2 := (inB_iff _ _).1 hx.2
  obtain ⟨i, rfl⟩ := Int.eq_ofNat_of_zero_le h1.1
  obtain ⟨j, rfl⟩ := Int.eq_ofNat_of_zero_le h2.1
  exact ⟨hx.1.1, i, j, rfl, rfl, by omega, by omega⟩
theorem s_fn {b1 g len cap : Nat} {zs : List Int} {w : World} (h : Ow w b1 g len cap zs) (hl : len ≤ 1048576) (a b : Int) :
    Calls Try.prog 20 #[.slice (some ⟨g, 0, none⟩) len cap, .int .i64 a, .int .i64 b] w (Li.Gives (mvOk zs a b) (osOf zs a b) w) := by
  have hz := ow_len h
  unfold osOf
  cases hx : mvOk zs a b with
  | false => exact sNo h hl hx
  | true =>
    obtain ⟨hg, i, j, rfl, rfl, hi, hj⟩ := yes_parts hx
    have h8 : len ≤ 8 := by
      have := hg
      unfold Ns.good at this
      simp only [Bool.and_eq_true, decide_eq_true_eq] at this
      omega
    simpa using sYes h hg h8 (by omega) (by omega)
theorem i_fn {b1 g len cap : Nat} {zs : List Int} {w : World} (h : Ow w b1 g len cap zs) (hl : len ≤ 1048576) (a b : Int) :
    Calls Try.prog 21 #[.slice (some ⟨g, 0, none⟩) len cap, .int .i64 a, .int .i64 b] w (Li.Gives (mvOk zs a b) (osOf zs a b) w) := by
  have hz := ow_len h
  unfold osOf
  cases hx : mvOk zs a b with
  | false => exact iNo h hl hx
  | true =>
    obtain ⟨hg, i, j, rfl, rfl, hi, hj⟩ := yes_parts hx
    have h8 : len ≤ 8 := by
      have := hg
      unfold Ns.good at this
      simp only [Bool.and_eq_true, decide_eq_true_eq] at this
      omega
    simpa using iYes h hg h8 (by omega) (by omega)
end Mv
end Go.Proofs.Ytkfoapidmockfac
