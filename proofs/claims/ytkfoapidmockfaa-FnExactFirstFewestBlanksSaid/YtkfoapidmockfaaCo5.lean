/- How many chapters are odd, and the laws that count by it: from both sides. -/
import Derived.Test.YtkfoapidmockfaaCb
import Derived.Test.YtkfoapidmockfaaChm
import Derived.Shelf.Abstract
namespace Go.Proofs.Ytkfoapidmockfaa
open Go.RowKit Go.Joins Go.Deep Go.ChangeShapes Go.WideShapes
set_option linter.unusedVariables false
set_option linter.unusedSimpArgs false
namespace Ch
open Sh
theorem rib {a b : Int} {v : Bool} (h : a = b) : Ending.returned (.tuple #[.int .i64 a, .bool v]) = .returned (.tuple #[.int .i64 b, .bool v]) := by rw [h]
theorem ri {a b : Int} (h : a = b) {v : Value} (hv : v = .int .i64 b) : Ending.returned v = .returned (.int .i64 a) := by rw [h, hv]
set_option maxRecDepth 100000 in
set_option maxHeartbeats 1000000 in
theorem caOdd_any {b1 g len cap : Nat} {zs : List Int} {w : World} (h : Ow w b1 g len cap zs) (ho : Ok zs) :
    Calls Try.prog 36 #[.slice (some ⟨g, 0, none⟩) len cap] w fun e w' => e = .returned (.int .i64 ((od zs len : Nat) : Int)) ∧ w = w' := by
  have hz := ow_len h
  have HO := Lib.hid h
  have HZ := Lib.hid hz
  have HK := Lib.hid ho
  have hl12 : len ≤ 12 := by have := ho.2.1; omega
  clear h ho hz
  go_enter Try.func36, Try.ntmps36
  go_wp2
  go_loop [3, 8] (fun n i => ∃ k : Nat, k ≤ len ∧ i = .int .i64 (k : Int) ∧ n = .int .i64 ((od zs k : Nat) : Int)) (fun _ i => ((len : Int) - intOf i).toNat)
  case atStart => exact ⟨0, by omega, rfl, rfl⟩
  case round =>
    obtain ⟨k, hk, rfl, rfl⟩ := hrel
    have hu := od_le zs k
    by_cases hlt : (k : Int) < len
    · obtain ⟨z, HZK, hc⟩ := ow_at HO.out (k := k) (by omega)
      have ht := HK.out.2.2 k (by rw [HZ.out]; omega)
      rw [HZK.out] at ht
      have ht1 := ht.1
      have ht2 := ht.2
      have es := od_step zs k
      rw [HZK.out] at es
      have ES := Lib.hid es
      clear ht es
      generalize od zs k = U at *
      go_wp2
      go_round
      case rel => exact ⟨k + 1, by omega, by go_num, by rw [ES.out]⟩
      case measure => simp [intOf]; omega
    · have E := Lib.hid (show k = len by omega)
      go_wp2
      go_ret
      exact ⟨by rw [← E.out]; rfl, rfl⟩
/-- the closure of countOdd -/
theorem cl_any (z : Int) (h1 : 1 ≤ z) (h2 : z ≤ 120) (w : World) :
    Calls Try.prog 54 #[.int .i64 z] w fun e w' => e = .returned (.int .i64 (z % 2)) ∧ w = w' := by
  go_enter Try.func54, Try.ntmps54
  go_wp2
  go_ret
  exact ⟨rfl, rfl⟩
set_option maxRecDepth 100000 in
set_option maxHeartbeats 1000000 in
theorem sumOf_any {b1 g len cap : Nat} {zs : List Int} {w : World} (h : Ow w b1 g len cap zs) (ho : Ok zs) :
    Calls Try.prog 53 #[.slice (some ⟨g, 0, none⟩) len cap, .func (.func 54) #[] #[]] w fun e w' => e = .returned (.int .i64 ((od zs len : Nat) : Int)) ∧ w = w' := by
  have hz := ow_len h
  have HO := Lib.hid h
  have HZ := Lib.hid hz
  have HK := Lib.hid ho
  have hl12 : len ≤ 12 := by have := ho.2.1; omega
  have eg : ∀ args w, (callFunc 54 args).run Try.prog w = .ok (.enter 54 args) w := enters_of Try.func54 (by kernel_rfl) rfl
  clear h ho hz
  go_enter Try.func53, Try.ntmps53
  go_wp2
  go_loop [5, 10] (fun n i => ∃ k : Nat, k ≤ len ∧ i = .int .i64 (k : Int) ∧ n = .int .i64 ((od zs k : Nat) : Int)) (fun _ i => ((len : Int) - intOf i).toNat)
  case atStart => exact ⟨0, by omega, rfl, rfl⟩
  case round =>
    obtain ⟨k, hk, rfl, rfl⟩ := hrel
    have hu := od_le zs k
    by_cases hlt : (k : Int) < len
    · obtain ⟨z, HZK, hc⟩ := ow_at HO.out (k := k) (by omega)
      have ht := HK.out.2.2 k (by rw [HZ.out]; omega)
      rw [HZK.out] at ht
      have ht1 := ht.1
      have ht2 := ht.2
      have es := od_step zs k
      rw [HZK.out] at es
      have ES := Lib.hid es
      have C := Lib.hid (cl_any z ht1 ht2 w)
      have hz2 : 0 ≤ z % 2 := by omega
      have hz3 : z % 2 ≤ 1 := by omega
      clear ht es
      generalize od zs k = U at *
      go_wp2_with fail
      refine C.out.mono ?_
      rintro e w' ⟨rfl, rfl⟩
      go_wp2
      go_round
      case rel => exact ⟨k + 1, by omega, by go_num, by rw [ES.out] <;> first | rfl | go_num⟩
      case measure => simp [intOf]; omega
    · have E := Lib.hid (show k = len by omega)
      go_wp2
      go_ret
      exact ⟨by rw [← E.out]; rfl, rfl⟩
theorem countOdd_any {b1 g len cap : Nat} {zs : List Int} {w : World} (h : Ow w b1 g len cap zs) (ho : Ok zs) :
    Calls Try.prog 37 #[.slice (some ⟨g, 0, none⟩) len cap] w fun e w' => e = .returned (.int .i64 ((od zs len : Nat) : Int)) ∧ w = w' := by
  have C := Lib.hid (sumOf_any h ho)
  clear h ho
  go_enter Try.func37, Try.ntmps37
  go_wp2_with fail
  refine C.out.mono ?_
  rintro e w' ⟨rfl, rfl⟩
  go_wp2
  go_ret
  exact ⟨rfl, rfl⟩
/-! FewestBlanks -/
def fb (zs : List Int) : Int := if good zs = true then ((od zs zs.length - 1 : Nat) : Int) else 0
theorem fb_no {zs : List Int} (h : good zs = false) : fb zs = 0 := by unfold fb; rw [h]; rfl
theorem fb_yes {zs : List Int} (h : good zs = true) : fb zs = ((od zs zs.length - 1 : Nat) : Int) := by unfold fb; rw [h]; rfl
theorem l1Most_any (a b : Int) (w : World) : Calls Try.prog 35 #[.int .i64 a, .int .i64 b] w fun e w' => e = .returned (.int .i64 (max a b)) ∧ w = w' := by
  by_cases h : b < a
  · have e : max a b = a := by omega
    have E := Lib.hid e
    clear e
    rw [E.out]
    go_enter Try.func35, Try.ntmps35
    go_wp2
    go_ret
    exact ⟨rfl, rfl⟩
  · have e : max a b = b := by omega
    have E := Lib.hid e
    clear e
    rw [E.out]
    go_enter Try.func35, Try.ntmps35
    go_wp2
    go_ret
    exact ⟨rfl, rfl⟩
set_option maxRecDepth 100000 in
theorem sFewest {b1 g len cap : Nat} {zs : List Int} {w : World} (h : Ow w b1 g len cap zs) (hl : len ≤ 1048576) :
    Calls Try.prog 16 #[.slice (some ⟨g, 0, none⟩) len cap] w (Ret (.tuple #[.int .i64 (fb zs), .bool (good zs)]) w) := by
  have HO := Lib.hid h
  have hz := ow_len h
  cases hg : good zs with
  | false =>
    have HG := Lib.hid hg
    have E := Lib.hid (fb_no hg)
    rw [E.out]
    clear h hz hg
    go_enter Try.func16, Try.ntmps16
    go_wp2_with fail
    refine (sGood_any HO.out hl false HG.out).mono ?_
    rintro e w' ⟨rfl, rfl⟩
    go_wp2
    go_ret2
    exact ⟨rfl, Below.refl _ _⟩
  | true =>
    have HG := Lib.hid hg
    have ho := Lib.hid ((good_iff zs).1 hg)
    obtain ⟨U, hU⟩ : ∃ U, od zs len = U := ⟨_, rfl⟩
    have E := Lib.hid (show fb zs = max 0 ((U : Int) - 1) by rw [fb_yes hg, hz, hU]; omega)
    have hu := od_le zs len
    rw [hU] at hu
    have C := Lib.hid (caOdd_any h ho.out)
    rw [hU] at C
    rw [E.out]
    clear h hz hg hU
    go_enter Try.func16, Try.ntmps16
    go_wp2_with fail
    refine (sGood_any HO.out hl true HG.out).mono ?_
    rintro e w' ⟨rfl, rfl⟩
    go_wp2_with fail
    refine C.out.mono ?_
    rintro e w' ⟨rfl, rfl⟩
    go_wp2_with fail
    refine (l1Most_any _ _ _).mono ?_
    rintro e w' ⟨rfl, rfl⟩
    go_wp2
    go_ret2
    exact ⟨rfl, Below.refl _ _⟩
set_option maxRecDepth 100000 in
theorem iFewest {b1 g len cap : Nat} {zs : List Int} {w : World} (h : Ow w b1 g len cap zs) (hl : len ≤ 1048576) :
    Calls Try.prog 17 #[.slice (some ⟨g, 0, none⟩) len cap] w (Ret (.tuple #[.int .i64 (fb zs), .bool (good zs)]) w) := by
  have HO := Lib.hid h
  have hz := ow_len h
  cases hg : good zs with
  | false =>
    have HG := Lib.hid hg
    have E := Lib.hid (fb_no hg)
    rw [E.out]
    clear h hz hg
    go_enter Try.func17, Try.ntmps17
    go_wp2_with fail
    refine (iGood_any HO.out hl false HG.out).mono ?_
    rintro e w' ⟨rfl, rfl⟩
    go_wp2
    go_ret2
    exact ⟨rfl, Below.refl _ _⟩
  | true =>
    have HG := Lib.hid hg
    have ho := Lib.hid ((good_iff zs).1 hg)
    obtain ⟨U, hU⟩ : ∃ U, od zs len = U := ⟨_, rfl⟩
    have E := Lib.hid (show fb zs = max 0 ((U : Int) - 1) by rw [fb_yes hg, hz, hU]; omega)
    have hu := od_le zs len
    rw [hU] at hu
    have C := Lib.hid (countOdd_any h ho.out)
    rw [hU] at C
    rw [E.out]
    clear h hz hg hU
    go_enter Try.func17, Try.ntmps17
    go_wp2_with fail
    refine (iGood_any HO.out hl true HG.out).mono ?_
    rintro e w' ⟨rfl, rfl⟩
    go_wp2_with fail
    refine C.out.mono ?_
    rintro e w' ⟨rfl, rfl⟩
    go_wp2
    all_goals
      go_ret2
      exact ⟨rib (by omega), Below.refl _ _⟩
/-! CountFewestBlanks -/
def cf0 (zs : List Int) : Nat := if od zs zs.length = 0 then zs.length else od zs zs.length
def cfv (zs : List Int) : Int := if good zs = true then ((cf0 zs * G (zs.length - 2) : Nat) : Int) else 0
theorem cf_no {zs : List Int} (h : good zs = false) : cfv zs = 0 := by unfold cfv; rw [h]; rfl
theorem cf_yes {zs : List Int} (h : good zs = true) : cfv zs = ((cf0 zs * G (zs.length - 2) : Nat) : Int) := by unfold cfv; rw [h]; rfl
theorem cf0_le {zs : List Int} : cf0 zs ≤ zs.length := by
  unfold cf0
  have := od_le zs zs.length
  split <;> omega
theorem cf_step (c j : Nat) : ((c * G (j + 1) : Nat) : Int) = ((c * G j : Nat) : Int) * ((j : Int) + 2) := by
  show ((c * (G j * (j + 2)) : Nat) : Int) = _
  rw [← Nat.mul_assoc, Int.natCast_mul (c * G j) (j + 2)]
  rfl
theorem cf_big {c j : Nat} (hc : c ≤ 12) (hj : j ≤ 10) : c * G j ≤ 479001600 := Nat.mul_le_mul hc (G_le j hj).2
end Ch
end Go.Proofs.Ytkfoapidmockfaa
