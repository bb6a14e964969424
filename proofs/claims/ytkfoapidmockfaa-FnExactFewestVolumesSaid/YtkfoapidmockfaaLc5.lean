/- LongestChapter from both sides. -/
import Derived.Test.YtkfoapidmockfaaCo5
import Derived.Deep.QuietTactic
import Derived.BigQuiet
namespace Go.Proofs.Ytkfoapidmockfaa
open Go.RowKit Go.Joins Go.Deep Go.ChangeShapes Go.WideShapes
set_option linter.unusedVariables false
set_option linter.unusedSimpArgs false
namespace Ch
open Sh
/-- the greatest of them is returned -/
def MPost (L : List Int) (n : Nat) (w : World) (e : Ending) (w' : World) : Prop := ∃ M : Int, e = .returned (.int .i64 M) ∧ (∃ q, q < n ∧ L.getD q 0 = M) ∧ (∀ q, q < n → L.getD q 0 ≤ M) ∧ w = w'
set_option maxRecDepth 100000 in
set_option maxHeartbeats 2000000 in
theorem max_any {b1 g len cap : Nat} {L : List Int} {w : World} (h : Ow w b1 g len cap L) (hl : len ≤ 1048576) (hl1 : 1 ≤ len) :
    Calls Try.prog 40 #[.slice (some ⟨g, 0, none⟩) len cap] w (MPost L len w) := by
  have HO := Lib.hid h
  have h0 := ow_cell h (show 0 < len by omega)
  obtain ⟨z, hz⟩ : ∃ z, L.getD 0 0 = z := ⟨_, rfl⟩
  rw [hz] at h0
  have HZ := Lib.hid hz
  have t1 : decide ((len : Int) < 1) = false := by simp; omega
  clear h hz
  go_enter Try.func40, Try.ntmps40
  go_wp2
  go_loop [3, 4] (fun m i => ∃ (k : Nat) (M : Int), 1 ≤ k ∧ k ≤ len ∧ i = .int .i64 (k : Int) ∧ m = .int .i64 M ∧ (∃ q, q < k ∧ L.getD q 0 = M) ∧ ∀ q, q < k → L.getD q 0 ≤ M) (fun _ i => ((len : Int) - intOf i).toNat)
  case atStart => exact ⟨1, z, by omega, hl1, rfl, rfl, ⟨0, by omega, HZ.out⟩, fun q hq => by rw [show q = 0 by omega, HZ.out]; omega⟩
  case round =>
    obtain ⟨k, M, hk1, hk2, rfl, rfl, he, ha⟩ := hrel
    have HE := Lib.hid he
    have HA := Lib.hid ha
    clear he ha
    by_cases hlt : (k : Int) < len
    · have hc := ow_cell HO.out (show k < len by omega)
      obtain ⟨y, hy⟩ : ∃ y, L.getD k 0 = y := ⟨_, rfl⟩
      rw [hy] at hc
      have HY := Lib.hid hy
      clear hy
      by_cases c : M < y
      · have hif : (if M < y then y else M) = y := by rw [if_pos c]
        have N := Lib.hid (show (∃ q, q < k + 1 ∧ L.getD q 0 = y) ∧ ∀ q, q < k + 1 → L.getD q 0 ≤ y from ⟨⟨k, by omega, HY.out⟩, fun q hq => by
          by_cases e : q = k
          · rw [e, HY.out]; omega
          · have := HA.out q (by omega); omega⟩)
        clear c
        go_wp2
        go_round
        case rel => exact ⟨k + 1, y, by omega, by omega, by go_num, rfl, N.out.1, N.out.2⟩
        case measure => simp [intOf]; omega
      · have hif : (if M < y then y else M) = M := by rw [if_neg c]
        have N := Lib.hid (show (∃ q, q < k + 1 ∧ L.getD q 0 = M) ∧ ∀ q, q < k + 1 → L.getD q 0 ≤ M from ⟨by obtain ⟨q, q1, q2⟩ := HE.out; exact ⟨q, by omega, q2⟩, fun q hq => by
          by_cases e : q = k
          · rw [e, HY.out]; omega
          · exact HA.out q (by omega)⟩)
        clear c
        go_wp2
        go_round
        case rel => exact ⟨k + 1, M, by omega, by omega, by go_num, rfl, N.out.1, N.out.2⟩
        case measure => simp [intOf]; omega
    · have e : k = len := by omega
      subst e
      go_wp2
      go_ret
      exact ⟨M, rfl, HE.out, HA.out, rfl⟩
set_option maxRecDepth 100000 in
set_option maxHeartbeats 1000000 in
theorem index_any {b1 g len cap : Nat} {L : List Int} {w : World} (h : Ow w b1 g len cap L) (hl : len ≤ 1048576) (x : Int) (K : Nat) (hK : K < len) (hx : L.getD K 0 = x) (hne : ∀ j, j < K → L.getD j 0 ≠ x) :
    Calls Try.prog 41 #[.slice (some ⟨g, 0, none⟩) len cap, .int .i64 x] w fun e w' => e = .returned (.int .i64 (K : Int)) ∧ w = w' := by
  have HO := Lib.hid h
  have HX := Lib.hid hx
  have HN := Lib.hid hne
  clear h hx hne
  go_enter Try.func41, Try.ntmps41
  go_wp2
  go_loop [8] (fun i => ∃ k : Nat, k ≤ K ∧ i = .int .i64 (k : Int)) (fun i => ((len : Int) - intOf i).toNat)
  case atStart => exact ⟨0, by omega, rfl⟩
  case round =>
    obtain ⟨k, hk, rfl⟩ := hrel
    have hlt : (k : Int) < len := by omega
    obtain ⟨z, HZK, hc⟩ := ow_at HO.out (k := k) (by omega)
    by_cases e : k = K
    · have EE := Lib.hid e
      have t1 : (x == z) = true := by simpa using (show x = z by rw [← HZK.out, e, HX.out])
      clear e
      go_wp2
      go_ret
      exact ⟨by rw [← EE.out]; rfl, rfl⟩
    · have t1 : (x == z) = false := by simpa using (show x ≠ z from fun e2 => HN.out k (by omega) (by rw [HZK.out, e2]))
      have hkK : k < K := by omega
      clear e
      go_wp2
      go_round
      case rel => exact ⟨k + 1, by omega, by go_num⟩
      case measure => simp [intOf]; omega
def lcp (zs : List Int) : Int := if good zs = true then (bi zs zs.length : Int) else 0
def lcm (zs : List Int) : Int := if good zs = true then zs.getD (bi zs zs.length) 0 else 0
theorem lc_no {zs : List Int} (h : good zs = false) : lcp zs = 0 ∧ lcm zs = 0 := by unfold lcp lcm; rw [h]; exact ⟨rfl, rfl⟩
theorem lc_yes {zs : List Int} (h : good zs = true) : lcp zs = (bi zs zs.length : Int) ∧ lcm zs = zs.getD (bi zs zs.length) 0 := by unfold lcp lcm; rw [if_pos h, if_pos h]; exact ⟨rfl, rfl⟩
theorem bi_in (zs : List Int) (k : Nat) (h : 1 ≤ k) : bi zs k < k := by
  obtain ⟨j, rfl⟩ : ∃ j, k = j + 1 := ⟨k - 1, by omega⟩
  have := bi_lt zs j
  omega
theorem bi_step_yes {zs : List Int} {k : Nat} (h : zs.getD (bi zs k) 0 < zs.getD k 0) : bi zs (k + 1) = k := by
  show (if zs.getD (bi zs k) 0 < zs.getD k 0 then k else bi zs k) = _
  rw [if_pos h]
theorem bi_step_no {zs : List Int} {k : Nat} (h : ¬ zs.getD (bi zs k) 0 < zs.getD k 0) : bi zs (k + 1) = bi zs k := by
  show (if zs.getD (bi zs k) 0 < zs.getD k 0 then k else bi zs k) = _
  rw [if_neg h]
theorem ret3 {a b : Int} {c d : Int} {v : Bool} (h : a = b) (h2 : c = d) : Ending.returned (.tuple #[.int .i64 a, .int .i64 c, .bool v]) = .returned (.tuple #[.int .i64 b, .int .i64 d, .bool v]) := by rw [h, h2]
set_option maxRecDepth 100000 in
set_option maxHeartbeats 1000000 in
theorem sLongest {b1 g len cap : Nat} {zs : List Int} {w : World} (h : Ow w b1 g len cap zs) (hl : len ≤ 1048576) :
    Calls Try.prog 24 #[.slice (some ⟨g, 0, none⟩) len cap] w (Ret (.tuple #[.int .i64 (lcp zs), .int .i64 (lcm zs), .bool (good zs)]) w) := by
  have HO := Lib.hid h
  have hz := ow_len h
  cases hg : good zs with
  | false =>
    have HG := Lib.hid hg
    have E := Lib.hid (lc_no hg)
    rw [E.out.1, E.out.2]
    clear h hz hg
    go_enter Try.func24, Try.ntmps24
    go_wp2_with fail
    refine (sGood_any HO.out hl false HG.out).mono ?_
    rintro e w' ⟨rfl, rfl⟩
    go_wp2
    go_ret3
    exact ⟨rfl, Below.refl _ _⟩
  | true =>
    have HG := Lib.hid hg
    have ho := Lib.hid ((good_iff zs).1 hg)
    have hl12 : len ≤ 12 := by have := ho.out.2.1; omega
    have hl1 : 1 ≤ len := by have := ho.out.1; omega
    have HZ := Lib.hid hz
    have E := Lib.hid (lc_yes hg)
    rw [E.out.1, E.out.2]
    clear h hz hg
    go_enter Try.func24, Try.ntmps24
    go_wp2_with fail
    refine (sGood_any HO.out hl true HG.out).mono ?_
    rintro e w' ⟨rfl, rfl⟩
    go_wp2
    go_loop [5, 13] (fun b i => ∃ k : Nat, k ≤ len ∧ i = .int .i64 (k : Int) ∧ b = .int .i64 ((bi zs k : Nat) : Int)) (fun _ i => ((len : Int) - intOf i).toNat)
    case atStart => exact ⟨0, by omega, rfl, rfl⟩
    case round =>
      obtain ⟨k, hk, rfl, rfl⟩ := hrel
      have hbl : bi zs k < len := by
        by_cases e : k = 0
        · subst e; show 0 < len; omega
        · have := bi_in zs k (by omega); omega
      have hc2 := ow_cell HO.out hbl
      obtain ⟨B, hB⟩ : ∃ B, bi zs k = B := ⟨_, rfl⟩
      obtain ⟨y, hy⟩ : ∃ y, zs.getD B 0 = y := ⟨_, rfl⟩
      rw [hB] at hc2 hbl ⊢
      rw [hy] at hc2
      have HB := Lib.hid hB
      have HY := Lib.hid hy
      clear hB hy
      by_cases hlt : (k : Int) < len
      · obtain ⟨z, HZK, hc⟩ := ow_at HO.out (k := k) (by omega)
        by_cases c : y < z
        · have N := Lib.hid (show bi zs (k + 1) = k from bi_step_yes (by rw [HB.out, HY.out, HZK.out]; exact c))
          go_wp2
          go_round
          case rel => exact ⟨k + 1, by omega, by go_num, by rw [N.out]⟩
          case measure => simp [intOf]; omega
        · have N := Lib.hid (show bi zs (k + 1) = B from by rw [bi_step_no (by rw [HB.out, HY.out, HZK.out]; exact c), HB.out])
          go_wp2
          go_round
          case rel => exact ⟨k + 1, by omega, by go_num, by rw [N.out]⟩
          case measure => simp [intOf]; omega
      · have EK := Lib.hid (show k = len by omega)
        have E1 := Lib.hid (show ((B : Nat) : Int) = ((bi zs zs.length : Nat) : Int) by rw [HZ.out, ← EK.out, HB.out])
        have E2 := Lib.hid (show y = zs.getD (bi zs zs.length) 0 by rw [HZ.out, ← EK.out, HB.out, HY.out])
        have hb0 : (0 : Int) ≤ (B : Int) := by omega
        have hb1 : (B : Int) < (len : Int) := by omega
        go_wp2
        go_quiet (fail)
        go_wp2
        go_ret3
        exact ⟨ret3 E1.out E2.out, Li.below_draws (Below.refl _ _) _⟩
set_option maxRecDepth 100000 in
theorem iLongest {b1 g len cap : Nat} {zs : List Int} {w : World} (h : Ow w b1 g len cap zs) (hl : len ≤ 1048576) :
    Calls Try.prog 25 #[.slice (some ⟨g, 0, none⟩) len cap] w (Ret (.tuple #[.int .i64 (lcp zs), .int .i64 (lcm zs), .bool (good zs)]) w) := by
  have HO := Lib.hid h
  have hz := ow_len h
  cases hg : good zs with
  | false =>
    have HG := Lib.hid hg
    have E := Lib.hid (lc_no hg)
    rw [E.out.1, E.out.2]
    clear h hz hg
    go_enter Try.func25, Try.ntmps25
    go_wp2_with fail
    refine (iGood_any HO.out hl false HG.out).mono ?_
    rintro e w' ⟨rfl, rfl⟩
    go_wp2
    go_ret3
    exact ⟨rfl, Below.refl _ _⟩
  | true =>
    have HG := Lib.hid hg
    have ho := (good_iff zs).1 hg
    have hl1 : 1 ≤ len := by have := ho.1; omega
    have E := Lib.hid (lc_yes hg)
    have HZ := Lib.hid hz
    rw [E.out.1, E.out.2]
    clear h hz hg ho
    go_enter Try.func25, Try.ntmps25
    go_wp2_with fail
    refine (iGood_any HO.out hl true HG.out).mono ?_
    rintro e w' ⟨rfl, rfl⟩
    go_wp2_with fail
    refine (max_any HO.out hl hl1).mono ?_
    rintro e w' ⟨M, rfl, ⟨q, q1, q2⟩, hM, rfl⟩
    have hbl : bi zs len < len := bi_in zs len hl1
    have EM := Lib.hid (show zs.getD (bi zs len) 0 = M by
      have a := hM _ hbl
      have b := bi_ge zs len q q1
      rw [q2] at b
      omega)
    have EF := Lib.hid (show ∀ j, j < bi zs len → zs.getD j 0 ≠ M from fun j hj => by
      have := bi_first zs len j hj
      rw [EM.out] at this
      omega)
    clear hM q1 q2
    go_wp2_with fail
    refine (index_any HO.out hl M (bi zs len) hbl EM.out EF.out).mono ?_
    rintro e w' ⟨rfl, rfl⟩
    clear hbl
    go_wp2
    go_ret3
    exact ⟨ret3 (by rw [HZ.out]) (by rw [HZ.out, EM.out]), Below.refl _ _⟩
end Ch
end Go.Proofs.Ytkfoapidmockfaa
