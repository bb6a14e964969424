/- NumberOfRoman and LongestRoman from both sides. -/
import Derived.Test.YtkfoapidmockfabRm1
namespace Go.Proofs.Ytkfoapidmockfab
open Go.RowKit Go.Joins Go.Deep
set_option linter.unusedVariables false
set_option linter.ambiguousOpen false
set_option linter.unusedSimpArgs false
namespace Rm
def fnd (p : Nat → Bool) : Nat → Nat → Nat
  | 0, _ => 0
  | f + 1, k => if p k = true then k else fnd p f (k + 1)
theorem fnd_is {p : Nat → Bool} {K : Nat} (hK : p K = true) : ∀ (f k : Nat), k ≤ K → K < k + f → (∀ u, k ≤ u → u < K → p u = false) → fnd p f k = K := by
  intro f
  induction f with
  | zero => intro k h1 h2; omega
  | succ f ih =>
    intro k h1 h2 h
    unfold fnd
    by_cases e : k = K
    · subst e; rw [if_pos hK]
    · rw [if_neg (by rw [h k (Nat.le_refl _) (by omega)]; simp)]
      exact ih (k + 1) (by omega) (by omega) (fun u u1 u2 => h u (by omega) u2)
theorem fnd_no {p : Nat → Bool} : ∀ (f k : Nat), (∀ u, k ≤ u → u < k + f → p u = false) → fnd p f k = 0 := by
  intro f
  induction f with
  | zero => intro k h; rfl
  | succ f ih =>
    intro k h
    unfold fnd
    rw [if_neg (by rw [h k (Nat.le_refl _) (by omega)]; simp)]
    exact ih (k + 1) (fun u u1 u2 => h u (by omega) (by omega))
theorem tl_eq {a b : ByteArray} (h : a = b) : (a.toList == b.toList) = true := by rw [h]; simp
theorem tl_ne {a b : ByteArray} (h : a ≠ b) : (a.toList == b.toList) = false := by
  rw [beq_eq_false_iff_ne]
  intro e
  apply h
  rw [Lib.toList_data, Lib.toList_data] at e
  exact ByteArray.ext (Array.toList_inj.1 e)
def nrv (s : ByteArray) : Nat := fnd (fun k => decide (rom k = s)) 399 1
def nok (s : ByteArray) : Bool := decide (nrv s ≠ 0)
theorem nrv_is {s : ByteArray} {m : Nat} (h1 : 1 ≤ m) (h2 : m ≤ 399) (h : rom m = s) (hl : ∀ u, 1 ≤ u → u < m → rom u ≠ s) : nrv s = m ∧ nok s = true := by
  have e : nrv s = m := fnd_is (by simpa using h) 399 1 h1 (by omega) (fun u u1 u2 => by simpa using hl u u1 u2)
  refine ⟨e, ?_⟩
  unfold nok
  rw [e]
  simp
  omega
theorem nrv_no {s : ByteArray} (hl : ∀ u, 1 ≤ u → u < 400 → rom u ≠ s) : nrv s = 0 ∧ nok s = false := by
  have e : nrv s = 0 := fnd_no 399 1 (fun u u1 u2 => by simpa using hl u u1 (by omega))
  refine ⟨e, ?_⟩
  unfold nok
  rw [e]
  simp
theorem rib {a b : Int} {v v' : Bool} (h : a = b) (h2 : v = v') : Ending.returned (.tuple #[.int .i64 a, .bool v]) = .returned (.tuple #[.int .i64 b, .bool v']) := by rw [h, h2]
set_option maxRecDepth 100000 in
set_option maxHeartbeats 1000000 in
theorem sNumber (s : ByteArray) (w : World) : Calls Try.prog 8 #[.string s] w (Ret (.tuple #[.int .i64 ((nrv s : Nat) : Int), .bool (nok s)]) w) := by
  go_enter Try.func8, Try.ntmps8
  go_wp2
  go_loop [4] (fun i => ∃ m : Nat, i = .int .i64 (m : Int) ∧ 1 ≤ m ∧ m ≤ 400 ∧ ∀ u, 1 ≤ u → u < m → rom u ≠ s) (fun i => (400 - intOf i).toNat)
  case atStart => exact ⟨1, rfl, by omega, by omega, fun u u1 u2 => by omega⟩
  case round =>
    obtain ⟨m, rfl, hm1, hm2, hall⟩ := hrel
    have HA := Lib.hid hall
    clear hall
    by_cases hlt : (m : Int) < 400
    · obtain ⟨R, hR⟩ : ∃ R, rom m = R := ⟨_, rfl⟩
      have C := Lib.hid (caRoman_any m (by omega) w)
      rw [hR] at C
      have HR := Lib.hid hR
      clear hR
      by_cases e : R = s
      · have F := Lib.hid (nrv_is hm1 (by omega) (HR.out.trans e) HA.out)
        have t1 := tl_eq e
        clear e
        go_wp2_with fail
        refine C.out.mono ?_
        rintro e w' ⟨rfl, rfl⟩
        go_wp2
        go_ret2
        exact ⟨rib (by rw [F.out.1]) F.out.2.symm, Below.refl _ _⟩
      · have HN := Lib.hid (show ∀ u, 1 ≤ u → u < m + 1 → rom u ≠ s from fun u u1 u2 => by
          by_cases e2 : u = m
          · subst e2; rw [HR.out]; exact e
          · exact HA.out u u1 (by omega))
        have t1 := tl_ne e
        clear e
        go_wp2_with fail
        refine C.out.mono ?_
        rintro e w' ⟨rfl, rfl⟩
        go_wp2
        go_round
        case rel => exact ⟨m + 1, by go_num, by omega, by omega, HN.out⟩
        case measure => simp [intOf]; omega
    · have F := Lib.hid (nrv_no (s := s) (fun u u1 u2 => HA.out u u1 (by omega)))
      go_wp2
      go_ret2
      exact ⟨rib (by rw [F.out.1]; rfl) F.out.2.symm, Below.refl _ _⟩
theorem ro_at (m : Nat) (h1 : 1 ≤ m) (h2 : m ≤ 399) : ro (m : Int) = rom m ∧ rin (m : Int) = true := by
  have e : rin (m : Int) = true := (rin_iff _).2 ⟨by omega, by omega⟩
  refine ⟨?_, e⟩
  unfold ro
  rw [if_pos e, Int.toNat_natCast]
theorem iRoman_at (m : Nat) (h1 : 1 ≤ m) (h2 : m ≤ 399) (w : World) : Calls Try.prog 7 #[.int .i64 (m : Int)] w (Ret (.tuple #[.string (rom m), .bool true]) w) := by
  have := iRoman (m : Int) w
  rw [(ro_at m h1 h2).1, (ro_at m h1 h2).2] at this
  exact this
set_option maxRecDepth 100000 in
set_option maxHeartbeats 1000000 in
theorem iNumber (s : ByteArray) (w : World) : Calls Try.prog 9 #[.string s] w (Ret (.tuple #[.int .i64 ((nrv s : Nat) : Int), .bool (nok s)]) w) := by
  go_enter Try.func9, Try.ntmps9
  go_wp2
  go_loopw [4] (fun i wr => ∃ m : Nat, i = .int .i64 (m : Int) ∧ 1 ≤ m ∧ m ≤ 400 ∧ (∀ u, 1 ≤ u → u < m → rom u ≠ s) ∧ Below w.heap.size w wr) (fun i _ => (400 - intOf i).toNat)
  case atStart => exact ⟨1, rfl, by omega, by omega, fun u u1 u2 => by omega, Below.refl _ _⟩
  case round =>
    obtain ⟨m, rfl, hm1, hm2, hall, hb⟩ := hrel
    have HA := Lib.hid hall
    have HB := Lib.hid hb
    clear hall hb
    by_cases hlt : (m : Int) ≤ 399
    · obtain ⟨R, hR⟩ : ∃ R, rom m = R := ⟨_, rfl⟩
      have C := Lib.hid (fun W => iRoman_at m hm1 (by omega) W)
      rw [hR] at C
      have HR := Lib.hid hR
      clear hR
      by_cases e : R = s
      · have F := Lib.hid (nrv_is hm1 (by omega) (HR.out.trans e) HA.out)
        have t1 := tl_eq e
        clear e
        go_wp2_with fail
        refine (C.out _).mono ?_
        rintro e w2 ⟨rfl, hb⟩
        have HB2 := Lib.hid (HB.out.trans (below_le hb HB.out.size))
        clear hb
        go_wp2
        go_ret2
        exact ⟨rib (by rw [F.out.1]) F.out.2.symm, HB2.out⟩
      · have HN := Lib.hid (show ∀ u, 1 ≤ u → u < m + 1 → rom u ≠ s from fun u u1 u2 => by
          by_cases e2 : u = m
          · subst e2; rw [HR.out]; exact e
          · exact HA.out u u1 (by omega))
        have t1 := tl_ne e
        clear e
        go_wp2_with fail
        refine (C.out _).mono ?_
        rintro e w2 ⟨rfl, hb⟩
        have HB2 := Lib.hid (HB.out.trans (below_le hb HB.out.size))
        clear hb
        go_wp2
        go_roundw
        case rel => exact ⟨m + 1, by go_num, by omega, by omega, HN.out, HB2.out⟩
        case measure => simp [intOf]; omega
    · have F := Lib.hid (nrv_no (s := s) (fun u u1 u2 => HA.out u u1 (by omega)))
      go_wp2
      go_ret2
      exact ⟨rib (by rw [F.out.1]; rfl) F.out.2.symm, HB.out⟩
/-! LongestRoman -/
def lr : Nat → Nat × Nat
  | 0 => (0, 0)
  | k + 1 => if (lr k).2 < (rom (k + 1)).size then (k + 1, (rom (k + 1)).size) else lr k
theorem lr_in (k : Nat) (h : k ≤ 399) : (lr k).1 ≤ k ∧ (lr k).2 ≤ 30 := by
  induction k with
  | zero => exact ⟨Nat.le_refl _, by show 0 ≤ 30; omega⟩
  | succ k ih =>
    have := ih (by omega)
    have := rom_size (k + 1) h
    unfold lr
    split
    · exact ⟨Nat.le_refl _, this⟩
    · omega
theorem lr_yes {k : Nat} (h : (lr k).2 < (rom (k + 1)).size) : lr (k + 1) = (k + 1, (rom (k + 1)).size) := by
  show (if (lr k).2 < (rom (k + 1)).size then (k + 1, (rom (k + 1)).size) else lr k) = _
  rw [if_pos h]
theorem lr_no {k : Nat} (h : ¬ (lr k).2 < (rom (k + 1)).size) : lr (k + 1) = lr k := by
  show (if (lr k).2 < (rom (k + 1)).size then (k + 1, (rom (k + 1)).size) else lr k) = _
  rw [if_neg h]
def lrp (n : Int) : Int := if rin n = true then (((lr n.toNat).1 : Nat) : Int) else 0
def lrm (n : Int) : Int := if rin n = true then (((lr n.toNat).2 : Nat) : Int) else 0
theorem lr_out {n : Int} (h : rin n = false) : lrp n = 0 ∧ lrm n = 0 := by unfold lrp lrm; rw [h]; exact ⟨rfl, rfl⟩
theorem lr_at {N : Nat} (h : rin (N : Int) = true) : lrp (N : Int) = (((lr N).1 : Nat) : Int) ∧ lrm (N : Int) = (((lr N).2 : Nat) : Int) := by
  unfold lrp lrm; rw [if_pos h, if_pos h, Int.toNat_natCast]; exact ⟨rfl, rfl⟩
theorem ret3 {a b : Int} {c d : Int} {v : Bool} (h : a = b) (h2 : c = d) : Ending.returned (.tuple #[.int .i64 a, .int .i64 c, .bool v]) = .returned (.tuple #[.int .i64 b, .int .i64 d, .bool v]) := by rw [h, h2]
set_option maxRecDepth 100000 in
set_option maxHeartbeats 1000000 in
theorem sLongest (n : Int) (w : World) : Calls Try.prog 10 #[.int .i64 n] w (Ret (.tuple #[.int .i64 (lrp n), .int .i64 (lrm n), .bool (rin n)]) w) := by
  cases hg : rin n with
  | false =>
    have HG := Lib.hid hg
    have E := Lib.hid (lr_out hg)
    rw [E.out.1, E.out.2]
    clear hg
    go_enter Try.func10, Try.ntmps10
    go_wp2_with fail
    refine (caNumber_any n false HG.out _).mono ?_
    rintro e w' ⟨rfl, rfl⟩
    go_wp2
    go_ret3
    exact ⟨rfl, Below.refl _ _⟩
  | true =>
    have hb := (rin_iff n).1 hg
    obtain ⟨N, rfl⟩ := Int.eq_ofNat_of_zero_le (show 0 ≤ n by omega)
    have HG := Lib.hid hg
    have E := Lib.hid (lr_at hg)
    rw [E.out.1, E.out.2]
    have hn : N ≤ 399 := by omega
    have hn1 : 1 ≤ N := by omega
    clear hg hb
    go_enter Try.func10, Try.ntmps10
    go_wp2_with fail
    refine (caNumber_any (N : Int) true HG.out _).mono ?_
    rintro e w' ⟨rfl, rfl⟩
    go_wp2
    go_loop [5, 6, 7] (fun b t i => ∃ k : Nat, k ≤ N ∧ i = .int .i64 ((k : Int) + 1) ∧ b = .int .i64 (((lr k).1 : Nat) : Int) ∧ t = .int .i64 (((lr k).2 : Nat) : Int)) (fun _ _ i => (500 - intOf i).toNat)
    case atStart => exact ⟨0, by omega, rfl, rfl, rfl⟩
    case round =>
      obtain ⟨k, hk, rfl, rfl, rfl⟩ := hrel
      have li := lr_in k (by omega)
      by_cases hlt : (k : Int) + 1 ≤ (N : Int)
      · have C := Lib.hid (show Calls Try.prog 13 #[.int .i64 ((k : Int) + 1)] w fun e w' => e = .returned (.string (rom (k + 1))) ∧ w = w' from caRoman_any (k + 1) (by omega) w)
        have hs := rom_size (k + 1) (by omega)
        have Y := Lib.hid (fun h => lr_yes (k := k) h)
        have Z := Lib.hid (fun h => lr_no (k := k) h)
        obtain ⟨R, hR⟩ : ∃ R, rom (k + 1) = R := ⟨_, rfl⟩
        obtain ⟨⟨a, t⟩, hat⟩ : ∃ s, lr k = s := ⟨_, rfl⟩
        rw [hR] at C hs Y Z
        rw [hat] at li Y Z ⊢
        simp only [] at li ⊢
        have li1 := li.1
        have li2 := li.2
        clear hR hat li
        by_cases c : (t : Int) < (R.size : Int)
        · have N1 := Lib.hid (Y.out (show t < R.size by omega))
          have c' : t < R.size := by omega
          go_wp2_with fail
          refine C.out.mono ?_
          rintro e w' ⟨rfl, rfl⟩
          go_wp2
          go_round
          case rel => exact ⟨k + 1, by omega, by go_num, by rw [N1.out]; go_num, by rw [N1.out]⟩
          case measure => simp [intOf]; omega
        · have N1 := Lib.hid (Z.out (show ¬ t < R.size by omega))
          have c' : ¬ t < R.size := by omega
          go_wp2_with fail
          refine C.out.mono ?_
          rintro e w' ⟨rfl, rfl⟩
          go_wp2
          go_round
          case rel => exact ⟨k + 1, by omega, by go_num, by rw [N1.out], by rw [N1.out]⟩
          case measure => simp [intOf]; omega
      · have EK := Lib.hid (show k = N by omega)
        go_wp2
        go_ret3
        exact ⟨ret3 (by rw [EK.out]) (by rw [EK.out]), Below.refl _ _⟩
set_option maxRecDepth 100000 in
set_option maxHeartbeats 1000000 in
theorem iLongest (n : Int) (w : World) : Calls Try.prog 11 #[.int .i64 n] w (Ret (.tuple #[.int .i64 (lrp n), .int .i64 (lrm n), .bool (rin n)]) w) := by
  by_cases c1 : n < 1
  · have E := Lib.hid (show rin n = false by unfold rin; rw [show decide (1 ≤ n) = false by simp; omega]; rfl)
    have E2 := Lib.hid (lr_out E.out)
    rw [E.out, E2.out.1, E2.out.2]
    go_enter Try.func11, Try.ntmps11
    go_wp2
    go_ret3
    exact ⟨rfl, Below.refl _ _⟩
  by_cases c2 : 399 < n
  · have E := Lib.hid (show rin n = false by unfold rin; rw [show decide (n ≤ 399) = false by simp; omega, Bool.and_false])
    have E2 := Lib.hid (lr_out E.out)
    rw [E.out, E2.out.1, E2.out.2]
    go_enter Try.func11, Try.ntmps11
    go_wp2
    go_ret3
    exact ⟨rfl, Below.refl _ _⟩
  obtain ⟨N, rfl⟩ := Int.eq_ofNat_of_zero_le (show 0 ≤ n by omega)
  have hg : rin (N : Int) = true := (rin_iff _).2 ⟨by omega, by omega⟩
  have HG := Lib.hid hg
  have E := Lib.hid (lr_at hg)
  rw [E.out.1, E.out.2, HG.out]
  have hn : N ≤ 399 := by omega
  have hn1 : 1 ≤ N := by omega
  clear hg
  go_enter Try.func11, Try.ntmps11
  go_wp2
  go_loopw [5, 6, 7] (fun b t i wr => ∃ k : Nat, k ≤ N ∧ i = .int .i64 ((k : Int) + 1) ∧ b = .int .i64 (((lr k).1 : Nat) : Int) ∧ t = .int .i64 (((lr k).2 : Nat) : Int) ∧ Below w.heap.size w wr) (fun _ _ i _ => (500 - intOf i).toNat)
  case atStart => exact ⟨0, by omega, rfl, rfl, rfl, Below.refl _ _⟩
  case round =>
    obtain ⟨k, hk, rfl, rfl, rfl, hb⟩ := hrel
    have HB := Lib.hid hb
    clear hb
    have li := lr_in k (by omega)
    by_cases hlt : (k : Int) + 1 ≤ (N : Int)
    · have C := Lib.hid (fun (W : World) => show Calls Try.prog 7 #[.int .i64 ((k : Int) + 1)] W (Ret (.tuple #[.string (rom (k + 1)), .bool true]) W) from iRoman_at (k + 1) (by omega) (by omega) W)
      have hs := rom_size (k + 1) (by omega)
      have Y := Lib.hid (fun h => lr_yes (k := k) h)
      have Z := Lib.hid (fun h => lr_no (k := k) h)
      obtain ⟨R, hR⟩ : ∃ R, rom (k + 1) = R := ⟨_, rfl⟩
      obtain ⟨⟨a, t⟩, hat⟩ : ∃ s, lr k = s := ⟨_, rfl⟩
      rw [hR] at C hs Y Z
      rw [hat] at li Y Z ⊢
      simp only [] at li ⊢
      have li1 := li.1
      have li2 := li.2
      clear hR hat li
      by_cases c : (t : Int) < (R.size : Int)
      · have N1 := Lib.hid (Y.out (show t < R.size by omega))
        have c' : t < R.size := by omega
        go_wp2_with fail
        refine (C.out _).mono ?_
        rintro e w2 ⟨rfl, hb⟩
        have HB2 := Lib.hid (HB.out.trans (below_le hb HB.out.size))
        clear hb
        go_wp2
        go_roundw
        case rel => exact ⟨k + 1, by omega, by go_num, by rw [N1.out]; go_num, by rw [N1.out], HB2.out⟩
        case measure => simp [intOf]; omega
      · have N1 := Lib.hid (Z.out (show ¬ t < R.size by omega))
        have c' : ¬ t < R.size := by omega
        go_wp2_with fail
        refine (C.out _).mono ?_
        rintro e w2 ⟨rfl, hb⟩
        have HB2 := Lib.hid (HB.out.trans (below_le hb HB.out.size))
        clear hb
        go_wp2
        go_roundw
        case rel => exact ⟨k + 1, by omega, by go_num, by rw [N1.out], by rw [N1.out], HB2.out⟩
        case measure => simp [intOf]; omega
    · have EK := Lib.hid (show k = N by omega)
      go_wp2
      go_ret3
      exact ⟨ret3 (by rw [EK.out]) (by rw [EK.out]), HB.out⟩
end Rm
end Go.Proofs.Ytkfoapidmockfab
