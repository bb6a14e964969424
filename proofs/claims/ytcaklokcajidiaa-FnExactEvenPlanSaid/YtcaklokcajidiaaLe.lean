/- Even plans, from both sides: lists in new memory. -/
import Derived.Test.YtcaklokcajidiaaLf
import Derived.Test.YtcaklokcajidiaaEv
import Derived.Lib.Slices
namespace Go.Proofs.Ytcaklokcajidiaa
open Go.RowKit Go.Joins
set_option linter.unusedVariables false
set_option linter.unusedSimpArgs false
namespace Ls
theorem made_ints (n : Nat) : (madeCells (Value.int .i64 0).cells (n * 1)).toList = Li.nums (Ev.rw_ [] n 0) := by
  rw [Nat.mul_one, show (Value.int .i64 0).cells = #[.int .i64 0] from rfl, toList_madeCells_one]
  simp [Ev.rw_, Li.nums]
theorem nums_set (zs : List Int) (k : Nat) (x : Int) : (Li.nums zs).set k (.int .i64 x) = Li.nums (zs.set k x) := by
  unfold Li.nums; rw [List.map_set]
theorem rdPlan_yes (p m n : Int) (h1 : 1 ≤ p) (h2 : p ≤ 2000) (h3 : 0 ≤ m) (h4 : m ≤ p) (h5 : 1 ≤ n) (h6 : n ≤ 3000) (w : World) : Calls Try.prog 58 #[.int .i64 p, .int .i64 m, .int .i64 n] w fun e w' => e = .returned (.bool true) ∧ w = w' := by
  go_enter Try.func58, Try.ntmps58
  go_wp2
  go_ret
  exact ⟨rfl, rfl⟩
set_option maxRecDepth 100000 in
set_option maxHeartbeats 1000000 in
theorem sEven_yes (p m : Int) (N : Nat) (h1 : 1 ≤ p) (h2 : p ≤ 2000) (h3 : 0 ≤ m) (h4 : m ≤ p) (h5 : 1 ≤ N) (h6 : N ≤ 3000) (w : World) :
    Calls Try.prog 25 #[.int .i64 p, .int .i64 m, .int .i64 (N : Int)] w (Li.Gives true (Ev.en (p - m) N N) w) := by
  obtain ⟨i0, hi, hz0, hz1, hz2⟩ := info_parts Li.info3
  have D1 := Lib.hid (fun W => rdPlan_yes p m N h1 h2 h3 h4 (by omega) (by omega) W)
  have HI := Lib.hid (fun k hk => Ev.el_in (P := p - m) (N := N) (by omega) k hk)
  have HN := Lib.hid h6
  clear h5 h6
  go_enter Try.func25, Try.ntmps25
  go_wp2_with fail
  refine (D1.out _).mono ?_
  rintro e w' ⟨rfl, rfl⟩
  go_wp2
  go_loopw [2, 8, 9] (fun d v a wr => ∃ k D : Nat, k + D = N ∧ d = .int .i64 (D : Int) ∧ a = .int .i64 (Ev.el (p - m) N k) ∧ wr.ownsRow w.heap.size 3 1 v (Ev.en (p - m) N k).length (Li.nums (Ev.en (p - m) N k)) ∧ Below w.heap.size w wr) (fun d _ _ _ => (intOf d).toNat)
  case atStart => exact ⟨0, N, by omega, rfl, rfl, World.ownsRow_nil _ _ _ _, Below.refl _ _⟩
  case round =>
    obtain ⟨k, D, hk, rfl, rfl, hown, hb⟩ := hrel
    have hlen := Ev.en_len (p - m) N k
    have b1 := HI.out k (by omega)
    have hN := HN.out
    by_cases hlt : D = 0
    · subst hlt
      have E := Lib.hid (show N = k by omega)
      go_wp2
      go_ret2
      exact ⟨_, rfl, by rw [E.out] at hown ⊢; exact hown, hb⟩
    · have b2 := Ev.pt_in (D := D) b1.1 (by omega)
      have EL := Lib.hid (show Ev.el (p - m) N (k + 1) = Ev.el (p - m) N k - Ev.pt (Ev.el (p - m) N k) D by rw [show D = N - k by omega]; rfl)
      have EI := Lib.hid (show Ev.en (p - m) N (k + 1) = Ev.en (p - m) N k ++ [Ev.pt (Ev.el (p - m) N k) D] by rw [show D = N - k by omega]; rfl)
      obtain ⟨X, hX⟩ : ∃ X, Ev.pt (Ev.el (p - m) N k) D = X := ⟨_, rfl⟩
      rw [hX] at EL EI b2
      have hq : (Ev.el (p - m) N k + (D : Int) - 1).tdiv (D : Int) = X := hX
      clear hX
      generalize Ev.el (p - m) N k = L at *
      generalize Ev.en (p - m) N k = zs at *
      have b3 := b1.1
      have b4 : L ≤ 2000 := by omega
      have b5 := b2.1
      have b6 := b2.2
      have hsz := hb.size
      have hD1 : 1 ≤ D := by omega
      have t1 : decide ((0 : Int) < (D : Int)) = true := by simp; omega
      have t2 : ((D : Int) == 0) = false := by simp; omega
      clear b1 b2 hlt
      go_wp2_with (first | (at_builtin; refine wpList_append_own _ rfl _ _ 35 rfl w.heap.size 3 i0 (.int .i64 0) 1 8 Try.underlying35 hi hz0 hz1 hz2 rfl (by decide) _ _ _ rfl (hown.alloc _) ⟨wr.heap.size, 0, none⟩ 1 1 [.int .i64 X] rfl rfl (cell_one_new _ _ _) (fun x hx => by simp at hx; subst hx; rfl) (by unfold maxLen; omega) (by omega) (by simp; omega) ?_; intro v' w2 hown2 hgrow2 hnil2))
      have O := Lib.hid (own_more hown2 EI.out)
      have B := Lib.hid ((hb.alloc hb.size _).grown hgrow2 (by simp; have := hb.size; omega) (fun j hj => (hown.lt j hj).1))
      clear hown2 hgrow2 hnil2 hown hb
      go_roundw
      case rel => exact ⟨k + 1, D - 1, by omega, by congr 1; omega, by rw [EL.out], O.out, B.out⟩
      case measure => simp [intOf]; omega
set_option maxRecDepth 100000 in
set_option maxHeartbeats 1000000 in
theorem iEven_yes (p m : Int) (N : Nat) (h1 : 1 ≤ p) (h2 : p ≤ 2000) (h3 : 0 ≤ m) (h4 : m ≤ p) (h5 : 1 ≤ N) (h6 : N ≤ 3000) (w : World) :
    Calls Try.prog 26 #[.int .i64 p, .int .i64 m, .int .i64 (N : Int)] w (Li.Gives true (Ev.en (p - m) N N) w) := by
  obtain ⟨i0, hi, hz0, hz1, hz2⟩ := info_parts Li.info3
  have D1 := Lib.hid (fun W => isBook_yes p h1 h2 W)
  have D2 := Lib.hid (fun W => isMark_yes p m h3 h4 W)
  have D3 := Lib.hid (fun W => isDay_yes N (by omega) (by omega) W)
  have HI := Lib.hid (fun k hk => Ev.el_in (P := p - m) (N := N) (by omega) k hk)
  have HN := Lib.hid h6
  go_enter Try.func26, Try.ntmps26
  go_wp2_with (first | (go_at_call 59; refine (D1.out _).mono ?_; rintro e w' ⟨rfl, rfl⟩) | (go_at_call 44; refine (D2.out _).mono ?_; rintro e w' ⟨rfl, rfl⟩) | (go_at_call 56; refine (D3.out _).mono ?_; rintro e w' ⟨rfl, rfl⟩) | (at_make; refine wpList_make_full _ rfl _ _ 35 rfl w.heap.size 3 i0 (.int .i64 0) 1 Try.underlying35 hi hz0 hz1 _ _ _ _ N rfl rfl rfl rfl (by rw [hz2]; omega) (by unfold maxLen; omega) (Nat.le_refl _) ?_; intro w1 hm1 hg1))
  rw [made_ints] at hm1
  have hb1 := Li.below_of_grown hg1
  clear hg1 h5 h6
  go_loopw [1, 28] (fun a i wr => ∃ (k : Nat) (mk : Int), k ≤ N ∧ i = .int .i64 (k : Int) ∧ a = .int .i64 mk ∧ Hid (mk = p - Ev.el (p - m) N k) ∧ wr.ownsRow w.heap.size 3 1 (.slice (some ⟨w.heap.size, 0, none⟩) N N) N (Li.nums (Ev.rw_ (Ev.en (p - m) N k) N k)) ∧ Below w.heap.size w wr) (fun _ i _ => ((N : Int) - intOf i).toNat)
  case atStart => exact ⟨0, m, by omega, rfl, rfl, (show m = p - (p - m) by omega), hm1, hb1⟩
  case round =>
    clear hm1 hb1
    obtain ⟨k, mk, hk, rfl, rfl, HMK, hown, hb⟩ := hrel
    have hlen := Ev.en_len (p - m) N k
    have b1 := HI.out k (by omega)
    have hN := HN.out
    by_cases hlt : k < N
    · obtain ⟨D, hD⟩ : ∃ D, D = N - k := ⟨_, rfl⟩
      have b2 := Ev.pt_in (D := D) b1.1 (by omega)
      have EL := Lib.hid (show Ev.el (p - m) N (k + 1) = Ev.el (p - m) N k - Ev.pt (Ev.el (p - m) N k) D by rw [hD]; rfl)
      have EI := Lib.hid (show Ev.en (p - m) N (k + 1) = Ev.en (p - m) N k ++ [Ev.pt (Ev.el (p - m) N k) D] by rw [hD]; rfl)
      obtain ⟨X, hX⟩ : ∃ X, Ev.pt (Ev.el (p - m) N k) D = X := ⟨_, rfl⟩
      rw [hX] at EL EI b2
      have C := dividedUp_any (Ev.el (p - m) N k) (D : Int) (by omega) (by omega) (by omega) (by omega)
      rw [show (Ev.el (p - m) N k + (D : Int) - 1).tdiv (D : Int) = X from hX] at C
      have hpm : p - mk = Ev.el (p - m) N k := by rw [HMK.out]; omega
      have hNk : (N : Int) - (k : Int) = (D : Int) := by omega
      have hmk : 0 ≤ mk ∧ mk ≤ 2000 := by rw [HMK.out]; omega
      clear hX
      have hd : ∃ v, wr.cell? ⟨w.heap.size, k, none⟩ = some v := by
        rw [hown.cellAt k (by omega)]
        exact ⟨_, List.getElem?_eq_getElem (by rw [hown.1]; omega)⟩
      obtain ⟨v, hd⟩ := hd
      have hfz := hown.frozenAt k
      obtain ⟨s1, s2⟩ := hown.stored k (.int .i64 X)
      rw [nums_set, Ev.rw_set X hlen hlt, ← EI.out] at s1
      have O := Lib.hid s1
      have B := Lib.hid (hb.setCell (p := ⟨w.heap.size, k, none⟩) (Nat.le_refl _) (.int .i64 X))
      have C := Lib.hid C
      clear s1 s2 hown hb EI
      generalize Ev.el (p - m) N k = L at *
      have HMK2 := HMK
      have b5 := b2.1
      have b6 := b2.2
      have b7 := b1.2
      have HK := Lib.hid hk
      clear b1 b2 HMK hlen hD
      go_wp2_with fail
      refine (C.out _).mono ?_
      rintro e w' ⟨rfl, rfl⟩
      go_wp2
      go_roundw
      case rel => exact ⟨k + 1, mk + X, by omega, by go_num, by first | rfl | go_num, (show mk + X = p - Ev.el (p - m) N (k + 1) by have := EL.out; have := HMK2.out; omega), O.out, B.out⟩
      case measure => simp [intOf]; omega
    · have E := Lib.hid (show k = N by omega)
      have O := Lib.hid (show wr.ownsRow w.heap.size 3 1 (.slice (some ⟨w.heap.size, 0, none⟩) N N) (Ev.en (p - m) N N).length (Li.nums (Ev.en (p - m) N N)) by rw [Ev.en_len]; rw [E.out, Ev.rw_end] at hown; exact hown)
      clear hown hk
      go_wp2
      go_ret2
      exact ⟨_, rfl, O.out, hb⟩
set_option maxRecDepth 100000 in
set_option maxHeartbeats 1000000 in
theorem sEven_no (p m n : Int) (h : ¬ 1 ≤ p ∨ ¬ p ≤ 2000 ∨ ¬ 0 ≤ m ∨ ¬ m ≤ p ∨ ¬ 1 ≤ n ∨ ¬ n ≤ 3000) (w : World) : Calls Try.prog 25 #[.int .i64 p, .int .i64 m, .int .i64 n] w (Li.Gives false [] w) := by
  by_cases c0 : 1 ≤ p
  · skip
    by_cases c1 : p ≤ 2000
    · skip
      by_cases c2 : 0 ≤ m
      · skip
        by_cases c3 : m ≤ p
        · skip
          by_cases c4 : 1 ≤ n
          · skip
            by_cases c5 : n ≤ 3000
            · exfalso; omega
            · clear h
              have u5 : decide (n ≤ 3000) = false := by simpa using c5
              clear c5
              go_enter Try.func25, Try.ntmps25
              go_wp2
              go_ret2
              exact Li.Gives.none (Below.refl _ _)
          · clear h
            have u4 : decide (1 ≤ n) = false := by simpa using c4
            clear c4
            go_enter Try.func25, Try.ntmps25
            go_wp2
            go_ret2
            exact Li.Gives.none (Below.refl _ _)
        · clear h
          have u3 : decide (m ≤ p) = false := by simpa using c3
          clear c3
          go_enter Try.func25, Try.ntmps25
          go_wp2
          go_ret2
          exact Li.Gives.none (Below.refl _ _)
      · clear h
        have u2 : decide (0 ≤ m) = false := by simpa using c2
        clear c2
        go_enter Try.func25, Try.ntmps25
        go_wp2
        go_ret2
        exact Li.Gives.none (Below.refl _ _)
    · clear h
      have u1 : decide (p ≤ 2000) = false := by simpa using c1
      clear c1
      go_enter Try.func25, Try.ntmps25
      go_wp2
      go_ret2
      exact Li.Gives.none (Below.refl _ _)
  · clear h
    have u0 : decide (1 ≤ p) = false := by simpa using c0
    clear c0
    go_enter Try.func25, Try.ntmps25
    go_wp2
    go_ret2
    exact Li.Gives.none (Below.refl _ _)
set_option maxRecDepth 100000 in
set_option maxHeartbeats 1000000 in
theorem iEven_no (p m n : Int) (h : ¬ 1 ≤ p ∨ ¬ p ≤ 2000 ∨ ¬ 0 ≤ m ∨ ¬ m ≤ p ∨ ¬ 1 ≤ n ∨ ¬ n ≤ 3000) (w : World) : Calls Try.prog 26 #[.int .i64 p, .int .i64 m, .int .i64 n] w (Li.Gives false [] w) := by
  by_cases c0 : 1 ≤ p
  · skip
    by_cases c1 : p ≤ 2000
    · skip
      by_cases c2 : 0 ≤ m
      · skip
        by_cases c3 : m ≤ p
        · skip
          by_cases c4 : 1 ≤ n
          · skip
            by_cases c5 : n ≤ 3000
            · exfalso; omega
            · clear h
              have u5 : decide (n ≤ 3000) = false := by simpa using c5
              clear c5
              go_enter Try.func26, Try.ntmps26
              go_wp2
              go_ret2
              exact Li.Gives.none (Below.refl _ _)
          · clear h
            have u4 : decide (1 ≤ n) = false := by simpa using c4
            clear c4
            go_enter Try.func26, Try.ntmps26
            go_wp2
            go_ret2
            exact Li.Gives.none (Below.refl _ _)
        · clear h
          have u3 : decide (m ≤ p) = false := by simpa using c3
          clear c3
          go_enter Try.func26, Try.ntmps26
          go_wp2
          go_ret2
          exact Li.Gives.none (Below.refl _ _)
      · clear h
        have u2 : decide (0 ≤ m) = false := by simpa using c2
        clear c2
        go_enter Try.func26, Try.ntmps26
        go_wp2
        go_ret2
        exact Li.Gives.none (Below.refl _ _)
    · clear h
      have u1 : decide (p ≤ 2000) = false := by simpa using c1
      clear c1
      go_enter Try.func26, Try.ntmps26
      go_wp2
      go_ret2
      exact Li.Gives.none (Below.refl _ _)
  · clear h
    have u0 : decide (1 ≤ p) = false := by simpa using c0
    clear c0
    go_enter Try.func26, Try.ntmps26
    go_wp2
    go_ret2
    exact Li.Gives.none (Below.refl _ _)
end Ls
end Go.Proofs.Ytcaklokcajidiaa
