/- Rising plans, from both sides: lists in new memory. -/
import Derived.Test.YtcaklokcajidiaaRs
import Derived.Test.YtcaklokcajidiaaInts
import Derived.Maps.AppendAt
import Derived.Lib.SmallJoins
namespace Go.Proofs.Ytcaklokcajidiaa
open Go.RowKit Go.Joins
set_option linter.unusedVariables false
set_option linter.unusedSimpArgs false
namespace Ls
/-- a list is returned, in new memory -/
def GivesL (zs : List Int) (W : World) (e : Ending) (w' : World) : Prop := ∃ v, e = .returned v ∧ w'.ownsRow W.heap.size 3 1 v zs.length (Li.nums zs) ∧ Below W.heap.size W w'
theorem own_more {W : World} {base : Nat} {v : Value} {zs ys : List Int} {x : Int} (h : W.ownsRow base 3 1 v (zs.length + 1) (Li.nums zs ++ [.int .i64 x])) (e : ys = zs ++ [x]) : W.ownsRow base 3 1 v ys.length (Li.nums ys) := by
  subst e; simpa [Li.nums] using h
set_option maxRecDepth 100000 in
set_option maxHeartbeats 1000000 in
theorem rdRising_any (p f q : Int) (K : Nat) (hp : 0 ≤ p) (hp2 : p ≤ 2000) (hf : 1 ≤ f) (hf2 : f ≤ 200) (hq : 0 ≤ q) (hq2 : q ≤ 200) (hK : K ≤ 2000) (h0 : Rs.lf p f q K = 0) (hl : ∀ j, j < K → 0 < Rs.lf p f q j) (w : World) :
    Calls Try.prog 62 #[.int .i64 p, .int .i64 f, .int .i64 q] w (GivesL (Rs.li p f q K) w) := by
  obtain ⟨i0, hi, hz0, hz1, hz2⟩ := info_parts Li.info3
  have H0 := Lib.hid h0
  have HL := Lib.hid hl
  have HI := Lib.hid (fun k => Rs.lf_in (q := q) hp hf hf2 hq hq2 k)
  have HX := Lib.hid (fun k => Rs.nx_in hf hf2 hq hq2 k)
  clear h0 hl hp hf hf2
  go_enter Try.func62, Try.ntmps62
  go_wp2
  go_loopw [0, 1, 7] (fun a b v wr => ∃ k : Nat, k ≤ K ∧ a = .int .i64 (Rs.lf p f q k) ∧ b = .int .i64 (Rs.nx f q k) ∧ wr.ownsRow w.heap.size 3 1 v (Rs.li p f q k).length (Li.nums (Rs.li p f q k)) ∧ Below w.heap.size w wr) (fun a _ _ _ => (intOf a).toNat)
  case atStart => exact ⟨0, by omega, rfl, rfl, World.ownsRow_nil _ _ _ _, Below.refl _ _⟩
  case round =>
    obtain ⟨k, hk, rfl, rfl, hown, hb⟩ := hrel
    have hlen := Rs.li_len p f q k
    have b1 := HI.out k
    have b2 := HX.out k
    by_cases hlt : k < K
    · have b3 := HL.out k hlt
      have EL := Lib.hid (show Rs.lf p f q (k + 1) = Rs.lf p f q k - min (Rs.lf p f q k) (Rs.nx f q k) from rfl)
      have EX := Lib.hid (show Rs.nx f q (k + 1) = Rs.nx f q k + q from rfl)
      have EI := Lib.hid (show Rs.li p f q (k + 1) = Rs.li p f q k ++ [min (Rs.lf p f q k) (Rs.nx f q k)] from rfl)
      generalize Rs.lf p f q k = L at *
      generalize Rs.nx f q k = X at *
      generalize Rs.li p f q k = zs at *
      have hx0 : X ≤ 400200 := by omega
      have b4 := b2.1
      have b5 := b1.2
      clear b1 b2
      by_cases c : L < X
      · have HM := Lib.hid (show min L X = L by omega)
        have c' : decide (L < X) = true := by simpa using c
        have hif : (if X < L then X else L) = L := by split <;> omega
        have hsz := hb.size
        clear c
        go_wp2_with (first | (at_builtin; refine wpList_append_own _ rfl _ _ 35 rfl w.heap.size 3 i0 (.int .i64 0) 1 8 Try.underlying35 hi hz0 hz1 hz2 rfl (by decide) _ _ _ rfl (hown.alloc _) ⟨wr.heap.size, 0, none⟩ 1 1 [.int .i64 L] rfl rfl (cell_one_new _ _ _) (fun x hx => by simp at hx; subst hx; rfl) (by unfold maxLen; omega) (by omega) (by simp; omega) ?_; intro v' w2 hown2 hgrow2 hnil2) | go_in)
        have O := Lib.hid (own_more hown2 (EI.out.trans (by rw [HM.out])))
        have B := Lib.hid ((hb.alloc hb.size _).grown hgrow2 (by simp; have := hb.size; omega) (fun j hj => (hown.lt j hj).1))
        clear hown2 hgrow2 hnil2 hown hb
        go_roundw
        case rel => exact ⟨k + 1, by omega, by (rw [EL.out, HM.out] <;> first | rfl | (congr 1; omega)), by rw [EX.out], O.out, B.out⟩
        case measure => simp [intOf]; omega
      · have HM := Lib.hid (show min L X = X by omega)
        have c' : decide (L < X) = false := by simpa using c
        have hif : (if X < L then X else L) = X := by split <;> omega
        have hsz := hb.size
        clear c
        go_wp2_with (first | (at_builtin; refine wpList_append_own _ rfl _ _ 35 rfl w.heap.size 3 i0 (.int .i64 0) 1 8 Try.underlying35 hi hz0 hz1 hz2 rfl (by decide) _ _ _ rfl (hown.alloc _) ⟨wr.heap.size, 0, none⟩ 1 1 [.int .i64 X] rfl rfl (cell_one_new _ _ _) (fun x hx => by simp at hx; subst hx; rfl) (by unfold maxLen; omega) (by omega) (by simp; omega) ?_; intro v' w2 hown2 hgrow2 hnil2) | go_in)
        have O := Lib.hid (own_more hown2 (EI.out.trans (by rw [HM.out])))
        have B := Lib.hid ((hb.alloc hb.size _).grown hgrow2 (by simp; have := hb.size; omega) (fun j hj => (hown.lt j hj).1))
        clear hown2 hgrow2 hnil2 hown hb
        go_roundw
        case rel => exact ⟨k + 1, by omega, by (rw [EL.out, HM.out] <;> first | rfl | (congr 1; omega)), by rw [EX.out], O.out, B.out⟩
        case measure => simp [intOf]; omega
    · have E := Lib.hid (show K = k by omega)
      have hz : Rs.lf p f q k = 0 := by rw [← E.out]; exact H0.out
      rw [hz]
      go_wp2
      go_ret
      exact ⟨_, rfl, by rw [E.out]; exact hown, hb⟩
theorem isBook_yes (p : Int) (h1 : 1 ≤ p) (h2 : p ≤ 2000) (w : World) : Calls Try.prog 59 #[.int .i64 p] w fun e w' => e = .returned (.bool true) ∧ w = w' := by
  go_enter Try.func59, Try.ntmps59
  go_wp2
  go_ret
  exact ⟨rfl, rfl⟩
theorem isDaily_yes (p : Int) (h1 : 1 ≤ p) (h2 : p ≤ 200) (w : World) : Calls Try.prog 45 #[.int .i64 p] w fun e w' => e = .returned (.bool true) ∧ w = w' := by
  go_enter Try.func45, Try.ntmps45
  go_wp2
  go_ret
  exact ⟨rfl, rfl⟩
theorem isDay_yes (p : Int) (h1 : 1 ≤ p) (h2 : p ≤ 3000) (w : World) : Calls Try.prog 56 #[.int .i64 p] w fun e w' => e = .returned (.bool true) ∧ w = w' := by
  go_enter Try.func56, Try.ntmps56
  go_wp2
  go_ret
  exact ⟨rfl, rfl⟩
theorem isMark_yes (p m : Int) (h1 : 0 ≤ m) (h2 : m ≤ p) (w : World) : Calls Try.prog 44 #[.int .i64 p, .int .i64 m] w fun e w' => e = .returned (.bool true) ∧ w = w' := by
  go_enter Try.func44, Try.ntmps44
  go_wp2
  go_ret
  exact ⟨rfl, rfl⟩
theorem isMore_yes (q : Int) (h1 : 0 ≤ q) (h2 : q ≤ 200) (w : World) : Calls Try.prog 63 #[.int .i64 q] w fun e w' => e = .returned (.bool true) ∧ w = w' := by
  by_cases c : q = 0
  · subst c
    go_enter Try.func63, Try.ntmps63
    go_wp2
    go_ret
    exact ⟨rfl, rfl⟩
  · have t5 : (q == 0) = false := by simpa using c
    have t6 : 1 ≤ q := by omega
    clear c
    go_enter Try.func63, Try.ntmps63
    go_wp2
    go_ret
    exact ⟨rfl, rfl⟩
set_option maxRecDepth 100000 in
set_option maxHeartbeats 1000000 in
theorem iRising_yes (p f q : Int) (K : Nat) (hp1 : 1 ≤ p) (hp2 : p ≤ 2000) (hf : 1 ≤ f) (hf2 : f ≤ 200) (hq : 0 ≤ q) (hq2 : q ≤ 200) (hK : K ≤ 2000) (h0 : Rs.lf p f q K = 0) (hl : ∀ j, j < K → 0 < Rs.lf p f q j) (w : World) :
    Calls Try.prog 31 #[.int .i64 p, .int .i64 f, .int .i64 q] w (Li.Gives true (Rs.li p f q K) w) := by
  have hp : 0 ≤ p := by omega
  obtain ⟨i0, hi, hz0, hz1, hz2⟩ := info_parts Li.info3
  have H0 := Lib.hid h0
  have HL := Lib.hid hl
  have HI := Lib.hid (fun k => Rs.lf_in (q := q) hp hf hf2 hq hq2 k)
  have HX := Lib.hid (fun k => Rs.nx_in hf hf2 hq hq2 k)
  have D1 := Lib.hid (fun W => isBook_yes p hp1 hp2 W)
  have D2 := Lib.hid (fun W => isDaily_yes f hf hf2 W)
  have D3 := Lib.hid (fun W => isMore_yes q hq hq2 W)
  clear h0 hl hp hf hf2 hp1
  go_enter Try.func31, Try.ntmps31
  go_wp2_with (first | (go_at_call 59; refine (D1.out _).mono ?_; rintro e w' ⟨rfl, rfl⟩) | (go_at_call 45; refine (D2.out _).mono ?_; rintro e w' ⟨rfl, rfl⟩) | (go_at_call 63; refine (D3.out _).mono ?_; rintro e w' ⟨rfl, rfl⟩))
  go_loopw [8, 9, 10] (fun v a b wr => ∃ k : Nat, k ≤ K ∧ a = .int .i64 (Rs.lf p f q k) ∧ b = .int .i64 (Rs.nx f q k) ∧ wr.ownsRow w.heap.size 3 1 v (Rs.li p f q k).length (Li.nums (Rs.li p f q k)) ∧ Below w.heap.size w wr) (fun _ a _ _ => (intOf a).toNat)
  case atStart => exact ⟨0, by omega, rfl, rfl, World.ownsRow_nil _ _ _ _, Below.refl _ _⟩
  case round =>
    obtain ⟨k, hk, rfl, rfl, hown, hb⟩ := hrel
    have hlen := Rs.li_len p f q k
    have b1 := HI.out k
    have b2 := HX.out k
    by_cases hlt : k < K
    · have b3 := HL.out k hlt
      have EL := Lib.hid (show Rs.lf p f q (k + 1) = Rs.lf p f q k - min (Rs.lf p f q k) (Rs.nx f q k) from rfl)
      have EX := Lib.hid (show Rs.nx f q (k + 1) = Rs.nx f q k + q from rfl)
      have EI := Lib.hid (show Rs.li p f q (k + 1) = Rs.li p f q k ++ [min (Rs.lf p f q k) (Rs.nx f q k)] from rfl)
      generalize Rs.lf p f q k = L at *
      generalize Rs.nx f q k = X at *
      generalize Rs.li p f q k = zs at *
      have hx0 : X ≤ 400200 := by omega
      have b4 := b2.1
      have b5 := b1.2
      clear b1 b2
      by_cases c : L < X
      · have HM := Lib.hid (show min L X = L by omega)
        have c' : decide (L < X) = true := by simpa using c
        have hif : (if X < L then X else L) = L := by split <;> omega
        have hsz := hb.size
        clear c
        go_wp2_with (first | (at_builtin; refine wpList_append_own _ rfl _ _ 35 rfl w.heap.size 3 i0 (.int .i64 0) 1 8 Try.underlying35 hi hz0 hz1 hz2 rfl (by decide) _ _ _ rfl (hown.alloc _) ⟨wr.heap.size, 0, none⟩ 1 1 [.int .i64 L] rfl rfl (cell_one_new _ _ _) (fun x hx => by simp at hx; subst hx; rfl) (by unfold maxLen; omega) (by omega) (by simp; omega) ?_; intro v' w2 hown2 hgrow2 hnil2) | go_in)
        have O := Lib.hid (own_more hown2 (EI.out.trans (by rw [HM.out])))
        have B := Lib.hid ((hb.alloc hb.size _).grown hgrow2 (by simp; have := hb.size; omega) (fun j hj => (hown.lt j hj).1))
        clear hown2 hgrow2 hnil2 hown hb
        go_roundw
        case rel => exact ⟨k + 1, by omega, by (rw [EL.out, HM.out] <;> first | rfl | (congr 1; omega)), by rw [EX.out], O.out, B.out⟩
        case measure => simp [intOf]; omega
      · have HM := Lib.hid (show min L X = X by omega)
        have c' : decide (L < X) = false := by simpa using c
        have hif : (if X < L then X else L) = X := by split <;> omega
        have hsz := hb.size
        clear c
        go_wp2_with (first | (at_builtin; refine wpList_append_own _ rfl _ _ 35 rfl w.heap.size 3 i0 (.int .i64 0) 1 8 Try.underlying35 hi hz0 hz1 hz2 rfl (by decide) _ _ _ rfl (hown.alloc _) ⟨wr.heap.size, 0, none⟩ 1 1 [.int .i64 X] rfl rfl (cell_one_new _ _ _) (fun x hx => by simp at hx; subst hx; rfl) (by unfold maxLen; omega) (by omega) (by simp; omega) ?_; intro v' w2 hown2 hgrow2 hnil2) | go_in)
        have O := Lib.hid (own_more hown2 (EI.out.trans (by rw [HM.out])))
        have B := Lib.hid ((hb.alloc hb.size _).grown hgrow2 (by simp; have := hb.size; omega) (fun j hj => (hown.lt j hj).1))
        clear hown2 hgrow2 hnil2 hown hb
        go_roundw
        case rel => exact ⟨k + 1, by omega, by (rw [EL.out, HM.out] <;> first | rfl | (congr 1; omega)), by rw [EX.out], O.out, B.out⟩
        case measure => simp [intOf]; omega
    · have E := Lib.hid (show K = k by omega)
      have hz : Rs.lf p f q k = 0 := by rw [← E.out]; exact H0.out
      rw [hz]
      go_wp2
      go_ret2
      exact ⟨_, rfl, by rw [E.out]; exact hown, hb⟩
set_option maxRecDepth 100000 in
set_option maxHeartbeats 1000000 in
theorem sRising_yes (p f q : Int) (K : Nat) (hp1 : 1 ≤ p) (hp2 : p ≤ 2000) (hf : 1 ≤ f) (hf2 : f ≤ 200) (hq : 0 ≤ q) (hq2 : q ≤ 200) (hK : K ≤ 2000) (h0 : Rs.lf p f q K = 0) (hl : ∀ j, j < K → 0 < Rs.lf p f q j) (w : World) :
    Calls Try.prog 30 #[.int .i64 p, .int .i64 f, .int .i64 q] w (Li.Gives true (Rs.li p f q K) w) := by
  have C := Lib.hid (fun W => rdRising_any p f q K (by omega) hp2 hf hf2 hq hq2 hK h0 hl W)
  clear h0 hl
  go_enter Try.func30, Try.ntmps30
  go_wp2_with (first | (go_at_call 62; refine (C.out _).mono ?_; rintro e w1 ⟨v, rfl, ho, hb⟩) | go_in)
  go_ret2
  exact ⟨_, rfl, ho, hb⟩
set_option maxRecDepth 100000 in
set_option maxHeartbeats 1000000 in
theorem sRising_no (p f q : Int) (h : ¬ 1 ≤ p ∨ ¬ p ≤ 2000 ∨ ¬ 1 ≤ f ∨ ¬ f ≤ 200 ∨ ¬ 0 ≤ q ∨ ¬ q ≤ 200) (w : World) : Calls Try.prog 30 #[.int .i64 p, .int .i64 f, .int .i64 q] w (Li.Gives false [] w) := by
  by_cases c0 : 1 ≤ p
  · skip
    by_cases c1 : p ≤ 2000
    · skip
      by_cases c2 : 1 ≤ f
      · skip
        by_cases c3 : f ≤ 200
        · skip
          by_cases c4 : 0 ≤ q
          · skip
            by_cases c5 : q ≤ 200
            · exfalso; omega
            · clear h
              have u5 : decide (q ≤ 200) = false := by simpa using c5
              clear c5
              go_enter Try.func30, Try.ntmps30
              go_wp2
              go_ret2
              exact Li.Gives.none (Below.refl _ _)
          · clear h
            have u4 : decide (0 ≤ q) = false := by simpa using c4
            clear c4
            go_enter Try.func30, Try.ntmps30
            go_wp2
            go_ret2
            exact Li.Gives.none (Below.refl _ _)
        · clear h
          have u3 : decide (f ≤ 200) = false := by simpa using c3
          clear c3
          go_enter Try.func30, Try.ntmps30
          go_wp2
          go_ret2
          exact Li.Gives.none (Below.refl _ _)
      · clear h
        have u2 : decide (1 ≤ f) = false := by simpa using c2
        clear c2
        go_enter Try.func30, Try.ntmps30
        go_wp2
        go_ret2
        exact Li.Gives.none (Below.refl _ _)
    · clear h
      have u1 : decide (p ≤ 2000) = false := by simpa using c1
      clear c1
      go_enter Try.func30, Try.ntmps30
      go_wp2
      go_ret2
      exact Li.Gives.none (Below.refl _ _)
  · clear h
    have u0 : decide (1 ≤ p) = false := by simpa using c0
    clear c0
    go_enter Try.func30, Try.ntmps30
    go_wp2
    go_ret2
    exact Li.Gives.none (Below.refl _ _)
set_option maxRecDepth 100000 in
set_option maxHeartbeats 1000000 in
theorem iRising_no (p f q : Int) (h : ¬ 1 ≤ p ∨ ¬ p ≤ 2000 ∨ ¬ 1 ≤ f ∨ ¬ f ≤ 200 ∨ ¬ 0 ≤ q ∨ ¬ q ≤ 200) (w : World) : Calls Try.prog 31 #[.int .i64 p, .int .i64 f, .int .i64 q] w (Li.Gives false [] w) := by
  by_cases c0 : 1 ≤ p
  · skip
    by_cases c1 : p ≤ 2000
    · skip
      by_cases c2 : 1 ≤ f
      · skip
        by_cases c3 : f ≤ 200
        · skip
          by_cases c4 : 0 ≤ q
          · skip
            by_cases c5 : q ≤ 200
            · exfalso; omega
            · clear h
              have t5 : (q == 0) = false := by simp; omega
              have t6 : decide (1 ≤ q) = true := by simp; omega
              have u5 : decide (q ≤ 200) = false := by simpa using c5
              clear c5
              go_enter Try.func31, Try.ntmps31
              go_wp2
              go_ret2
              exact Li.Gives.none (Below.refl _ _)
          · clear h
            have t5 : (q == 0) = false := by simp; omega
            have t6 : decide (1 ≤ q) = false := by simp; omega
            have u4 : decide (0 ≤ q) = false := by simpa using c4
            clear c4
            go_enter Try.func31, Try.ntmps31
            go_wp2
            go_ret2
            exact Li.Gives.none (Below.refl _ _)
        · clear h
          have u3 : decide (f ≤ 200) = false := by simpa using c3
          clear c3
          go_enter Try.func31, Try.ntmps31
          go_wp2
          go_ret2
          exact Li.Gives.none (Below.refl _ _)
      · clear h
        have u2 : decide (1 ≤ f) = false := by simpa using c2
        clear c2
        go_enter Try.func31, Try.ntmps31
        go_wp2
        go_ret2
        exact Li.Gives.none (Below.refl _ _)
    · clear h
      have u1 : decide (p ≤ 2000) = false := by simpa using c1
      clear c1
      go_enter Try.func31, Try.ntmps31
      go_wp2
      go_ret2
      exact Li.Gives.none (Below.refl _ _)
  · clear h
    have u0 : decide (1 ≤ p) = false := by simpa using c0
    clear c0
    go_enter Try.func31, Try.ntmps31
    go_wp2
    go_ret2
    exact Li.Gives.none (Below.refl _ _)
end Ls
end Go.Proofs.Ytcaklokcajidiaa
