/- Parts of what is left, from both sides: lists in new memory. -/
import Derived.Test.YthjhnpomnjkclaaPa
import Derived.Test.YthjhnpomnjkclaaInts
import Derived.Maps.AppendAt
import Derived.Lib.SmallJoins
namespace Go.Proofs.Ythjhnpomnjkclaa
open Go.RowKit Go.Joins
set_option linter.unusedVariables false
set_option linter.unusedSimpArgs false
namespace Ls
/-- a list is returned, in new memory -/
def GivesL (zs : List Int) (W : World) (e : Ending) (w' : World) : Prop := ∃ v, e = .returned v ∧ w'.ownsRow W.heap.size 3 1 v zs.length (Li.nums zs) ∧ Below W.heap.size W w'
theorem own_more {W : World} {base : Nat} {v : Value} {zs ys : List Int} {x : Int} (h : W.ownsRow base 3 1 v (zs.length + 1) (Li.nums zs ++ [.int .i64 x])) (e : ys = zs ++ [x]) : W.ownsRow base 3 1 v ys.length (Li.nums ys) := by
  subst e; simpa [Li.nums] using h
theorem isBook_yes (p : Int) (h1 : 1 ≤ p) (h2 : p ≤ 2000) (w : World) : Calls Try.prog 50 #[.int .i64 p] w fun e w' => e = .returned (.bool true) ∧ w = w' := by
  go_enter Try.func50, Try.ntmps50
  go_wp2
  go_ret
  exact ⟨rfl, rfl⟩
theorem isFraction_yes (n d : Int) (h1 : 1 ≤ n) (h3 : n < d) (h4 : d ≤ 200) (w : World) : Calls Try.prog 51 #[.int .i64 n, .int .i64 d] w fun e w' => e = .returned (.bool true) ∧ w = w' := by
  have t1 : 1 ≤ d := by omega
  have t2 : n ≤ 200 := by omega
  go_enter Try.func51, Try.ntmps51
  go_wp2
  go_ret
  exact ⟨rfl, rfl⟩
theorem rdPart_yes (n d : Int) (h1 : 1 ≤ n) (h3 : n < d) (h4 : d ≤ 200) (w : World) : Calls Try.prog 48 #[.int .i64 n, .int .i64 d] w fun e w' => e = .returned (.bool true) ∧ w = w' := by
  have t1 : 2 ≤ d := by omega
  have t2 : n ≤ d - 1 := by omega
  go_enter Try.func48, Try.ntmps48
  go_wp2
  go_ret
  exact ⟨rfl, rfl⟩
theorem bpBook_yes (p : Int) (h1 : 1 ≤ p) (h2 : p ≤ 2000) (w : World) : Calls Try.prog 47 #[.int .i64 p] w fun e w' => e = .returned (.bool true) ∧ w = w' := by
  go_enter Try.func47, Try.ntmps47
  go_wp2
  go_ret
  exact ⟨rfl, rfl⟩
theorem dividedUp_any (N D : Int) (h1 : -10000000000 ≤ N) (h2 : N ≤ 10000000000) (h3 : 1 ≤ D) (h4 : D ≤ 3000) (w : World) :
    Calls Try.prog 52 #[.int .i64 N, .int .i64 D] w fun e w' => e = .returned (.int .i64 ((N + D - 1).tdiv D)) ∧ w = w' := by
  go_enter Try.func52, Try.ntmps52
  go_wp2
  go_ret
  exact ⟨rfl, rfl⟩
set_option maxRecDepth 100000 in
set_option maxHeartbeats 1000000 in
theorem rdParts_any (p n d : Int) (K : Nat) (hp : 1 ≤ p) (hp2 : p ≤ 2000) (hn : 1 ≤ n) (hnd : n < d) (hd : d ≤ 200) (hK : K ≤ 2000) (h0 : Pa.lf p n d K = 0) (hl : ∀ j, j < K → 0 < Pa.lf p n d j) (w : World) :
    Calls Try.prog 49 #[.int .i64 p, .int .i64 n, .int .i64 d] w (GivesL (Pa.li p n d K) w) := by
  obtain ⟨i0, hi, hz0, hz1, hz2⟩ := info_parts Li.info3
  have D1 := Lib.hid (fun W => isBook_yes p hp hp2 W)
  have D2 := Lib.hid (fun W => isFraction_yes n d hn hnd hd W)
  have H0 := Lib.hid h0
  have HL := Lib.hid hl
  have HI := Lib.hid (fun k => Pa.lf_in (p := p) (n := n) (d := d) (by omega) hp2 hn hnd hd k)
  have hd0 : 1 ≤ d := by omega
  clear h0 hl hp
  go_enter Try.func49, Try.ntmps49
  go_wp2
  go_loopw [0, 7] (fun a v wr => ∃ k : Nat, k ≤ K ∧ a = .int .i64 (Pa.lf p n d k) ∧ wr.ownsRow w.heap.size 3 1 v (Pa.li p n d k).length (Li.nums (Pa.li p n d k)) ∧ Below w.heap.size w wr) (fun a v _ => (intOf a).toNat)
  case atStart => exact ⟨0, by omega, rfl, World.ownsRow_nil _ _ _ _, Below.refl _ _⟩
  case round =>
    obtain ⟨k, hk, rfl, hown, hb⟩ := hrel
    have hlen := Pa.li_len p n d k
    have b1 := HI.out k
    by_cases hlt : k < K
    · have b3 := HL.out k hlt
      have EL := Lib.hid (show Pa.lf p n d (k + 1) = Pa.lf p n d k - Pa.rd n d (Pa.lf p n d k) from rfl)
      have EI := Lib.hid (show Pa.li p n d (k + 1) = Pa.li p n d k ++ [Pa.rd n d (Pa.lf p n d k)] from rfl)
      have b2 := Pa.rd_in (n := n) (d := d) b1.1 (by omega) hn hnd hd
      have b4 := Pa.prod_in (n := n) (d := d) b1.1 (by omega) hn hnd hd
      obtain ⟨X, hX⟩ : ∃ X, Pa.rd n d (Pa.lf p n d k) = X := ⟨_, rfl⟩
      rw [hX] at EL EI b2
      have hq : (Pa.lf p n d k * n + d - 1).tdiv d = X := hX
      clear hX
      generalize Pa.lf p n d k = L at *
      generalize Pa.li p n d k = zs at *
      have b5 := b2.2.2 b3
      have b6 := b2.2.1
      have b7 : L ≤ 2000 := by omega
      obtain ⟨A, hA⟩ : ∃ A, L * n = A := ⟨_, rfl⟩
      rw [hA] at hq b4
      have b8 := b4.1
      have b9 : A ≤ 400000 := by omega
      have hsz := hb.size
      clear b1 b2 b4
      go_wp2_with (first | (at_builtin; refine wpList_append_own _ rfl _ _ 24 rfl w.heap.size 3 i0 (.int .i64 0) 1 8 Try.underlying24 hi hz0 hz1 hz2 rfl (by decide) _ _ _ rfl (hown.alloc _) ⟨wr.heap.size, 0, none⟩ 1 1 [.int .i64 X] rfl rfl (cell_one_new _ _ _) (fun x hx => by simp at hx; subst hx; rfl) (by unfold maxLen; omega) (by omega) (by simp; omega) ?_; intro v' w2 hown2 hgrow2 hnil2))
      have O := Lib.hid (own_more hown2 EI.out)
      have B := Lib.hid ((hb.alloc hb.size _).grown hgrow2 (by simp; have := hb.size; omega) (fun j hj => (hown.lt j hj).1))
      clear hown2 hgrow2 hnil2 hown hb
      go_roundw
      case rel => exact ⟨k + 1, by omega, by rw [EL.out], O.out, B.out⟩
      case measure => simp [intOf]; omega
    · have E := Lib.hid (show K = k by omega)
      have hz : Pa.lf p n d k = 0 := by rw [← E.out]; exact H0.out
      rw [hz]
      go_wp2
      go_ret
      exact ⟨_, rfl, by rw [E.out]; exact hown, hb⟩
set_option maxRecDepth 100000 in
set_option maxHeartbeats 1000000 in
theorem iParts_yes (p n d : Int) (K : Nat) (hp : 1 ≤ p) (hp2 : p ≤ 2000) (hn : 1 ≤ n) (hnd : n < d) (hd : d ≤ 200) (hK : K ≤ 2000) (h0 : Pa.lf p n d K = 0) (hl : ∀ j, j < K → 0 < Pa.lf p n d j) (w : World) :
    Calls Try.prog 20 #[.int .i64 p, .int .i64 n, .int .i64 d] w (Li.Gives true (Pa.li p n d K) w) := by
  obtain ⟨i0, hi, hz0, hz1, hz2⟩ := info_parts Li.info3
  have D1 := Lib.hid (fun W => isBook_yes p hp hp2 W)
  have D2 := Lib.hid (fun W => isFraction_yes n d hn hnd hd W)
  have H0 := Lib.hid h0
  have HL := Lib.hid hl
  have HI := Lib.hid (fun k => Pa.lf_in (p := p) (n := n) (d := d) (by omega) hp2 hn hnd hd k)
  have hd0 : 1 ≤ d := by omega
  clear h0 hl hp
  go_enter Try.func20, Try.ntmps20
  go_wp2_with (first | (go_at_call 50; refine (D1.out _).mono ?_; rintro e w' ⟨rfl, rfl⟩) | (go_at_call 51; refine (D2.out _).mono ?_; rintro e w' ⟨rfl, rfl⟩))
  go_loopw [8, 9] (fun v a wr => ∃ k : Nat, k ≤ K ∧ a = .int .i64 (Pa.lf p n d k) ∧ wr.ownsRow w.heap.size 3 1 v (Pa.li p n d k).length (Li.nums (Pa.li p n d k)) ∧ Below w.heap.size w wr) (fun v a _ => (intOf a).toNat)
  case atStart => exact ⟨0, by omega, rfl, World.ownsRow_nil _ _ _ _, Below.refl _ _⟩
  case round =>
    obtain ⟨k, hk, rfl, hown, hb⟩ := hrel
    have hlen := Pa.li_len p n d k
    have b1 := HI.out k
    by_cases hlt : k < K
    · have b3 := HL.out k hlt
      have EL := Lib.hid (show Pa.lf p n d (k + 1) = Pa.lf p n d k - Pa.rd n d (Pa.lf p n d k) from rfl)
      have EI := Lib.hid (show Pa.li p n d (k + 1) = Pa.li p n d k ++ [Pa.rd n d (Pa.lf p n d k)] from rfl)
      have b2 := Pa.rd_in (n := n) (d := d) b1.1 (by omega) hn hnd hd
      have b4 := Pa.prod_in (n := n) (d := d) b1.1 (by omega) hn hnd hd
      obtain ⟨X, hX⟩ : ∃ X, Pa.rd n d (Pa.lf p n d k) = X := ⟨_, rfl⟩
      rw [hX] at EL EI b2
      have hq : (Pa.lf p n d k * n + d - 1).tdiv d = X := hX
      clear hX
      generalize Pa.lf p n d k = L at *
      generalize Pa.li p n d k = zs at *
      have b5 := b2.2.2 b3
      have b6 := b2.2.1
      have b7 : L ≤ 2000 := by omega
      obtain ⟨A, hA⟩ : ∃ A, L * n = A := ⟨_, rfl⟩
      rw [hA] at hq b4
      have b8 := b4.1
      have b9 : A ≤ 400000 := by omega
      have hsz := hb.size
      clear b1 b2 b4
      have C := Lib.hid (fun W => dividedUp_any A d (by omega) (by omega) (by omega) (by omega) W)
      simp only [hq] at C
      go_wp2_with (first | (go_at_call 52; refine (C.out _).mono ?_; rintro e w' ⟨rfl, rfl⟩) | (at_builtin; refine wpList_append_own _ rfl _ _ 24 rfl w.heap.size 3 i0 (.int .i64 0) 1 8 Try.underlying24 hi hz0 hz1 hz2 rfl (by decide) _ _ _ rfl (hown.alloc _) ⟨wr.heap.size, 0, none⟩ 1 1 [.int .i64 X] rfl rfl (cell_one_new _ _ _) (fun x hx => by simp at hx; subst hx; rfl) (by unfold maxLen; omega) (by omega) (by simp; omega) ?_; intro v' w2 hown2 hgrow2 hnil2))
      have O := Lib.hid (own_more hown2 EI.out)
      have B := Lib.hid ((hb.alloc hb.size _).grown hgrow2 (by simp; have := hb.size; omega) (fun j hj => (hown.lt j hj).1))
      clear hown2 hgrow2 hnil2 hown hb
      go_roundw
      case rel => exact ⟨k + 1, by omega, by rw [EL.out], O.out, B.out⟩
      case measure => simp [intOf]; omega
    · have E := Lib.hid (show K = k by omega)
      have hz : Pa.lf p n d k = 0 := by rw [← E.out]; exact H0.out
      rw [hz]
      go_wp2
      go_ret2
      exact ⟨_, rfl, by rw [E.out]; exact hown, hb⟩
set_option maxRecDepth 100000 in
theorem sParts_yes (p n d : Int) (K : Nat) (hp : 1 ≤ p) (hp2 : p ≤ 2000) (hn : 1 ≤ n) (hnd : n < d) (hd : d ≤ 200) (hK : K ≤ 2000) (h0 : Pa.lf p n d K = 0) (hl : ∀ j, j < K → 0 < Pa.lf p n d j) (w : World) :
    Calls Try.prog 19 #[.int .i64 p, .int .i64 n, .int .i64 d] w (Li.Gives true (Pa.li p n d K) w) := by
  have D1 := Lib.hid (fun W => bpBook_yes p hp hp2 W)
  have D2 := Lib.hid (fun W => rdPart_yes n d hn hnd hd W)
  have C := Lib.hid (fun W => rdParts_any p n d K hp hp2 hn hnd hd hK h0 hl W)
  clear h0 hl
  go_enter Try.func19, Try.ntmps19
  go_wp2_with (first | (go_at_call 47; refine (D1.out _).mono ?_; rintro e w' ⟨rfl, rfl⟩) | (go_at_call 48; refine (D2.out _).mono ?_; rintro e w' ⟨rfl, rfl⟩) | (go_at_call 49; refine (C.out _).mono ?_; rintro e w1 ⟨v, rfl, ho, hb⟩))
  go_ret2
  exact ⟨_, rfl, ho, hb⟩
/-- a number and a bool; what lay below stays -/
def GivesN (x : Int) (ok : Bool) (W : World) (e : Ending) (w' : World) : Prop := e = .returned (.tuple #[.int .i64 x, .bool ok]) ∧ Below W.heap.size W w'
set_option maxRecDepth 100000 in
theorem sDays_yes (p n d : Int) (K : Nat) (hp : 1 ≤ p) (hp2 : p ≤ 2000) (hn : 1 ≤ n) (hnd : n < d) (hd : d ≤ 200) (hK : K ≤ 2000) (h0 : Pa.lf p n d K = 0) (hl : ∀ j, j < K → 0 < Pa.lf p n d j) (w : World) :
    Calls Try.prog 21 #[.int .i64 p, .int .i64 n, .int .i64 d] w (GivesN (K : Int) true w) := by
  have D1 := Lib.hid (fun W => bpBook_yes p hp hp2 W)
  have D2 := Lib.hid (fun W => rdPart_yes n d hn hnd hd W)
  have C := Lib.hid (fun W => rdParts_any p n d K hp hp2 hn hnd hd hK h0 hl W)
  have hlen := Pa.li_len p n d K
  clear h0 hl
  go_enter Try.func21, Try.ntmps21
  go_wp2_with (first | (go_at_call 47; refine (D1.out _).mono ?_; rintro e w' ⟨rfl, rfl⟩) | (go_at_call 48; refine (D2.out _).mono ?_; rintro e w' ⟨rfl, rfl⟩))
  refine (C.out _).mono ?_
  rintro e w1 ⟨v, rfl, ho, hb⟩
  rw [hlen] at ho
  rcases Li.own_forms ho with ⟨rfl, hz⟩ | ⟨g, cap, rfl⟩
  · obtain rfl : K = 0 := hz
    clear ho
    go_wp2
    go_ret2
    exact ⟨rfl, hb⟩
  · clear ho
    go_wp2
    go_ret2
    exact ⟨rfl, hb⟩
set_option maxRecDepth 100000 in
theorem iDays_yes (p n d : Int) (K : Nat) (hp : 1 ≤ p) (hp2 : p ≤ 2000) (hn : 1 ≤ n) (hnd : n < d) (hd : d ≤ 200) (hK : K ≤ 2000) (h0 : Pa.lf p n d K = 0) (hl : ∀ j, j < K → 0 < Pa.lf p n d j) (w : World) :
    Calls Try.prog 22 #[.int .i64 p, .int .i64 n, .int .i64 d] w (GivesN (K : Int) true w) := by
  have C := Lib.hid (fun W => iParts_yes p n d K hp hp2 hn hnd hd hK h0 hl W)
  have hlen := Pa.li_len p n d K
  clear h0 hl
  go_enter Try.func22, Try.ntmps22
  go_wp2_with fail
  refine (C.out _).mono ?_
  rintro e w1 ⟨v, rfl, ho, hb⟩
  rw [hlen] at ho
  rcases Li.own_forms ho with ⟨rfl, hz⟩ | ⟨g, cap, rfl⟩
  · obtain rfl : K = 0 := hz
    clear ho
    go_wp2
    go_ret2
    exact ⟨rfl, hb⟩
  · clear ho
    go_wp2
    go_ret2
    exact ⟨rfl, hb⟩
set_option maxRecDepth 100000 in
set_option maxHeartbeats 1000000 in
theorem sParts_no (p n d : Int) (h : ¬ 1 ≤ p ∨ ¬ p ≤ 2000 ∨ ¬ 1 ≤ n ∨ ¬ n < d ∨ ¬ d ≤ 200) (w : World) : Calls Try.prog 19 #[.int .i64 p, .int .i64 n, .int .i64 d] w (Li.Gives false [] w) := by
  by_cases c0 : 1 ≤ p
  · skip
    by_cases c1 : p ≤ 2000
    · skip
      by_cases c2 : 2 ≤ d
      · skip
        by_cases c3 : d ≤ 200
        · skip
          by_cases c4 : 1 ≤ n
          · skip
            by_cases c5 : n ≤ d - 1
            · exfalso; omega
            · clear h
              have u5 : decide (n ≤ d - 1) = false := by simp; omega
              have v0 : decide (1 ≤ p) = true := by simp; omega
              have v1 : decide (p ≤ 2000) = true := by simp; omega
              have v2 : decide (2 ≤ d) = true := by simp; omega
              have v3 : decide (d ≤ 200) = true := by simp; omega
              have v4 : decide (1 ≤ n) = true := by simp; omega
              have e5 : wrap64 (d - 1) = d - 1 := IntWalk.wrap64_in _ (by omega)
              clear c0 c1 c2 c3 c4 c5
              go_enter Try.func19, Try.ntmps19
              go_wp2
              go_ret2
              exact Li.Gives.none (Below.refl _ _)
          · clear h
            have u4 : decide (1 ≤ n) = false := by simp; omega
            have v0 : decide (1 ≤ p) = true := by simp; omega
            have v1 : decide (p ≤ 2000) = true := by simp; omega
            have v2 : decide (2 ≤ d) = true := by simp; omega
            have v3 : decide (d ≤ 200) = true := by simp; omega
            clear c0 c1 c2 c3 c4
            go_enter Try.func19, Try.ntmps19
            go_wp2
            go_ret2
            exact Li.Gives.none (Below.refl _ _)
        · clear h
          have u3 : decide (d ≤ 200) = false := by simp; omega
          have v0 : decide (1 ≤ p) = true := by simp; omega
          have v1 : decide (p ≤ 2000) = true := by simp; omega
          have v2 : decide (2 ≤ d) = true := by simp; omega
          clear c0 c1 c2 c3
          go_enter Try.func19, Try.ntmps19
          go_wp2
          go_ret2
          exact Li.Gives.none (Below.refl _ _)
      · clear h
        have u2 : decide (2 ≤ d) = false := by simp; omega
        have v0 : decide (1 ≤ p) = true := by simp; omega
        have v1 : decide (p ≤ 2000) = true := by simp; omega
        clear c0 c1 c2
        go_enter Try.func19, Try.ntmps19
        go_wp2
        go_ret2
        exact Li.Gives.none (Below.refl _ _)
    · clear h
      have u1 : decide (p ≤ 2000) = false := by simp; omega
      have v0 : decide (1 ≤ p) = true := by simp; omega
      clear c0 c1
      go_enter Try.func19, Try.ntmps19
      go_wp2
      go_ret2
      exact Li.Gives.none (Below.refl _ _)
  · clear h
    have u0 : decide (1 ≤ p) = false := by simp; omega
    clear c0
    go_enter Try.func19, Try.ntmps19
    go_wp2
    go_ret2
    exact Li.Gives.none (Below.refl _ _)
set_option maxRecDepth 100000 in
set_option maxHeartbeats 1000000 in
theorem iParts_no (p n d : Int) (h : ¬ 1 ≤ p ∨ ¬ p ≤ 2000 ∨ ¬ 1 ≤ n ∨ ¬ n < d ∨ ¬ d ≤ 200) (w : World) : Calls Try.prog 20 #[.int .i64 p, .int .i64 n, .int .i64 d] w (Li.Gives false [] w) := by
  by_cases c0 : 1 ≤ p
  · skip
    by_cases c1 : p ≤ 2000
    · skip
      by_cases c2 : 1 ≤ n
      · skip
        by_cases c3 : n ≤ 200
        · skip
          by_cases c4 : 1 ≤ d
          · skip
            by_cases c5 : d ≤ 200
            · skip
              by_cases c6 : n < d
              · exfalso; omega
              · clear h
                have u6 : decide (n < d) = false := by simp; omega
                have v0 : decide (1 ≤ p) = true := by simp; omega
                have v1 : decide (p ≤ 2000) = true := by simp; omega
                have v2 : decide (1 ≤ n) = true := by simp; omega
                have v3 : decide (n ≤ 200) = true := by simp; omega
                have v4 : decide (1 ≤ d) = true := by simp; omega
                have v5 : decide (d ≤ 200) = true := by simp; omega
                clear c0 c1 c2 c3 c4 c5 c6
                go_enter Try.func20, Try.ntmps20
                go_wp2
                go_ret2
                exact Li.Gives.none (Below.refl _ _)
            · clear h
              have u5 : decide (d ≤ 200) = false := by simp; omega
              have v0 : decide (1 ≤ p) = true := by simp; omega
              have v1 : decide (p ≤ 2000) = true := by simp; omega
              have v2 : decide (1 ≤ n) = true := by simp; omega
              have v3 : decide (n ≤ 200) = true := by simp; omega
              have v4 : decide (1 ≤ d) = true := by simp; omega
              clear c0 c1 c2 c3 c4 c5
              go_enter Try.func20, Try.ntmps20
              go_wp2
              go_ret2
              exact Li.Gives.none (Below.refl _ _)
          · clear h
            have u4 : decide (1 ≤ d) = false := by simp; omega
            have v0 : decide (1 ≤ p) = true := by simp; omega
            have v1 : decide (p ≤ 2000) = true := by simp; omega
            have v2 : decide (1 ≤ n) = true := by simp; omega
            have v3 : decide (n ≤ 200) = true := by simp; omega
            clear c0 c1 c2 c3 c4
            go_enter Try.func20, Try.ntmps20
            go_wp2
            go_ret2
            exact Li.Gives.none (Below.refl _ _)
        · clear h
          have u3 : decide (n ≤ 200) = false := by simp; omega
          have v0 : decide (1 ≤ p) = true := by simp; omega
          have v1 : decide (p ≤ 2000) = true := by simp; omega
          have v2 : decide (1 ≤ n) = true := by simp; omega
          clear c0 c1 c2 c3
          go_enter Try.func20, Try.ntmps20
          go_wp2
          go_ret2
          exact Li.Gives.none (Below.refl _ _)
      · clear h
        have u2 : decide (1 ≤ n) = false := by simp; omega
        have v0 : decide (1 ≤ p) = true := by simp; omega
        have v1 : decide (p ≤ 2000) = true := by simp; omega
        clear c0 c1 c2
        go_enter Try.func20, Try.ntmps20
        go_wp2
        go_ret2
        exact Li.Gives.none (Below.refl _ _)
    · clear h
      have u1 : decide (p ≤ 2000) = false := by simp; omega
      have v0 : decide (1 ≤ p) = true := by simp; omega
      clear c0 c1
      go_enter Try.func20, Try.ntmps20
      go_wp2
      go_ret2
      exact Li.Gives.none (Below.refl _ _)
  · clear h
    have u0 : decide (1 ≤ p) = false := by simp; omega
    clear c0
    go_enter Try.func20, Try.ntmps20
    go_wp2
    go_ret2
    exact Li.Gives.none (Below.refl _ _)
set_option maxRecDepth 100000 in
set_option maxHeartbeats 1000000 in
theorem sDays_no (p n d : Int) (h : ¬ 1 ≤ p ∨ ¬ p ≤ 2000 ∨ ¬ 1 ≤ n ∨ ¬ n < d ∨ ¬ d ≤ 200) (w : World) : Calls Try.prog 21 #[.int .i64 p, .int .i64 n, .int .i64 d] w (GivesN 0 false w) := by
  by_cases c0 : 1 ≤ p
  · skip
    by_cases c1 : p ≤ 2000
    · skip
      by_cases c2 : 2 ≤ d
      · skip
        by_cases c3 : d ≤ 200
        · skip
          by_cases c4 : 1 ≤ n
          · skip
            by_cases c5 : n ≤ d - 1
            · exfalso; omega
            · clear h
              have u5 : decide (n ≤ d - 1) = false := by simp; omega
              have v0 : decide (1 ≤ p) = true := by simp; omega
              have v1 : decide (p ≤ 2000) = true := by simp; omega
              have v2 : decide (2 ≤ d) = true := by simp; omega
              have v3 : decide (d ≤ 200) = true := by simp; omega
              have v4 : decide (1 ≤ n) = true := by simp; omega
              have e5 : wrap64 (d - 1) = d - 1 := IntWalk.wrap64_in _ (by omega)
              clear c0 c1 c2 c3 c4 c5
              go_enter Try.func21, Try.ntmps21
              go_wp2
              go_ret2
              exact ⟨rfl, Below.refl _ _⟩
          · clear h
            have u4 : decide (1 ≤ n) = false := by simp; omega
            have v0 : decide (1 ≤ p) = true := by simp; omega
            have v1 : decide (p ≤ 2000) = true := by simp; omega
            have v2 : decide (2 ≤ d) = true := by simp; omega
            have v3 : decide (d ≤ 200) = true := by simp; omega
            clear c0 c1 c2 c3 c4
            go_enter Try.func21, Try.ntmps21
            go_wp2
            go_ret2
            exact ⟨rfl, Below.refl _ _⟩
        · clear h
          have u3 : decide (d ≤ 200) = false := by simp; omega
          have v0 : decide (1 ≤ p) = true := by simp; omega
          have v1 : decide (p ≤ 2000) = true := by simp; omega
          have v2 : decide (2 ≤ d) = true := by simp; omega
          clear c0 c1 c2 c3
          go_enter Try.func21, Try.ntmps21
          go_wp2
          go_ret2
          exact ⟨rfl, Below.refl _ _⟩
      · clear h
        have u2 : decide (2 ≤ d) = false := by simp; omega
        have v0 : decide (1 ≤ p) = true := by simp; omega
        have v1 : decide (p ≤ 2000) = true := by simp; omega
        clear c0 c1 c2
        go_enter Try.func21, Try.ntmps21
        go_wp2
        go_ret2
        exact ⟨rfl, Below.refl _ _⟩
    · clear h
      have u1 : decide (p ≤ 2000) = false := by simp; omega
      have v0 : decide (1 ≤ p) = true := by simp; omega
      clear c0 c1
      go_enter Try.func21, Try.ntmps21
      go_wp2
      go_ret2
      exact ⟨rfl, Below.refl _ _⟩
  · clear h
    have u0 : decide (1 ≤ p) = false := by simp; omega
    clear c0
    go_enter Try.func21, Try.ntmps21
    go_wp2
    go_ret2
    exact ⟨rfl, Below.refl _ _⟩
set_option maxRecDepth 100000 in
theorem iDays_no (p n d : Int) (h : ¬ 1 ≤ p ∨ ¬ p ≤ 2000 ∨ ¬ 1 ≤ n ∨ ¬ n < d ∨ ¬ d ≤ 200) (w : World) :
    Calls Try.prog 22 #[.int .i64 p, .int .i64 n, .int .i64 d] w (GivesN 0 false w) := by
  have C := Lib.hid (fun W => iParts_no p n d h W)
  clear h
  go_enter Try.func22, Try.ntmps22
  go_wp2_with fail
  refine (C.out _).mono ?_
  rintro e w1 ⟨v, rfl, ho, hb⟩
  rcases Li.own_forms ho with ⟨rfl, hz⟩ | ⟨g, cap, rfl⟩
  · clear ho
    go_wp2
    go_ret2
    exact ⟨rfl, hb⟩
  · clear ho
    go_wp2
    go_ret2
    exact ⟨rfl, hb⟩
end Ls
end Go.Proofs.Ythjhnpomnjkclaa
