/- The cost of lines: both sides. -/
import Derived.Test.YtdpblijmagcgiaaPe0
namespace Go.Proofs.Ytdpblijmagcgiaa
open Go.RowKit Go.Joins Go.Deep Go.ChangeShapes Go.WideShapes
set_option linter.unusedVariables false
set_option linter.unusedSimpArgs false
namespace Ln
/-- the squares of the first k rests -/
def sqs (us : List Int) (wide : Int) : Nat → Int
  | 0 => 0
  | k + 1 => sqs us wide k + (wide - us.getD k 0) * (wide - us.getD k 0)
theorem sqs_step (us : List Int) (wide : Int) (k : Nat) : sqs us wide (k + 1) = sqs us wide k + (wide - us.getD k 0) * (wide - us.getD k 0) := rfl
theorem sq_bd {d : Int} (h0 : 0 ≤ d) (h1 : d ≤ 80) : 0 ≤ d * d ∧ d * d ≤ 6400 := by
  refine ⟨Int.mul_nonneg h0 h0, ?_⟩
  have := Int.mul_le_mul h1 h1 h0 (by omega)
  omega
theorem sqs_bd {us : List Int} {wide : Int} (hw : wide ≤ 80) (h : ∀ k, k < us.length → 1 ≤ us.getD k 0 ∧ us.getD k 0 ≤ wide) (k : Nat) (hk : k ≤ us.length) : 0 ≤ sqs us wide k ∧ sqs us wide k ≤ 6400 * (k : Int) := by
  induction k with
  | zero => simp [sqs]
  | succ k ih =>
    have h1 := ih (by omega)
    have h2 := h k (by omega)
    have h3 := sq_bd (d := wide - us.getD k 0) (by omega) (by omega)
    rw [sqs_step]
    omega
def rgB (zs ls : List Int) (wide : Int) : Bool := (lines zs ls && wideB wide) && allB (usd zs ls ls.length) 1 wide
def rgN (zs ls : List Int) (wide : Int) : Int := if rgB zs ls wide = true then sqs (usd zs ls ls.length) wide (ls.length - 1) else 0
theorem usd_pos {zs ls : List Int} (h : lines zs ls = true) (k : Nat) (hk : k < ls.length) : 1 ≤ (usd zs ls ls.length).getD k 0 ∧ (usd zs ls ls.length).getD k 0 ≤ 2430 := by
  rw [usd_at zs ls _ k hk]
  have ho := lines_ok h
  have h1 := part_sum h k (by omega)
  have h2 := part_sum h (k + 1) (by omega)
  have h3 := ho.2.2.1 k hk
  have h4 := psum_step ls k
  have h5 := ho.1.2.1
  obtain ⟨A, hA⟩ := Int.eq_ofNat_of_zero_le (show 0 ≤ psum ls k by omega)
  obtain ⟨B, hB⟩ := Int.eq_ofNat_of_zero_le (show 0 ≤ psum ls (k + 1) by omega)
  rw [hA, hB, Int.toNat_natCast, Int.toNat_natCast]
  have h6 := psum_ok ho.1 A B (by omega) (by omega)
  have h7 : (B : Int) - A ≤ psum zs B - psum zs A := by
    have := (psum_bd ho.1.2.2 A (B - A) (by omega)).1
    rw [show A + (B - A) = B by omega] at this
    omega
  unfold need
  omega
theorem lines_one {zs ls : List Int} (h : lines zs ls = true) : 1 ≤ ls.length := by
  have ho := lines_ok h
  have := ho.1.1
  cases hl : ls.length with
  | zero => have h2 := ho.2.2.2; rw [hl] at h2; simp [psum] at h2; omega
  | succ n => omega
/-- not all fit: one does not -/
theorem allB_no {us : List Int} {wide : Int} (h : allB us 1 wide = false) (h1 : ∀ k, k < us.length → 1 ≤ us.getD k 0) : ¬ ∀ k, k < us.length → us.getD k 0 ≤ wide := by
  intro h2
  rw [(allB_iff us 1 wide).2 fun k hk => ⟨h1 k hk, h2 k hk⟩] at h
  cases h
theorem raggedCost_any (r b D : Int) (hD : r * r = D) (h0 : 0 ≤ D) (h1 : D ≤ 1000000) (hb0 : 0 ≤ b) (hb1 : b ≤ 1000000000) (w : World) :
    Calls Try.prog 56 #[.int .i64 r, .int .i64 b] w fun e w' => e = .returned (.int .i64 (D + b)) ∧ w = w' := by
  go_enter Try.func56, Try.ntmps56
  go_wp2
  go_ret
  exact ⟨rfl, rfl⟩
theorem rcl_any (u wide : Int) (b0 : Nat) (hu0 : 0 ≤ u) (hu : u ≤ wide) (hw : wide ≤ 80) (w : World) (hc : w.cell? ⟨b0, 0, none⟩ = some (.int .i64 wide)) :
    Calls Try.prog 55 #[.int .i64 u, .pointer (some ⟨b0, 0, none⟩)] w fun e w' => e = .returned (.int .i64 ((wide - u) * (wide - u))) ∧ w = w' := by
  obtain ⟨D, hD⟩ : ∃ D, (wide - u) * (wide - u) = D := ⟨_, rfl⟩
  have hb := sq_bd (d := wide - u) (by omega) (by omega)
  rw [hD] at hb
  have C := Lib.hid (raggedCost_any (wide - u) 0 D hD hb.1 (by omega) (by omega) (by omega) w)
  rw [hD]
  have b1 := hb.1
  have b2 := hb.2
  clear hD hb
  go_enter Try.func55, Try.ntmps55
  go_wp2_with fail
  refine C.out.mono ?_
  rintro e w' ⟨rfl, rfl⟩
  go_wp2
  go_ret
  exact ⟨rfl, rfl⟩
set_option maxRecDepth 100000 in
set_option maxHeartbeats 1000000 in
theorem rsum_any {b1 g len cap n b0 : Nat} {us : List Int} {wide : Int} {w : World} (h : Ow w b1 g len cap us) (hn : n ≤ len) (h30 : len ≤ 30) (hw : wide ≤ 80) (hall : ∀ k, k < us.length → 1 ≤ us.getD k 0 ∧ us.getD k 0 ≤ wide) (hc : w.cell? ⟨b0, 0, none⟩ = some (.int .i64 wide)) :
    Calls Try.prog 54 #[.slice (some ⟨g, 0, none⟩) n cap, .func (.func 55) #[] #[.pointer (some ⟨b0, 0, none⟩)]] w fun e w' => e = .returned (.int .i64 (sqs us wide n)) ∧ w = w' := by
  have HO := Lib.hid h
  have HC := Lib.hid hc
  have HZ := Lib.hid (ow_len h)
  have HA := Lib.hid hall
  have HB := Lib.hid (fun k (hk : k ≤ us.length) => sqs_bd hw hall k hk)
  have eg : ∀ args w, (callFunc 55 args).run Try.prog w = .ok (.enter 55 args) w := enters_of Try.func55 (by kernel_rfl) rfl
  clear h hall hc
  go_enter Try.func54, Try.ntmps54
  go_wp2
  go_loop [5, 10] (fun s i => ∃ (k : Nat) (S : Int), k ≤ n ∧ i = .int .i64 (k : Int) ∧ s = .int .i64 S ∧ Hid (S = sqs us wide k)) (fun _ i => ((n : Int) - intOf i).toNat)
  case atStart => exact ⟨0, 0, by omega, rfl, rfl, Lib.hid rfl⟩
  case round =>
    obtain ⟨k, S, hk, rfl, rfl, HE⟩ := hrel
    have b := HB.out k (by rw [HZ.out]; omega)
    rw [← HE.out] at b
    have s1 : 0 ≤ S := b.1
    have s2 : S ≤ 192000 := by have := b.2; omega
    clear b
    by_cases hlt : (k : Int) < n
    · obtain ⟨z, HZK, hcz⟩ := ow_at HO.out (k := k) (by omega)
      have hz := HA.out k (by rw [HZ.out]; omega)
      rw [HZK.out] at hz
      have C := Lib.hid (rcl_any z wide b0 (by omega) (by omega) hw w HC.out)
      have hq := sq_bd (d := wide - z) (by omega) (by omega)
      have HN := Lib.hid (sqs_step us wide k)
      rw [HZK.out, ← HE.out] at HN
      obtain ⟨D, hD⟩ : ∃ D, (wide - z) * (wide - z) = D := ⟨_, rfl⟩
      rw [hD] at C hq HN
      have q1 := hq.1
      have q2 := hq.2
      clear hz hD hq
      go_wp2_with fail
      refine C.out.mono ?_
      rintro e w' ⟨rfl, rfl⟩
      go_wp2
      go_round
      case rel => exact ⟨k + 1, S + D, by omega, by go_num, by first | rfl | go_num, Lib.hid HN.out.symm⟩
      case measure => simp [intOf]; omega
    · have HF := Lib.hid (show sqs us wide n = S by rw [HE.out, show k = n by omega])
      go_wp2
      go_ret
      exact ⟨ret_n HF.out.symm, rfl⟩
theorem max_fix {b1 g len cap : Nat} {zs : List Int} {w : World} (h : Ow w b1 g len cap zs) (hl : len ≤ 1048576) (h1 : 1 ≤ len) (m : Int) (hm : Greatest zs len m) :
    Calls Try.prog 53 #[.slice (some ⟨g, 0, none⟩) len cap] w fun e w' => e = .returned (.int .i64 m) ∧ w = w' :=
  (max_any h hl h1).mono fun e w' ⟨⟨m', he, hm'⟩, hw⟩ => ⟨by
    obtain ⟨⟨j, hj, ej⟩, a⟩ := hm
    obtain ⟨⟨i, hi, ei⟩, b⟩ := hm'
    have q1 := a i hi
    have q2 := b j hj
    rw [he, show m' = m by omega], hw⟩
theorem greatest_is (zs : List Int) : ∀ n, 1 ≤ n → ∃ m, Greatest zs n m := by
  intro n
  induction n with
  | zero => intro h; omega
  | succ n ih =>
    intro _
    by_cases h : n = 0
    · subst h; exact ⟨_, greatest_one zs⟩
    · obtain ⟨m, hm⟩ := ih (by omega)
      exact ⟨_, greatest_more hm rfl⟩
set_option maxRecDepth 100000 in
set_option maxHeartbeats 4000000 in
theorem iRagged {b1 b2 g g' len len' cap cap' : Nat} {zs ls : List Int} {wide : Int} {w : World} (h : Ow w b1 g len cap zs) (h' : Ow w b2 g' len' cap' ls) (hl : len ≤ 1048576) (hl' : len' ≤ 1048576) :
    Calls Try.prog 26 #[.slice (some ⟨g, 0, none⟩) len cap, .int .i64 wide, .slice (some ⟨g', 0, none⟩) len' cap'] w (Ret (.tuple #[.int .i64 (rgN zs ls wide), .bool (rgB zs ls wide)]) w) := by
  have hz' := ow_len h'
  have C1 := Lib.hid (iUsed (h.alloc (.cells #[.int .i64 wide] 3)) (h'.alloc (.cells #[.int .i64 wide] 3)) hl hl')
  obtain ⟨x1, hx1⟩ : ∃ x, lines zs ls = x := ⟨_, rfl⟩
  rw [hx1] at C1
  have hsz : w.heap.size < (w.alloc (.cells #[.int .i64 wide] 3)).heap.size := by simp
  cases x1
  · have hv : rgB zs ls wide = false := by unfold rgB; rw [hx1]; rfl
    have HN := Lib.hid (show (0 : Int) = rgN zs ls wide by unfold rgN; rw [hv]; rfl)
    rw [hv]
    clear h h' hv hx1
    go_enter Try.func26, Try.ntmps26
    go_wp2_with fail
    refine C1.out.mono ?_
    rintro e w1 ⟨v, rfl, ho, hb⟩
    have HB := Lib.hid ((below_alloc1 w _).trans (below_le hb (by simp)))
    obtain ⟨a, cp, rfl⟩ := own_val ho
    clear ho
    go_wp2
    go_quiet (fail)
    go_wp2
    go_ret2
    exact ⟨rnb HN.out, Li.below_draws HB.out _⟩
  · have hus : usZ zs ls = usd zs ls len' := by unfold usZ; rw [hx1, hz']; rfl
    have hul := usd_len zs ls len'
    have hpos := usd_pos hx1
    have hone := lines_one hx1
    rw [hz'] at hpos hone
    have h30 : len' ≤ 30 := by have := (lines_ok hx1).2.1; have := (lines_ok hx1).1.2.1; omega
    obtain ⟨x2, hx2⟩ : ∃ x, wideB wide = x := ⟨_, rfl⟩
    have C2 := Lib.hid (fun W => isWide_any wide x2 hx2 W)
    have hrb : rgB zs ls wide = (x2 && allB (usd zs ls len') 1 wide) := by unfold rgB; rw [hx1, hx2, hz']; rfl
    have hrn : rgN zs ls wide = if rgB zs ls wide = true then sqs (usd zs ls len') wide (len' - 1) else 0 := by unfold rgN; rw [hz']
    rw [hus] at C1
    obtain ⟨us, hue⟩ : ∃ us, usd zs ls len' = us := ⟨_, rfl⟩
    rw [hue] at C1 hul hpos hrb hrn
    clear hus hue hx1 h h'
    obtain ⟨m, hm⟩ := greatest_is us len' hone
    cases x2
    · rw [hrb] at hrn ⊢
      have HN := Lib.hid (show (0 : Int) = rgN zs ls wide by rw [hrn]; rfl)
      simp only [Bool.false_and]
      clear hrb hrn hx2 hm hpos
      go_enter Try.func26, Try.ntmps26
      go_wp2_with fail
      refine C1.out.mono ?_
      rintro e w1 ⟨v, rfl, ho, hb⟩
      have HB := Lib.hid ((below_alloc1 w _).trans (below_le hb (by simp)))
      have hbx : w1.cell? ⟨w.heap.size, 0, none⟩ = some (.int .i64 wide) := (hb.cell (p := ⟨w.heap.size, 0, none⟩) hsz).trans (cell_one_new _ _ _ 0 _ rfl)
      obtain ⟨a, cp, rfl⟩ := own_val ho
      clear ho hb
      go_wp2
      go_quiet ((go_at_call 52; exact Calls.quiet_of_same ((C2.out _).mono fun _ _ ⟨h1, h2⟩ => ⟨h1, h2.symm⟩)))
      go_wp2
      go_ret2
      exact ⟨rnb HN.out, Li.below_draws HB.out _⟩
    · obtain ⟨x3, hx3⟩ : ∃ x, allB us 1 wide = x := ⟨_, rfl⟩
      rw [hx3] at hrb
      have hw : wide ≤ 80 := by unfold wideB at hx2; simp at hx2; omega
      cases x3
      · have hmw : wide < m := by
          have hno := allB_no hx3 (fun k hk => (hpos k (by omega)).1)
          rw [hul] at hno
          apply Classical.byContradiction
          intro hc
          exact hno fun k hk => by have := hm.2 k hk; omega
        rw [hrb] at hrn ⊢
        have HN := Lib.hid (show (0 : Int) = rgN zs ls wide by rw [hrn]; rfl)
        have HM := Lib.hid hm
        simp only [Bool.and_false]
        clear hrb hrn hx2 hm hpos hx3
        go_enter Try.func26, Try.ntmps26
        go_wp2_with fail
        refine C1.out.mono ?_
        rintro e w1 ⟨v, rfl, ho, hb⟩
        have HB := Lib.hid ((below_alloc1 w _).trans (below_le hb (by simp)))
        have hbx : w1.cell? ⟨w.heap.size, 0, none⟩ = some (.int .i64 wide) := (hb.cell (p := ⟨w.heap.size, 0, none⟩) hsz).trans (cell_one_new _ _ _ 0 _ rfl)
        rw [hul] at ho
        obtain ⟨gq, cp, rfl⟩ : ∃ gq cp, v = .slice (some ⟨gq, 0, none⟩) len' cp := by
          rcases Li.own_forms ho with ⟨_, h0⟩ | h1
          · omega
          · exact h1
        have CM := Lib.hid (fun W (hW : Below w1.heap.size w1 W) => max_fix (Li.own_on ho hW) (by omega) hone m HM.out)
        clear ho hb
        go_wp2
        go_quiet (first | (go_at_call 52; exact Calls.quiet_of_same ((C2.out _).mono fun _ _ ⟨h1, h2⟩ => ⟨h1, h2.symm⟩)) | (go_at_call 53; exact Calls.quiet_of_same ((CM.out _ (by first | exact Below.refl _ _ | exact Li.below_draws (Below.refl _ _) _)).mono fun _ _ ⟨h1, h2⟩ => ⟨h1, h2.symm⟩)))
        go_wp2
        go_ret2
        exact ⟨rnb HN.out, Li.below_draws HB.out _⟩
      · have hfit := (allB_iff us 1 wide).1 hx3
        have hmw : ¬ wide < m := by
          obtain ⟨⟨k, hk, he⟩, _⟩ := hm
          have := (hfit k (by omega)).2
          omega
        have t1 : decide (wide < m) = false := decide_eq_false hmw
        rw [hrb] at hrn ⊢
        have HN := Lib.hid (show sqs us wide (len' - 1) = rgN zs ls wide by rw [hrn]; rfl)
        have HM := Lib.hid hm
        have HF := Lib.hid hfit
        simp only [Bool.and_true]
        clear hrb hrn hx2 hm hpos hx3 hfit hmw
        obtain ⟨p, rfl⟩ : ∃ p, len' = p + 1 := ⟨len' - 1, by omega⟩
        rw [Nat.add_sub_cancel] at HN
        go_enter Try.func26, Try.ntmps26
        go_wp2_with fail
        refine C1.out.mono ?_
        rintro e w1 ⟨v, rfl, ho, hb⟩
        have HB := Lib.hid ((below_alloc1 w _).trans (below_le hb (by simp)))
        have hbx : w1.cell? ⟨w.heap.size, 0, none⟩ = some (.int .i64 wide) := (hb.cell (p := ⟨w.heap.size, 0, none⟩) hsz).trans (cell_one_new _ _ _ 0 _ rfl)
        rw [hul] at ho
        obtain ⟨gq, cp, rfl⟩ : ∃ gq cp, v = .slice (some ⟨gq, 0, none⟩) (p + 1) cp := by
          rcases Li.own_forms ho with ⟨_, h0⟩ | h1
          · omega
          · exact h1
        have CM := Lib.hid (fun W (hW : Below w1.heap.size w1 W) => max_fix (Li.own_on ho hW) (by omega) hone m HM.out)
        have CS := Lib.hid (fun W (hW : Below w1.heap.size w1 W) (hq : W.cell? ⟨w.heap.size, 0, none⟩ = some (.int .i64 wide)) => rsum_any (n := p) (Li.own_on ho hW) (by omega) h30 hw HF.out hq)
        have hcp := (ow_cap ho).1
        have r1 := to_run gq 0 (p + 1) cp p (by omega)
        have r2 : ((p + 1 : Nat) : Int) - 1 = (p : Int) := by omega
        clear ho hb
        go_wp2
        go_quiet (first | (go_at_call 52; exact Calls.quiet_of_same ((C2.out _).mono fun _ _ ⟨h1, h2⟩ => ⟨h1, h2.symm⟩)) | (go_at_call 53; exact Calls.quiet_of_same ((CM.out _ (by first | exact Below.refl _ _ | exact Li.below_draws (Below.refl _ _) _)).mono fun _ _ ⟨h1, h2⟩ => ⟨h1, h2.symm⟩)))
        go_wp2_with fail
        refine (CS.out _ (Li.below_draws (Below.refl _ _) _) (by first | exact hbx | simpa using hbx)).mono ?_
        rintro e w' ⟨rfl, rfl⟩
        go_wp2
        go_ret2
        exact ⟨rnb HN.out, Li.below_draws HB.out _⟩
end Ln
end Go.Proofs.Ytdpblijmagcgiaa
