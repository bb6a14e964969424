/- The smallest book that a torn leaf and what is left of its sum tell: what spec.TornFromSum and impl.TornFromSum answer, each by its own loop, for sums of 1 to 4000000; and that it is one answer. -/
import Derived.Test.YtnaikhfhimijdabWalks
namespace Go.Proofs.Ytnaikhfhimijdab
open Go.RowKit
/-- no book of fewer than k pages fits -/
def Less (s k : Int) : Prop := ∀ q : Int, 1 ≤ q → q < k → M.torn q (M.tri q - s) = 0
theorem less_two (s : Int) : Less s 2 := by
  intro q h1 h2
  obtain rfl : q = 1 := by omega
  exact M.torn_one _
theorem less_one (s : Int) : Less s 1 := by
  intro q h1 h2
  omega
theorem less_succ {s k : Int} (h : Less s k) (hk : M.torn k (M.tri k - s) = 0) : Less s (k + 1) := by
  intro q h1 h2
  by_cases e : q = k
  · rw [e]; exact hk
  · exact h q h1 (by omega)
theorem far_all {s k : Int} (h0 : 1 ≤ k) (h : 2 * k < M.tri k - s) (n : Nat) : 2 * (k + n) < M.tri (k + n) - s := by
  induction n with
  | zero => simpa using h
  | succ n ih =>
    have e : k + ((n + 1 : Nat) : Int) = (k + n) + 1 := by omega
    rw [e, M.tri_succ]
    omega
theorem less_far {s k : Int} (h0 : 1 ≤ k) (h : 2 * k < M.tri k - s) (hl : Less s k) : Less s 2001 := by
  intro q h1 h2
  by_cases e : q < k
  · exact hl q h1 e
  · obtain ⟨n, hn⟩ := Int.eq_ofNat_of_zero_le (show 0 ≤ q - k by omega)
    have hq : q = k + n := by omega
    rw [hq]
    exact M.torn_far _ _ (far_all h0 h n)
def Res (s b t : Int) (ok : Bool) : Prop := (ok = true ∧ 1 ≤ b ∧ b ≤ 2000 ∧ t = M.torn b (M.tri b - s) ∧ 0 < t ∧ Less s b) ∨ (ok = false ∧ b = 0 ∧ t = 0 ∧ Less s 2001)
theorem res_one {s b t b' t' : Int} {ok ok' : Bool} (h : Res s b t ok) (h' : Res s b' t' ok') : b = b' ∧ t = t' ∧ ok = ok' := by
  rcases h with ⟨h1, h2, h3, h4, h5, h6⟩ | ⟨h1, h2, h3, h4⟩ <;> rcases h' with ⟨g1, g2, g3, g4, g5, g6⟩ | ⟨g1, g2, g3, g4⟩
  · have e : b = b' := by
      by_cases c : b < b'
      · have := g6 b h2 c; omega
      · by_cases c' : b' < b
        · have := h6 b' g2 c'; omega
        · omega
    subst e
    exact ⟨rfl, by rw [h4, g4], by rw [h1, g1]⟩
  · have := g4 b h2 (by omega); omega
  · have := h4 b' g2 (by omega); omega
  · exact ⟨by rw [h2, g2], by rw [h3, g3], by rw [h1, g1]⟩
def Found (s : Int) (e : Ending) : Prop := ∃ (b t : Int) (ok : Bool), Res s b t ok ∧ e = .returned (.tuple #[.int .i64 b, .int .i64 t, .bool ok])
theorem found_yes {s k : Int} (h1 : 1 ≤ k) (h2 : k ≤ 2000) (hp : 0 < M.torn k (M.tri k - s)) (hl : Less s k) : Found s (.returned (.tuple #[.int .i64 k, .int .i64 (M.torn k (M.tri k - s)), .bool true])) :=
  ⟨k, _, true, Or.inl ⟨rfl, h1, h2, rfl, hp, hl⟩, rfl⟩
theorem found_also {s k : Int} {c : Bool} (h1 : 1 ≤ k) (h2 : k ≤ 2000) (hp : 0 < M.torn k (M.tri k - s)) (hl : Less s k) (hc : c = true) : Found s (.returned (.tuple #[.int .i64 k, .int .i64 (M.torn k (M.tri k - s)), .bool c])) := by
  rw [hc]; exact found_yes h1 h2 hp hl
theorem found_no {s : Int} (hl : Less s 2001) : Found s (.returned (.tuple #[.int .i64 0, .int .i64 0, .bool false])) :=
  ⟨0, 0, false, Or.inr ⟨rfl, rfl, rfl, hl⟩, rfl⟩

set_option maxHeartbeats 400000 in
theorem spec_found (s : Int) (h1 : 1 ≤ s) (h2 : s ≤ 4000000) (w : World) :
    Calls Try.prog 19 #[.int .i64 s] w fun e w' => Found s e ∧ w = w' := by
  go_enter Try.func19, Try.ntmps19
  go_wp2
  go_loop [2, 3, 4, 5] (fun a b c q => a = .int .i64 0 ∧ b = .int .i64 0 ∧ c = .bool false ∧ ∃ k : Nat, 2 ≤ k ∧ k ≤ 2001 ∧ q = .int .i64 (k : Int) ∧ Less s k) (fun _ _ _ q => (2001 - intOf q).toNat)
  case atStart => exact ⟨rfl, rfl, rfl, 2, by omega, by omega, rfl, less_two s⟩
  case round =>
    obtain ⟨rfl, rfl, rfl, k, hk1, hk2, rfl, hl⟩ := hrel
    by_cases hlt : (k : Int) ≤ 2000
    · obtain ⟨b1, b2⟩ := M.tri_bd k (by omega) hlt
      by_cases hp : 0 < M.torn k (M.tri k - s)
      · have HP := Lib.hid hp
        go_wp2_with (first | (go_at_call 32; refine (bpSum_any _ (by omega) (by omega) _).mono ?_; rintro e w' ⟨rfl, rfl⟩) | (go_at_call 39; refine (bpTorn_any _ _ (by omega) (by omega) (by omega) (by omega) _).mono ?_; rintro e w' ⟨rfl, rfl⟩) | go_in)
        go_ret3
        exact ⟨found_yes (by omega) (by omega) HP.out hl, rfl⟩
      · have hz : M.torn k (M.tri k - s) = 0 := by have := M.torn_bd k (M.tri k - s) (by omega); omega
        have HZ := Lib.hid hz
        clear hz
        go_wp2_with (first | (go_at_call 32; refine (bpSum_any _ (by omega) (by omega) _).mono ?_; rintro e w' ⟨rfl, rfl⟩) | (go_at_call 39; refine (bpTorn_any _ _ (by omega) (by omega) (by omega) (by omega) _).mono ?_; rintro e w' ⟨rfl, rfl⟩) | go_in)
        go_round
        case rel =>
          refine ⟨trivial, ?_⟩
          repeat apply Exists.intro
          exact ⟨⟨rfl, rfl, rfl, k + 1, by omega, by omega, by go_num, by simpa using less_succ hl HZ.out⟩, rfl⟩
        case measure => simp [intOf]; omega
    · have e : (k : Int) = 2001 := by omega
      have hl' : Less s 2001 := by rw [← e]; exact hl
      clear e
      go_wp2
      go_ret3
      exact ⟨found_no hl', rfl⟩

set_option maxHeartbeats 400000 in
theorem impl_found (s : Int) (h1 : 1 ≤ s) (h2 : s ≤ 4000000) (w : World) :
    Calls Try.prog 20 #[.int .i64 s] w fun e w' => Found s e ∧ w = w' := by
  have d1 : ¬ s < 1 := by omega
  have d2 : ¬ 4000000 < s := by omega
  go_enter Try.func20, Try.ntmps20
  go_wp2
  go_step3
  go_wp2
  go_step3
  go_wp2
  go_loop [5, 6, 7] (fun b t q => b = .int .i64 0 ∧ t = .int .i64 0 ∧ ∃ k : Nat, 1 ≤ k ∧ k ≤ 2001 ∧ q = .int .i64 (k : Int) ∧ Less s k) (fun _ _ q => (2001 - intOf q).toNat)
  case atStart => exact ⟨rfl, rfl, 1, by omega, by omega, rfl, less_one s⟩
  case round =>
    obtain ⟨rfl, rfl, k, hk1, hk2, rfl, hl⟩ := hrel
    by_cases hlt : (k : Int) ≤ 2000
    · obtain ⟨b1, b2⟩ := M.tri_bd k (by omega) hlt
      rcases M.torn_cases k (M.tri k - s) with hz | ⟨t1, t2, t3⟩
      · have HZ := Lib.hid hz
        clear hz
        by_cases hf : 2 * (k : Int) < M.tri k - s
        · have HL := less_far (by omega) hf hl
          go_wp2_with (first | (go_at_call 34; refine (sumUpTo_any _ (by omega) (by omega) _).mono ?_; rintro e w' ⟨rfl, rfl⟩) | (go_at_call 40; refine (leafWithSum_no _ _ (by omega) (by omega) (by omega) (by omega) HZ.out _).mono ?_; rintro e w' ⟨rfl, rfl⟩) | go_in)
          try rw [Exit.noGoto_ret]
          go_ret3
          exact ⟨found_no HL, rfl⟩
        · go_wp2_with (first | (go_at_call 34; refine (sumUpTo_any _ (by omega) (by omega) _).mono ?_; rintro e w' ⟨rfl, rfl⟩) | (go_at_call 40; refine (leafWithSum_no _ _ (by omega) (by omega) (by omega) (by omega) HZ.out _).mono ?_; rintro e w' ⟨rfl, rfl⟩) | go_in)
          go_round
          case rel => exact ⟨rfl, rfl, k + 1, by omega, by omega, by go_num, by simpa using less_succ hl HZ.out⟩
          case measure => simp [intOf]; omega
      · have hp : 0 < M.torn k (M.tri k - s) := by rw [M.torn_yes t1 t2 t3]; omega
        have HP := Lib.hid hp
        go_wp2_with (first | (go_at_call 34; refine (sumUpTo_any _ (by omega) (by omega) _).mono ?_; rintro e w' ⟨rfl, rfl⟩) | (go_at_call 40; refine (leafWithSum_yes _ _ (by omega) (by omega) (by omega) (by omega) (by omega) (by omega) _).mono ?_; rintro e w' ⟨rfl, rfl⟩) | go_in)
        try rw [Exit.noGoto_ret]
        go_ret3
        exact ⟨found_also (by omega) (by omega) HP.out hl (by simp; omega), rfl⟩
    · have e : (k : Int) = 2001 := by omega
      have hl' : Less s 2001 := by rw [← e]; exact hl
      clear e
      go_wp2
      try rw [Exit.noGoto_ret]
      go_ret3
      exact ⟨found_no hl', rfl⟩
end Go.Proofs.Ytnaikhfhimijdab
