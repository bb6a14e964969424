/- FnExactCanBeTorn is proved: spec.CanBeTorn and impl.CanBeTorn answer alike for all two integers. No condition: for every input that the parameter types allow. -/
import Derived.Test.YtnaikhfhimijdabRows
import Derived.WalkKit
import Derived.ProofKit
import Derived.OpenShut
import Derived.Lib.Hide
namespace Go.Proofs.Ytnaikhfhimijdab.fnExactCanBeTorn
open Go.ChangeShapes Go.WideShapes Go.ChangeAt Go.RowKit
set_option linter.unusedVariables false

theorem own : ownKnob Try.prog.godebug = none := by kernel_rfl

def canB (lo hi s : Int) : Bool := decide (lo ≤ s ∧ s ≤ hi ∧ (s - lo) % 4 = 0)
theorem canB_yes {lo hi s : Int} (h : lo ≤ s ∧ s ≤ hi ∧ (s - lo) % 4 = 0) : canB lo hi s = true := by unfold canB; exact decide_eq_true h
theorem canB_no {lo hi s : Int} (h : ¬ (lo ≤ s ∧ s ≤ hi ∧ (s - lo) % 4 = 0)) : canB lo hi s = false := by unfold canB; exact decide_eq_false h
theorem ret_bb {a b c : Bool} (h : a = b) : Ending.returned (.tuple #[.bool a, .bool c]) = .returned (.tuple #[.bool b, .bool c]) := by rw [h]
theorem i_can1 (s : Int) (h1 : 0 ≤ s) (h2 : s ≤ 4000000) (w : World) :
    Calls Try.prog 26 #[.int .i64 s, .int .i64 1] w fun e w' => e = .returned (.tuple #[.bool (canB 3 3999 s), .bool true]) ∧ w = w' := by
  go_enter Try.func26, Try.ntmps26
  go_wp2
  go_loop [6, 7, 24] (fun b g k => (k = .int .i64 0 ∧ b = .int .i64 0 ∧ g = .int .i64 0) ∨ (k = .int .i64 1 ∧ b = .int .i64 3 ∧ g = .int .i64 3999)) (fun _ _ k => (1 - intOf k).toNat)
  case atStart => exact Or.inl ⟨rfl, rfl, rfl⟩
  case round =>
    rcases hrel with ⟨rfl, rfl, rfl⟩ | ⟨rfl, rfl, rfl⟩
    · go_wp2
      go_round
      case rel => exact Or.inr (⟨rfl, rfl, rfl⟩)
      case measure => simp [intOf]
    · by_cases c1 : 3 ≤ s
      · by_cases c2 : s ≤ 3999
        · by_cases c3 : (s - 3) % 4 = 0
          · have HB := Lib.hid (canB_yes (lo := 3) (hi := 3999) (s := s) (by omega))
            go_wp2
            go_ret2
            exact ⟨ret_bb HB.out.symm, rfl⟩
          · have HB := Lib.hid (canB_no (lo := 3) (hi := 3999) (s := s) (by omega))
            have hd : ((s - 3) % 4 == 0) = false := by simp; exact c3
            clear c3
            go_wp2
            go_ret2
            exact ⟨ret_bb HB.out.symm, rfl⟩
        · have HB := Lib.hid (canB_no (lo := 3) (hi := 3999) (s := s) (by omega))
          go_wp2
          go_ret2
          exact ⟨ret_bb HB.out.symm, rfl⟩
      · have HB := Lib.hid (canB_no (lo := 3) (hi := 3999) (s := s) (by omega))
        go_wp2
        go_ret2
        exact ⟨ret_bb HB.out.symm, rfl⟩
theorem s_can1 (s : Int) (h1 : 0 ≤ s) (h2 : s ≤ 4000000) (w : World) :
    Calls Try.prog 25 #[.int .i64 s, .int .i64 1] w fun e w' => e = .returned (.tuple #[.bool (canB 3 3999 s), .bool true]) ∧ w = w' := by
  by_cases c3 : (s + 1) % 4 = 0
  · by_cases c1 : 1 ≤ (s + 1) / 4
    · by_cases c2 : (s + 1) / 4 ≤ 1000
      · have HB := Lib.hid (canB_yes (lo := 3) (hi := 3999) (s := s) (by omega))
        go_enter Try.func25, Try.ntmps25
        go_wp2
        go_ret2
        exact ⟨ret_bb HB.out.symm, rfl⟩
      · have HB := Lib.hid (canB_no (lo := 3) (hi := 3999) (s := s) (by omega))
        go_enter Try.func25, Try.ntmps25
        go_wp2
        go_ret2
        exact ⟨ret_bb HB.out.symm, rfl⟩
    · exfalso; omega
  · have HB := Lib.hid (canB_no (lo := 3) (hi := 3999) (s := s) (by omega))
    go_enter Try.func25, Try.ntmps25
    go_wp2
    go_ret2
    exact ⟨ret_bb HB.out.symm, rfl⟩
theorem i_can2 (s : Int) (h1 : 0 ≤ s) (h2 : s ≤ 4000000) (w : World) :
    Calls Try.prog 26 #[.int .i64 s, .int .i64 2] w fun e w' => e = .returned (.tuple #[.bool (canB 10 7994 s), .bool true]) ∧ w = w' := by
  go_enter Try.func26, Try.ntmps26
  go_wp2
  go_loop [6, 7, 24] (fun b g k => (k = .int .i64 0 ∧ b = .int .i64 0 ∧ g = .int .i64 0) ∨ (k = .int .i64 1 ∧ b = .int .i64 3 ∧ g = .int .i64 3999) ∨ (k = .int .i64 2 ∧ b = .int .i64 10 ∧ g = .int .i64 7994)) (fun _ _ k => (2 - intOf k).toNat)
  case atStart => exact Or.inl ⟨rfl, rfl, rfl⟩
  case round =>
    rcases hrel with ⟨rfl, rfl, rfl⟩ | ⟨rfl, rfl, rfl⟩ | ⟨rfl, rfl, rfl⟩
    · go_wp2
      go_round
      case rel => exact Or.inr (Or.inl ⟨rfl, rfl, rfl⟩)
      case measure => simp [intOf]
    · go_wp2
      go_round
      case rel => exact Or.inr (Or.inr (⟨rfl, rfl, rfl⟩))
      case measure => simp [intOf]
    · by_cases c1 : 10 ≤ s
      · by_cases c2 : s ≤ 7994
        · by_cases c3 : (s - 10) % 4 = 0
          · have HB := Lib.hid (canB_yes (lo := 10) (hi := 7994) (s := s) (by omega))
            go_wp2
            go_ret2
            exact ⟨ret_bb HB.out.symm, rfl⟩
          · have HB := Lib.hid (canB_no (lo := 10) (hi := 7994) (s := s) (by omega))
            have hd : ((s - 10) % 4 == 0) = false := by simp; exact c3
            clear c3
            go_wp2
            go_ret2
            exact ⟨ret_bb HB.out.symm, rfl⟩
        · have HB := Lib.hid (canB_no (lo := 10) (hi := 7994) (s := s) (by omega))
          go_wp2
          go_ret2
          exact ⟨ret_bb HB.out.symm, rfl⟩
      · have HB := Lib.hid (canB_no (lo := 10) (hi := 7994) (s := s) (by omega))
        go_wp2
        go_ret2
        exact ⟨ret_bb HB.out.symm, rfl⟩
theorem s_can2 (s : Int) (h1 : 0 ≤ s) (h2 : s ≤ 4000000) (w : World) :
    Calls Try.prog 25 #[.int .i64 s, .int .i64 2] w fun e w' => e = .returned (.tuple #[.bool (canB 10 7994 s), .bool true]) ∧ w = w' := by
  by_cases c3 : (s + 2) % 4 = 0
  · by_cases c1 : 3 ≤ (s + 2) / 4
    · by_cases c2 : (s + 2) / 4 ≤ 1999
      · have HB := Lib.hid (canB_yes (lo := 10) (hi := 7994) (s := s) (by omega))
        go_enter Try.func25, Try.ntmps25
        go_wp2
        go_ret2
        exact ⟨ret_bb HB.out.symm, rfl⟩
      · have HB := Lib.hid (canB_no (lo := 10) (hi := 7994) (s := s) (by omega))
        go_enter Try.func25, Try.ntmps25
        go_wp2
        go_ret2
        exact ⟨ret_bb HB.out.symm, rfl⟩
    · have HB := Lib.hid (canB_no (lo := 10) (hi := 7994) (s := s) (by omega))
      go_enter Try.func25, Try.ntmps25
      go_wp2
      go_ret2
      exact ⟨ret_bb HB.out.symm, rfl⟩
  · have HB := Lib.hid (canB_no (lo := 10) (hi := 7994) (s := s) (by omega))
    go_enter Try.func25, Try.ntmps25
    go_wp2
    go_ret2
    exact ⟨ret_bb HB.out.symm, rfl⟩
theorem i_can3 (s : Int) (h1 : 0 ≤ s) (h2 : s ≤ 4000000) (w : World) :
    Calls Try.prog 26 #[.int .i64 s, .int .i64 3] w fun e w' => e = .returned (.tuple #[.bool (canB 21 11985 s), .bool true]) ∧ w = w' := by
  go_enter Try.func26, Try.ntmps26
  go_wp2
  go_loop [6, 7, 24] (fun b g k => (k = .int .i64 0 ∧ b = .int .i64 0 ∧ g = .int .i64 0) ∨ (k = .int .i64 1 ∧ b = .int .i64 3 ∧ g = .int .i64 3999) ∨ (k = .int .i64 2 ∧ b = .int .i64 10 ∧ g = .int .i64 7994) ∨ (k = .int .i64 3 ∧ b = .int .i64 21 ∧ g = .int .i64 11985)) (fun _ _ k => (3 - intOf k).toNat)
  case atStart => exact Or.inl ⟨rfl, rfl, rfl⟩
  case round =>
    rcases hrel with ⟨rfl, rfl, rfl⟩ | ⟨rfl, rfl, rfl⟩ | ⟨rfl, rfl, rfl⟩ | ⟨rfl, rfl, rfl⟩
    · go_wp2
      go_round
      case rel => exact Or.inr (Or.inl ⟨rfl, rfl, rfl⟩)
      case measure => simp [intOf]
    · go_wp2
      go_round
      case rel => exact Or.inr (Or.inr (Or.inl ⟨rfl, rfl, rfl⟩))
      case measure => simp [intOf]
    · go_wp2
      go_round
      case rel => exact Or.inr (Or.inr (Or.inr (⟨rfl, rfl, rfl⟩)))
      case measure => simp [intOf]
    · by_cases c1 : 21 ≤ s
      · by_cases c2 : s ≤ 11985
        · by_cases c3 : (s - 21) % 4 = 0
          · have HB := Lib.hid (canB_yes (lo := 21) (hi := 11985) (s := s) (by omega))
            go_wp2
            go_ret2
            exact ⟨ret_bb HB.out.symm, rfl⟩
          · have HB := Lib.hid (canB_no (lo := 21) (hi := 11985) (s := s) (by omega))
            have hd : ((s - 21) % 4 == 0) = false := by simp; exact c3
            clear c3
            go_wp2
            go_ret2
            exact ⟨ret_bb HB.out.symm, rfl⟩
        · have HB := Lib.hid (canB_no (lo := 21) (hi := 11985) (s := s) (by omega))
          go_wp2
          go_ret2
          exact ⟨ret_bb HB.out.symm, rfl⟩
      · have HB := Lib.hid (canB_no (lo := 21) (hi := 11985) (s := s) (by omega))
        go_wp2
        go_ret2
        exact ⟨ret_bb HB.out.symm, rfl⟩
theorem s_can3 (s : Int) (h1 : 0 ≤ s) (h2 : s ≤ 4000000) (w : World) :
    Calls Try.prog 25 #[.int .i64 s, .int .i64 3] w fun e w' => e = .returned (.tuple #[.bool (canB 21 11985 s), .bool true]) ∧ w = w' := by
  by_cases c3 : (s + 3) % 4 = 0
  · by_cases c1 : 6 ≤ (s + 3) / 4
    · by_cases c2 : (s + 3) / 4 ≤ 2997
      · have HB := Lib.hid (canB_yes (lo := 21) (hi := 11985) (s := s) (by omega))
        go_enter Try.func25, Try.ntmps25
        go_wp2
        go_ret2
        exact ⟨ret_bb HB.out.symm, rfl⟩
      · have HB := Lib.hid (canB_no (lo := 21) (hi := 11985) (s := s) (by omega))
        go_enter Try.func25, Try.ntmps25
        go_wp2
        go_ret2
        exact ⟨ret_bb HB.out.symm, rfl⟩
    · have HB := Lib.hid (canB_no (lo := 21) (hi := 11985) (s := s) (by omega))
      go_enter Try.func25, Try.ntmps25
      go_wp2
      go_ret2
      exact ⟨ret_bb HB.out.symm, rfl⟩
  · have HB := Lib.hid (canB_no (lo := 21) (hi := 11985) (s := s) (by omega))
    go_enter Try.func25, Try.ntmps25
    go_wp2
    go_ret2
    exact ⟨ret_bb HB.out.symm, rfl⟩

/-! the walk -/
theorem walk (a0 : Int) (a1 : Int) (w0 : (Lit.int .i64 a0).wf = true) (w1 : (Lit.int .i64 a1).wf = true) (w : World) :
    Calls Try.prog 10 #[.int .i64 a0, .int .i64 a1] w fun e w' => e = .returned (.bool true) ∧ Grown w w' := by
  by_cases c1 : 0 ≤ a0
  · by_cases c2 : a0 ≤ 4000000
    · by_cases c3 : 1 ≤ a1
      · by_cases c4 : a1 ≤ 3
        · rcases (show a1 = 1 ∨ a1 = 2 ∨ a1 = 3 from by omega) with rfl | rfl | rfl
          · go_enter Try.func10, Try.ntmps10
            go_wp2_with (first | (go_at_call 25; refine (s_can1 _ (by omega) (by omega) _).mono ?_; rintro e w' ⟨rfl, rfl⟩) | (go_at_call 26; refine (i_can1 _ (by omega) (by omega) _).mono ?_; rintro e w' ⟨rfl, rfl⟩) | go_in)
            go_ret
            exact ⟨rfl, Grown.refl _⟩
          · go_enter Try.func10, Try.ntmps10
            go_wp2_with (first | (go_at_call 25; refine (s_can2 _ (by omega) (by omega) _).mono ?_; rintro e w' ⟨rfl, rfl⟩) | (go_at_call 26; refine (i_can2 _ (by omega) (by omega) _).mono ?_; rintro e w' ⟨rfl, rfl⟩) | go_in)
            go_ret
            exact ⟨rfl, Grown.refl _⟩
          · go_enter Try.func10, Try.ntmps10
            go_wp2_with (first | (go_at_call 25; refine (s_can3 _ (by omega) (by omega) _).mono ?_; rintro e w' ⟨rfl, rfl⟩) | (go_at_call 26; refine (i_can3 _ (by omega) (by omega) _).mono ?_; rintro e w' ⟨rfl, rfl⟩) | go_in)
            go_ret
            exact ⟨rfl, Grown.refl _⟩
        · have c4' : 3 < a1 := by omega
          go_enter Try.func10, Try.ntmps10
          go_wp2
          go_ret
          exact ⟨rfl, Grown.refl _⟩
      · have c3' : a1 < 1 := by omega
        go_enter Try.func10, Try.ntmps10
        go_wp2
        go_ret
        exact ⟨rfl, Grown.refl _⟩
    · have c2' : 4000000 < a0 := by omega
      go_enter Try.func10, Try.ntmps10
      go_wp2
      go_ret
      exact ⟨rfl, Grown.refl _⟩
  · have c1' : a0 < 0 := by omega
    go_enter Try.func10, Try.ntmps10
    go_wp2
    go_ret
    exact ⟨rfl, Grown.refl _⟩

/-! the row's step -/
set_option maxRecDepth 100000 in
theorem lifted (os : Os) (started : os.Started) (H : Type) (enc : TypeId × Value → H) :
    ReturnsInHanded {} Try.checked os 10 .any (Rows.fnExactCanBeTornSpec.pre6 enc Try.prog Try.f10 Rows.fnExactCanBeTornRow.domain false) (Rows.fnExactCanBeTornSpec.post enc Try.prog Try.f10 false true false false) := by
  refine returnsInHanded_of_change (C := Try.checked) own started (by kernel_rfl) Try.func10
    (ChangeSpec.witness6 (enc := enc) (C := Try.checked) false ⟨#[], #[.int .i64 0, .int .i64 0], []⟩ 8 (by kernel_rfl) (by kernel_rfl) (by kernel_rfl) (by kernel_rfl)) ?_
  intro W base args ds gs before hval0 hW hcnd _
  have hval : ∀ (j : Nat) t v, Try.f10.params[j]? = some t → args[j]? = some v → Value.okWide Try.prog W .any base t v := hval0
  have hW' := hW
  obtain ⟨p, q, hA0, hV, rfl, hfz, hnd⟩ := hW
  have hA : DataW.TrodAll enc Try.prog W 0 (fun _ => true) true Try.f10.params.toList args.toList ds p := hA0
  rw [Try.params10] at hA hval
  obtain ⟨v0, vs0, d0, ds0, p0, q0, hargs, rfl, rfl, h0, r0⟩ := trodAll_cons hA
  obtain ⟨v1, vs1, d1, ds1, p1, q1, rfl, rfl, rfl, h1, r1⟩ := trodAll_cons r0
  obtain ⟨rfl, rfl, rfl⟩ := trodAll_nil r1
  obtain rfl : args = #[v0, v1] := by cases args; simp_all
  obtain ⟨rfl, rfl⟩ := trodVars_none hV
  obtain ⟨a0, rfl, rfl, rfl, w0⟩ := open_int Try.underlying3 (hval 0 3 v0 rfl rfl) h0
  obtain ⟨a1, rfl, rfl, rfl, w1⟩ := open_int Try.underlying3 (hval 1 3 v1 rfl rfl) h1
  clear hA0 hval0
  simp only [List.append_nil] at hW'
  refine (walk a0 a1 w0 w1 W).mono fun e W' ⟨he, hg⟩ => ?_
  subst he
  exact ⟨_, rfl, post_of_same (pa := []) (pv := []) hW' (fun _ _ _ => (trodAll_cons_mk (shut_bool Try.underlying4 _) trodAll_mk0)) (fun sp _ => (trodAll_cons_mk (shut_int Try.underlying3 w0) (trodAll_cons_mk (shut_int Try.underlying3 w1) trodAll_mk0))) (fun _ _ => rfl) rfl
    (hg.frame _) hg.2.1 (ok_one (by kernel_rfl) rfl (okWide_bool_mk Try.underlying4 _))⟩

theorem over : Rows.fnExactCanBeTornRow.holds Try.pinned (OpenSpec.ofChange Rows.fnExactCanBeTornSpec) :=
  OpenClaim.holds_of_wide 10 Try.f10 rfl rfl rfl rfl rfl rfl rfl ⟨rfl, rfl, rfl, rfl, rfl⟩ rfl rfl rfl rfl rfl (by kernel_rfl) Try.func10 (by kernel_rfl)
    (of_decide_eq_true (by kernel_rfl)) (by unfold Func.isWrapper; first | (rw [if_pos (by decide +kernel)]; kernel_rfl) | (rw [if_neg (by decide +kernel)]; exact ⟨rfl, rfl⟩))
    (fun os started H enc _ => lifted os started H enc)

/-- the statement -/
theorem proved : Rows.FnExactCanBeTornSaid :=
  over
#print axioms proved
end Go.Proofs.Ytnaikhfhimijdab.fnExactCanBeTorn
