/- What the functions on sheets and sides answer, each as a plain function of its arguments, for numbers of sheets and sheets as each theorem states. -/
import Derived.Test.YtjkpmjcfbdpnhaaChecked
import Derived.WalkKit
import Derived.Lib.Hide
import Derived.Below
import Derived.IntWalk
import Derived.BigQuiet
import Derived.Deep.QuietTactic
namespace Go.Proofs.Ytjkpmjcfbdpnhaa
open Go.RowKit
set_option linter.unusedVariables false
theorem ret_int {k : IntKind} {a b : Int} (h : a = b) : Ending.returned (.int k a) = .returned (.int k b) := by rw [h]
theorem ret_ib {a b : Int} {c : Bool} (h : a = b) : Ending.returned (.tuple #[.int .i64 a, .bool c]) = .returned (.tuple #[.int .i64 b, .bool c]) := by rw [h]
theorem ret_iib {a b a' b' : Int} {c : Bool} (h : a = a') (h' : b = b') : Ending.returned (.tuple #[.int .i64 a, .int .i64 b, .bool c]) = .returned (.tuple #[.int .i64 a', .int .i64 b', .bool c]) := by rw [h, h']

/-- sheet k of n, as a value -/
def sheetV (n k : Int) : Value := .agg #[.int .i64 k, .int .i64 (4 * n + 2 - 2 * k), .int .i64 (2 * k - 1), .int .i64 (2 * k), .int .i64 (4 * n + 1 - 2 * k)]
theorem sheetV_mk (n k a b c d : Int) (h1 : a = 4 * n + 2 - 2 * k) (h2 : b = 2 * k - 1) (h3 : c = 2 * k) (h4 : d = 4 * n + 1 - 2 * k) :
    (Value.agg #[.int .i64 k, .int .i64 a, .int .i64 b, .int .i64 c, .int .i64 d]) = sheetV n k := by
  subst h1 h2 h3 h4; rfl

theorem field1 (a b c d e : Int) (w : World) : (Instr.field 47 (.agg #[.int .i64 a, .int .i64 b, .int .i64 c, .int .i64 d, .int .i64 e]) 1).run Try.prog w = .ok (.agg #[.int .i64 b, .int .i64 c]) w := by kernel_rfl
theorem field2 (a b c d e : Int) (w : World) : (Instr.field 47 (.agg #[.int .i64 a, .int .i64 b, .int .i64 c, .int .i64 d, .int .i64 e]) 2).run Try.prog w = .ok (.agg #[.int .i64 d, .int .i64 e]) w := by kernel_rfl

theorem bcell {W w1 : World} (hb : Below W.heap.size W w1) : (∀ b o, b < W.heap.size → w1.cell? ⟨b, o, none⟩ = W.cell? ⟨b, o, none⟩) ∧ (∀ b o, b < W.heap.size → w1.frozen? ⟨b, o, none⟩ = W.frozen? ⟨b, o, none⟩) :=
  ⟨fun b o h => hb.cell (p := ⟨b, o, none⟩) h, fun b o h => hb.frozen (p := ⟨b, o, none⟩) h⟩
theorem below_dN {B : Nat} {a w : World} (h : Below B a w) (n : Nat) : Below B a (w.drewN n) := h.trans ⟨rfl, rfl, rfl, Nat.le_refl _, fun _ _ => rfl⟩
theorem div_in (b a : Int) (h : 1 ≤ b) (h' : b ≤ 2000) (ha : 1 ≤ a) : wrap64 ((b - 1) / a + 1) = (b - 1) / a + 1 :=
  IntWalk.wrap64_in _ (by have := Int.ediv_nonneg (a := b - 1) (b := a) (by omega) (by omega); have := Int.ediv_le_self (a := b - 1) a (by omega); omega)
theorem mod_in (b a : Int) (h : 1 ≤ b) (h' : b ≤ 2000) (ha : 1 ≤ a) (ha' : a ≤ 2000) : wrap64 ((b - 1) % a + 1) = (b - 1) % a + 1 :=
  IntWalk.wrap64_in _ (by have := Int.emod_nonneg (b - 1) (b := a) (by omega); have := Int.emod_lt_of_pos (b - 1) (b := a) (by omega); omega)
theorem foldSheet_any (n k : Int) (h1 : 1 ≤ n) (h2 : n ≤ 100) (h3 : 1 ≤ k) (h4 : k ≤ n) (w : World) :
    Calls Try.prog 46 #[.int .i64 n, .int .i64 k] w fun e w' => e = .returned (sheetV n k) ∧ Below w.heap.size w w' := by
  go_enter Try.func46, Try.ntmps46
  go_wp2
  exact bodyPost_ret (v := .agg #[.int .i64 k, .int .i64 (n * 4 + 1 - (2 * k - 1)), .int .i64 (2 * k - 1), .int .i64 (2 * k), .int .i64 (n * 4 + 1 - (2 * k - 1) - 1)]) (by simp [results, Try.results46, go_sem]) rfl ⟨congrArg Ending.returned (sheetV_mk _ _ _ _ _ _ (by omega) rfl rfl (by omega)), (Below.refl _ _).alloc (Nat.le_refl _) _⟩
theorem s_side_no (n k : Int) (b : Bool) (h : ¬ 1 ≤ n ∨ ¬ n ≤ 100 ∨ ¬ 1 ≤ k ∨ ¬ k ≤ n) (w : World) :
    Calls Try.prog 18 #[.int .i64 n, .int .i64 k, .bool b] w fun e w' => e = .returned (.tuple #[.int .i64 0, .int .i64 0, .bool false]) ∧ w = w' := by
  by_cases c1 : 1 ≤ n <;> by_cases c2 : n ≤ 100 <;> by_cases c3 : 1 ≤ k <;> by_cases c4 : k ≤ n <;> first | (exfalso; omega) | skip
  all_goals
    clear h
    go_enter Try.func18, Try.ntmps18
    go_wp2
    go_ret3
    exact ⟨rfl, rfl⟩
theorem i_side_no (n k : Int) (b : Bool) (h : ¬ 1 ≤ n ∨ ¬ n ≤ 100 ∨ ¬ 1 ≤ k ∨ ¬ k ≤ n) (w : World) :
    Calls Try.prog 19 #[.int .i64 n, .int .i64 k, .bool b] w fun e w' => e = .returned (.tuple #[.int .i64 0, .int .i64 0, .bool false]) ∧ w = w' := by
  by_cases c1 : 1 ≤ n <;> by_cases c2 : n ≤ 100 <;> by_cases c3 : 1 ≤ k <;> by_cases c4 : k ≤ n <;> first | (exfalso; omega) | skip
  all_goals
    clear h
    go_enter Try.func19, Try.ntmps19
    go_wp2
    go_ret3
    exact ⟨rfl, rfl⟩
theorem s_side_yes (n k : Int) (b : Bool) (h1 : 1 ≤ n) (h2 : n ≤ 100) (h3 : 1 ≤ k) (h4 : k ≤ n) (w : World) :
    Calls Try.prog 18 #[.int .i64 n, .int .i64 k, .bool b] w fun e w' => e = .returned (.tuple #[.int .i64 (if b then 2 * k else 4 * n + 2 - 2 * k), .int .i64 (if b then 4 * n + 1 - 2 * k else 2 * k - 1), .bool true]) ∧ w = w' := by
  cases b
  all_goals
    go_enter Try.func18, Try.ntmps18
    go_wp2
    go_ret3
    exact ⟨ret_iib (by simp) (by simp), rfl⟩
theorem i_side_yes (n k : Int) (b : Bool) (h1 : 1 ≤ n) (h2 : n ≤ 100) (h3 : 1 ≤ k) (h4 : k ≤ n) (w : World) :
    Calls Try.prog 19 #[.int .i64 n, .int .i64 k, .bool b] w fun e w' => e = .returned (.tuple #[.int .i64 (if b then 2 * k else 4 * n + 2 - 2 * k), .int .i64 (if b then 4 * n + 1 - 2 * k else 2 * k - 1), .bool true]) ∧ Below w.heap.size w w' := by
  have F1 := field1 k (4 * n + 2 - 2 * k) (2 * k - 1) (2 * k) (4 * n + 1 - 2 * k)
  have F2 := field2 k (4 * n + 2 - 2 * k) (2 * k - 1) (2 * k) (4 * n + 1 - 2 * k)
  cases b
  · go_enter Try.func19, Try.ntmps19
    go_wp2_with (first | (go_at_call 46; refine (foldSheet_any _ _ (by omega) (by omega) (by omega) (by omega) _).mono ?_; rintro e w1 ⟨rfl, hb⟩; unfold sheetV; obtain ⟨hc, hf⟩ := bcell hb) | go_in)
    go_quiet (fail)
    go_wp2
    go_ret3
    exact ⟨rfl, below_dN (hb.alloc hb.size _) _⟩
  · go_enter Try.func19, Try.ntmps19
    go_wp2_with (first | (go_at_call 46; refine (foldSheet_any _ _ (by omega) (by omega) (by omega) (by omega) _).mono ?_; rintro e w1 ⟨rfl, hb⟩; unfold sheetV; obtain ⟨hc, hf⟩ := bcell hb) | go_in)
    go_quiet (fail)
    go_wp2
    go_ret3
    rename_i w0 hb0 _ _
    refine ⟨rfl, below_dN (Below.setCell (Below.setCell ((hb0.alloc hb0.size _).trans (hb.mono ?_)) ?_ _) ?_ _) _⟩
    · have := hb0.size; simp; omega
    · exact hb0.size
    · exact hb0.size
theorem s_partner_no (n a : Int) (h : ¬ 1 ≤ n ∨ ¬ n ≤ 100 ∨ ¬ 1 ≤ a ∨ ¬ a ≤ 4 * n) (w : World) :
    Calls Try.prog 20 #[.int .i64 n, .int .i64 a] w fun e w' => e = .returned (.tuple #[.int .i64 0, .bool false]) ∧ w = w' := by
  by_cases c0 : 1 ≤ n <;> by_cases c1 : n ≤ 100 <;> by_cases c2 : 1 ≤ a <;> by_cases c3 : a ≤ 4 * n <;> first | (exfalso; omega) | skip
  all_goals
    clear h
    try have c3' : ¬ a ≤ n * 4 := by omega
    try have c3'' : a ≤ n * 4 := by omega
    go_enter Try.func20, Try.ntmps20
    go_wp2
    go_ret2
    exact ⟨rfl, rfl⟩
theorem s_partner_yes (n a : Int) (h0 : 1 ≤ n) (h1 : n ≤ 100) (h2 : 1 ≤ a) (h3 : a ≤ 4 * n) (w : World) :
    Calls Try.prog 20 #[.int .i64 n, .int .i64 a] w fun e w' => e = .returned (.tuple #[.int .i64 (4 * n + 1 - a), .bool true]) ∧ w = w' := by
  have e0 : a ≤ n * 4 := by omega
  go_enter Try.func20, Try.ntmps20
  go_wp2
  go_ret2
  exact ⟨ret_ib (by omega), rfl⟩
theorem i_partner_no (n a : Int) (h : ¬ 1 ≤ n ∨ ¬ n ≤ 100 ∨ ¬ 1 ≤ a ∨ ¬ a ≤ 4 * n) (w : World) :
    Calls Try.prog 21 #[.int .i64 n, .int .i64 a] w fun e w' => e = .returned (.tuple #[.int .i64 0, .bool false]) ∧ w = w' := by
  by_cases c0 : 1 ≤ n <;> by_cases c1 : n ≤ 100 <;> by_cases c2 : 1 ≤ a <;> by_cases c3 : a ≤ 4 * n <;> first | (exfalso; omega) | skip
  all_goals
    clear h
    try have c3' : ¬ a ≤ n * 4 := by omega
    try have c3'' : a ≤ n * 4 := by omega
    go_enter Try.func21, Try.ntmps21
    go_wp2
    go_ret2
    exact ⟨rfl, rfl⟩
theorem i_partner_yes (n a : Int) (h0 : 1 ≤ n) (h1 : n ≤ 100) (h2 : 1 ≤ a) (h3 : a ≤ 4 * n) (w : World) :
    Calls Try.prog 21 #[.int .i64 n, .int .i64 a] w fun e w' => e = .returned (.tuple #[.int .i64 (4 * n + 1 - a), .bool true]) ∧ w = w' := by
  have e0 : a ≤ n * 4 := by omega
  go_enter Try.func21, Try.ntmps21
  go_wp2
  go_ret2
  exact ⟨ret_ib (by omega), rfl⟩
theorem s_signs_no (n a : Int) (h : ¬ 1 ≤ n ∨ ¬ n ≤ 2000 ∨ ¬ 1 ≤ a ∨ ¬ a ≤ 16) (w : World) :
    Calls Try.prog 24 #[.int .i64 n, .int .i64 a] w fun e w' => e = .returned (.tuple #[.int .i64 0, .bool false]) ∧ w = w' := by
  by_cases c0 : 1 ≤ n <;> by_cases c1 : n ≤ 2000 <;> by_cases c2 : 1 ≤ a <;> by_cases c3 : a ≤ 16 <;> first | (exfalso; omega) | skip
  all_goals
    clear h
    go_enter Try.func24, Try.ntmps24
    go_wp2
    go_ret2
    exact ⟨rfl, rfl⟩
theorem s_signs_yes (n a : Int) (h0 : 1 ≤ n) (h1 : n ≤ 2000) (h2 : 1 ≤ a) (h3 : a ≤ 16) (w : World) :
    Calls Try.prog 24 #[.int .i64 n, .int .i64 a] w fun e w' => e = .returned (.tuple #[.int .i64 ((n + 4 * a - 1) / (4 * a)), .bool true]) ∧ w = w' := by
  go_enter Try.func24, Try.ntmps24
  go_wp2
  go_ret2
  exact ⟨ret_ib (by first | rfl | rw [Int.mul_comm a 4]), rfl⟩
theorem i_signs_no (n a : Int) (h : ¬ 1 ≤ n ∨ ¬ n ≤ 2000 ∨ ¬ 1 ≤ a ∨ ¬ a ≤ 16) (w : World) :
    Calls Try.prog 25 #[.int .i64 n, .int .i64 a] w fun e w' => e = .returned (.tuple #[.int .i64 0, .bool false]) ∧ w = w' := by
  by_cases c0 : 1 ≤ n <;> by_cases c1 : n ≤ 2000 <;> by_cases c2 : 1 ≤ a <;> by_cases c3 : a ≤ 16 <;> first | (exfalso; omega) | skip
  all_goals
    clear h
    go_enter Try.func25, Try.ntmps25
    go_wp2
    go_ret2
    exact ⟨rfl, rfl⟩
theorem i_signs_yes (n a : Int) (h0 : 1 ≤ n) (h1 : n ≤ 2000) (h2 : 1 ≤ a) (h3 : a ≤ 16) (w : World) :
    Calls Try.prog 25 #[.int .i64 n, .int .i64 a] w fun e w' => e = .returned (.tuple #[.int .i64 ((n + 4 * a - 1) / (4 * a)), .bool true]) ∧ w = w' := by
  go_enter Try.func25, Try.ntmps25
  go_wp2
  go_ret2
  exact ⟨ret_ib (by first | rfl | rw [Int.mul_comm a 4]), rfl⟩
theorem s_signOf_no (n a b : Int) (h : ¬ 1 ≤ n ∨ ¬ n ≤ 2000 ∨ ¬ 1 ≤ a ∨ ¬ a ≤ 16 ∨ ¬ 1 ≤ b ∨ ¬ b ≤ n) (w : World) :
    Calls Try.prog 26 #[.int .i64 n, .int .i64 a, .int .i64 b] w fun e w' => e = .returned (.tuple #[.int .i64 0, .int .i64 0, .bool false]) ∧ w = w' := by
  by_cases c0 : 1 ≤ n <;> by_cases c1 : n ≤ 2000 <;> by_cases c2 : 1 ≤ a <;> by_cases c3 : a ≤ 16 <;> by_cases c4 : 1 ≤ b <;> by_cases c5 : b ≤ n <;> first | (exfalso; omega) | skip
  all_goals
    clear h
    go_enter Try.func26, Try.ntmps26
    go_wp2
    go_ret3
    exact ⟨rfl, rfl⟩
theorem s_signOf_yes (n a b : Int) (h0 : 1 ≤ n) (h1 : n ≤ 2000) (h2 : 1 ≤ a) (h3 : a ≤ 16) (h4 : 1 ≤ b) (h5 : b ≤ n) (w : World) :
    Calls Try.prog 26 #[.int .i64 n, .int .i64 a, .int .i64 b] w fun e w' => e = .returned (.tuple #[.int .i64 ((b - 1) / (4 * a) + 1), .int .i64 ((b - 1) % (4 * a) + 1), .bool true]) ∧ Below w.heap.size w w' := by
  go_enter Try.func26, Try.ntmps26
  go_wp2
  go_quiet (fail)
  go_wp2
  go_ret3
  exact ⟨ret_iib (by (try rw [Int.mul_comm a 4]); exact div_in _ _ (by omega) (by omega) (by omega)) (by (try rw [Int.mul_comm a 4]); exact mod_in _ _ (by omega) (by omega) (by omega) (by omega)), below_dN (Below.refl _ _) _⟩
theorem i_signOf_no (n a b : Int) (h : ¬ 1 ≤ n ∨ ¬ n ≤ 2000 ∨ ¬ 1 ≤ a ∨ ¬ a ≤ 16 ∨ ¬ 1 ≤ b ∨ ¬ b ≤ n) (w : World) :
    Calls Try.prog 27 #[.int .i64 n, .int .i64 a, .int .i64 b] w fun e w' => e = .returned (.tuple #[.int .i64 0, .int .i64 0, .bool false]) ∧ w = w' := by
  by_cases c0 : 1 ≤ n <;> by_cases c1 : n ≤ 2000 <;> by_cases c2 : 1 ≤ a <;> by_cases c3 : a ≤ 16 <;> by_cases c4 : 1 ≤ b <;> by_cases c5 : b ≤ n <;> first | (exfalso; omega) | skip
  all_goals
    clear h
    go_enter Try.func27, Try.ntmps27
    go_wp2
    go_ret3
    exact ⟨rfl, rfl⟩
theorem i_signOf_yes (n a b : Int) (h0 : 1 ≤ n) (h1 : n ≤ 2000) (h2 : 1 ≤ a) (h3 : a ≤ 16) (h4 : 1 ≤ b) (h5 : b ≤ n) (w : World) :
    Calls Try.prog 27 #[.int .i64 n, .int .i64 a, .int .i64 b] w fun e w' => e = .returned (.tuple #[.int .i64 ((b - 1) / (4 * a) + 1), .int .i64 ((b - 1) % (4 * a) + 1), .bool true]) ∧ Below w.heap.size w w' := by
  go_enter Try.func27, Try.ntmps27
  go_wp2
  go_quiet (fail)
  go_wp2
  go_ret3
  exact ⟨ret_iib (by (try rw [Int.mul_comm a 4]); exact div_in _ _ (by omega) (by omega) (by omega)) (by (try rw [Int.mul_comm a 4]); exact mod_in _ _ (by omega) (by omega) (by omega) (by omega)), below_dN (Below.refl _ _) _⟩
theorem s_middle_no (n : Int) (h : ¬ 1 ≤ n ∨ ¬ n ≤ 100) (w : World) :
    Calls Try.prog 22 #[.int .i64 n] w fun e w' => e = .returned (.tuple #[.int .i64 0, .int .i64 0, .bool false]) ∧ w = w' := by
  by_cases c0 : 1 ≤ n <;> by_cases c1 : n ≤ 100 <;> first | (exfalso; omega) | skip
  all_goals
    clear h
    go_enter Try.func22, Try.ntmps22
    go_wp2
    go_ret3
    exact ⟨rfl, rfl⟩
theorem s_middle_yes (n : Int) (h0 : 1 ≤ n) (h1 : n ≤ 100) (w : World) :
    Calls Try.prog 22 #[.int .i64 n] w fun e w' => e = .returned (.tuple #[.int .i64 (2 * n), .int .i64 (2 * n + 1), .bool true]) ∧ w = w' := by
  go_enter Try.func22, Try.ntmps22
  go_wp2
  go_ret3
  exact ⟨rfl, rfl⟩
theorem i_middle_no (n : Int) (h : ¬ 1 ≤ n ∨ ¬ n ≤ 100) (w : World) :
    Calls Try.prog 23 #[.int .i64 n] w fun e w' => e = .returned (.tuple #[.int .i64 0, .int .i64 0, .bool false]) ∧ w = w' := by
  go_enter Try.func23, Try.ntmps23
  go_wp2_with (go_at_call 19; refine (i_side_no _ _ _ (by omega) _).mono ?_; rintro e w1 ⟨rfl, rfl⟩)
  go_ret3
  exact ⟨rfl, rfl⟩
theorem i_middle_yes (n : Int) (h0 : 1 ≤ n) (h1 : n ≤ 100) (w : World) :
    Calls Try.prog 23 #[.int .i64 n] w fun e w' => e = .returned (.tuple #[.int .i64 (2 * n), .int .i64 (2 * n + 1), .bool true]) ∧ Below w.heap.size w w' := by
  go_enter Try.func23, Try.ntmps23
  go_wp2_with (go_at_call 19; refine (i_side_yes _ _ _ (by omega) (by omega) (by omega) (by omega) _).mono ?_; rintro e w1 ⟨rfl, hb⟩)
  go_ret3
  exact ⟨ret_iib rfl (by show 4 * n + 1 - 2 * n = 2 * n + 1; omega), hb⟩
end Go.Proofs.Ytjkpmjcfbdpnhaa
