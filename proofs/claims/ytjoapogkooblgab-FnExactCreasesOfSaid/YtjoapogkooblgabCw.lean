/- What the functions on creases answer: for up to seven folds the creases, each as a plain list; no other condition. -/
import Derived.Test.YtjoapogkooblgabChecked
import Derived.Test.YtjoapogkooblgabCr
import Derived.WalkKit
import Derived.Lib.Hide
import Derived.Below
import Derived.ShutString
import Derived.Laws.RangeString
namespace Go.Proofs.Ytjoapogkooblgab
open Go.RowKit
set_option linter.unusedVariables false
theorem sl_any (l : List UInt8) (i j : Nat) (h : i ≤ j) (hj : j ≤ l.length) (W : World) (x y : Int) (hx : x = i) (hy : y = j) :
    (Instr.slice 9 (.string ⟨l.toArray⟩) (some (.int .i64 x)) (some (.int .i64 y)) none).run Try.prog W = .ok (.string ⟨((l.drop i).take (j - i)).toArray⟩) W := by
  subst hx hy
  rw [run_slice_string W 9 ⟨l.toArray⟩ .i64 .i64 i j (by kernel_rfl) (by omega) (by omega) (by simp [ByteArray.size]; omega), ByteArray.extract_mk]
  simp
theorem vm0 (W : World) : (Instr.slice 9 (.string ⟨#[118, 109]⟩) (some (.int .i64 0)) (some (.int .i64 1)) none).run Try.prog W = .ok (.string ⟨#[118]⟩) W := by kernel_rfl
theorem vm1 (W : World) : (Instr.slice 9 (.string ⟨#[118, 109]⟩) (some (.int .i64 1)) (some (.int .i64 2)) none).run Try.prog W = .ok (.string ⟨#[109]⟩) W := by kernel_rfl
theorem add_any (x y : List UInt8) (hx : x.length ≤ 1000) (hy : y.length ≤ 1000) (W : World) :
    (Op.stringOp .add ⟨x.toArray⟩ ⟨y.toArray⟩).run Try.prog W = .ok (.string ⟨(x ++ y).toArray⟩) W :=
  run_string_add_lists W x y (by omega) (by omega)
theorem v_str {a b : List UInt8} (h : a = b) : Value.string ⟨a.toArray⟩ = .string ⟨b.toArray⟩ := by rw [h]
theorem ret_str {a b : List UInt8} (h : a = b) : Ending.returned (.string ⟨a.toArray⟩) = .returned (.string ⟨b.toArray⟩) := by rw [h]
theorem ret_strb {a b : List UInt8} (h : a = b) : Ending.returned (.tuple #[.string ⟨a.toArray⟩, .bool true]) = .returned (.tuple #[.string ⟨b.toArray⟩, .bool true]) := by rw [h]
set_option maxRecDepth 100000 in
set_option maxHeartbeats 1000000 in
theorem foCreases_any (n : Nat) (h : n ≤ 7) (w : World) :
    Calls Try.prog 36 #[.int .i64 n] w fun e w' => e = .returned (.string ⟨(C.cr n).toArray⟩) ∧ w = w' := by
  go_enter Try.func36, Try.ntmps36
  go_wp2
  go_loop [0, 3] (fun f s => ∃ k : Nat, k ≤ n ∧ f = .int .i64 ((n : Int) - k) ∧ s = .string ⟨(C.cr k).toArray⟩) (fun f _ => (intOf f).toNat)
  case atStart => exact ⟨0, by omega, by simp, rfl⟩
  case round =>
    obtain ⟨k, hk, rfl, rfl⟩ := hrel
    by_cases hlt : k < n
    · have hlen := C.cr_le k (by omega)
      obtain ⟨l, hl⟩ : ∃ l, C.cr k = l := ⟨_, rfl⟩
      rw [hl] at hlen ⊢
      have HL := Lib.hid hl
      clear hl
      have hpos : (0:Int) < (n : Int) - k := by omega
      go_wp2
      go_loop [4, 5] (fun s j => ∃ i : Nat, i ≤ l.length + 1 ∧ j = .int .i64 i ∧ s = .string ⟨(C.wv l i).toArray⟩) (fun _ j => l.length + 1 - (intOf j).toNat)
      case atStart => exact ⟨0, by omega, rfl, rfl⟩
      case round =>
        obtain ⟨i, hi, rfl, rfl⟩ := hrel
        have hw := C.wv_le l i
        have hw2 : (C.wv l i).length ≤ 256 := by omega
        by_cases hp : i % 2 = 0
        · have hp' : (i : Int) % 2 = 0 := by omega
          have r0 := vm0
          have r1 := add_any (C.wv l i) [118] (by omega) (by simp)
          by_cases hj : i < l.length
          · have hle : i ≤ l.length := by omega
            have r3 := fun W : World => sl_any l i (i + 1) (by omega) (by omega) W (i : Int) ((i : Int) + 1) rfl (by omega)
            have r2 := add_any (C.wv l i ++ [118]) ((l.drop i).take (i + 1 - i)) (by simp; omega) (by simp; omega)
            have HS := Lib.hid (C.wv_even l i hp)
            go_wp2
            go_round
            case rel => exact ⟨i + 1, by omega, by go_num, v_str (by rw [HS.out]; try simp)⟩
            case measure => simp [intOf]; omega
          · by_cases he : i = l.length
            · have HE := Lib.hid he
              have hle : i ≤ l.length := by omega
              have HS := Lib.hid (C.wv_even l i hp)
              clear he
              go_wp2
              go_round
              case rel => exact ⟨i + 1, by omega, by go_num, v_str (by rw [HS.out, List.drop_of_length_le (by omega)]; try simp)⟩
              case measure => simp [intOf]; omega
            · have hgt : ¬ i ≤ l.length := by omega
              have HE := Lib.hid (show i = l.length + 1 by omega)
              clear he
              go_wp2
              go_round
              case rel => exact ⟨k + 1, by omega, by simp; omega, v_str (by show _ = C.wv (C.cr k) ((C.cr k).length + 1); rw [HL.out, HE.out])⟩
              case measure => simp [intOf]; omega
        · have hp' : (i : Int) % 2 = 1 := by omega
          have r0 := vm1
          have r1 := add_any (C.wv l i) [109] (by omega) (by simp)
          by_cases hj : i < l.length
          · have hle : i ≤ l.length := by omega
            have r3 := fun W : World => sl_any l i (i + 1) (by omega) (by omega) W (i : Int) ((i : Int) + 1) rfl (by omega)
            have r2 := add_any (C.wv l i ++ [109]) ((l.drop i).take (i + 1 - i)) (by simp; omega) (by simp; omega)
            have HS := Lib.hid (C.wv_odd l i hp)
            go_wp2
            go_round
            case rel => exact ⟨i + 1, by omega, by go_num, v_str (by rw [HS.out]; try simp)⟩
            case measure => simp [intOf]; omega
          · by_cases he : i = l.length
            · have HE := Lib.hid he
              have hle : i ≤ l.length := by omega
              have HS := Lib.hid (C.wv_odd l i hp)
              clear he
              go_wp2
              go_round
              case rel => exact ⟨i + 1, by omega, by go_num, v_str (by rw [HS.out, List.drop_of_length_le (by omega)]; try simp)⟩
              case measure => simp [intOf]; omega
            · have hgt : ¬ i ≤ l.length := by omega
              have HE := Lib.hid (show i = l.length + 1 by omega)
              clear he
              go_wp2
              go_round
              case rel => exact ⟨k + 1, by omega, by simp; omega, v_str (by show _ = C.wv (C.cr k) ((C.cr k).length + 1); rw [HL.out, HE.out])⟩
              case measure => simp [intOf]; omega
    · have HK := Lib.hid (show n = k by omega)
      have hz : ¬ (0:Int) < (n : Int) - k := by omega
      go_wp2
      go_ret
      exact ⟨ret_str (by rw [HK.out]), rfl⟩

theorem tn_v (l : List UInt8) (k : Nat) (h : k < l.length) (hc : l[k] = 118) : C.tn (l.take (k + 1)) = [109] ++ C.tn (l.take k) := by rw [C.tn_snoc l k h, hc]; rfl
theorem tn_m (l : List UInt8) (k : Nat) (h : k < l.length) (hc : l[k] = 109) : C.tn (l.take (k + 1)) = [118] ++ C.tn (l.take k) := by rw [C.tn_snoc l k h, hc]; rfl
theorem cv118 (W : World) : (convert 21 9 (.int .i32 118)).run Try.prog W = .ok (.string ⟨#[118]⟩) W := by kernel_rfl
theorem cv109 (W : World) : (convert 21 9 (.int .i32 109)).run Try.prog W = .ok (.string ⟨#[109]⟩) W := by kernel_rfl
theorem nx_at (w : World) (l : List UInt8) (k : Nat) (h : k < l.length) (c : UInt8) (hc : l[k] = c) (ha : c.toNat < 128) (ty : TypeId) :
    (Instr.next (.pointer (some ⟨w.heap.size, 0, none⟩)) true ty).run Try.prog (w.iter ⟨l.toArray⟩ k) = .ok (.tuple #[.bool true, .int .i64 k, .int .i32 c.toNat]) (w.iter ⟨l.toArray⟩ (k + 1)) := by
  have hs : k < (⟨l.toArray⟩ : ByteArray).size := by simpa [ByteArray.size] using h
  have e : (⟨l.toArray⟩ : ByteArray)[k]'hs = c := by rw [← hc]; rfl
  have := run_next_ascii (P := Try.prog) w ⟨l.toArray⟩ k ty hs (by rw [e]; exact ha)
  rw [e] at this
  exact this
def szOf : Value → Nat
  | .string s => s.size
  | _ => 0
theorem szOf_mk (l : List UInt8) : szOf (.string ⟨l.toArray⟩) = l.length := rfl
theorem tn_take (l : List UInt8) (k : Nat) (h : k ≤ l.length) : (C.tn (l.take k)).length = k := by rw [C.tn_length, List.length_take]; omega
set_option maxRecDepth 100000 in
set_option maxHeartbeats 1000000 in
theorem turnCreases_any (l : List UInt8) (hl : l.length ≤ 200) (ha : ∀ c ∈ l, c = 118 ∨ c = 109) (w : World) :
    Calls Try.prog 37 #[.string ⟨l.toArray⟩] w fun e w' => e = .returned (.string ⟨(C.tn l).toArray⟩) ∧ Below w.heap.size w w' := by
  have HA := Lib.hid ha
  clear ha
  go_enter Try.func37, Try.ntmps37
  go_wp2
  go_loopw [3] (fun t wr => ∃ k : Nat, k ≤ l.length ∧ t = .string ⟨(C.tn (l.take k)).toArray⟩ ∧ wr = w.iter ⟨l.toArray⟩ k) (fun t _ => l.length - szOf t)
  case atStart => exact ⟨0, by omega, rfl, rfl⟩
  case round =>
    obtain ⟨k, hk, rfl, rfl⟩ := hrel
    by_cases hlt : k < l.length
    · have ht := tn_take l k hk
      have ht2 : (C.tn (l.take k)).length ≤ 200 := by omega
      rcases HA.out l[k] (List.getElem_mem hlt) with hc | hc
      · have hnx := nx_at w l k hlt _ hc (by decide)
        have HS := Lib.hid (tn_v l k hlt hc)
        have HT := Lib.hid ht
        have c1 := cv118
        have r1 := add_any [109] (C.tn (l.take k)) (by simp) (by omega)
        clear ht hc
        go_wp2
        go_roundw
        case rel => exact ⟨k + 1, by omega, v_str HS.out.symm, rfl⟩
        case measure => rw [szOf_mk, szOf_mk, List.length_cons, HT.out]; omega
      · have hnx := nx_at w l k hlt _ hc (by decide)
        have HS := Lib.hid (tn_m l k hlt hc)
        have HT := Lib.hid ht
        have c1 := cv109
        have r1 := add_any [118] (C.tn (l.take k)) (by simp) (by omega)
        clear ht hc
        go_wp2
        go_roundw
        case rel => exact ⟨k + 1, by omega, v_str HS.out.symm, rfl⟩
        case measure => rw [szOf_mk, szOf_mk, List.length_cons, HT.out]; omega
    · have hnx := fun ty => run_next_end (P := Try.prog) w ⟨l.toArray⟩ k ty (by simpa [ByteArray.size] using hlt)
      have HK := Lib.hid (show k = l.length by omega)
      go_wp2
      go_ret
      exact ⟨ret_str (by rw [HK.out, List.take_length]), (Below.refl _ _).alloc (Nat.le_refl _) _⟩

theorem foCreases_ci (n : Nat) (h : n ≤ 7) (w : World) :
    Calls Try.prog 36 #[.int .i64 n] w fun e w' => e = .returned (.string ⟨(C.ci n).toArray⟩) ∧ w = w' :=
  (foCreases_any n h w).mono fun _ _ h' => by rw [← C.cr_ci n (by omega)]; exact h'
theorem s_of_no (n : Int) (h : ¬ 0 ≤ n ∨ ¬ n ≤ 7) (w : World) :
    Calls Try.prog 20 #[.int .i64 n] w fun e w' => e = .returned (.tuple #[.string ⟨#[]⟩, .bool false]) ∧ w = w' := by
  by_cases c0 : 0 ≤ n <;> by_cases c1 : n ≤ 7 <;> first | (exfalso; omega) | skip
  all_goals
    clear h
    go_enter Try.func20, Try.ntmps20
    go_wp2
    go_ret2
    exact ⟨rfl, rfl⟩
theorem i_of_no (n : Int) (h : ¬ 0 ≤ n ∨ ¬ n ≤ 7) (w : World) :
    Calls Try.prog 21 #[.int .i64 n] w fun e w' => e = .returned (.tuple #[.string ⟨#[]⟩, .bool false]) ∧ w = w' := by
  by_cases c0 : 0 ≤ n <;> by_cases c1 : n ≤ 7 <;> first | (exfalso; omega) | skip
  all_goals
    clear h
    go_enter Try.func21, Try.ntmps21
    go_wp2
    go_ret2
    exact ⟨rfl, rfl⟩
theorem s_of_yes (n : Nat) (h : n ≤ 7) (w : World) :
    Calls Try.prog 20 #[.int .i64 n] w fun e w' => e = .returned (.tuple #[.string ⟨(C.ci n).toArray⟩, .bool true]) ∧ w = w' := by
  have h7 : (n : Int) ≤ 7 := by omega
  have h0 : (0 : Int) ≤ n := by omega
  go_enter Try.func20, Try.ntmps20
  go_wp2_with (first | (go_at_call 36; refine (foCreases_ci _ (by omega) _).mono ?_; rintro e w' ⟨rfl, rfl⟩) | go_in)
  go_ret2
  exact ⟨rfl, rfl⟩
theorem ci_le (k : Nat) (h : k ≤ 7) : (C.ci k).length ≤ 127 := by
  have := C.ci_length k
  have := Nat.pow_le_pow_right (n := 2) (by omega) h
  omega
theorem isFolds_yes (n : Int) (h0 : 0 ≤ n) (h7 : n ≤ 7) (w : World) :
    Calls Try.prog 32 #[.int .i64 n] w fun e w' => e = .returned (.bool true) ∧ w = w' := by
  go_enter Try.func32, Try.ntmps32
  go_wp2
  go_ret
  exact ⟨rfl, rfl⟩
set_option maxRecDepth 100000 in
theorem i_of_yes (n : Nat) (h : n ≤ 7) (w : World) :
    Calls Try.prog 21 #[.int .i64 n] w fun e w' => e = .returned (.tuple #[.string ⟨(C.ci n).toArray⟩, .bool true]) ∧ Below w.heap.size w w' := by
  have h7 : (n : Int) ≤ 7 := by omega
  have h0 : (0 : Int) ≤ n := by omega
  go_enter Try.func21, Try.ntmps21
  go_wp2_with (go_at_call 32; refine (isFolds_yes _ (by omega) (by omega) _).mono ?_; rintro e w' ⟨rfl, rfl⟩)
  go_loopw [4, 9] (fun s i wr => ∃ k : Nat, k ≤ n ∧ i = .int .i64 k ∧ s = .string ⟨(C.ci k).toArray⟩ ∧ Below w.heap.size w wr) (fun _ i _ => n - (intOf i).toNat)
  case atStart => exact ⟨0, by omega, rfl, rfl, Below.refl _ _⟩
  case round =>
    obtain ⟨k, hk, rfl, rfl, hb⟩ := hrel
    by_cases hlt : k < n
    · have hlen := ci_le k (by omega)
      have HT := Lib.hid (C.tn_length (C.ci k))
      have H2 := Lib.hid (C.ci_two k)
      have r1 := add_any [118] (C.tn (C.ci k)) (by simp) (by rw [HT.out]; omega)
      have r2 := add_any (C.ci k) (118 :: C.tn (C.ci k)) (by omega) (by rw [List.length_cons, HT.out]; omega)
      go_wp2_with fail
      refine (turnCreases_any _ (by omega) H2.out _).mono ?_
      rintro e w1 ⟨rfl, hb1⟩
      go_wp2
      go_roundw
      case rel => exact ⟨k + 1, by omega, by go_num, rfl, hb.trans (hb1.mono hb.size)⟩
      case measure => simp [intOf]; omega
    · have HK := Lib.hid (show k = n by omega)
      go_wp2
      go_ret2
      exact ⟨ret_strb (by rw [HK.out]), hb⟩

theorem sat_no (n : Int) (k : Int) (h : ¬ 0 ≤ n ∨ ¬ n ≤ 7) (w : World) :
    Calls Try.prog 22 #[.int .i64 n, .int .i64 k] w fun e w' => e = .returned (.tuple #[.string ⟨#[]⟩, .bool false]) ∧ w = w' := by
  by_cases c0 : 0 ≤ n <;> by_cases c1 : n ≤ 7 <;> first | (exfalso; omega) | skip
  all_goals
    clear h
    go_enter Try.func22, Try.ntmps22
    go_wp2
    go_ret2
    exact ⟨rfl, rfl⟩
theorem iat_no (n : Int) (k : Int) (h : ¬ 0 ≤ n ∨ ¬ n ≤ 7) (w : World) :
    Calls Try.prog 23 #[.int .i64 n, .int .i64 k] w fun e w' => e = .returned (.tuple #[.string ⟨#[]⟩, .bool false]) ∧ w = w' := by
  go_enter Try.func23, Try.ntmps23
  go_wp2_with (go_at_call 21; refine (i_of_no _ h _).mono ?_; rintro e w1 ⟨rfl, rfl⟩)
  go_ret2
  exact ⟨rfl, rfl⟩
theorem iat_out (n : Nat) (h : n ≤ 7) (k : Int) (hk : k < 1 ∨ (C.ci n).length < k) (w : World) :
    Calls Try.prog 23 #[.int .i64 n, .int .i64 k] w fun e w' => e = .returned (.tuple #[.string ⟨#[]⟩, .bool false]) ∧ Below w.heap.size w w' := by
  by_cases c : k < 1
  · go_enter Try.func23, Try.ntmps23
    go_wp2_with (go_at_call 21; refine (i_of_yes _ h _).mono ?_; rintro e w1 ⟨rfl, hb⟩)
    go_ret2
    exact ⟨rfl, hb⟩
  · have c2 : ((C.ci n).length : Int) < k := by omega
    go_enter Try.func23, Try.ntmps23
    go_wp2_with (go_at_call 21; refine (i_of_yes _ h _).mono ?_; rintro e w1 ⟨rfl, hb⟩)
    go_ret2
    exact ⟨rfl, hb⟩
theorem iat_in (n : Nat) (h : n ≤ 7) (k : Nat) (hk : 1 ≤ k) (hk2 : k ≤ (C.ci n).length) (w : World) :
    Calls Try.prog 23 #[.int .i64 n, .int .i64 k] w fun e w' => e = .returned (.tuple #[.string ⟨(((C.ci n).drop (k - 1)).take (k - (k - 1))).toArray⟩, .bool true]) ∧ Below w.heap.size w w' := by
  have r1 := fun W : World => sl_any (C.ci n) (k - 1) k (by omega) hk2 W ((k : Int) - 1) (k : Int) (by omega) rfl
  have c1 : (1 : Int) ≤ k := by omega
  have hl := ci_le n h
  go_enter Try.func23, Try.ntmps23
  go_wp2_with (go_at_call 21; refine (i_of_yes _ h _).mono ?_; rintro e w1 ⟨rfl, hb⟩)
  go_ret2
  exact ⟨rfl, hb⟩
theorem sat_out0 (k : Int) (hk : ¬ 1 ≤ k ∨ ¬ k ≤ 0) (w : World) :
    Calls Try.prog 22 #[.int .i64 0, .int .i64 k] w fun e w' => e = .returned (.tuple #[.string ⟨#[]⟩, .bool false]) ∧ w = w' := by
  by_cases c : 1 ≤ k
  · have c2 : ¬ k ≤ 0 := by omega
    clear hk
    go_enter Try.func22, Try.ntmps22
    go_wp2
    go_ret2
    exact ⟨rfl, rfl⟩
  · clear hk
    go_enter Try.func22, Try.ntmps22
    go_wp2
    go_ret2
    exact ⟨rfl, rfl⟩
theorem sat_out1 (k : Int) (hk : ¬ 1 ≤ k ∨ ¬ k ≤ 1) (w : World) :
    Calls Try.prog 22 #[.int .i64 1, .int .i64 k] w fun e w' => e = .returned (.tuple #[.string ⟨#[]⟩, .bool false]) ∧ w = w' := by
  by_cases c : 1 ≤ k
  · have c2 : ¬ k ≤ 1 := by omega
    clear hk
    go_enter Try.func22, Try.ntmps22
    go_wp2
    go_ret2
    exact ⟨rfl, rfl⟩
  · clear hk
    go_enter Try.func22, Try.ntmps22
    go_wp2
    go_ret2
    exact ⟨rfl, rfl⟩
theorem sat_in1 (k : Nat) (hk : 1 ≤ k) (hk2 : k ≤ 1) (w : World) :
    Calls Try.prog 22 #[.int .i64 1, .int .i64 k] w fun e w' => e = .returned (.tuple #[.string ⟨(((C.ci 1).drop (k - 1)).take (k - (k - 1))).toArray⟩, .bool true]) ∧ w = w' := by
  have hl := C.ci_length 1
  have r1 := fun W : World => sl_any (C.ci 1) (k - 1) k (by omega) (by omega) W ((k : Int) - 1) (k : Int) (by omega) rfl
  have c1 : (1 : Int) ≤ k := by omega
  have c2 : (k : Int) ≤ 1 := by omega
  have HL := Lib.hid hl
  clear hl
  go_enter Try.func22, Try.ntmps22
  go_wp2_with (first | (go_at_call 36; refine (foCreases_ci 1 (by omega) _).mono ?_; rintro e w' ⟨rfl, rfl⟩) | go_in)
  go_ret2
  exact ⟨ret_strb (by obtain rfl : k = 1 := by omega
                      rfl), rfl⟩
theorem sat_out2 (k : Int) (hk : ¬ 1 ≤ k ∨ ¬ k ≤ 3) (w : World) :
    Calls Try.prog 22 #[.int .i64 2, .int .i64 k] w fun e w' => e = .returned (.tuple #[.string ⟨#[]⟩, .bool false]) ∧ w = w' := by
  by_cases c : 1 ≤ k
  · have c2 : ¬ k ≤ 3 := by omega
    clear hk
    go_enter Try.func22, Try.ntmps22
    go_wp2
    go_ret2
    exact ⟨rfl, rfl⟩
  · clear hk
    go_enter Try.func22, Try.ntmps22
    go_wp2
    go_ret2
    exact ⟨rfl, rfl⟩
theorem sat_in2 (k : Nat) (hk : 1 ≤ k) (hk2 : k ≤ 3) (w : World) :
    Calls Try.prog 22 #[.int .i64 2, .int .i64 k] w fun e w' => e = .returned (.tuple #[.string ⟨(((C.ci 2).drop (k - 1)).take (k - (k - 1))).toArray⟩, .bool true]) ∧ w = w' := by
  have hl := C.ci_length 2
  have r1 := fun W : World => sl_any (C.ci 2) (k - 1) k (by omega) (by omega) W ((k : Int) - 1) (k : Int) (by omega) rfl
  have c1 : (1 : Int) ≤ k := by omega
  have c2 : (k : Int) ≤ 3 := by omega
  have HL := Lib.hid hl
  clear hl
  go_enter Try.func22, Try.ntmps22
  go_wp2_with (first | (go_at_call 36; refine (foCreases_ci 2 (by omega) _).mono ?_; rintro e w' ⟨rfl, rfl⟩) | go_in)
  go_ret2
  exact ⟨rfl, rfl⟩
theorem sat_out3 (k : Int) (hk : ¬ 1 ≤ k ∨ ¬ k ≤ 7) (w : World) :
    Calls Try.prog 22 #[.int .i64 3, .int .i64 k] w fun e w' => e = .returned (.tuple #[.string ⟨#[]⟩, .bool false]) ∧ w = w' := by
  by_cases c : 1 ≤ k
  · have c2 : ¬ k ≤ 7 := by omega
    clear hk
    go_enter Try.func22, Try.ntmps22
    go_wp2
    go_ret2
    exact ⟨rfl, rfl⟩
  · clear hk
    go_enter Try.func22, Try.ntmps22
    go_wp2
    go_ret2
    exact ⟨rfl, rfl⟩
theorem sat_in3 (k : Nat) (hk : 1 ≤ k) (hk2 : k ≤ 7) (w : World) :
    Calls Try.prog 22 #[.int .i64 3, .int .i64 k] w fun e w' => e = .returned (.tuple #[.string ⟨(((C.ci 3).drop (k - 1)).take (k - (k - 1))).toArray⟩, .bool true]) ∧ w = w' := by
  have hl := C.ci_length 3
  have r1 := fun W : World => sl_any (C.ci 3) (k - 1) k (by omega) (by omega) W ((k : Int) - 1) (k : Int) (by omega) rfl
  have c1 : (1 : Int) ≤ k := by omega
  have c2 : (k : Int) ≤ 7 := by omega
  have HL := Lib.hid hl
  clear hl
  go_enter Try.func22, Try.ntmps22
  go_wp2_with (first | (go_at_call 36; refine (foCreases_ci 3 (by omega) _).mono ?_; rintro e w' ⟨rfl, rfl⟩) | go_in)
  go_ret2
  exact ⟨rfl, rfl⟩
theorem sat_out4 (k : Int) (hk : ¬ 1 ≤ k ∨ ¬ k ≤ 15) (w : World) :
    Calls Try.prog 22 #[.int .i64 4, .int .i64 k] w fun e w' => e = .returned (.tuple #[.string ⟨#[]⟩, .bool false]) ∧ w = w' := by
  by_cases c : 1 ≤ k
  · have c2 : ¬ k ≤ 15 := by omega
    clear hk
    go_enter Try.func22, Try.ntmps22
    go_wp2
    go_ret2
    exact ⟨rfl, rfl⟩
  · clear hk
    go_enter Try.func22, Try.ntmps22
    go_wp2
    go_ret2
    exact ⟨rfl, rfl⟩
theorem sat_in4 (k : Nat) (hk : 1 ≤ k) (hk2 : k ≤ 15) (w : World) :
    Calls Try.prog 22 #[.int .i64 4, .int .i64 k] w fun e w' => e = .returned (.tuple #[.string ⟨(((C.ci 4).drop (k - 1)).take (k - (k - 1))).toArray⟩, .bool true]) ∧ w = w' := by
  have hl := C.ci_length 4
  have r1 := fun W : World => sl_any (C.ci 4) (k - 1) k (by omega) (by omega) W ((k : Int) - 1) (k : Int) (by omega) rfl
  have c1 : (1 : Int) ≤ k := by omega
  have c2 : (k : Int) ≤ 15 := by omega
  have HL := Lib.hid hl
  clear hl
  go_enter Try.func22, Try.ntmps22
  go_wp2_with (first | (go_at_call 36; refine (foCreases_ci 4 (by omega) _).mono ?_; rintro e w' ⟨rfl, rfl⟩) | go_in)
  go_ret2
  exact ⟨rfl, rfl⟩
theorem sat_out5 (k : Int) (hk : ¬ 1 ≤ k ∨ ¬ k ≤ 31) (w : World) :
    Calls Try.prog 22 #[.int .i64 5, .int .i64 k] w fun e w' => e = .returned (.tuple #[.string ⟨#[]⟩, .bool false]) ∧ w = w' := by
  by_cases c : 1 ≤ k
  · have c2 : ¬ k ≤ 31 := by omega
    clear hk
    go_enter Try.func22, Try.ntmps22
    go_wp2
    go_ret2
    exact ⟨rfl, rfl⟩
  · clear hk
    go_enter Try.func22, Try.ntmps22
    go_wp2
    go_ret2
    exact ⟨rfl, rfl⟩
theorem sat_in5 (k : Nat) (hk : 1 ≤ k) (hk2 : k ≤ 31) (w : World) :
    Calls Try.prog 22 #[.int .i64 5, .int .i64 k] w fun e w' => e = .returned (.tuple #[.string ⟨(((C.ci 5).drop (k - 1)).take (k - (k - 1))).toArray⟩, .bool true]) ∧ w = w' := by
  have hl := C.ci_length 5
  have r1 := fun W : World => sl_any (C.ci 5) (k - 1) k (by omega) (by omega) W ((k : Int) - 1) (k : Int) (by omega) rfl
  have c1 : (1 : Int) ≤ k := by omega
  have c2 : (k : Int) ≤ 31 := by omega
  have HL := Lib.hid hl
  clear hl
  go_enter Try.func22, Try.ntmps22
  go_wp2_with (first | (go_at_call 36; refine (foCreases_ci 5 (by omega) _).mono ?_; rintro e w' ⟨rfl, rfl⟩) | go_in)
  go_ret2
  exact ⟨rfl, rfl⟩
theorem sat_out6 (k : Int) (hk : ¬ 1 ≤ k ∨ ¬ k ≤ 63) (w : World) :
    Calls Try.prog 22 #[.int .i64 6, .int .i64 k] w fun e w' => e = .returned (.tuple #[.string ⟨#[]⟩, .bool false]) ∧ w = w' := by
  by_cases c : 1 ≤ k
  · have c2 : ¬ k ≤ 63 := by omega
    clear hk
    go_enter Try.func22, Try.ntmps22
    go_wp2
    go_ret2
    exact ⟨rfl, rfl⟩
  · clear hk
    go_enter Try.func22, Try.ntmps22
    go_wp2
    go_ret2
    exact ⟨rfl, rfl⟩
theorem sat_in6 (k : Nat) (hk : 1 ≤ k) (hk2 : k ≤ 63) (w : World) :
    Calls Try.prog 22 #[.int .i64 6, .int .i64 k] w fun e w' => e = .returned (.tuple #[.string ⟨(((C.ci 6).drop (k - 1)).take (k - (k - 1))).toArray⟩, .bool true]) ∧ w = w' := by
  have hl := C.ci_length 6
  have r1 := fun W : World => sl_any (C.ci 6) (k - 1) k (by omega) (by omega) W ((k : Int) - 1) (k : Int) (by omega) rfl
  have c1 : (1 : Int) ≤ k := by omega
  have c2 : (k : Int) ≤ 63 := by omega
  have HL := Lib.hid hl
  clear hl
  go_enter Try.func22, Try.ntmps22
  go_wp2_with (first | (go_at_call 36; refine (foCreases_ci 6 (by omega) _).mono ?_; rintro e w' ⟨rfl, rfl⟩) | go_in)
  go_ret2
  exact ⟨rfl, rfl⟩
theorem sat_out7 (k : Int) (hk : ¬ 1 ≤ k ∨ ¬ k ≤ 127) (w : World) :
    Calls Try.prog 22 #[.int .i64 7, .int .i64 k] w fun e w' => e = .returned (.tuple #[.string ⟨#[]⟩, .bool false]) ∧ w = w' := by
  by_cases c : 1 ≤ k
  · have c2 : ¬ k ≤ 127 := by omega
    clear hk
    go_enter Try.func22, Try.ntmps22
    go_wp2
    go_ret2
    exact ⟨rfl, rfl⟩
  · clear hk
    go_enter Try.func22, Try.ntmps22
    go_wp2
    go_ret2
    exact ⟨rfl, rfl⟩
theorem sat_in7 (k : Nat) (hk : 1 ≤ k) (hk2 : k ≤ 127) (w : World) :
    Calls Try.prog 22 #[.int .i64 7, .int .i64 k] w fun e w' => e = .returned (.tuple #[.string ⟨(((C.ci 7).drop (k - 1)).take (k - (k - 1))).toArray⟩, .bool true]) ∧ w = w' := by
  have hl := C.ci_length 7
  have r1 := fun W : World => sl_any (C.ci 7) (k - 1) k (by omega) (by omega) W ((k : Int) - 1) (k : Int) (by omega) rfl
  have c1 : (1 : Int) ≤ k := by omega
  have c2 : (k : Int) ≤ 127 := by omega
  have HL := Lib.hid hl
  clear hl
  go_enter Try.func22, Try.ntmps22
  go_wp2_with (first | (go_at_call 36; refine (foCreases_ci 7 (by omega) _).mono ?_; rintro e w' ⟨rfl, rfl⟩) | go_in)
  go_ret2
  exact ⟨rfl, rfl⟩
end Go.Proofs.Ytjoapogkooblgab
