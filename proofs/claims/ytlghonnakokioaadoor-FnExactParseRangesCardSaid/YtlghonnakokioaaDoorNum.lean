/- What l1Num answers: the number in decimal, for numbers from 0 to 10 to the 18th; it writes nothing that was there. -/
import Derived.Test.YtlghonnakokioaaDoorChecked
import Derived.WalkKit
import Derived.Lib.Hide
import Derived.Outline
import Derived.Deep.RegionWith
import Derived.Laws.BytesArg
import Derived.Maps.AppendAt
import Derived.IntWalk
import Derived.Deep.AppendLies
namespace Go.Proofs.YtlghonnakokioaaDoor
open Go.RowKit
def digit (n : Nat) : UInt8 := UInt8.ofNat (48 + n)
def decN (n : Nat) : List UInt8 := if n < 10 then [digit n] else decN (n / 10) ++ [digit (n % 10)]
termination_by n
decreasing_by omega
theorem decN_small {n : Nat} (h : n < 10) : decN n = [digit n] := by rw [decN, if_pos h]
theorem decN_great {n : Nat} (h : ¬ n < 10) : decN n = decN (n / 10) ++ [digit (n % 10)] := by rw [decN, if_neg h]
theorem decN_length (n : Nat) : 1 ≤ (decN n).length ∧ (decN n).length ≤ n + 1 := by
  induction n using Nat.strongRecOn with
  | ind n ih =>
    by_cases h : n < 10
    · rw [decN_small h]; simp
    · have := ih (n / 10) (by omega)
      rw [decN_great h, List.length_append]
      simp
      omega
/-- n in decimal -/
def numS (n : Nat) : ByteArray := ⟨(decN n).toArray⟩
def digS (m : Nat) : ByteArray := ⟨[digit m].toArray⟩
theorem numS_size (n : Nat) : (numS n).size = (decN n).length := by show (decN n).toArray.size = _; simp
theorem digS_size (m : Nat) : (digS m).size = 1 := rfl
theorem numS_small {n : Nat} (h : n < 10) : numS n = digS n := by unfold numS digS; rw [decN_small h]
theorem numS_great {n : Nat} (h : ¬ n < 10) : numS n = numS (n / 10) ++ digS (n % 10) := by
  unfold numS digS
  rw [decN_great h]
  apply ByteArray.ext
  simp
theorem cvt (W : World) (b m : Nat) (x : Int) (hx : x = 48 + (m : Int)) (h : W.cell? ⟨b, 0, none⟩ = some (.int .u8 x)) : (convert 77 9 (.slice (some ⟨b, 0, none⟩) 1 1)).run Tryd.prog W = .ok (.string (digS m)) W := by
  have e : strOfNums [x] = digS m := by
    subst hx
    unfold strOfNums digS digit
    congr 3
  rw [← e]
  exact run_convert_bytes_arg W 77 5 Tryd.underlying77 Tryd.underlying5 b 0 1 1 [x] rfl (fun i hi => by
    obtain rfl : i = 0 := by omega
    exact h) 9 Tryd.underlying9
theorem ret_str {a b : ByteArray} (h : a = b) : Ending.returned (.string a) = .returned (.string b) := by rw [h]
theorem grown_trans {a b c : World} (h1 : Grown a b) (h2 : Grown b c) : Grown a c :=
  ⟨World.keptBut_trans h1.1 h2.1, fun x => (h2.2.1 x).trans (h1.2.1 x), Nat.le_trans h1.2.2 h2.2.2⟩
theorem grownBy_refl (w : World) : w.grownBy w none := ⟨rfl, rfl, rfl, Nat.le_refl _, fun _ _ _ => rfl⟩
theorem grownBy_drew {a b : World} (h : a.grownBy b none) : a.grownBy b.drew none := ⟨h.os, h.tape, h.output, h.size, h.block⟩
set_option maxRecDepth 100000 in
theorem num_any (k : Nat) : ∀ (n : Nat) (w : World), n ≤ k → n ≤ 1000000000000000000 →
    Calls Tryd.prog 56 #[.int .i64 n] w fun e w' => e = .returned (.string (numS n)) ∧ Grown w w' ∧ w.grownBy w' none := by
  induction k with
  | zero =>
    intro n w hk hm
    have hn : (n : Int) < 10 := by omega
    have HE := Lib.hid (numS_small (n := n) (by omega))
    have c1 := cvt (w.alloc (.cells #[.int .u8 (48 + (n : Int))] 5)) w.heap.size n (48 + (n : Int)) rfl (World.cell?_alloc_mark _ _ _ _ _)
    go_enter Tryd.func56, Tryd.ntmps56
    go_wp2_with fail
    go_ret
    exact ⟨ret_str HE.out.symm, (Grown.refl _).alloc _ _, World.grownBy_alloc _ _ none⟩
  | succ k ih =>
    intro n w hk hm
    by_cases hn : (n : Int) < 10
    · have HE := Lib.hid (numS_small (n := n) (by omega))
      have c1 := cvt (w.alloc (.cells #[.int .u8 (48 + (n : Int))] 5)) w.heap.size n (48 + (n : Int)) rfl (World.cell?_alloc_mark _ _ _ _ _)
      clear ih
      go_enter Tryd.func56, Tryd.ntmps56
      go_wp2_with fail
      go_ret
      exact ⟨ret_str HE.out.symm, (Grown.refl _).alloc _ _, World.grownBy_alloc _ _ none⟩
    · have HI : Hid (∀ W : World, Calls Tryd.prog 56 #[.int .i64 ((n : Int) / 10)] W fun e w' => e = .returned (.string (numS (n / 10))) ∧ Grown W w' ∧ W.grownBy w' none) := Lib.hid (fun W => ih (n / 10) W (by omega) (by omega))
      have HE := Lib.hid (numS_great (n := n) (by omega))
      have hl := decN_length (n / 10)
      have hs : (numS (n / 10)).size + (digS (n % 10)).size ≤ 9223372036854775807 := by rw [numS_size, digS_size]; omega
      clear ih hl
      go_enter Tryd.func56, Tryd.ntmps56
      go_wp2_with fail
      have c1 := cvt ((w.alloc (.cells #[.int .u8 (48 + (n : Int) % 10)] 5)).drew) w.heap.size (n % 10) (48 + (n : Int) % 10) (by omega) (World.cell?_alloc_mark _ _ _ _ _)
      have e1 : IntKind.i64.wrap ((n : Int) / 10) = (n : Int) / 10 := IntWalk.i64_in _ (by omega)
      have e2 : (n : Int).tmod 10 = (n : Int) % 10 := IntWalk.rem_in _ _ (by omega)
      have e3 : IntKind.i64.wrap (48 + (n : Int) % 10) = 48 + (n : Int) % 10 := IntWalk.i64_in _ (by omega)
      have e4 : IntKind.u8.wrap (48 + (n : Int) % 10) = 48 + (n : Int) % 10 := IntWalk.u8_in _ (by omega)
      have hx : 48 + (n : Int) % 10 = 48 + ((n % 10 : Nat) : Int) := by omega
      have HX := Lib.hid hx
      clear hx
      go_region_with (first | (go_at_call 56; refine (HI.out _).mono ?_; rintro e w1 ⟨rfl, hg, hgb⟩; have c2 := cvt (w1.alloc (.cells #[.int .u8 (48 + (n : Int) % 10)] 5)) w1.heap.size (n % 10) (48 + (n : Int) % 10) HX.out (World.cell?_alloc_mark _ _ _ _ _); first | (have c3 := cvt w1 w.heap.size (n % 10) (48 + (n : Int) % 10) HX.out ((hgb.cell_far ⟨w.heap.size, 0, none⟩ (by simp) (by simp)).trans (World.cell?_alloc_mark w _ _ _ _))) | skip))
      all_goals
        go_wp2_with fail
        go_ret
        first
          | exact ⟨ret_str HE.out.symm, (grown_trans ((Grown.refl w).drew) hg).alloc _ _, ((grownBy_drew (grownBy_refl w)).trans hgb).trans (World.grownBy_alloc _ _ none)⟩
          | exact ⟨ret_str HE.out.symm, grown_trans (((Grown.refl w).alloc _ _).drew) hg, (grownBy_drew (World.grownBy_alloc w _ none)).trans hgb⟩
end Go.Proofs.YtlghonnakokioaaDoor
