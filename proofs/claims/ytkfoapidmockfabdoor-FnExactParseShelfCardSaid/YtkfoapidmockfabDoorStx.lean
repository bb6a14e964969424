/- The text of a shelf, and that shText answers it. -/
import Derived.Test.YtkfoapidmockfabDoorIt
import Derived.Test.YtkfoapidmockfabDoorSh2
import Derived.Test.YtkfoapidmockfabDoorB2
import Derived.Maps.AppendAt
namespace Go.Proofs.YtkfoapidmockfabDoor
open Go.RowKit Go.Joins Go.Deep Go.ChangeShapes Go.WideShapes
set_option linter.unusedVariables false
set_option linter.unusedSimpArgs false
namespace Sh
/-- the first k numbers, with a comma between them -/
def sj (zs : List Int) : Nat → ByteArray
  | 0 => ByteArray.empty
  | k + 1 => (if k = 0 then sj zs k else sj zs k ++ ⟨#[44]⟩) ++ numS (zs.getD k 0).toNat
def txt (zs : List Int) (c : Int) : ByteArray := sj zs zs.length ++ ⟨#[99]⟩ ++ numS c.toNat
theorem sj_first (zs : List Int) : sj zs 1 = ByteArray.empty ++ numS (zs.getD 0 0).toNat := rfl
theorem sj_next (zs : List Int) (k : Nat) (h : k ≠ 0) : sj zs (k + 1) = (sj zs k ++ ⟨#[44]⟩) ++ numS (zs.getD k 0).toNat := by
  show (if k = 0 then sj zs k else sj zs k ++ ⟨#[44]⟩) ++ _ = _
  rw [if_neg h]
theorem num_bd (z : Int) (h1 : 0 ≤ z) (h2 : z ≤ 100) : 1 ≤ (numS z.toNat).size ∧ (numS z.toNat).size ≤ 101 := by
  have := size_bd z.toNat
  omega
theorem one_size (a : UInt8) : (⟨#[a]⟩ : ByteArray).size = 1 := rfl
theorem sj_size {zs : List Int} {c : Int} (h : Ok zs c) (k : Nat) (hk : k ≤ zs.length) : (sj zs k).size ≤ 102 * k := by
  induction k with
  | zero => show ByteArray.empty.size ≤ 0; exact Nat.le_refl 0
  | succ k ih =>
    have h1 := ih (by omega)
    have h2 := h.2.2.1 k (by omega)
    have h3 := num_bd (zs.getD k 0) (by omega) h2.2
    by_cases e : k = 0
    · subst e
      rw [sj_first, ByteArray.size_append]
      have e0 : ByteArray.empty.size = 0 := rfl
      omega
    · rw [sj_next zs k e, ByteArray.size_append, ByteArray.size_append, one_size]
      omega
theorem l1Num_at (z : Int) (h1 : 0 ≤ z) (h2 : z ≤ 100) (W : World) :
    Calls Tryd.prog 38 #[.int .i64 z] W fun e w' => e = .returned (.string (numS z.toNat)) ∧ Below W.heap.size W w' := by
  obtain ⟨n, rfl⟩ := Int.eq_ofNat_of_zero_le h1
  exact l1Num_any n (by omega) W
theorem itoa_at (z : Int) (h1 : 0 ≤ z) (h2 : z ≤ 100) (W : World) (h : Tab W) :
    Calls Tryd.prog 41 #[.int .i64 z] W fun e w' => e = .returned (.string (numS z.toNat)) ∧ Below W.heap.size W w' := by
  obtain ⟨n, rfl⟩ := Int.eq_ofNat_of_zero_le h1
  exact itoa_any n (by omega) W h
theorem ret_s {a b : ByteArray} (h : a = b) : Ending.returned (.string a) = .returned (.string b) := by rw [h]
/-- the world with the shelf's own two cells -/
abbrev bs (w : World) (g len cap : Nat) (c : Int) : World := w.alloc (.cells #[.slice (some ⟨g, 0, none⟩) len cap, .int .i64 c] 45)
theorem bs_cover (w wr : World) (g len cap : Nat) (c : Int) (hb : Below (bs w g len cap c).heap.size (bs w g len cap c) wr) : wr.cell? ⟨w.heap.size, 1, none⟩ = some (.int .i64 c) :=
  ((B2.new w (.slice (some ⟨g, 0, none⟩) len cap) (.int .i64 c) 45).on hb).2.2
theorem bs_out {w wr : World} {g len cap : Nat} {c : Int} (hb : Below (bs w g len cap c).heap.size (bs w g len cap c) wr) : Below w.heap.size w wr :=
  Li.below_next (below_alloc1 w _) hb
set_option maxRecDepth 100000 in
set_option maxHeartbeats 1000000 in
theorem shText_any {b1 g len cap : Nat} {zs : List Int} {c : Int} {w : World} (h : Ow w b1 g len cap zs) (ho : Ok zs c) :
    Calls Tryd.prog 55 #[V g len cap c] w (Ret (.string (txt zs c)) w) := by
  have HO0 := Lib.hid (Li.own_on h (below_alloc1 w (.cells #[.slice (some ⟨g, 0, none⟩) len cap, .int .i64 c] 45)))
  have hz := ow_len h
  have hl8 : len ≤ 8 := by have := ho.2.1; omega
  have c1 := ho.2.2.2.1
  have c2 := ho.2.2.2.2
  have HK := Lib.hid ho
  have HZ := Lib.hid hz
  clear h ho hz
  go_enter Tryd.func55, Tryd.ntmps55
  go_wp2
  go_loopw [3, 9] (fun o i wr => ∃ k : Nat, k ≤ len ∧ i = .int .i64 (k : Int) ∧ o = .string (sj zs k) ∧ Below (bs w g len cap c).heap.size (bs w g len cap c) wr) (fun _ i _ => ((len : Int) - intOf i).toNat)
  case atStart => exact ⟨0, by omega, rfl, rfl, Below.refl _ _⟩
  case round =>
    obtain ⟨k, hk, rfl, rfl, hb⟩ := hrel
    have HB := Lib.hid hb
    have hsz := sj_size HK.out k (by rw [HZ.out]; exact hk)
    clear hb
    by_cases hlt : (k : Int) < len
    · have hk2 : k < len := by omega
      obtain ⟨z, HZK, hc⟩ := ow_at (Li.own_on HO0.out HB.out) hk2
      have hz1 := HK.out.2.2.1 k (by rw [HZ.out]; omega)
      rw [HZK.out] at hz1
      have hnb := num_bd z (by omega) hz1.2
      have C1 := Lib.hid (fun W => l1Num_at z (by omega) hz1.2 W)
      by_cases hk0 : (0 : Int) < k
      · have ek : k ≠ 0 := by omega
        have ES := Lib.hid (sj_next zs k ek)
        have r1 : ∀ W : World, (Op.stringOp .add (sj zs k) ⟨#[44]⟩).run Tryd.prog W = .ok (.string (sj zs k ++ ⟨#[44]⟩)) W := fun W => run_string_add_sum W _ _ (by rw [one_size]; omega)
        have r2 : ∀ W : World, (Op.stringOp .add (sj zs k ++ ⟨#[44]⟩) (numS z.toNat)).run Tryd.prog W = .ok (.string ((sj zs k ++ ⟨#[44]⟩) ++ numS z.toNat)) W := fun W => run_string_add_sum W _ _ (by rw [ByteArray.size_append, one_size]; omega)
        go_wp2_with (first | (go_at_call 38; refine (C1.out _).mono ?_; rintro e w2 ⟨rfl, hb3⟩))
        go_roundw
        case rel => exact ⟨k + 1, by omega, by go_num, by rw [ES.out, HZK.out], Li.below_next HB.out hb3⟩
        case measure => simp [intOf]; omega
      · have ek : k = 0 := by omega
        subst ek
        have r2 : ∀ W : World, (Op.stringOp .add (sj zs 0) (numS z.toNat)).run Tryd.prog W = .ok (.string (sj zs 0 ++ numS z.toNat)) W := fun W => run_string_add_sum W _ _ (by omega)
        go_wp2_with (first | (go_at_call 38; refine (C1.out _).mono ?_; rintro e w2 ⟨rfl, hb3⟩))
        go_roundw
        case rel => exact ⟨1, by omega, by go_num, by rw [sj_first, HZK.out]; rfl, Li.below_next HB.out hb3⟩
        case measure => simp [intOf]; omega
    · have ek : k = len := by omega
      have hsl : (sj zs len).size ≤ 102 * len := by have := hsz; rw [ek] at this; exact this
      have hcc := bs_cover w wr g len cap c HB.out
      have C2 := Lib.hid (fun W => l1Num_at c c1 (by omega) W)
      have hnb := num_bd c c1 (by omega)
      have ET := Lib.hid (show (sj zs len ++ ⟨#[99]⟩) ++ numS c.toNat = txt zs c by unfold txt; rw [HZ.out])
      have r1 : ∀ W : World, (Op.stringOp .add (sj zs len) ⟨#[99]⟩).run Tryd.prog W = .ok (.string (sj zs len ++ ⟨#[99]⟩)) W := fun W => run_string_add_sum W _ _ (by rw [one_size]; omega)
      have r2 : ∀ W : World, (Op.stringOp .add (sj zs len ++ ⟨#[99]⟩) (numS c.toNat)).run Tryd.prog W = .ok (.string ((sj zs len ++ ⟨#[99]⟩) ++ numS c.toNat)) W := fun W => run_string_add_sum W _ _ (by rw [ByteArray.size_append, one_size]; omega)
      go_wp2_with (first | (go_at_call 38; refine (C2.out _).mono ?_; rintro e w2 ⟨rfl, hb3⟩))
      go_ret
      exact ⟨ret_s ET.out, bs_out (Li.below_next HB.out hb3)⟩
end Sh
end Go.Proofs.YtkfoapidmockfabDoor
