/- What l1Num and the library's Itoa answer: one text; the library's table of powers of ten is taken to read as its own text lays it. -/
import Derived.Test.YtlghonnakokioaaDoorNum
import Derived.Test.YtlghonnakokioaaDoorShelf
import Derived.Lib.AppendIntMem
import Derived.Lib.ItoaMem
namespace Go.Proofs.YtlghonnakokioaaDoor
open Go.RowKit
theorem decN_eq (n : Nat) : decN n = Lib.decDigits n := by
  induction n using Nat.strongRecOn with
  | ind n ih =>
    by_cases h : n < 10
    · rw [decN_small h, Lib.decDigits, dif_pos h]; rfl
    · rw [decN_great h, Lib.decDigits, dif_neg h, ih (n / 10) (by omega)]; rfl
def Tab (W : World) : Prop := Lib.TabIs Tryd.prog W "internal/strconv.uint64pow10" .u64 Lib.pow10Tab
def TabOn (W : World) : Prop := ∀ W', Below W.heap.size W W' → Tab W'
theorem tabOn_of {W : World} (h : Tab W) : TabOn W := fun W' hb => Lib.tabBelow_of_tabIs h W' hb
theorem below_of_grown {a b : World} (h : a.grownBy b none) : Below a.heap.size a b := ⟨h.os, h.tape, h.output, h.size, fun k hk => h.block k hk (by simp)⟩
theorem below_next {a b c : World} (h : Below a.heap.size a b) (k : Below b.heap.size b c) : Below a.heap.size a c := h.trans (k.mono h.size)
theorem itoa_any (n : Nat) (hn : n ≤ 1000000000000000000) (W : World) (h : Tab W) :
    Calls Tryd.prog 35 #[.int .i64 n] W fun e w' => e = .returned (.string (numS n)) ∧ Below W.heap.size W w' := by
  refine (Any.strconv_Itoa Tryd.laysM171 n (by omega) (by omega) W h).mono ?_
  rintro e w' ⟨he, k, os, rfl⟩
  refine ⟨?_, Lib.below_grow _ W (Nat.le_refl _) k os⟩
  rw [he, Lib.itoa_nonneg, ← decN_eq]
  rfl
theorem l1Num_any (n : Nat) (hn : n ≤ 1000000000000000000) (W : World) :
    Calls Tryd.prog 56 #[.int .i64 n] W fun e w' => e = .returned (.string (numS n)) ∧ Below W.heap.size W w' :=
  (num_any n n W (Nat.le_refl _) hn).mono fun _ _ h => ⟨h.1, below_of_grown h.2.2⟩
theorem size_bd (k : Nat) : 1 ≤ (numS k).size ∧ (numS k).size ≤ k + 1 := by
  have := decN_length k
  rw [numS_size]
  omega
theorem tabOn_next {W W' : World} (h : TabOn W) (hb : Below W.heap.size W W') : TabOn W' := fun W2 h2 => h W2 (below_next hb h2)
end Go.Proofs.YtlghonnakokioaaDoor
