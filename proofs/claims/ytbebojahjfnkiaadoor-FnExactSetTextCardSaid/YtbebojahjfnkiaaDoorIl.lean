/- A list of integers that came in: its numbers, and a copy of it in new memory. -/
import Derived.Test.YtbebojahjfnkiaaDoorInts
import Derived.OpenShut
import Derived.ProofKit
import Derived.OwnWalk
import Derived.Lib.SmallJoins
import Derived.Deep.Slices
import Derived.Deep.Strs
import Derived.Deep.Fields
namespace Go.Proofs.YtbebojahjfnkiaaDoor
open Go.RowKit Go.Joins Go.Deep Go.ChangeShapes Go.WideShapes
set_option linter.unusedVariables false
set_option linter.unusedSimpArgs false
namespace Il
/-- len numbers at an address -/
def At (W : World) (b off len : Nat) (zs : List Int) : Prop := zs.length = len ∧ len ≤ 1048576 ∧ b < W.heap.size ∧ ∀ j, j < len → W.cell? ⟨b, off + j, none⟩ = some (.int .i64 (zs.getD j 0))
theorem At.on {W W' : World} {b off len : Nat} {zs : List Int} (h : At W b off len zs) (hb : Below W.heap.size W W') : At W' b off len zs :=
  ⟨h.1, h.2.1, Nat.lt_of_lt_of_le h.2.2.1 hb.size, fun j hj => (hb.cell (p := ⟨b, off + j, none⟩) h.2.2.1).trans (h.2.2.2 j hj)⟩
def copyOf (zs : List Int) (n k : Nat) : List Value := (zs.take k).map (Value.int .i64) ++ List.replicate (n - k) (.int .i64 0)
theorem copy_start (zs : List Int) (n : Nat) : copyOf zs n 0 = List.replicate n (.int .i64 0) := by simp [copyOf]
theorem copy_step (zs : List Int) (n k : Nat) (hk : k < n) (hn : zs.length = n) : (copyOf zs n k).set k (.int .i64 (zs.getD k 0)) = copyOf zs n (k + 1) := by
  subst hn
  unfold copyOf
  have e : zs.take (k + 1) = zs.take k ++ [zs.getD k 0] := by
    rw [List.take_succ_eq_append_getElem (by omega)]
    simp [List.getD, List.getElem?_eq_getElem hk]
  rw [e, List.set_append_right _ _ (by simp; omega)]
  have e2 : k - ((zs.take k).map (Value.int .i64)).length = 0 := by simp; omega
  rw [e2, show zs.length - k = (zs.length - (k + 1)) + 1 from by omega, List.replicate_succ]
  simp
theorem copy_end (zs : List Int) (n : Nat) (hn : zs.length = n) : copyOf zs n n = Li.nums zs := by
  subst hn
  simp [copyOf, Li.nums]
/-- a list that came in: empty, or its numbers lie at an address -/
def Came (W : World) (v : Value) (len : Nat) (zs : List Int) : Prop := zs.length = len ∧ len ≤ 1048576 ∧ ((len = 0 ∧ ∃ a cap, v = .slice a 0 cap) ∨ ∃ b off cap, v = .slice (some ⟨b, off, none⟩) len cap ∧ At W b off len zs)
theorem Came.on {W W' : World} {v : Value} {len : Nat} {zs : List Int} (h : Came W v len zs) (hb : Below W.heap.size W W') : Came W' v len zs :=
  ⟨h.1, h.2.1, h.2.2.imp id fun ⟨b, off, cap, e, ha⟩ => ⟨b, off, cap, e, ha.on hb⟩⟩
/-- a copy of it in new memory -/
def Copied (len : Nat) (zs : List Int) (W : World) (e : Ending) (w' : World) : Prop := ∃ g, e = .returned (.slice (some ⟨g, 0, none⟩) len len) ∧ w'.ownsRow W.heap.size 3 1 (.slice (some ⟨g, 0, none⟩) len len) len (Li.nums zs) ∧ Below W.heap.size W w'
/-- a list as it came in -/
def Raw (W : World) (a : Option Addr) (len : Nat) (zs : List Int) : Prop := zs.length = len ∧ len ≤ maxLen ∧ (len = 0 ∨ ∃ b off, a = some ⟨b, off, none⟩ ∧ b < W.heap.size ∧ ∀ i, i < len → W.cell? ⟨b, off + i, none⟩ = some (.int .i64 (zs.getD i 0)))
theorem Raw.came {W : World} {a : Option Addr} {len cap : Nat} {zs : List Int} (h : Raw W a len zs) (hl : len ≤ 1048576) : Came W (.slice a len cap) len zs := by
  refine ⟨h.1, hl, ?_⟩
  rcases h.2.2 with h0 | ⟨b, off, rfl, hb, hc⟩
  · exact Or.inl ⟨h0, a, cap, by rw [h0]⟩
  · exact Or.inr ⟨b, off, cap, rfl, h.1, hl, hb, hc⟩
theorem rd_open {H : Type} {enc : TypeId × Value → H} {W : World} {fuel : Nat} {a : Option Addr} {len cap : Nat} {x : DataW H × List MemPlace} (h : DataW.trod enc Tryd.prog W 0 (fun _ => true) true fuel 30 [.slice a len cap] = some x) : ∃ zs, Raw W a len zs := by
  rcases open_ints Tryd.underlying30 Tryd.underlying3 (by kernel_rfl) h with ⟨hcs, _⟩ | ⟨b, l, c, zs, hcs, _, hl, hm, hz, _, hcell, _⟩
  · simp at hcs
    obtain ⟨rfl, rfl, rfl⟩ := hcs
    exact ⟨[], by simp, by unfold maxLen; omega, Or.inl rfl⟩
  · simp at hcs
    obtain ⟨rfl, rfl, rfl⟩ := hcs
    simp only [if_true] at hz
    refine ⟨zs.take len, by simp; omega, Nat.le_trans hl hm, ?_⟩
    by_cases h0 : len = 0
    · exact Or.inl h0
    · obtain ⟨bb, off, rfl, hc⟩ := ints_at hcell (by omega)
      refine Or.inr ⟨bb, off, rfl, World.block_lt_of_cell? _ _ (hc 0 (by omega)), fun i hi => ?_⟩
      rw [hc i (by omega)]
      simp [List.getD, List.getElem?_take, hi]
end Il
end Go.Proofs.YtbebojahjfnkiaaDoor
