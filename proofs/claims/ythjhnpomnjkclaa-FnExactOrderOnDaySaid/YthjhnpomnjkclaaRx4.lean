/- A list of readers that came in as an argument: its numbers; how long a list the laws take. -/
import Derived.Test.YthjhnpomnjkclaaRx3
import Derived.OpenShut
import Derived.ProofKit
import Derived.Deep.Slices
import Derived.Deep.Strs
import Derived.Deep.Fields
namespace Go.Proofs.Ythjhnpomnjkclaa
open Go.RowKit Go.Joins Go.Deep Go.ChangeShapes Go.WideShapes
set_option linter.unusedVariables false
set_option linter.unusedSimpArgs false
namespace Rx
/-- a list of readers as it came in -/
def Raw (W : World) (a : Option Addr) (len : Nat) (zs : List Int) : Prop := zs.length = 3 * len ∧ len ≤ maxLen ∧ (len = 0 ∨ ∃ b off, a = some ⟨b, off, none⟩ ∧ b < W.heap.size ∧
  ∀ i, i < len → W.cell? ⟨b, off + i * 3, none⟩ = some (.int .i64 (zs.getD (i * 3) 0)) ∧ W.cell? ⟨b, off + i * 3 + 1, none⟩ = some (.int .i64 (zs.getD (i * 3 + 1) 0)) ∧ W.cell? ⟨b, off + i * 3 + 2, none⟩ = some (.int .i64 (zs.getD (i * 3 + 2) 0)))
theorem Raw.came {W : World} {a : Option Addr} {len cap : Nat} {zs : List Int} (h : Raw W a len zs) (hl : len ≤ 1048576) : Came W (.slice a len cap) len zs := by
  refine ⟨h.1, hl, ?_⟩
  rcases h.2.2 with h0 | ⟨b, off, rfl, hb, hc⟩
  · exact Or.inl ⟨h0, a, cap, by rw [h0]⟩
  · exact Or.inr ⟨b, off, cap, rfl, h.1, hl, hb, hc⟩
/-- the number in a cell -/
def gv (W : World) (a : Addr) (j : Nat) : Int := match W.cell? (a.add j) with
  | some (.int _ z) => z
  | _ => 0
theorem gv_of {W : World} {a : Addr} {j : Nat} {z : Int} (h : W.cell? (a.add j) = some (.int .i64 z)) : W.cell? (a.add j) = some (.int .i64 (gv W a j)) := by
  unfold gv
  rw [h]
theorem cellsR : Try.prog.cellsOf 54 = 3 := by kernel_rfl
theorem rd_open {H : Type} {enc : TypeId × Value → H} {W : World} {fuel : Nat} {a : Option Addr} {len cap : Nat} {x : DataW H × List MemPlace} (h : DataW.trod enc Try.prog W 0 (fun _ => true) true fuel 22 [.slice a len cap] = some x) : ∃ zs, Raw W a len zs := by
  rcases open_slice Try.underlying22 h with ⟨hcs, _⟩ | ⟨b, l, c, m, n, D, Pl, hcs, hb, hl, hm, hmm, hx, hi⟩
  · simp at hcs
    obtain ⟨rfl, rfl, rfl⟩ := hcs
    exact ⟨[], by simp, by unfold maxLen; omega, Or.inl rfl⟩
  · simp at hcs
    obtain ⟨rfl, rfl, rfl⟩ := hcs
    have hlm : len ≤ m := by rw [hmm]; split <;> omega
    have key : ∀ j, j < 3 * len → W.cell? (b.add j) = some (.int .i64 (gv W b j)) := by
      intro j hj
      obtain ⟨i, r, hir, hr⟩ : ∃ i r, j = i * 3 + r ∧ r < 3 := ⟨j / 3, j % 3, by omega, by omega⟩
      subst hir
      obtain ⟨cs', h1, h2⟩ := hi i (by omega)
      rw [cellsR] at h1
      obtain ⟨_, hlen, hat⟩ := World.cells?_some h1
      obtain ⟨y0, y1, y2, n', _, _, g0, g1, g2⟩ := trod_struct3 Try.underlying54 h2
      have hc := hat r hr
      rw [Go.Deep.add_add] at hc
      match cs', hlen, g0, g1, g2, hc with
      | [c0, c1, c2], _, g0, g1, g2, hc =>
        have e3 : Try.prog.cellsOf 3 = 1 := by kernel_rfl
        simp only [e3] at g0 g1 g2
        obtain ⟨z0, e0, _, _⟩ := DataW.trod_int Try.underlying3 g0
        obtain ⟨z1, e1, _, _⟩ := DataW.trod_int Try.underlying3 g1
        obtain ⟨z2, e2, _, _⟩ := DataW.trod_int Try.underlying3 g2
        simp at e0 e1 e2
        subst e0 e1 e2
        rcases (show r = 0 ∨ r = 1 ∨ r = 2 by omega) with rfl | rfl | rfl
        · exact gv_of (by rw [hc]; rfl)
        · exact gv_of (by rw [hc]; rfl)
        · exact gv_of (by rw [hc]; rfl)
    refine ⟨(List.range (3 * len)).map (gv W b), by simp, Nat.le_trans hl hm, ?_⟩
    by_cases h0 : len = 0
    · exact Or.inl h0
    · refine Or.inr ?_
      have key2 : ∀ j, j < ((List.range (3 * len)).map (gv W b)).length → W.cell? (b.add j) = some (.int .i64 (((List.range (3 * len)).map (gv W b)).getD j 0)) := by
        intro j hj
        have hj' : j < 3 * len := by simpa using hj
        rw [key j hj']
        simp [List.getD, hj']
      obtain ⟨bb, off, rfl, hc⟩ := ints_at key2 (by simp; omega)
      have hlt := World.block_lt_of_cell? _ _ (hc 0 (by simp; omega))
      refine ⟨bb, off, rfl, hlt, fun i hi' => ⟨?_, ?_, ?_⟩⟩
      · exact hc (i * 3) (by simp; omega)
      · exact hc (i * 3 + 1) (by simp; omega)
      · exact hc (i * 3 + 2) (by simp; omega)
set_option maxRecDepth 100000 in
theorem sz_yes (a : Option Addr) (len cap : Nat) (hl : len ≤ 1048576) (w : World) : Calls Try.prog 8 #[.slice a len cap, .int .i64 1048576] w fun e w' => e = .returned (.int .i64 ((1048576 : Int) - (len : Int))) ∧ w = w' := by
  have t1 : decide ((1048576 : Int) - (len : Int) < 0) = false := by simp; omega
  go_enter Try.func8, Try.ntmps8
  go_wp2
  go_ret
  exact ⟨rfl, rfl⟩
set_option maxRecDepth 100000 in
theorem sz_no (a : Option Addr) (len cap : Nat) (hl : ¬ len ≤ 1048576) (hm : len ≤ maxLen) (w : World) : Calls Try.prog 8 #[.slice a len cap, .int .i64 1048576] w fun e w' => e = .returned (.int .i64 (-1)) ∧ w = w' := by
  have t0 : (len : Int) ≤ 9223372036854775807 := by unfold maxLen at hm; omega
  have t1 : decide ((1048576 : Int) - (len : Int) < 0) = true := by simp; omega
  have t2 : wrap64 ((1048576 : Int) - (len : Int)) = (1048576 : Int) - (len : Int) := IntWalk.wrap64_in _ (by omega)
  clear hm hl
  go_enter Try.func8, Try.ntmps8
  go_wp2
  go_ret
  exact ⟨rfl, rfl⟩
end Rx
end Go.Proofs.Ythjhnpomnjkclaa
