/- Lists of integers, and lists of such lists, as they come in as arguments. -/
import Derived.Test.YtcaklokcajidiabSs2
import Derived.ProofKit
import Derived.Deep.Slices
namespace Go.Proofs.Ytcaklokcajidiab
open Go.RowKit Go.Joins Go.Deep Go.ChangeShapes Go.WideShapes Li
set_option linter.unusedVariables false
set_option linter.unusedSimpArgs false
namespace Ss
theorem szIntSS_any {a : Option Addr} {len cap : Nat} {R : List (List Int)} {w : World} (h : Grid 0 w (.slice a len cap) R) : Calls Try.prog 23 #[.slice a len cap, .int .i64 1048576] w (Counted R w) := by
  obtain ⟨a', cap', e, hm, h⟩ := h
  simp only [Value.slice.injEq] at e
  obtain ⟨rfl, rfl, rfl⟩ := e
  by_cases hl : R.length ≤ 1048576
  · by_cases h0 : R.length = 0
    · have e : R = [] := List.eq_nil_of_length_eq_zero h0
      subst e
      exact szIntSS_none a cap w
    · obtain ⟨b, off, rfl, hr⟩ := h.resolve_left h0
      exact szIntSS_some b off R.length cap R w hr rfl hl
  · exact szIntSS_long a R.length cap R hl hm w
theorem row_at {W : World} {a : Option Addr} {len cap : Nat} {zs : List Int} (hz : zs.length = len) (hm : len ≤ maxLen) (h : ∀ a', a = some a' → ∀ i, i < len → W.cell? (a'.add i) = some (.int .i64 (zs.getD i 0))) (h0 : a = none → len = 0) : Row 0 W (.slice a len cap) zs := by
  refine ⟨a, cap, by rw [hz], by omega, ?_⟩
  by_cases hl : zs.length = 0
  · exact Or.inl hl
  · cases a with
    | none => exact absurd (h0 rfl) (by omega)
    | some a =>
      obtain ⟨b, off, rfl, hc⟩ := ints_at (w := W) (zs := zs) (a := a) (k := .i64) (fun i hi => h a rfl i (by omega)) (by omega)
      exact Or.inr ⟨b, off, rfl, Nat.zero_le _, by have := World.block_lt_of_cell? _ _ (hc 0 (by omega)); exact this, hc⟩
theorem row_open {H : Type} {enc : TypeId × Value → H} {W : World} {fuel : Nat} {a : Option Addr} {len cap : Nat} {x : DataW H × List MemPlace} (h : DataW.trod enc Try.prog W 0 (fun _ => true) true fuel 24 [.slice a len cap] = some x) : ∃ zs, Row 0 W (.slice a len cap) zs := by
  rcases open_ints Try.underlying24 Try.underlying3 (by kernel_rfl) h with ⟨hcs, _⟩ | ⟨b, l, c, zs, hcs, hb, hl, hm, hmm, hx, hi, hw⟩
  · simp at hcs
    obtain ⟨rfl, rfl, rfl⟩ := hcs
    exact ⟨[], none, 0, rfl, by simp, Or.inl rfl⟩
  · simp at hcs
    obtain ⟨rfl, rfl, rfl⟩ := hcs
    have hlm : len ≤ zs.length := by rw [hmm]; split <;> omega
    refine ⟨zs.take len, row_at (by simp; omega) (by omega) (fun a' e i hi' => ?_) (by simp)⟩
    simp only [Option.some.injEq] at e
    subst e
    rw [hi i (by omega)]
    simp [List.getD, hi']
theorem grid_open {H : Type} {enc : TypeId × Value → H} {W : World} {fuel : Nat} {a : Option Addr} {len cap : Nat} {x : DataW H × List MemPlace} (h : DataW.trod enc Try.prog W 0 (fun _ => true) true fuel 40 [.slice a len cap] = some x) : ∃ R, Grid 0 W (.slice a len cap) R := by
  rcases open_int_rows Try.underlying40 Try.underlying24 Try.underlying3 (by kernel_rfl) (by kernel_rfl) h with ⟨hcs, _⟩ | ⟨b, l, c, A, L, C, Z, hcs, hb, hl, hm, hx, hi⟩
  · simp at hcs
    obtain ⟨rfl, rfl, rfl⟩ := hcs
    exact ⟨[], none, 0, rfl, by simp, Or.inl rfl⟩
  · simp at hcs
    obtain ⟨rfl, rfl, rfl⟩ := hcs
    refine ⟨(List.range len).map fun r => (Z r).take (L r), some b, cap, by simp, by simp; omega, ?_⟩
    by_cases h0 : len = 0
    · exact Or.inl (by simpa using h0)
    · refine Or.inr ?_
      obtain ⟨bb, off, spot⟩ := b
      have hs : spot = none := by simpa [Addr.add] using World.cell?_spot (hi 0 (by omega)).1
      subst hs
      have hc : ∀ r, r < cap → W.cell? ⟨bb, off + r, none⟩ = some (.slice (A r) (L r) (C r)) := fun r hr => by
        rw [← Go.WideShapes.add_plain]; exact (hi r hr).1
      refine ⟨bb, off, rfl, by have := World.block_lt_of_cell? _ _ (hc 0 (by omega)); exact this, fun r hr => ?_⟩
      have hr' : r < len := by simpa using hr
      refine ⟨_, hc r (by omega), ?_⟩
      obtain ⟨_, h1, h2, h3, h4, h5, h6⟩ := hi r (by omega)
      have e : ((List.range len).map fun r => (Z r).take (L r)).getD r [] = (Z r).take (L r) := by simp [List.getD, hr']
      rw [e]
      refine row_at (by simp; omega) (by omega) (fun a' e i hi' => ?_) (fun e => by have := h5 e; omega)
      rw [(h6 a' e).2 i (by omega)]
      simp [List.getD, hi']
end Ss
end Go.Proofs.Ytcaklokcajidiab
