/- The longest range, by the program. -/
import Derived.Test.YtgeailpmjfkhgaaLg
import Derived.Deep.RegionHeld3
namespace Go.Proofs.Ytgeailpmjfkhgaa
open Go.RowKit Go.Joins Go.Deep Go.ChangeShapes Go.WideShapes
set_option linter.unusedVariables false
set_option linter.unusedSimpArgs false
namespace Gw
open Rg Gm
def cmpI (x y : Int) : Int := if x < y then -1 else if y < x then 1 else 0
theorem cmp_any (x y : Int) (w : World) : Calls Try.prog 46 #[.int .i64 x, .int .i64 y] w fun e w' => e = .returned (.int .i64 (cmpI x y)) ∧ w = w' := by
  unfold cmpI
  by_cases h1 : x < y
  · have t1 : decide (x < y) = true := by simpa using h1
    go_enter Try.func46, Try.ntmps46
    go_wp2
    go_ret
    exact ⟨by simp [h1], rfl⟩
  · by_cases h2 : y < x
    · go_enter Try.func46, Try.ntmps46
      go_wp2
      go_ret
      exact ⟨by simp [h1, h2], rfl⟩
    · go_enter Try.func46, Try.ntmps46
      go_wp2
      go_ret
      exact ⟨by simp [h1, h2], rfl⟩
theorem keepS {w w' : World} {a b a' b' : Addr} {x y x' y' : Value} (hb : Below w.heap.size w w')
    (h : w.cell? a = some x ∧ w.cell? b = some y ∧ w.cell? a' = some x' ∧ w.cell? b' = some y') :
    w'.cell? a = some x ∧ w'.cell? b = some y ∧ w'.cell? a' = some x' ∧ w'.cell? b' = some y' :=
  ⟨(hb.cell (p := a) (lt_of_cell h.1)).trans h.1, (hb.cell (p := b) (lt_of_cell h.2.1)).trans h.2.1, (hb.cell (p := a') (lt_of_cell h.2.2.1)).trans h.2.2.1, (hb.cell (p := b') (lt_of_cell h.2.2.2)).trans h.2.2.2⟩
theorem cells_two (w : World) (x y x' y' : Value) (T : TypeId) : ((w.alloc (.cells #[x, y] T)).alloc (.cells #[x', y'] T)).cell? ⟨w.heap.size, 0, none⟩ = some x ∧ ((w.alloc (.cells #[x, y] T)).alloc (.cells #[x', y'] T)).cell? ⟨w.heap.size, 1, none⟩ = some y ∧
    ((w.alloc (.cells #[x, y] T)).alloc (.cells #[x', y'] T)).cell? ⟨w.heap.size + 1, 0, none⟩ = some x' ∧ ((w.alloc (.cells #[x, y] T)).alloc (.cells #[x', y'] T)).cell? ⟨w.heap.size + 1, 1, none⟩ = some y' := by
  have h1 := (B2.new w x y T).alloc (.cells #[x', y'] T)
  have h2 := B2.new (w.alloc (.cells #[x, y] T)) x' y' T
  have e : (w.alloc (.cells #[x, y] T)).heap.size = w.heap.size + 1 := by simp
  rw [e] at h2
  exact ⟨h1.2.1, h1.2.2, h2.2.1, h2.2.2⟩
set_option maxRecDepth 100000 in
set_option maxHeartbeats 1000000 in
theorem longCl_any (f t f' t' : Int) (h1 : 1 ≤ f) (h2 : f ≤ t) (h3 : t ≤ 2000) (k1 : 1 ≤ f') (k2 : f' ≤ t') (k3 : t' ≤ 2000) (w : World) :
    Calls Try.prog 45 #[.agg #[.int .i64 f, .int .i64 t], .agg #[.int .i64 f', .int .i64 t']] w (Ret (.int .i64 (cmpI (t - f + 1) (t' - f' + 1))) w) := by
  obtain ⟨q0, q1, Q0, Q1⟩ := cells_two w (.int .i64 f) (.int .i64 t) (.int .i64 f') (.int .i64 t') 43
  have HB0 := Lib.hid ((below_alloc1 w (.cells #[.int .i64 f, .int .i64 t] 43)).alloc (below_alloc1 w _).size (.cells #[.int .i64 f', .int .i64 t'] 43))
  have C1 := Lib.hid (fun W => pages_any f t h1 h2 h3 W)
  have C2 := Lib.hid (fun W => pages_any f' t' k1 k2 k3 W)
  have C3 := Lib.hid (fun W => cmp_any (t - f + 1) (t' - f' + 1) W)
  clear h1 h2 h3 k1 k2 k3
  go_enter Try.func45, Try.ntmps45
  go_wp2
  go_region_held3 (fun w' => w'.cell? ⟨w.heap.size, 0, none⟩ = some (.int .i64 f) ∧ w'.cell? ⟨w.heap.size, 1, none⟩ = some (.int .i64 t) ∧ w'.cell? ⟨w.heap.size + 1, 0, none⟩ = some (.int .i64 f') ∧ w'.cell? ⟨w.heap.size + 1, 1, none⟩ = some (.int .i64 t'))
    (first | exact ⟨q0, q1, Q0, Q1⟩ | exact hs5 | exact hs4 | go_keep)
    (first
      | (go_at_call 46; refine (C3.out _).mono ?_; rintro e w6 ⟨rfl, rfl⟩)
      | (go_at_call 38; refine (C1.out _).mono ?_; rintro e w4 ⟨rfl, hb4⟩; have hs4 : w4.cell? ⟨w.heap.size, 0, none⟩ = some (.int .i64 f) ∧ w4.cell? ⟨w.heap.size, 1, none⟩ = some (.int .i64 t) ∧ w4.cell? ⟨w.heap.size + 1, 0, none⟩ = some (.int .i64 f') ∧ w4.cell? ⟨w.heap.size + 1, 1, none⟩ = some (.int .i64 t') := keep4 hb4 ⟨q0, q1, Q0, Q1⟩)
      | (go_at_call 38; refine (C2.out _).mono ?_; rintro e w5 ⟨rfl, hb5⟩; have hs5 : w5.cell? ⟨w.heap.size, 0, none⟩ = some (.int .i64 f) ∧ w5.cell? ⟨w.heap.size, 1, none⟩ = some (.int .i64 t) ∧ w5.cell? ⟨w.heap.size + 1, 0, none⟩ = some (.int .i64 f') ∧ w5.cell? ⟨w.heap.size + 1, 1, none⟩ = some (.int .i64 t') := keepS hb5 hs4))
  have HE := Lib.hid ((HB0.out.drew.trans (Rg.below_le hb4 HB0.out.size)).trans (Rg.below_le hb5 (Nat.le_trans HB0.out.size hb4.size)))
  clear hb4 hb5 hs4 hs5
  go_wp2
  go_ret
  exact ⟨rfl, HE.out⟩
end Gw
end Go.Proofs.Ytgeailpmjfkhgaa
