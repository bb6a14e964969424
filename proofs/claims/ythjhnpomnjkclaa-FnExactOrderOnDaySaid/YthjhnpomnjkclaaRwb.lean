/- What the functions on readers answer: the same from both sides. -/
import Derived.Test.YthjhnpomnjkclaaRw2
import Derived.Deep.RegionHeld3
import Derived.Deep.RegionWith
namespace Go.Proofs.Ythjhnpomnjkclaa
open Go.RowKit Go.Joins
set_option linter.unusedVariables false
set_option linter.unusedSimpArgs false
namespace Rw
/-- a copy of a reader lies in a block -/
def Bx (W : World) (n : Nat) (m d r : Int) : Prop := n < W.heap.size ∧ W.cell? ⟨n, 0, none⟩ = some (.int .i64 m) ∧ W.cell? ⟨n, 1, none⟩ = some (.int .i64 d) ∧ W.cell? ⟨n, 2, none⟩ = some (.int .i64 r)
theorem Bx.on {W w' : World} {n : Nat} {m d r : Int} (h : Bx W n m d r) (hb : Below W.heap.size W w') : Bx w' n m d r :=
  ⟨Nat.lt_of_lt_of_le h.1 hb.size, (hb.cell (p := ⟨n, 0, none⟩) h.1).trans h.2.1, (hb.cell (p := ⟨n, 1, none⟩) h.1).trans h.2.2.1, (hb.cell (p := ⟨n, 2, none⟩) h.1).trans h.2.2.2⟩
theorem Bx.new (w : World) (m d r : Int) (t : TypeId) : Bx (w.alloc (.cells #[.int .i64 m, .int .i64 d, .int .i64 r] t)) w.heap.size m d r :=
  ⟨by simp, bx_cells (Below.refl _ _)⟩
theorem Bx.alloc {W : World} {n : Nat} {m d r : Int} (h : Bx W n m d r) (o : Obj) : Bx (W.alloc o) n m d r := h.on (below_alloc1 _ _)
theorem Bx.next (w : World) (o : Obj) (m d r : Int) (t : TypeId) : Bx ((w.alloc o).alloc (.cells #[.int .i64 m, .int .i64 d, .int .i64 r] t)) (w.heap.size + 1) m d r := by
  have := Bx.new (w.alloc o) m d r t
  rwa [World.size_alloc] at this
/-- a number and a bool -/
def ans (x : Int) (ok : Bool) : Value := .tuple #[.int .i64 x, .bool ok]
theorem facts {p m d r : Int} (h : Rd.inb p m d r = true) : 0 ≤ m ∧ m ≤ 2000 ∧ 1 ≤ d ∧ d ≤ 200 ∧ (r = 0 ∨ (2 ≤ r ∧ r ≤ 60)) ∧ 1 ≤ p ∧ p ≤ 2000 ∧ m ≤ p := by
  simp [Rd.inb] at h; omega
theorem gfacts {m d r : Int} (h : Rd.good m d r = true) : 0 ≤ m ∧ m ≤ 2000 ∧ 1 ≤ d ∧ d ≤ 200 ∧ (r = 0 ∨ (2 ≤ r ∧ r ≤ 60)) := by
  simp [Rd.good] at h; omega
theorem good_of {p m d r : Int} (h : Rd.inb p m d r = true) : Rd.good m d r = true := by
  have := facts h; simp [Rd.good]; omega
theorem two {r : Int} (h : r = 0 ∨ (2 ≤ r ∧ r ≤ 60)) : r = 0 ∨ 2 ≤ r := by omega

theorem diff_in {m d r : Int} {k j : Nat} (h : Rd.good m d r = true) (hk : k ≤ 4000) (hj : j ≤ 4000) : IntKind.i64.wrap (Rd.fr m d r k - Rd.fr m d r j) = Rd.fr m d r k - Rd.fr m d r j := by
  have h := gfacts h
  have a := Rd.fr_le (m := m) (two h.2.2.2.2) h.2.2.1 h.2.2.2.1 k (by omega)
  have b := Rd.fr_le (m := m) (two h.2.2.2.2) h.2.2.1 h.2.2.2.1 j (by omega)
  rw [IntKind.wrap_i64]; omega
theorem Bx.drew {W : World} {n : Nat} {m d r : Int} (h : Bx W n m d r) : Bx W.drew n m d r := h
theorem below_end {w W w1 w2 : World} (h : Below w.heap.size w W) (h1 : Below W.drew.heap.size W.drew w1) (h2 : Below w1.heap.size w1 w2) : Below w.heap.size w w2 :=
  (h.drew.trans (below_le h1 h.size)).trans (below_le h2 (Nat.le_trans h.size h1.size))
set_option maxRecDepth 100000 in
set_option maxHeartbeats 1000000 in
theorem readOn_any (m d r : Int) (k j : Nat) (hg : Rd.good m d r = true) (hk : k ≤ 3000) (hj : k = j + 1) (w : World) : Calls Try.prog 46 #[.agg #[.int .i64 m, .int .i64 d, .int .i64 r], .int .i64 (k : Int)] w (Ret (.int .i64 (Rd.fr m d r k - Rd.fr m d r j)) w) := by
  have HG := Lib.hid (gfacts hg)
  have h1 : IntKind.i64.wrap ((k : Int) - 1) = (j : Int) := by rw [IntKind.wrap_i64]; omega
  have h2 := diff_in (k := k) (j := j) hg (by omega) (by omega)
  have HB : Below w.heap.size w (w.alloc (.cells #[.int .i64 m, .int .i64 d, .int .i64 r] 52)) := below_alloc1 _ _
  have B := Bx.new w m d r 52
  obtain ⟨_, q0, q1, q2⟩ := id B
  have C1 := Lib.hid (fun W => markBehind_any m d r k HG.out.1 HG.out.2.1 HG.out.2.2.1 HG.out.2.2.2.1 HG.out.2.2.2.2 (by omega) W)
  have C2 := Lib.hid (fun W => markBehind_any m d r j HG.out.1 HG.out.2.1 HG.out.2.2.1 HG.out.2.2.2.1 HG.out.2.2.2.2 (by omega) W)
  clear hg hk hj
  go_enter Try.func46, Try.ntmps46
  go_wp2
  go_region_held3 (fun w' => w'.cell? ⟨w.heap.size, 0, none⟩ = some (.int .i64 m) ∧ w'.cell? ⟨w.heap.size, 1, none⟩ = some (.int .i64 d) ∧ w'.cell? ⟨w.heap.size, 2, none⟩ = some (.int .i64 r))
    (first | exact ⟨q0, q1, q2⟩ | exact ⟨p0, p1, p2⟩ | exact ⟨s0, s1, s2⟩ | go_keep)
    (first
      | (go_at_call_of 37 (k : Int); refine (C1.out _).mono ?_; rintro e w4 ⟨rfl, hb4⟩; have B4 := (Bx.drew B).on hb4; obtain ⟨-, p0, p1, p2⟩ := id B4)
      | (go_at_call_of 37 (j : Int); refine (C2.out _).mono ?_; rintro e w5 ⟨rfl, hb5⟩; have B5 := B4.on hb5; obtain ⟨-, s0, s1, s2⟩ := id B5))
  go_wp2
  go_ret
  exact ⟨rfl, below_end HB hb4 hb5⟩
end Rw
end Go.Proofs.Ythjhnpomnjkclaa
