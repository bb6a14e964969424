/- What the functions on readers answer: the same from both sides. -/
import Derived.Test.YtcaklokcajidiaaRw3
namespace Go.Proofs.Ytcaklokcajidiaa
open Go.RowKit Go.Joins
set_option linter.unusedVariables false
set_option linter.unusedSimpArgs false
namespace Rw
/-- a copy of a reader lies in a block -/
def Bx (W : World) (n : Nat) (m d r : Int) : Prop := n < W.heap.size ∧ W.cell? ⟨n, 0, none⟩ = some (.int .i64 m) ∧ W.cell? ⟨n, 1, none⟩ = some (.int .i64 d) ∧ W.cell? ⟨n, 2, none⟩ = some (.int .i64 r)
theorem Bx.on {W w' : World} {n : Nat} {m d r : Int} (h : Bx W n m d r) (hb : Below W.heap.size W w') : Bx w' n m d r :=
  ⟨Nat.lt_of_lt_of_le h.1 hb.size, (hb.cell (p := ⟨n, 0, none⟩) h.1).trans h.2.1, (hb.cell (p := ⟨n, 1, none⟩) h.1).trans h.2.2.1, (hb.cell (p := ⟨n, 2, none⟩) h.1).trans h.2.2.2⟩
theorem Bx.new (w : World) (m d r : Int) (t : TypeId) : Bx (w.alloc (.cells #[.int .i64 m, .int .i64 d, .int .i64 r] t)) w.heap.size m d r :=
  ⟨by simp, bx_cells (Below.refl _ _)⟩
theorem Bx.alloc {W : World} {n : Nat} {m d r : Int} (h : Bx W n m d r) (o : Obj) : Bx (W.alloc o) n m d r := h.on (below_alloc1 _ _)
theorem Bx.next (w : World) (o : Obj) (m d r : Int) (t : TypeId) : Bx ((w.alloc o).alloc (.cells #[.int .i64 m, .int .i64 d, .int .i64 r] t)) (w.heap.size + 1) m d r := by
  have := Bx.new (w.alloc o) m d r t
  rwa [World.size_alloc] at this
/-- a number and a bool -/
def ans (x : Int) (ok : Bool) : Value := .tuple #[.int .i64 x, .bool ok]
theorem facts {p m d r : Int} (h : Rd.inb p m d r = true) : 0 ≤ m ∧ m ≤ 2000 ∧ 1 ≤ d ∧ d ≤ 200 ∧ (r = 0 ∨ (2 ≤ r ∧ r ≤ 60)) ∧ 1 ≤ p ∧ p ≤ 2000 ∧ m ≤ p := by
  simp [Rd.inb] at h; omega
theorem gfacts {m d r : Int} (h : Rd.good m d r = true) : 0 ≤ m ∧ m ≤ 2000 ∧ 1 ≤ d ∧ d ≤ 200 ∧ (r = 0 ∨ (2 ≤ r ∧ r ≤ 60)) := by
  simp [Rd.good] at h; omega
theorem good_of {p m d r : Int} (h : Rd.inb p m d r = true) : Rd.good m d r = true := by
  have := facts h; simp [Rd.good]; omega
theorem two {r : Int} (h : r = 0 ∨ (2 ≤ r ∧ r ≤ 60)) : r = 0 ∨ 2 ≤ r := by omega

set_option maxRecDepth 100000 in
set_option maxHeartbeats 1000000 in
theorem sMarkAfter_yes (p m d r : Int) (k : Nat) (hv : Rd.inb p m d r = true) (hk : k ≤ 3000) (w : World) : Calls Try.prog 17 #[.int .i64 p, .agg #[.int .i64 m, .int .i64 d, .int .i64 r], .int .i64 k] w (Ret (ans (min p (Rd.fr m d r k)) true) w) := by
  have HV := Lib.hid hv
  have HG := Lib.hid (facts hv)
  clear hv
  have HB : Below w.heap.size w (w.alloc (.cells #[.int .i64 m, .int .i64 d, .int .i64 r] 25)) := below_alloc1 _ _
  have B := Bx.new w m d r 25
  have HK := Lib.hid hk
  have t1 : decide ((k : Int) ≤ 3000) = true := by simp; omega
  have t2 : decide ((0 : Int) ≤ (k : Int)) = true := by simp
  clear hk
  by_cases c : p < Rd.fr m d r k
  · have E : Hid (min p (Rd.fr m d r k) = p) := Lib.hid (by omega)
    have c' : decide (p < Rd.fr m d r k) = true := by simpa using c
    clear c
    go_enter Try.func17, Try.ntmps17
    go_wp2_with (first | (go_at_call 46; refine (rdBook_any _ _ _ _ _ HV.out _).mono ?_; rintro e w1 ⟨rfl, hb⟩; replace HB := HB.trans (below_le hb HB.size); replace B := B.on hb; clear hb; obtain ⟨_, q0, q1, q2⟩ := id B) | (go_at_call 49; refine (rdFree_any m d r k HG.out.1 HG.out.2.1 HG.out.2.2.1 HG.out.2.2.2.1 HG.out.2.2.2.2.1 (by have := HK.out; omega) _).mono ?_; rintro e w1 ⟨rfl, hb⟩; replace HB := HB.trans (below_le hb HB.size); replace B := B.on hb; clear hb; obtain ⟨_, q0, q1, q2⟩ := id B) | go_in)
    go_ret2
    exact ⟨by rw [E.out]; first | rfl | simp [go_sem, ans], HB⟩
  · have E : Hid (min p (Rd.fr m d r k) = Rd.fr m d r k) := Lib.hid (by omega)
    have c' : decide (p < Rd.fr m d r k) = false := by simpa using c
    clear c
    go_enter Try.func17, Try.ntmps17
    go_wp2_with (first | (go_at_call 46; refine (rdBook_any _ _ _ _ _ HV.out _).mono ?_; rintro e w1 ⟨rfl, hb⟩; replace HB := HB.trans (below_le hb HB.size); replace B := B.on hb; clear hb; obtain ⟨_, q0, q1, q2⟩ := id B) | (go_at_call 49; refine (rdFree_any m d r k HG.out.1 HG.out.2.1 HG.out.2.2.1 HG.out.2.2.2.1 HG.out.2.2.2.2.1 (by have := HK.out; omega) _).mono ?_; rintro e w1 ⟨rfl, hb⟩; replace HB := HB.trans (below_le hb HB.size); replace B := B.on hb; clear hb; obtain ⟨_, q0, q1, q2⟩ := id B) | go_in)
    go_ret2
    exact ⟨by rw [E.out]; first | rfl | simp [go_sem, ans], HB⟩
set_option maxRecDepth 100000 in
set_option maxHeartbeats 1000000 in
theorem sMarkAfter_no (p m d r k : Int) (hv : Rd.inb p m d r = false) (w : World) : Calls Try.prog 17 #[.int .i64 p, .agg #[.int .i64 m, .int .i64 d, .int .i64 r], .int .i64 k] w (Ret (ans 0 false) w) := by
  have HV := Lib.hid hv
  clear hv
  have HB : Below w.heap.size w (w.alloc (.cells #[.int .i64 m, .int .i64 d, .int .i64 r] 25)) := below_alloc1 _ _
  have B := Bx.new w m d r 25
  go_enter Try.func17, Try.ntmps17
  go_wp2_with (first | (go_at_call 46; refine (rdBook_any _ _ _ _ _ HV.out _).mono ?_; rintro e w1 ⟨rfl, hb⟩; replace HB := HB.trans (below_le hb HB.size); replace B := B.on hb; clear hb; obtain ⟨_, q0, q1, q2⟩ := id B) | go_in)
  go_ret2
  exact ⟨rfl, HB⟩
set_option maxRecDepth 100000 in
set_option maxHeartbeats 1000000 in
theorem sMarkAfter_day (p m d r k : Int) (hv : Rd.inb p m d r = true) (hk : ¬ 0 ≤ k ∨ ¬ k ≤ 3000) (w : World) : Calls Try.prog 17 #[.int .i64 p, .agg #[.int .i64 m, .int .i64 d, .int .i64 r], .int .i64 k] w (Ret (ans 0 false) w) := by
  have HV := Lib.hid hv
  clear hv
  have HB : Below w.heap.size w (w.alloc (.cells #[.int .i64 m, .int .i64 d, .int .i64 r] 25)) := below_alloc1 _ _
  have B := Bx.new w m d r 25
  have hk0 : (k == 0) = false := by simp; omega
  by_cases h0 : 0 ≤ k
  · have t1 : decide (k ≤ 3000) = false := by simp; omega
    have t2 : decide (0 ≤ k) = true := by simp; omega
    have t3 : decide (1 ≤ k) = true := by simp; omega
    clear hk h0
    go_enter Try.func17, Try.ntmps17
    go_wp2_with (first | (go_at_call 46; refine (rdBook_any _ _ _ _ _ HV.out _).mono ?_; rintro e w1 ⟨rfl, hb⟩; replace HB := HB.trans (below_le hb HB.size); replace B := B.on hb; clear hb; obtain ⟨_, q0, q1, q2⟩ := id B) | go_in)
    go_ret2
    exact ⟨rfl, HB⟩
  · have t2 : decide (0 ≤ k) = false := by simp; omega
    have t3 : decide (1 ≤ k) = false := by simp; omega
    clear hk h0
    go_enter Try.func17, Try.ntmps17
    go_wp2_with (first | (go_at_call 46; refine (rdBook_any _ _ _ _ _ HV.out _).mono ?_; rintro e w1 ⟨rfl, hb⟩; replace HB := HB.trans (below_le hb HB.size); replace B := B.on hb; clear hb; obtain ⟨_, q0, q1, q2⟩ := id B) | go_in)
    go_ret2
    exact ⟨rfl, HB⟩
set_option maxRecDepth 100000 in
set_option maxHeartbeats 1000000 in
theorem sDaysToEnd_yes (p m d r : Int) (hv : Rd.inb p m d r = true) (w : World) : Calls Try.prog 19 #[.int .i64 p, .agg #[.int .i64 m, .int .i64 d, .int .i64 r]] w (Ret (ans (Rd.dy m d r p : Nat) true) w) := by
  have HV := Lib.hid hv
  have HG := Lib.hid (facts hv)
  clear hv
  have HB : Below w.heap.size w (w.alloc (.cells #[.int .i64 m, .int .i64 d, .int .i64 r] 25)) := below_alloc1 _ _
  have B := Bx.new w m d r 25
  go_enter Try.func19, Try.ntmps19
  go_wp2_with (first | (go_at_call 46; refine (rdBook_any _ _ _ _ _ HV.out _).mono ?_; rintro e w1 ⟨rfl, hb⟩; replace HB := HB.trans (below_le hb HB.size); replace B := B.on hb; clear hb; obtain ⟨_, q0, q1, q2⟩ := id B) | (go_at_call 53; refine (rdEnd_any p m d r (good_of HV.out) HG.out.2.2.2.2.2.2.1 _).mono ?_; rintro e w1 ⟨rfl, hb⟩; replace HB := HB.trans (below_le hb HB.size); replace B := B.on hb; clear hb; obtain ⟨_, q0, q1, q2⟩ := id B) | go_in)
  go_ret2
  exact ⟨rfl, HB⟩
set_option maxRecDepth 100000 in
set_option maxHeartbeats 1000000 in
theorem sDaysToEnd_no (p m d r : Int) (hv : Rd.inb p m d r = false) (w : World) : Calls Try.prog 19 #[.int .i64 p, .agg #[.int .i64 m, .int .i64 d, .int .i64 r]] w (Ret (ans 0 false) w) := by
  have HV := Lib.hid hv
  clear hv
  have HB : Below w.heap.size w (w.alloc (.cells #[.int .i64 m, .int .i64 d, .int .i64 r] 25)) := below_alloc1 _ _
  have B := Bx.new w m d r 25
  go_enter Try.func19, Try.ntmps19
  go_wp2_with (first | (go_at_call 46; refine (rdBook_any _ _ _ _ _ HV.out _).mono ?_; rintro e w1 ⟨rfl, hb⟩; replace HB := HB.trans (below_le hb HB.size); replace B := B.on hb; clear hb; obtain ⟨_, q0, q1, q2⟩ := id B) | go_in)
  go_ret2
  exact ⟨rfl, HB⟩
set_option maxRecDepth 100000 in
set_option maxHeartbeats 1000000 in
theorem sDayOfPage_yes (p m d r : Int) (hv : Rd.good m d r = true) (h1 : m < p) (h2 : p ≤ 2000) (w : World) : Calls Try.prog 23 #[.agg #[.int .i64 m, .int .i64 d, .int .i64 r], .int .i64 p] w (Ret (ans (Rd.dy m d r p : Nat) true) w) := by
  have HV := Lib.hid hv
  have HG := Lib.hid (gfacts hv)
  have hm := (gfacts hv).1
  have hm2 := (gfacts hv).2.1
  clear hv
  have HB : Below w.heap.size w (w.alloc (.cells #[.int .i64 m, .int .i64 d, .int .i64 r] 25)) := below_alloc1 _ _
  have B := Bx.new w m d r 25
  have h3 : decide (p ≤ m) = false := by simp; omega
  have h4 : decide (m + 1 ≤ p) = true := by simp; omega
  have h5 : decide (p ≤ 2000) = true := by simpa using h2
  have h6 : decide (2000 < p) = false := by simp; omega
  have H2 := Lib.hid h2
  clear h1 h2
  go_enter Try.func23, Try.ntmps23
  go_wp2_with (first | (go_at_call 43; refine (rdGood_any _ _ _ _ HV.out _).mono ?_; rintro e w1 ⟨rfl, hb⟩; replace HB := HB.trans (below_le hb HB.size); replace B := B.on hb; clear hb; obtain ⟨_, q0, q1, q2⟩ := id B) | (go_at_call 53; refine (rdEnd_any p m d r HV.out H2.out _).mono ?_; rintro e w1 ⟨rfl, hb⟩; replace HB := HB.trans (below_le hb HB.size); replace B := B.on hb; clear hb; obtain ⟨_, q0, q1, q2⟩ := id B) | go_in)
  go_ret2
  exact ⟨rfl, HB⟩
set_option maxRecDepth 100000 in
set_option maxHeartbeats 1000000 in
theorem sDayOfPage_no (p m d r : Int) (hv : Rd.good m d r = false) (w : World) : Calls Try.prog 23 #[.agg #[.int .i64 m, .int .i64 d, .int .i64 r], .int .i64 p] w (Ret (ans 0 false) w) := by
  have HV := Lib.hid hv
  clear hv
  have HB : Below w.heap.size w (w.alloc (.cells #[.int .i64 m, .int .i64 d, .int .i64 r] 25)) := below_alloc1 _ _
  have B := Bx.new w m d r 25
  go_enter Try.func23, Try.ntmps23
  go_wp2_with (first | (go_at_call 43; refine (rdGood_any _ _ _ _ HV.out _).mono ?_; rintro e w1 ⟨rfl, hb⟩; replace HB := HB.trans (below_le hb HB.size); replace B := B.on hb; clear hb; obtain ⟨_, q0, q1, q2⟩ := id B) | go_in)
  go_ret2
  exact ⟨rfl, HB⟩
set_option maxRecDepth 100000 in
set_option maxHeartbeats 1000000 in
theorem sDayOfPage_low (p m d r : Int) (hv : Rd.good m d r = true) (h1 : p ≤ m) (w : World) : Calls Try.prog 23 #[.agg #[.int .i64 m, .int .i64 d, .int .i64 r], .int .i64 p] w (Ret (ans 0 false) w) := by
  have HV := Lib.hid hv
  have HG := Lib.hid (gfacts hv)
  have hm := (gfacts hv).1
  have hm2 := (gfacts hv).2.1
  clear hv
  have HB : Below w.heap.size w (w.alloc (.cells #[.int .i64 m, .int .i64 d, .int .i64 r] 25)) := below_alloc1 _ _
  have B := Bx.new w m d r 25
  have h3 : decide (p ≤ m) = true := by simpa using h1
  have h4 : decide (m + 1 ≤ p) = false := by simp; omega
  clear h1
  go_enter Try.func23, Try.ntmps23
  go_wp2_with (first | (go_at_call 43; refine (rdGood_any _ _ _ _ HV.out _).mono ?_; rintro e w1 ⟨rfl, hb⟩; replace HB := HB.trans (below_le hb HB.size); replace B := B.on hb; clear hb; obtain ⟨_, q0, q1, q2⟩ := id B) | go_in)
  go_ret2
  exact ⟨rfl, HB⟩
set_option maxRecDepth 100000 in
set_option maxHeartbeats 1000000 in
theorem sDayOfPage_high (p m d r : Int) (hv : Rd.good m d r = true) (h1 : m < p) (h2 : ¬ p ≤ 2000) (w : World) : Calls Try.prog 23 #[.agg #[.int .i64 m, .int .i64 d, .int .i64 r], .int .i64 p] w (Ret (ans 0 false) w) := by
  have HV := Lib.hid hv
  have HG := Lib.hid (gfacts hv)
  have hm := (gfacts hv).1
  have hm2 := (gfacts hv).2.1
  clear hv
  have HB : Below w.heap.size w (w.alloc (.cells #[.int .i64 m, .int .i64 d, .int .i64 r] 25)) := below_alloc1 _ _
  have B := Bx.new w m d r 25
  have h3 : decide (p ≤ m) = false := by simp; omega
  have h4 : decide (m + 1 ≤ p) = true := by simp; omega
  have h5 : decide (p ≤ 2000) = false := by simpa using h2
  have h6 : decide (2000 < p) = true := by simp; omega
  have H2 := Lib.hid h2
  clear h1 h2
  go_enter Try.func23, Try.ntmps23
  go_wp2_with (first | (go_at_call 43; refine (rdGood_any _ _ _ _ HV.out _).mono ?_; rintro e w1 ⟨rfl, hb⟩; replace HB := HB.trans (below_le hb HB.size); replace B := B.on hb; clear hb; obtain ⟨_, q0, q1, q2⟩ := id B) | go_in)
  go_ret2
  exact ⟨rfl, HB⟩
set_option maxRecDepth 100000 in
set_option maxHeartbeats 1000000 in
theorem iMarkAfter_yes (p m d r : Int) (k : Nat) (hv : Rd.inb p m d r = true) (hk : k ≤ 3000) (w : World) : Calls Try.prog 18 #[.int .i64 p, .agg #[.int .i64 m, .int .i64 d, .int .i64 r], .int .i64 k] w (Ret (ans (min p (Rd.fr m d r k)) true) w) := by
  have HV := Lib.hid hv
  have HG := Lib.hid (facts hv)
  clear hv
  have HB : Below w.heap.size w (w.alloc (.cells #[.int .i64 m, .int .i64 d, .int .i64 r] 25)) := below_alloc1 _ _
  have B := Bx.new w m d r 25
  have HK := Lib.hid hk
  have t1 : decide ((k : Int) ≤ 3000) = true := by simp; omega
  have t2 : decide ((0 : Int) ≤ (k : Int)) = true := by simp
  clear hk
  by_cases c : p < Rd.fr m d r k
  · have E : Hid (min p (Rd.fr m d r k) = p) := Lib.hid (by omega)
    have c' : decide (p < Rd.fr m d r k) = true := by simpa using c
    clear c
    by_cases c0 : k = 0
    · have t3 : ((k : Int) == 0) = true := by simp [c0]
      clear c0
      go_enter Try.func18, Try.ntmps18
      go_wp2_with (first | (go_at_call 50; refine (isReaderOf_any _ _ _ _ _ HV.out _).mono ?_; rintro e w1 ⟨rfl, hb⟩; replace HB := HB.trans (below_le hb HB.size); replace B := B.on hb; clear hb; obtain ⟨_, q0, q1, q2⟩ := id B) | (go_at_call 52; refine (markBehind_any m d r k HG.out.1 HG.out.2.1 HG.out.2.2.1 HG.out.2.2.2.1 HG.out.2.2.2.2.1 (by have := HK.out; omega) _).mono ?_; rintro e w1 ⟨rfl, hb⟩; replace HB := HB.trans (below_le hb HB.size); replace B := B.on hb; clear hb; obtain ⟨_, q0, q1, q2⟩ := id B) | go_in)
      go_ret2
      exact ⟨by rw [E.out]; first | rfl | simp [go_sem, ans], HB⟩
    · have t3 : ((k : Int) == 0) = false := by simp [c0]
      have t4 : decide ((1 : Int) ≤ (k : Int)) = true := by simp; omega
      clear c0
      go_enter Try.func18, Try.ntmps18
      go_wp2_with (first | (go_at_call 50; refine (isReaderOf_any _ _ _ _ _ HV.out _).mono ?_; rintro e w1 ⟨rfl, hb⟩; replace HB := HB.trans (below_le hb HB.size); replace B := B.on hb; clear hb; obtain ⟨_, q0, q1, q2⟩ := id B) | (go_at_call 52; refine (markBehind_any m d r k HG.out.1 HG.out.2.1 HG.out.2.2.1 HG.out.2.2.2.1 HG.out.2.2.2.2.1 (by have := HK.out; omega) _).mono ?_; rintro e w1 ⟨rfl, hb⟩; replace HB := HB.trans (below_le hb HB.size); replace B := B.on hb; clear hb; obtain ⟨_, q0, q1, q2⟩ := id B) | go_in)
      go_ret2
      exact ⟨by rw [E.out]; first | rfl | simp [go_sem, ans], HB⟩
  · have E : Hid (min p (Rd.fr m d r k) = Rd.fr m d r k) := Lib.hid (by omega)
    have c' : decide (p < Rd.fr m d r k) = false := by simpa using c
    clear c
    by_cases c0 : k = 0
    · have t3 : ((k : Int) == 0) = true := by simp [c0]
      clear c0
      go_enter Try.func18, Try.ntmps18
      go_wp2_with (first | (go_at_call 50; refine (isReaderOf_any _ _ _ _ _ HV.out _).mono ?_; rintro e w1 ⟨rfl, hb⟩; replace HB := HB.trans (below_le hb HB.size); replace B := B.on hb; clear hb; obtain ⟨_, q0, q1, q2⟩ := id B) | (go_at_call 52; refine (markBehind_any m d r k HG.out.1 HG.out.2.1 HG.out.2.2.1 HG.out.2.2.2.1 HG.out.2.2.2.2.1 (by have := HK.out; omega) _).mono ?_; rintro e w1 ⟨rfl, hb⟩; replace HB := HB.trans (below_le hb HB.size); replace B := B.on hb; clear hb; obtain ⟨_, q0, q1, q2⟩ := id B) | go_in)
      go_ret2
      exact ⟨by rw [E.out]; first | rfl | simp [go_sem, ans], HB⟩
    · have t3 : ((k : Int) == 0) = false := by simp [c0]
      have t4 : decide ((1 : Int) ≤ (k : Int)) = true := by simp; omega
      clear c0
      go_enter Try.func18, Try.ntmps18
      go_wp2_with (first | (go_at_call 50; refine (isReaderOf_any _ _ _ _ _ HV.out _).mono ?_; rintro e w1 ⟨rfl, hb⟩; replace HB := HB.trans (below_le hb HB.size); replace B := B.on hb; clear hb; obtain ⟨_, q0, q1, q2⟩ := id B) | (go_at_call 52; refine (markBehind_any m d r k HG.out.1 HG.out.2.1 HG.out.2.2.1 HG.out.2.2.2.1 HG.out.2.2.2.2.1 (by have := HK.out; omega) _).mono ?_; rintro e w1 ⟨rfl, hb⟩; replace HB := HB.trans (below_le hb HB.size); replace B := B.on hb; clear hb; obtain ⟨_, q0, q1, q2⟩ := id B) | go_in)
      go_ret2
      exact ⟨by rw [E.out]; first | rfl | simp [go_sem, ans], HB⟩
set_option maxRecDepth 100000 in
set_option maxHeartbeats 1000000 in
theorem iMarkAfter_no (p m d r k : Int) (hv : Rd.inb p m d r = false) (w : World) : Calls Try.prog 18 #[.int .i64 p, .agg #[.int .i64 m, .int .i64 d, .int .i64 r], .int .i64 k] w (Ret (ans 0 false) w) := by
  have HV := Lib.hid hv
  clear hv
  have HB : Below w.heap.size w (w.alloc (.cells #[.int .i64 m, .int .i64 d, .int .i64 r] 25)) := below_alloc1 _ _
  have B := Bx.new w m d r 25
  go_enter Try.func18, Try.ntmps18
  go_wp2_with (first | (go_at_call 50; refine (isReaderOf_any _ _ _ _ _ HV.out _).mono ?_; rintro e w1 ⟨rfl, hb⟩; replace HB := HB.trans (below_le hb HB.size); replace B := B.on hb; clear hb; obtain ⟨_, q0, q1, q2⟩ := id B) | go_in)
  go_ret2
  exact ⟨rfl, HB⟩
set_option maxRecDepth 100000 in
set_option maxHeartbeats 1000000 in
theorem iMarkAfter_day (p m d r k : Int) (hv : Rd.inb p m d r = true) (hk : ¬ 0 ≤ k ∨ ¬ k ≤ 3000) (w : World) : Calls Try.prog 18 #[.int .i64 p, .agg #[.int .i64 m, .int .i64 d, .int .i64 r], .int .i64 k] w (Ret (ans 0 false) w) := by
  have HV := Lib.hid hv
  clear hv
  have HB : Below w.heap.size w (w.alloc (.cells #[.int .i64 m, .int .i64 d, .int .i64 r] 25)) := below_alloc1 _ _
  have B := Bx.new w m d r 25
  have hk0 : (k == 0) = false := by simp; omega
  by_cases h0 : 0 ≤ k
  · have t1 : decide (k ≤ 3000) = false := by simp; omega
    have t2 : decide (0 ≤ k) = true := by simp; omega
    have t3 : decide (1 ≤ k) = true := by simp; omega
    clear hk h0
    go_enter Try.func18, Try.ntmps18
    go_wp2_with (first | (go_at_call 50; refine (isReaderOf_any _ _ _ _ _ HV.out _).mono ?_; rintro e w1 ⟨rfl, hb⟩; replace HB := HB.trans (below_le hb HB.size); replace B := B.on hb; clear hb; obtain ⟨_, q0, q1, q2⟩ := id B) | go_in)
    go_ret2
    exact ⟨rfl, HB⟩
  · have t2 : decide (0 ≤ k) = false := by simp; omega
    have t3 : decide (1 ≤ k) = false := by simp; omega
    clear hk h0
    go_enter Try.func18, Try.ntmps18
    go_wp2_with (first | (go_at_call 50; refine (isReaderOf_any _ _ _ _ _ HV.out _).mono ?_; rintro e w1 ⟨rfl, hb⟩; replace HB := HB.trans (below_le hb HB.size); replace B := B.on hb; clear hb; obtain ⟨_, q0, q1, q2⟩ := id B) | go_in)
    go_ret2
    exact ⟨rfl, HB⟩
set_option maxRecDepth 100000 in
set_option maxHeartbeats 1000000 in
theorem iDaysToEnd_yes (p m d r : Int) (hv : Rd.inb p m d r = true) (w : World) : Calls Try.prog 20 #[.int .i64 p, .agg #[.int .i64 m, .int .i64 d, .int .i64 r]] w (Ret (ans (Rd.dy m d r p : Nat) true) w) := by
  have HV := Lib.hid hv
  have HG := Lib.hid (facts hv)
  clear hv
  have HB : Below w.heap.size w (w.alloc (.cells #[.int .i64 m, .int .i64 d, .int .i64 r] 25)) := below_alloc1 _ _
  have B := Bx.new w m d r 25
  go_enter Try.func20, Try.ntmps20
  go_wp2_with (first | (go_at_call 50; refine (isReaderOf_any _ _ _ _ _ HV.out _).mono ?_; rintro e w1 ⟨rfl, hb⟩; replace HB := HB.trans (below_le hb HB.size); replace B := B.on hb; clear hb; obtain ⟨_, q0, q1, q2⟩ := id B) | (go_at_call 54; refine (daysUpTo_any p m d r (good_of HV.out) HG.out.2.2.2.2.2.2.1 _).mono ?_; rintro e w1 ⟨rfl, hb⟩; replace HB := HB.trans (below_le hb HB.size); replace B := B.on hb; clear hb; obtain ⟨_, q0, q1, q2⟩ := id B) | go_in)
  go_ret2
  exact ⟨rfl, HB⟩
set_option maxRecDepth 100000 in
set_option maxHeartbeats 1000000 in
theorem iDaysToEnd_no (p m d r : Int) (hv : Rd.inb p m d r = false) (w : World) : Calls Try.prog 20 #[.int .i64 p, .agg #[.int .i64 m, .int .i64 d, .int .i64 r]] w (Ret (ans 0 false) w) := by
  have HV := Lib.hid hv
  clear hv
  have HB : Below w.heap.size w (w.alloc (.cells #[.int .i64 m, .int .i64 d, .int .i64 r] 25)) := below_alloc1 _ _
  have B := Bx.new w m d r 25
  go_enter Try.func20, Try.ntmps20
  go_wp2_with (first | (go_at_call 50; refine (isReaderOf_any _ _ _ _ _ HV.out _).mono ?_; rintro e w1 ⟨rfl, hb⟩; replace HB := HB.trans (below_le hb HB.size); replace B := B.on hb; clear hb; obtain ⟨_, q0, q1, q2⟩ := id B) | go_in)
  go_ret2
  exact ⟨rfl, HB⟩
set_option maxRecDepth 100000 in
set_option maxHeartbeats 1000000 in
theorem iDayOfPage_yes (p m d r : Int) (hv : Rd.good m d r = true) (h1 : m < p) (h2 : p ≤ 2000) (w : World) : Calls Try.prog 24 #[.agg #[.int .i64 m, .int .i64 d, .int .i64 r], .int .i64 p] w (Ret (ans (Rd.dy m d r p : Nat) true) w) := by
  have HV := Lib.hid hv
  have HG := Lib.hid (gfacts hv)
  have hm := (gfacts hv).1
  have hm2 := (gfacts hv).2.1
  clear hv
  have HB : Below w.heap.size w (w.alloc (.cells #[.int .i64 m, .int .i64 d, .int .i64 r] 25)) := below_alloc1 _ _
  have B := Bx.new w m d r 25
  have h3 : decide (p ≤ m) = false := by simp; omega
  have h4 : decide (m + 1 ≤ p) = true := by simp; omega
  have h5 : decide (p ≤ 2000) = true := by simpa using h2
  have h6 : decide (2000 < p) = false := by simp; omega
  have H2 := Lib.hid h2
  clear h1 h2
  go_enter Try.func24, Try.ntmps24
  go_wp2_with (first | (go_at_call 16; refine (IsReader_any _ _ _ _ HV.out _).mono ?_; rintro e w1 ⟨rfl, hb⟩; replace HB := HB.trans (below_le hb HB.size); replace B := B.on hb; clear hb; obtain ⟨_, q0, q1, q2⟩ := id B) | (go_at_call 54; refine (daysUpTo_any p m d r HV.out H2.out _).mono ?_; rintro e w1 ⟨rfl, hb⟩; replace HB := HB.trans (below_le hb HB.size); replace B := B.on hb; clear hb; obtain ⟨_, q0, q1, q2⟩ := id B) | go_in)
  go_ret2
  exact ⟨rfl, HB⟩
set_option maxRecDepth 100000 in
set_option maxHeartbeats 1000000 in
theorem iDayOfPage_no (p m d r : Int) (hv : Rd.good m d r = false) (w : World) : Calls Try.prog 24 #[.agg #[.int .i64 m, .int .i64 d, .int .i64 r], .int .i64 p] w (Ret (ans 0 false) w) := by
  have HV := Lib.hid hv
  clear hv
  have HB : Below w.heap.size w (w.alloc (.cells #[.int .i64 m, .int .i64 d, .int .i64 r] 25)) := below_alloc1 _ _
  have B := Bx.new w m d r 25
  go_enter Try.func24, Try.ntmps24
  go_wp2_with (first | (go_at_call 16; refine (IsReader_any _ _ _ _ HV.out _).mono ?_; rintro e w1 ⟨rfl, hb⟩; replace HB := HB.trans (below_le hb HB.size); replace B := B.on hb; clear hb; obtain ⟨_, q0, q1, q2⟩ := id B) | go_in)
  go_ret2
  exact ⟨rfl, HB⟩
set_option maxRecDepth 100000 in
set_option maxHeartbeats 1000000 in
theorem iDayOfPage_low (p m d r : Int) (hv : Rd.good m d r = true) (h1 : p ≤ m) (w : World) : Calls Try.prog 24 #[.agg #[.int .i64 m, .int .i64 d, .int .i64 r], .int .i64 p] w (Ret (ans 0 false) w) := by
  have HV := Lib.hid hv
  have HG := Lib.hid (gfacts hv)
  have hm := (gfacts hv).1
  have hm2 := (gfacts hv).2.1
  clear hv
  have HB : Below w.heap.size w (w.alloc (.cells #[.int .i64 m, .int .i64 d, .int .i64 r] 25)) := below_alloc1 _ _
  have B := Bx.new w m d r 25
  have h3 : decide (p ≤ m) = true := by simpa using h1
  have h4 : decide (m + 1 ≤ p) = false := by simp; omega
  clear h1
  go_enter Try.func24, Try.ntmps24
  go_wp2_with (first | (go_at_call 16; refine (IsReader_any _ _ _ _ HV.out _).mono ?_; rintro e w1 ⟨rfl, hb⟩; replace HB := HB.trans (below_le hb HB.size); replace B := B.on hb; clear hb; obtain ⟨_, q0, q1, q2⟩ := id B) | go_in)
  go_ret2
  exact ⟨rfl, HB⟩
set_option maxRecDepth 100000 in
set_option maxHeartbeats 1000000 in
theorem iDayOfPage_high (p m d r : Int) (hv : Rd.good m d r = true) (h1 : m < p) (h2 : ¬ p ≤ 2000) (w : World) : Calls Try.prog 24 #[.agg #[.int .i64 m, .int .i64 d, .int .i64 r], .int .i64 p] w (Ret (ans 0 false) w) := by
  have HV := Lib.hid hv
  have HG := Lib.hid (gfacts hv)
  have hm := (gfacts hv).1
  have hm2 := (gfacts hv).2.1
  clear hv
  have HB : Below w.heap.size w (w.alloc (.cells #[.int .i64 m, .int .i64 d, .int .i64 r] 25)) := below_alloc1 _ _
  have B := Bx.new w m d r 25
  have h3 : decide (p ≤ m) = false := by simp; omega
  have h4 : decide (m + 1 ≤ p) = true := by simp; omega
  have h5 : decide (p ≤ 2000) = false := by simpa using h2
  have h6 : decide (2000 < p) = true := by simp; omega
  have H2 := Lib.hid h2
  clear h1 h2
  go_enter Try.func24, Try.ntmps24
  go_wp2_with (first | (go_at_call 16; refine (IsReader_any _ _ _ _ HV.out _).mono ?_; rintro e w1 ⟨rfl, hb⟩; replace HB := HB.trans (below_le hb HB.size); replace B := B.on hb; clear hb; obtain ⟨_, q0, q1, q2⟩ := id B) | go_in)
  go_ret2
  exact ⟨rfl, HB⟩
end Rw
end Go.Proofs.Ytcaklokcajidiaa
