/- What is read on a day, from both sides. -/
import Derived.Test.YtcaklokcajidiaaRw4
import Derived.Deep.RegionHeld3
import Derived.Deep.RegionWith
namespace Go.Proofs.Ytcaklokcajidiaa
open Go.RowKit Go.Joins
set_option linter.unusedVariables false
set_option linter.unusedSimpArgs false
namespace Rw
theorem diff_in {m d r : Int} {k j : Nat} (h : Rd.good m d r = true) (hk : k ≤ 4000) (hj : j ≤ 4000) : IntKind.i64.wrap (Rd.fr m d r k - Rd.fr m d r j) = Rd.fr m d r k - Rd.fr m d r j := by
  have h := gfacts h
  have a := Rd.fr_le (m := m) (two h.2.2.2.2) h.2.2.1 h.2.2.2.1 k (by omega)
  have b := Rd.fr_le (m := m) (two h.2.2.2.2) h.2.2.1 h.2.2.2.1 j (by omega)
  rw [IntKind.wrap_i64]; omega
theorem Bx.drew {W : World} {n : Nat} {m d r : Int} (h : Bx W n m d r) : Bx W.drew n m d r := h
theorem below_end {w W w1 w2 : World} (h : Below w.heap.size w W) (h1 : Below W.drew.heap.size W.drew w1) (h2 : Below w1.heap.size w1 w2) : Below w.heap.size w w2 :=
  (h.drew.trans (below_le h1 h.size)).trans (below_le h2 (Nat.le_trans h.size h1.size))
set_option maxRecDepth 100000 in
set_option maxHeartbeats 1000000 in
theorem readOn_any (m d r : Int) (k j : Nat) (hg : Rd.good m d r = true) (hk : k ≤ 3000) (hj : k = j + 1) (w : World) : Calls Try.prog 57 #[.agg #[.int .i64 m, .int .i64 d, .int .i64 r], .int .i64 (k : Int)] w (Ret (.int .i64 (Rd.fr m d r k - Rd.fr m d r j)) w) := by
  have HG := Lib.hid (gfacts hg)
  have h1 : IntKind.i64.wrap ((k : Int) - 1) = (j : Int) := by rw [IntKind.wrap_i64]; omega
  have h2 := diff_in (k := k) (j := j) hg (by omega) (by omega)
  have HB : Below w.heap.size w (w.alloc (.cells #[.int .i64 m, .int .i64 d, .int .i64 r] 25)) := below_alloc1 _ _
  have B := Bx.new w m d r 25
  obtain ⟨_, q0, q1, q2⟩ := id B
  have C1 := Lib.hid (fun W => markBehind_any m d r k HG.out.1 HG.out.2.1 HG.out.2.2.1 HG.out.2.2.2.1 HG.out.2.2.2.2 (by omega) W)
  have C2 := Lib.hid (fun W => markBehind_any m d r j HG.out.1 HG.out.2.1 HG.out.2.2.1 HG.out.2.2.2.1 HG.out.2.2.2.2 (by omega) W)
  clear hg hk hj
  go_enter Try.func57, Try.ntmps57
  go_wp2
  go_region_held3 (fun w' => w'.cell? ⟨w.heap.size, 0, none⟩ = some (.int .i64 m) ∧ w'.cell? ⟨w.heap.size, 1, none⟩ = some (.int .i64 d) ∧ w'.cell? ⟨w.heap.size, 2, none⟩ = some (.int .i64 r))
    (first | exact ⟨q0, q1, q2⟩ | exact ⟨p0, p1, p2⟩ | exact ⟨s0, s1, s2⟩ | go_keep)
    (first
      | (go_at_call_of 52 (k : Int); refine (C1.out _).mono ?_; rintro e w4 ⟨rfl, hb4⟩; have B4 := (Bx.drew B).on hb4; obtain ⟨-, p0, p1, p2⟩ := id B4)
      | (go_at_call_of 52 (j : Int); refine (C2.out _).mono ?_; rintro e w5 ⟨rfl, hb5⟩; have B5 := B4.on hb5; obtain ⟨-, s0, s1, s2⟩ := id B5))
  go_wp2
  go_ret
  exact ⟨rfl, below_end HB hb4 hb5⟩
set_option maxRecDepth 100000 in
set_option maxHeartbeats 1000000 in
theorem sReadOn_yes (m d r : Int) (k j : Nat) (hg : Rd.good m d r = true) (hk : k ≤ 3000) (hj : k = j + 1) (w : World) : Calls Try.prog 21 #[.agg #[.int .i64 m, .int .i64 d, .int .i64 r], .int .i64 (k : Int)] w (Ret (.tuple #[.int .i64 (Rd.fr m d r k - Rd.fr m d r j), .bool true]) w) := by
  have HG := Lib.hid (gfacts hg)
  have HV := Lib.hid hg
  have h1 : IntKind.i64.wrap ((k : Int) - 1) = (j : Int) := by rw [IntKind.wrap_i64]; omega
  have h2 := diff_in (k := k) (j := j) hg (by omega) (by omega)
  have t1 : decide ((k : Int) ≤ 3000) = true := by simp; omega
  have t2 : decide ((1 : Int) ≤ (k : Int)) = true := by simp; omega
  have HB : Below w.heap.size w (w.alloc (.cells #[.int .i64 m, .int .i64 d, .int .i64 r] 25)) := below_alloc1 _ _
  have B := Bx.new w m d r 25
  have C1 := Lib.hid (fun W => rdFree_any m d r k HG.out.1 HG.out.2.1 HG.out.2.2.1 HG.out.2.2.2.1 HG.out.2.2.2.2 (by omega) W)
  have C2 := Lib.hid (fun W => rdFree_any m d r j HG.out.1 HG.out.2.1 HG.out.2.2.1 HG.out.2.2.2.1 HG.out.2.2.2.2 (by omega) W)
  clear hg hk hj
  go_enter Try.func21, Try.ntmps21
  go_wp2_with (first | (go_at_call 43; refine (rdGood_any _ _ _ _ HV.out _).mono ?_; rintro e w1 ⟨rfl, hb⟩; replace HB := HB.trans (below_le hb HB.size); replace B := B.on hb; clear hb; obtain ⟨_, q0, q1, q2⟩ := id B) | go_in)
  go_region_held3 (fun w' => w'.cell? ⟨w.heap.size, 0, none⟩ = some (.int .i64 m) ∧ w'.cell? ⟨w.heap.size, 1, none⟩ = some (.int .i64 d) ∧ w'.cell? ⟨w.heap.size, 2, none⟩ = some (.int .i64 r))
    (first | exact ⟨q0, q1, q2⟩ | exact ⟨p0, p1, p2⟩ | exact ⟨s0, s1, s2⟩ | go_keep)
    (first
      | (go_at_call_of 49 (k : Int); refine (C1.out _).mono ?_; rintro e w4 ⟨rfl, hb4⟩; have B4 := (Bx.drew B).on hb4; obtain ⟨-, p0, p1, p2⟩ := id B4)
      | (go_at_call_of 49 (j : Int); refine (C2.out _).mono ?_; rintro e w5 ⟨rfl, hb5⟩; have B5 := B4.on hb5; obtain ⟨-, s0, s1, s2⟩ := id B5))
  go_wp2
  go_ret2
  exact ⟨rfl, below_end HB hb4 hb5⟩
set_option maxRecDepth 100000 in
set_option maxHeartbeats 1000000 in
theorem iReadOn_yes (m d r : Int) (k j : Nat) (hg : Rd.good m d r = true) (hk : k ≤ 3000) (hj : k = j + 1) (w : World) : Calls Try.prog 22 #[.agg #[.int .i64 m, .int .i64 d, .int .i64 r], .int .i64 (k : Int)] w (Ret (.tuple #[.int .i64 (Rd.fr m d r k - Rd.fr m d r j), .bool true]) w) := by
  have HV := Lib.hid hg
  have C := Lib.hid (fun W => readOn_any m d r k j hg hk hj W)
  have t1 : decide ((k : Int) ≤ 3000) = true := by simp; omega
  have t2 : decide ((1 : Int) ≤ (k : Int)) = true := by simp; omega
  have HB : Below w.heap.size w (w.alloc (.cells #[.int .i64 m, .int .i64 d, .int .i64 r] 25)) := below_alloc1 _ _
  have B := Bx.new w m d r 25
  clear hg hk hj
  go_enter Try.func22, Try.ntmps22
  go_wp2_with (first | (go_at_call 16; refine (IsReader_any _ _ _ _ HV.out _).mono ?_; rintro e w1 ⟨rfl, hb⟩; replace HB := HB.trans (below_le hb HB.size); replace B := B.on hb; clear hb; obtain ⟨_, q0, q1, q2⟩ := id B) | (go_at_call 57; refine (C.out _).mono ?_; rintro e w1 ⟨rfl, hb⟩; replace HB := HB.trans (below_le hb HB.size); replace B := B.on hb; clear hb; obtain ⟨_, q0, q1, q2⟩ := id B) | go_in)
  go_ret2
  exact ⟨rfl, HB⟩
set_option maxRecDepth 100000 in
set_option maxHeartbeats 1000000 in
theorem sReadOn_no (m d r k : Int) (hv : Rd.good m d r = false) (w : World) : Calls Try.prog 21 #[.agg #[.int .i64 m, .int .i64 d, .int .i64 r], .int .i64 k] w (Ret (ans 0 false) w) := by
  have HV := Lib.hid hv
  clear hv
  have HB : Below w.heap.size w (w.alloc (.cells #[.int .i64 m, .int .i64 d, .int .i64 r] 25)) := below_alloc1 _ _
  have B := Bx.new w m d r 25
  go_enter Try.func21, Try.ntmps21
  go_wp2_with (first | (go_at_call 43; refine (rdGood_any _ _ _ _ HV.out _).mono ?_; rintro e w1 ⟨rfl, hb⟩; replace HB := HB.trans (below_le hb HB.size); replace B := B.on hb; clear hb; obtain ⟨_, q0, q1, q2⟩ := id B) | go_in)
  go_ret2
  exact ⟨rfl, HB⟩
set_option maxRecDepth 100000 in
set_option maxHeartbeats 1000000 in
theorem sReadOn_day (m d r k : Int) (hv : Rd.good m d r = true) (hk : ¬ 1 ≤ k ∨ ¬ k ≤ 3000) (w : World) : Calls Try.prog 21 #[.agg #[.int .i64 m, .int .i64 d, .int .i64 r], .int .i64 k] w (Ret (ans 0 false) w) := by
  have HV := Lib.hid hv
  clear hv
  have HB : Below w.heap.size w (w.alloc (.cells #[.int .i64 m, .int .i64 d, .int .i64 r] 25)) := below_alloc1 _ _
  have B := Bx.new w m d r 25
  by_cases h0 : 1 ≤ k
  · have t1 : decide (k ≤ 3000) = false := by simp; omega
    have t3 : decide (1 ≤ k) = true := by simp; omega
    clear hk h0
    go_enter Try.func21, Try.ntmps21
    go_wp2_with (first | (go_at_call 43; refine (rdGood_any _ _ _ _ HV.out _).mono ?_; rintro e w1 ⟨rfl, hb⟩; replace HB := HB.trans (below_le hb HB.size); replace B := B.on hb; clear hb; obtain ⟨_, q0, q1, q2⟩ := id B) | go_in)
    go_ret2
    exact ⟨rfl, HB⟩
  · have t3 : decide (1 ≤ k) = false := by simp; omega
    clear hk h0
    go_enter Try.func21, Try.ntmps21
    go_wp2_with (first | (go_at_call 43; refine (rdGood_any _ _ _ _ HV.out _).mono ?_; rintro e w1 ⟨rfl, hb⟩; replace HB := HB.trans (below_le hb HB.size); replace B := B.on hb; clear hb; obtain ⟨_, q0, q1, q2⟩ := id B) | go_in)
    go_ret2
    exact ⟨rfl, HB⟩
set_option maxRecDepth 100000 in
set_option maxHeartbeats 1000000 in
theorem iReadOn_no (m d r k : Int) (hv : Rd.good m d r = false) (w : World) : Calls Try.prog 22 #[.agg #[.int .i64 m, .int .i64 d, .int .i64 r], .int .i64 k] w (Ret (ans 0 false) w) := by
  have HV := Lib.hid hv
  clear hv
  have HB : Below w.heap.size w (w.alloc (.cells #[.int .i64 m, .int .i64 d, .int .i64 r] 25)) := below_alloc1 _ _
  have B := Bx.new w m d r 25
  go_enter Try.func22, Try.ntmps22
  go_wp2_with (first | (go_at_call 16; refine (IsReader_any _ _ _ _ HV.out _).mono ?_; rintro e w1 ⟨rfl, hb⟩; replace HB := HB.trans (below_le hb HB.size); replace B := B.on hb; clear hb; obtain ⟨_, q0, q1, q2⟩ := id B) | go_in)
  go_ret2
  exact ⟨rfl, HB⟩
set_option maxRecDepth 100000 in
set_option maxHeartbeats 1000000 in
theorem iReadOn_day (m d r k : Int) (hv : Rd.good m d r = true) (hk : ¬ 1 ≤ k ∨ ¬ k ≤ 3000) (w : World) : Calls Try.prog 22 #[.agg #[.int .i64 m, .int .i64 d, .int .i64 r], .int .i64 k] w (Ret (ans 0 false) w) := by
  have HV := Lib.hid hv
  clear hv
  have HB : Below w.heap.size w (w.alloc (.cells #[.int .i64 m, .int .i64 d, .int .i64 r] 25)) := below_alloc1 _ _
  have B := Bx.new w m d r 25
  by_cases h0 : 1 ≤ k
  · have t1 : decide (k ≤ 3000) = false := by simp; omega
    have t3 : decide (1 ≤ k) = true := by simp; omega
    clear hk h0
    go_enter Try.func22, Try.ntmps22
    go_wp2_with (first | (go_at_call 16; refine (IsReader_any _ _ _ _ HV.out _).mono ?_; rintro e w1 ⟨rfl, hb⟩; replace HB := HB.trans (below_le hb HB.size); replace B := B.on hb; clear hb; obtain ⟨_, q0, q1, q2⟩ := id B) | go_in)
    go_ret2
    exact ⟨rfl, HB⟩
  · have t3 : decide (1 ≤ k) = false := by simp; omega
    clear hk h0
    go_enter Try.func22, Try.ntmps22
    go_wp2_with (first | (go_at_call 16; refine (IsReader_any _ _ _ _ HV.out _).mono ?_; rintro e w1 ⟨rfl, hb⟩; replace HB := HB.trans (below_le hb HB.size); replace B := B.on hb; clear hb; obtain ⟨_, q0, q1, q2⟩ := id B) | go_in)
    go_ret2
    exact ⟨rfl, HB⟩
theorem ahead_in {m d r m' d' r' : Int} {k : Nat} (h : Rd.good m d r = true) (h' : Rd.good m' d' r' = true) (hk : k ≤ 4000) : IntKind.i64.wrap (Rd.fr m d r k - Rd.fr m' d' r' k) = Rd.fr m d r k - Rd.fr m' d' r' k := by
  have h := gfacts h
  have h' := gfacts h'
  have a := Rd.fr_le (m := m) (two h.2.2.2.2) h.2.2.1 h.2.2.2.1 k (by omega)
  have b := Rd.fr_le (m := m') (two h'.2.2.2.2) h'.2.2.1 h'.2.2.2.1 k (by omega)
  rw [IntKind.wrap_i64]; omega
set_option maxRecDepth 100000 in
set_option maxHeartbeats 1000000 in
theorem sAheadOn_yes (m d r m' d' r' : Int) (k : Nat) (hg : Rd.good m d r = true) (hg' : Rd.good m' d' r' = true) (hk : k ≤ 3000) (w : World) : Calls Try.prog 36 #[.agg #[.int .i64 m, .int .i64 d, .int .i64 r], .agg #[.int .i64 m', .int .i64 d', .int .i64 r'], .int .i64 (k : Int)] w (Ret (.tuple #[.int .i64 (Rd.fr m d r k - Rd.fr m' d' r' k), .bool true]) w) := by
  have HG := Lib.hid (gfacts hg)
  have HG' := Lib.hid (gfacts hg')
  have HV := Lib.hid hg
  have HV' := Lib.hid hg'
  have h2 := ahead_in (k := k) hg hg' (by omega)
  have t1 : decide ((k : Int) ≤ 3000) = true := by simp; omega
  have t2 : decide ((0 : Int) ≤ (k : Int)) = true := by simp
  have HB : Below w.heap.size w ((w.alloc (.cells #[.int .i64 m, .int .i64 d, .int .i64 r] 25)).alloc (.cells #[.int .i64 m', .int .i64 d', .int .i64 r'] 25)) := below_alloc2 _ _ _
  have B := (Bx.new w m d r 25).alloc (.cells #[.int .i64 m', .int .i64 d', .int .i64 r'] 25)
  have D := Bx.next w (.cells #[.int .i64 m, .int .i64 d, .int .i64 r] 25) m' d' r' 25
  have C1 := Lib.hid (fun W => rdFree_any m d r k HG.out.1 HG.out.2.1 HG.out.2.2.1 HG.out.2.2.2.1 HG.out.2.2.2.2 (by omega) W)
  have C2 := Lib.hid (fun W => rdFree_any m' d' r' k HG'.out.1 HG'.out.2.1 HG'.out.2.2.1 HG'.out.2.2.2.1 HG'.out.2.2.2.2 (by omega) W)
  clear hg hg'
  clear hk
  go_enter Try.func36, Try.ntmps36
  go_wp2_with (first | (go_at_call_of 43 m; refine (rdGood_any _ _ _ _ HV.out _).mono ?_; rintro e w1 ⟨rfl, hb⟩; replace HB := HB.trans (below_le hb HB.size); replace B := B.on hb; replace D := D.on hb; clear hb; (try clear q0 q1 q2 Q0 Q1 Q2); obtain ⟨_, q0, q1, q2⟩ := id B; obtain ⟨_, Q0, Q1, Q2⟩ := id D) | (go_at_call_of 43 m'; refine (rdGood_any _ _ _ _ HV'.out _).mono ?_; rintro e w1 ⟨rfl, hb⟩; replace HB := HB.trans (below_le hb HB.size); replace B := B.on hb; replace D := D.on hb; clear hb; (try clear q0 q1 q2 Q0 Q1 Q2); obtain ⟨_, q0, q1, q2⟩ := id B; obtain ⟨_, Q0, Q1, Q2⟩ := id D) | go_in)
  go_region_held3 (fun w' => w'.cell? ⟨w.heap.size, 0, none⟩ = some (.int .i64 m) ∧ w'.cell? ⟨w.heap.size, 1, none⟩ = some (.int .i64 d) ∧ w'.cell? ⟨w.heap.size, 2, none⟩ = some (.int .i64 r) ∧ w'.cell? ⟨w.heap.size + 1, 0, none⟩ = some (.int .i64 m') ∧ w'.cell? ⟨w.heap.size + 1, 1, none⟩ = some (.int .i64 d') ∧ w'.cell? ⟨w.heap.size + 1, 2, none⟩ = some (.int .i64 r'))
    (first | exact ⟨q0, q1, q2, Q0, Q1, Q2⟩ | exact ⟨p0, p1, p2, P0, P1, P2⟩ | exact ⟨s0, s1, s2, S0, S1, S2⟩ | go_keep)
    (first
      | (go_at_call_of 49 m; refine (C1.out _).mono ?_; rintro e w4 ⟨rfl, hb4⟩; have B4 := (Bx.drew B).on hb4; have D4 := (Bx.drew D).on hb4; obtain ⟨-, p0, p1, p2⟩ := id B4; obtain ⟨-, P0, P1, P2⟩ := id D4)
      | (go_at_call_of 49 m'; refine (C2.out _).mono ?_; rintro e w5 ⟨rfl, hb5⟩; have B5 := B4.on hb5; have D5 := D4.on hb5; obtain ⟨-, s0, s1, s2⟩ := id B5; obtain ⟨-, S0, S1, S2⟩ := id D5))
  go_wp2
  go_ret2
  exact ⟨rfl, below_end HB hb4 hb5⟩
set_option maxRecDepth 100000 in
set_option maxHeartbeats 1000000 in
theorem sAheadOn_no (m d r m' d' r' k : Int) (hv : Rd.good m d r = false) (w : World) : Calls Try.prog 36 #[.agg #[.int .i64 m, .int .i64 d, .int .i64 r], .agg #[.int .i64 m', .int .i64 d', .int .i64 r'], .int .i64 k] w (Ret (ans 0 false) w) := by
  have HV := Lib.hid hv
  clear hv
  have HB : Below w.heap.size w ((w.alloc (.cells #[.int .i64 m, .int .i64 d, .int .i64 r] 25)).alloc (.cells #[.int .i64 m', .int .i64 d', .int .i64 r'] 25)) := below_alloc2 _ _ _
  have B := (Bx.new w m d r 25).alloc (.cells #[.int .i64 m', .int .i64 d', .int .i64 r'] 25)
  have D := Bx.next w (.cells #[.int .i64 m, .int .i64 d, .int .i64 r] 25) m' d' r' 25
  go_enter Try.func36, Try.ntmps36
  go_wp2_with (first | (go_at_call_of 43 m; refine (rdGood_any _ _ _ _ HV.out _).mono ?_; rintro e w1 ⟨rfl, hb⟩; replace HB := HB.trans (below_le hb HB.size); replace B := B.on hb; replace D := D.on hb; clear hb; (try clear q0 q1 q2 Q0 Q1 Q2); obtain ⟨_, q0, q1, q2⟩ := id B; obtain ⟨_, Q0, Q1, Q2⟩ := id D) | go_in)
  go_ret2
  exact ⟨rfl, HB⟩
set_option maxRecDepth 100000 in
set_option maxHeartbeats 1000000 in
theorem sAheadOn_no2 (m d r m' d' r' k : Int) (hv : Rd.good m d r = true) (hv' : Rd.good m' d' r' = false) (w : World) : Calls Try.prog 36 #[.agg #[.int .i64 m, .int .i64 d, .int .i64 r], .agg #[.int .i64 m', .int .i64 d', .int .i64 r'], .int .i64 k] w (Ret (ans 0 false) w) := by
  have HV := Lib.hid hv
  have HV' := Lib.hid hv'
  clear hv hv'
  have HB : Below w.heap.size w ((w.alloc (.cells #[.int .i64 m, .int .i64 d, .int .i64 r] 25)).alloc (.cells #[.int .i64 m', .int .i64 d', .int .i64 r'] 25)) := below_alloc2 _ _ _
  have B := (Bx.new w m d r 25).alloc (.cells #[.int .i64 m', .int .i64 d', .int .i64 r'] 25)
  have D := Bx.next w (.cells #[.int .i64 m, .int .i64 d, .int .i64 r] 25) m' d' r' 25
  go_enter Try.func36, Try.ntmps36
  go_wp2_with (first | (go_at_call_of 43 m; refine (rdGood_any _ _ _ _ HV.out _).mono ?_; rintro e w1 ⟨rfl, hb⟩; replace HB := HB.trans (below_le hb HB.size); replace B := B.on hb; replace D := D.on hb; clear hb; (try clear q0 q1 q2 Q0 Q1 Q2); obtain ⟨_, q0, q1, q2⟩ := id B; obtain ⟨_, Q0, Q1, Q2⟩ := id D) | (go_at_call_of 43 m'; refine (rdGood_any _ _ _ _ HV'.out _).mono ?_; rintro e w1 ⟨rfl, hb⟩; replace HB := HB.trans (below_le hb HB.size); replace B := B.on hb; replace D := D.on hb; clear hb; (try clear q0 q1 q2 Q0 Q1 Q2); obtain ⟨_, q0, q1, q2⟩ := id B; obtain ⟨_, Q0, Q1, Q2⟩ := id D) | go_in)
  go_ret2
  exact ⟨rfl, HB⟩
set_option maxRecDepth 100000 in
set_option maxHeartbeats 1000000 in
theorem sAheadOn_day (m d r m' d' r' k : Int) (hv : Rd.good m d r = true) (hv' : Rd.good m' d' r' = true) (hk : ¬ 0 ≤ k ∨ ¬ k ≤ 3000) (w : World) : Calls Try.prog 36 #[.agg #[.int .i64 m, .int .i64 d, .int .i64 r], .agg #[.int .i64 m', .int .i64 d', .int .i64 r'], .int .i64 k] w (Ret (ans 0 false) w) := by
  have HV := Lib.hid hv
  have HV' := Lib.hid hv'
  clear hv hv'
  have HB : Below w.heap.size w ((w.alloc (.cells #[.int .i64 m, .int .i64 d, .int .i64 r] 25)).alloc (.cells #[.int .i64 m', .int .i64 d', .int .i64 r'] 25)) := below_alloc2 _ _ _
  have B := (Bx.new w m d r 25).alloc (.cells #[.int .i64 m', .int .i64 d', .int .i64 r'] 25)
  have D := Bx.next w (.cells #[.int .i64 m, .int .i64 d, .int .i64 r] 25) m' d' r' 25
  have hk0 : (k == 0) = false := by simp; omega
  by_cases h0 : 0 ≤ k
  · have t1 : decide (k ≤ 3000) = false := by simp; omega
    have t2 : decide (0 ≤ k) = true := by simp; omega
    have t3 : decide (1 ≤ k) = true := by simp; omega
    clear hk h0
    go_enter Try.func36, Try.ntmps36
    go_wp2_with (first | (go_at_call_of 43 m; refine (rdGood_any _ _ _ _ HV.out _).mono ?_; rintro e w1 ⟨rfl, hb⟩; replace HB := HB.trans (below_le hb HB.size); replace B := B.on hb; replace D := D.on hb; clear hb; (try clear q0 q1 q2 Q0 Q1 Q2); obtain ⟨_, q0, q1, q2⟩ := id B; obtain ⟨_, Q0, Q1, Q2⟩ := id D) | (go_at_call_of 43 m'; refine (rdGood_any _ _ _ _ HV'.out _).mono ?_; rintro e w1 ⟨rfl, hb⟩; replace HB := HB.trans (below_le hb HB.size); replace B := B.on hb; replace D := D.on hb; clear hb; (try clear q0 q1 q2 Q0 Q1 Q2); obtain ⟨_, q0, q1, q2⟩ := id B; obtain ⟨_, Q0, Q1, Q2⟩ := id D) | go_in)
    go_ret2
    exact ⟨rfl, HB⟩
  · have t2 : decide (0 ≤ k) = false := by simp; omega
    have t3 : decide (1 ≤ k) = false := by simp; omega
    clear hk h0
    go_enter Try.func36, Try.ntmps36
    go_wp2_with (first | (go_at_call_of 43 m; refine (rdGood_any _ _ _ _ HV.out _).mono ?_; rintro e w1 ⟨rfl, hb⟩; replace HB := HB.trans (below_le hb HB.size); replace B := B.on hb; replace D := D.on hb; clear hb; (try clear q0 q1 q2 Q0 Q1 Q2); obtain ⟨_, q0, q1, q2⟩ := id B; obtain ⟨_, Q0, Q1, Q2⟩ := id D) | (go_at_call_of 43 m'; refine (rdGood_any _ _ _ _ HV'.out _).mono ?_; rintro e w1 ⟨rfl, hb⟩; replace HB := HB.trans (below_le hb HB.size); replace B := B.on hb; replace D := D.on hb; clear hb; (try clear q0 q1 q2 Q0 Q1 Q2); obtain ⟨_, q0, q1, q2⟩ := id B; obtain ⟨_, Q0, Q1, Q2⟩ := id D) | go_in)
    go_ret2
    exact ⟨rfl, HB⟩
set_option maxRecDepth 100000 in
set_option maxHeartbeats 1000000 in
theorem iAheadOn_yes (m d r m' d' r' : Int) (k : Nat) (hg : Rd.good m d r = true) (hg' : Rd.good m' d' r' = true) (hk : k ≤ 3000) (w : World) : Calls Try.prog 37 #[.agg #[.int .i64 m, .int .i64 d, .int .i64 r], .agg #[.int .i64 m', .int .i64 d', .int .i64 r'], .int .i64 (k : Int)] w (Ret (.tuple #[.int .i64 (Rd.fr m d r k - Rd.fr m' d' r' k), .bool true]) w) := by
  have HG := Lib.hid (gfacts hg)
  have HG' := Lib.hid (gfacts hg')
  have HV := Lib.hid hg
  have HV' := Lib.hid hg'
  have h2 := ahead_in (k := k) hg hg' (by omega)
  have t1 : decide ((k : Int) ≤ 3000) = true := by simp; omega
  have t2 : decide ((0 : Int) ≤ (k : Int)) = true := by simp
  have HB : Below w.heap.size w ((w.alloc (.cells #[.int .i64 m, .int .i64 d, .int .i64 r] 25)).alloc (.cells #[.int .i64 m', .int .i64 d', .int .i64 r'] 25)) := below_alloc2 _ _ _
  have B := (Bx.new w m d r 25).alloc (.cells #[.int .i64 m', .int .i64 d', .int .i64 r'] 25)
  have D := Bx.next w (.cells #[.int .i64 m, .int .i64 d, .int .i64 r] 25) m' d' r' 25
  have C1 := Lib.hid (fun W => markBehind_any m d r k HG.out.1 HG.out.2.1 HG.out.2.2.1 HG.out.2.2.2.1 HG.out.2.2.2.2 (by omega) W)
  have C2 := Lib.hid (fun W => markBehind_any m' d' r' k HG'.out.1 HG'.out.2.1 HG'.out.2.2.1 HG'.out.2.2.2.1 HG'.out.2.2.2.2 (by omega) W)
  clear hg hg'
  by_cases c0 : k = 0
  · have t3 : ((k : Int) == 0) = true := by simp [c0]
    clear c0 hk
    go_enter Try.func37, Try.ntmps37
    go_wp2_with (first | (go_at_call_of 16 m; refine (IsReader_any _ _ _ _ HV.out _).mono ?_; rintro e w1 ⟨rfl, hb⟩; replace HB := HB.trans (below_le hb HB.size); replace B := B.on hb; replace D := D.on hb; clear hb; (try clear q0 q1 q2 Q0 Q1 Q2); obtain ⟨_, q0, q1, q2⟩ := id B; obtain ⟨_, Q0, Q1, Q2⟩ := id D) | (go_at_call_of 16 m'; refine (IsReader_any _ _ _ _ HV'.out _).mono ?_; rintro e w1 ⟨rfl, hb⟩; replace HB := HB.trans (below_le hb HB.size); replace B := B.on hb; replace D := D.on hb; clear hb; (try clear q0 q1 q2 Q0 Q1 Q2); obtain ⟨_, q0, q1, q2⟩ := id B; obtain ⟨_, Q0, Q1, Q2⟩ := id D) | go_in)
    go_region_held3 (fun w' => w'.cell? ⟨w.heap.size, 0, none⟩ = some (.int .i64 m) ∧ w'.cell? ⟨w.heap.size, 1, none⟩ = some (.int .i64 d) ∧ w'.cell? ⟨w.heap.size, 2, none⟩ = some (.int .i64 r) ∧ w'.cell? ⟨w.heap.size + 1, 0, none⟩ = some (.int .i64 m') ∧ w'.cell? ⟨w.heap.size + 1, 1, none⟩ = some (.int .i64 d') ∧ w'.cell? ⟨w.heap.size + 1, 2, none⟩ = some (.int .i64 r'))
      (first | exact ⟨q0, q1, q2, Q0, Q1, Q2⟩ | exact ⟨p0, p1, p2, P0, P1, P2⟩ | exact ⟨s0, s1, s2, S0, S1, S2⟩ | go_keep)
      (first
        | (go_at_call_of 52 m; refine (C1.out _).mono ?_; rintro e w4 ⟨rfl, hb4⟩; have B4 := (Bx.drew B).on hb4; have D4 := (Bx.drew D).on hb4; obtain ⟨-, p0, p1, p2⟩ := id B4; obtain ⟨-, P0, P1, P2⟩ := id D4)
        | (go_at_call_of 52 m'; refine (C2.out _).mono ?_; rintro e w5 ⟨rfl, hb5⟩; have B5 := B4.on hb5; have D5 := D4.on hb5; obtain ⟨-, s0, s1, s2⟩ := id B5; obtain ⟨-, S0, S1, S2⟩ := id D5))
    go_wp2
    go_ret2
    exact ⟨rfl, below_end HB hb4 hb5⟩
  · have t3 : ((k : Int) == 0) = false := by simp [c0]
    have t4 : decide ((1 : Int) ≤ (k : Int)) = true := by simp; omega
    clear c0 hk
    go_enter Try.func37, Try.ntmps37
    go_wp2_with (first | (go_at_call_of 16 m; refine (IsReader_any _ _ _ _ HV.out _).mono ?_; rintro e w1 ⟨rfl, hb⟩; replace HB := HB.trans (below_le hb HB.size); replace B := B.on hb; replace D := D.on hb; clear hb; (try clear q0 q1 q2 Q0 Q1 Q2); obtain ⟨_, q0, q1, q2⟩ := id B; obtain ⟨_, Q0, Q1, Q2⟩ := id D) | (go_at_call_of 16 m'; refine (IsReader_any _ _ _ _ HV'.out _).mono ?_; rintro e w1 ⟨rfl, hb⟩; replace HB := HB.trans (below_le hb HB.size); replace B := B.on hb; replace D := D.on hb; clear hb; (try clear q0 q1 q2 Q0 Q1 Q2); obtain ⟨_, q0, q1, q2⟩ := id B; obtain ⟨_, Q0, Q1, Q2⟩ := id D) | go_in)
    go_region_held3 (fun w' => w'.cell? ⟨w.heap.size, 0, none⟩ = some (.int .i64 m) ∧ w'.cell? ⟨w.heap.size, 1, none⟩ = some (.int .i64 d) ∧ w'.cell? ⟨w.heap.size, 2, none⟩ = some (.int .i64 r) ∧ w'.cell? ⟨w.heap.size + 1, 0, none⟩ = some (.int .i64 m') ∧ w'.cell? ⟨w.heap.size + 1, 1, none⟩ = some (.int .i64 d') ∧ w'.cell? ⟨w.heap.size + 1, 2, none⟩ = some (.int .i64 r'))
      (first | exact ⟨q0, q1, q2, Q0, Q1, Q2⟩ | exact ⟨p0, p1, p2, P0, P1, P2⟩ | exact ⟨s0, s1, s2, S0, S1, S2⟩ | go_keep)
      (first
        | (go_at_call_of 52 m; refine (C1.out _).mono ?_; rintro e w4 ⟨rfl, hb4⟩; have B4 := (Bx.drew B).on hb4; have D4 := (Bx.drew D).on hb4; obtain ⟨-, p0, p1, p2⟩ := id B4; obtain ⟨-, P0, P1, P2⟩ := id D4)
        | (go_at_call_of 52 m'; refine (C2.out _).mono ?_; rintro e w5 ⟨rfl, hb5⟩; have B5 := B4.on hb5; have D5 := D4.on hb5; obtain ⟨-, s0, s1, s2⟩ := id B5; obtain ⟨-, S0, S1, S2⟩ := id D5))
    go_wp2
    go_ret2
    exact ⟨rfl, below_end HB hb4 hb5⟩
set_option maxRecDepth 100000 in
set_option maxHeartbeats 1000000 in
theorem iAheadOn_no (m d r m' d' r' k : Int) (hv : Rd.good m d r = false) (w : World) : Calls Try.prog 37 #[.agg #[.int .i64 m, .int .i64 d, .int .i64 r], .agg #[.int .i64 m', .int .i64 d', .int .i64 r'], .int .i64 k] w (Ret (ans 0 false) w) := by
  have HV := Lib.hid hv
  clear hv
  have HB : Below w.heap.size w ((w.alloc (.cells #[.int .i64 m, .int .i64 d, .int .i64 r] 25)).alloc (.cells #[.int .i64 m', .int .i64 d', .int .i64 r'] 25)) := below_alloc2 _ _ _
  have B := (Bx.new w m d r 25).alloc (.cells #[.int .i64 m', .int .i64 d', .int .i64 r'] 25)
  have D := Bx.next w (.cells #[.int .i64 m, .int .i64 d, .int .i64 r] 25) m' d' r' 25
  go_enter Try.func37, Try.ntmps37
  go_wp2_with (first | (go_at_call_of 16 m; refine (IsReader_any _ _ _ _ HV.out _).mono ?_; rintro e w1 ⟨rfl, hb⟩; replace HB := HB.trans (below_le hb HB.size); replace B := B.on hb; replace D := D.on hb; clear hb; (try clear q0 q1 q2 Q0 Q1 Q2); obtain ⟨_, q0, q1, q2⟩ := id B; obtain ⟨_, Q0, Q1, Q2⟩ := id D) | go_in)
  go_ret2
  exact ⟨rfl, HB⟩
set_option maxRecDepth 100000 in
set_option maxHeartbeats 1000000 in
theorem iAheadOn_no2 (m d r m' d' r' k : Int) (hv : Rd.good m d r = true) (hv' : Rd.good m' d' r' = false) (w : World) : Calls Try.prog 37 #[.agg #[.int .i64 m, .int .i64 d, .int .i64 r], .agg #[.int .i64 m', .int .i64 d', .int .i64 r'], .int .i64 k] w (Ret (ans 0 false) w) := by
  have HV := Lib.hid hv
  have HV' := Lib.hid hv'
  clear hv hv'
  have HB : Below w.heap.size w ((w.alloc (.cells #[.int .i64 m, .int .i64 d, .int .i64 r] 25)).alloc (.cells #[.int .i64 m', .int .i64 d', .int .i64 r'] 25)) := below_alloc2 _ _ _
  have B := (Bx.new w m d r 25).alloc (.cells #[.int .i64 m', .int .i64 d', .int .i64 r'] 25)
  have D := Bx.next w (.cells #[.int .i64 m, .int .i64 d, .int .i64 r] 25) m' d' r' 25
  go_enter Try.func37, Try.ntmps37
  go_wp2_with (first | (go_at_call_of 16 m; refine (IsReader_any _ _ _ _ HV.out _).mono ?_; rintro e w1 ⟨rfl, hb⟩; replace HB := HB.trans (below_le hb HB.size); replace B := B.on hb; replace D := D.on hb; clear hb; (try clear q0 q1 q2 Q0 Q1 Q2); obtain ⟨_, q0, q1, q2⟩ := id B; obtain ⟨_, Q0, Q1, Q2⟩ := id D) | (go_at_call_of 16 m'; refine (IsReader_any _ _ _ _ HV'.out _).mono ?_; rintro e w1 ⟨rfl, hb⟩; replace HB := HB.trans (below_le hb HB.size); replace B := B.on hb; replace D := D.on hb; clear hb; (try clear q0 q1 q2 Q0 Q1 Q2); obtain ⟨_, q0, q1, q2⟩ := id B; obtain ⟨_, Q0, Q1, Q2⟩ := id D) | go_in)
  go_ret2
  exact ⟨rfl, HB⟩
set_option maxRecDepth 100000 in
set_option maxHeartbeats 1000000 in
theorem iAheadOn_day (m d r m' d' r' k : Int) (hv : Rd.good m d r = true) (hv' : Rd.good m' d' r' = true) (hk : ¬ 0 ≤ k ∨ ¬ k ≤ 3000) (w : World) : Calls Try.prog 37 #[.agg #[.int .i64 m, .int .i64 d, .int .i64 r], .agg #[.int .i64 m', .int .i64 d', .int .i64 r'], .int .i64 k] w (Ret (ans 0 false) w) := by
  have HV := Lib.hid hv
  have HV' := Lib.hid hv'
  clear hv hv'
  have HB : Below w.heap.size w ((w.alloc (.cells #[.int .i64 m, .int .i64 d, .int .i64 r] 25)).alloc (.cells #[.int .i64 m', .int .i64 d', .int .i64 r'] 25)) := below_alloc2 _ _ _
  have B := (Bx.new w m d r 25).alloc (.cells #[.int .i64 m', .int .i64 d', .int .i64 r'] 25)
  have D := Bx.next w (.cells #[.int .i64 m, .int .i64 d, .int .i64 r] 25) m' d' r' 25
  have hk0 : (k == 0) = false := by simp; omega
  by_cases h0 : 0 ≤ k
  · have t1 : decide (k ≤ 3000) = false := by simp; omega
    have t2 : decide (0 ≤ k) = true := by simp; omega
    have t3 : decide (1 ≤ k) = true := by simp; omega
    clear hk h0
    go_enter Try.func37, Try.ntmps37
    go_wp2_with (first | (go_at_call_of 16 m; refine (IsReader_any _ _ _ _ HV.out _).mono ?_; rintro e w1 ⟨rfl, hb⟩; replace HB := HB.trans (below_le hb HB.size); replace B := B.on hb; replace D := D.on hb; clear hb; (try clear q0 q1 q2 Q0 Q1 Q2); obtain ⟨_, q0, q1, q2⟩ := id B; obtain ⟨_, Q0, Q1, Q2⟩ := id D) | (go_at_call_of 16 m'; refine (IsReader_any _ _ _ _ HV'.out _).mono ?_; rintro e w1 ⟨rfl, hb⟩; replace HB := HB.trans (below_le hb HB.size); replace B := B.on hb; replace D := D.on hb; clear hb; (try clear q0 q1 q2 Q0 Q1 Q2); obtain ⟨_, q0, q1, q2⟩ := id B; obtain ⟨_, Q0, Q1, Q2⟩ := id D) | go_in)
    go_ret2
    exact ⟨rfl, HB⟩
  · have t2 : decide (0 ≤ k) = false := by simp; omega
    have t3 : decide (1 ≤ k) = false := by simp; omega
    clear hk h0
    go_enter Try.func37, Try.ntmps37
    go_wp2_with (first | (go_at_call_of 16 m; refine (IsReader_any _ _ _ _ HV.out _).mono ?_; rintro e w1 ⟨rfl, hb⟩; replace HB := HB.trans (below_le hb HB.size); replace B := B.on hb; replace D := D.on hb; clear hb; (try clear q0 q1 q2 Q0 Q1 Q2); obtain ⟨_, q0, q1, q2⟩ := id B; obtain ⟨_, Q0, Q1, Q2⟩ := id D) | (go_at_call_of 16 m'; refine (IsReader_any _ _ _ _ HV'.out _).mono ?_; rintro e w1 ⟨rfl, hb⟩; replace HB := HB.trans (below_le hb HB.size); replace B := B.on hb; replace D := D.on hb; clear hb; (try clear q0 q1 q2 Q0 Q1 Q2); obtain ⟨_, q0, q1, q2⟩ := id B; obtain ⟨_, Q0, Q1, Q2⟩ := id D) | go_in)
    go_ret2
    exact ⟨rfl, HB⟩
end Rw
end Go.Proofs.Ytcaklokcajidiaa
