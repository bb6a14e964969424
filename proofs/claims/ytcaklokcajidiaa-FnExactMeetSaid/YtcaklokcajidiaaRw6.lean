/- The first day behind which two readers have read up to the same page: by a loop and by a goto. -/
import Derived.Test.YtcaklokcajidiaaRw5
import Derived.WalkMore
import Derived.ScopeJumps
namespace Go.Proofs.Ytcaklokcajidiaa
open Go.RowKit Go.Joins
set_option linter.unusedVariables false
set_option linter.unusedSimpArgs false
namespace Rd
/-- no reader is at the end behind a day, and they are not on one page -/
def on (p m d r m' d' r' : Int) (k : Nat) : Prop := fr m d r k < p ∧ fr m' d' r' k < p ∧ ¬ fr m d r k = fr m' d' r' k
theorem least (P : Nat → Prop) (n : Nat) (h : ¬ P n) : ∃ K, K ≤ n ∧ ¬ P K ∧ ∀ j, j < K → P j := by
  induction n with
  | zero => exact ⟨0, Nat.le_refl _, h, fun j hj => absurd hj (Nat.not_lt_zero _)⟩
  | succ n ih =>
    by_cases h1 : ∀ j, j < n + 1 → P j
    · exact ⟨n + 1, Nat.le_refl _, h, h1⟩
    · obtain ⟨j, hj⟩ := Classical.not_forall.1 h1
      obtain ⟨hj1, hj2⟩ := Classical.not_imp.1 hj
      by_cases hn : P n
      · have key : ∀ q, q ≤ n → ¬ P q → ∃ K, K ≤ n ∧ ¬ P K ∧ ∀ j, j < K → P j := by
          intro q
          induction q using Nat.strongRecOn with
          | _ q ihq =>
            intro hq hnq
            by_cases h2 : ∀ j, j < q → P j
            · exact ⟨q, hq, hnq, h2⟩
            · obtain ⟨i, hi⟩ := Classical.not_forall.1 h2
              obtain ⟨hi1, hi2⟩ := Classical.not_imp.1 hi
              exact ihq i hi1 (by omega) hi2
        obtain ⟨K, a, b, c⟩ := key j (by omega) hj2
        exact ⟨K, by omega, b, c⟩
      · obtain ⟨K, a, b, c⟩ := ih hn
        exact ⟨K, by omega, b, c⟩
/-- there is a first day on which it stops -/
theorem stops {p m d r m' d' r' : Int} (hr : r = 0 ∨ 2 ≤ r) (hd : 1 ≤ d) (hm : 0 ≤ m) (hp : p ≤ 2000) : ∃ K, K ≤ 4000 ∧ ¬ on p m d r m' d' r' K ∧ ∀ j, j < K → on p m d r m' d' r' j :=
  least _ 4000 (fun h => by have := fr_far (m := m) hr hd; have := h.1; omega)
end Rd
namespace Rw
/-- what it answers -/
def mt (p m d r m' d' r' : Int) (K : Nat) : Value := if Rd.fr m d r K < p ∧ Rd.fr m' d' r' K < p then .tuple #[.int .i64 (K : Int), .int .i64 (Rd.fr m d r K), .bool true] else .tuple #[.int .i64 0, .int .i64 0, .bool false]
theorem mt_no {p m d r m' d' r' : Int} {K : Nat} (h : ¬ Rd.fr m d r K < p ∨ ¬ Rd.fr m' d' r' K < p) : mt p m d r m' d' r' K = .tuple #[.int .i64 0, .int .i64 0, .bool false] := if_neg (by omega)
theorem mt_yes {p m d r m' d' r' : Int} {K : Nat} (h : Rd.fr m d r K < p) (h' : Rd.fr m' d' r' K < p) : mt p m d r m' d' r' K = .tuple #[.int .i64 (K : Int), .int .i64 (Rd.fr m d r K), .bool true] := if_pos ⟨h, h'⟩

set_option maxRecDepth 100000 in
set_option maxHeartbeats 1000000 in
theorem sMeet_no (p m d r m' d' r' : Int) (hv : Rd.inb p m d r = false) (w : World) : Calls Try.prog 34 #[.int .i64 p, .agg #[.int .i64 m, .int .i64 d, .int .i64 r], .agg #[.int .i64 m', .int .i64 d', .int .i64 r']] w (Ret (.tuple #[.int .i64 0, .int .i64 0, .bool false]) w) := by
  have HV := Lib.hid hv
  clear hv
  have HB : Below w.heap.size w ((w.alloc (.cells #[.int .i64 m, .int .i64 d, .int .i64 r] 25)).alloc (.cells #[.int .i64 m', .int .i64 d', .int .i64 r'] 25)) := below_alloc2 _ _ _
  have B := (Bx.new w m d r 25).alloc (.cells #[.int .i64 m', .int .i64 d', .int .i64 r'] 25)
  have D := Bx.next w (.cells #[.int .i64 m, .int .i64 d, .int .i64 r] 25) m' d' r' 25
  go_enter Try.func34, Try.ntmps34
  go_wp2_with (first | (go_at_call_of 46 m; refine (rdBook_any _ _ _ _ _ HV.out _).mono ?_; rintro e w1 ⟨rfl, hb⟩; replace HB := HB.trans (below_le hb HB.size); replace B := B.on hb; replace D := D.on hb; clear hb; (try clear q0 q1 q2 Q0 Q1 Q2); obtain ⟨_, q0, q1, q2⟩ := id B; obtain ⟨_, Q0, Q1, Q2⟩ := id D) | go_in)
  go_ret3
  exact ⟨rfl, HB⟩
set_option maxRecDepth 100000 in
set_option maxHeartbeats 1000000 in
theorem sMeet_no2 (p m d r m' d' r' : Int) (hv : Rd.inb p m d r = true) (hv' : Rd.inb p m' d' r' = false) (w : World) : Calls Try.prog 34 #[.int .i64 p, .agg #[.int .i64 m, .int .i64 d, .int .i64 r], .agg #[.int .i64 m', .int .i64 d', .int .i64 r']] w (Ret (.tuple #[.int .i64 0, .int .i64 0, .bool false]) w) := by
  have HV := Lib.hid hv
  have HV' := Lib.hid hv'
  clear hv hv'
  have HB : Below w.heap.size w ((w.alloc (.cells #[.int .i64 m, .int .i64 d, .int .i64 r] 25)).alloc (.cells #[.int .i64 m', .int .i64 d', .int .i64 r'] 25)) := below_alloc2 _ _ _
  have B := (Bx.new w m d r 25).alloc (.cells #[.int .i64 m', .int .i64 d', .int .i64 r'] 25)
  have D := Bx.next w (.cells #[.int .i64 m, .int .i64 d, .int .i64 r] 25) m' d' r' 25
  go_enter Try.func34, Try.ntmps34
  go_wp2_with (first | (go_at_call_of 46 m; refine (rdBook_any _ _ _ _ _ HV.out _).mono ?_; rintro e w1 ⟨rfl, hb⟩; replace HB := HB.trans (below_le hb HB.size); replace B := B.on hb; replace D := D.on hb; clear hb; (try clear q0 q1 q2 Q0 Q1 Q2); obtain ⟨_, q0, q1, q2⟩ := id B; obtain ⟨_, Q0, Q1, Q2⟩ := id D) | (go_at_call_of 46 m'; refine (rdBook_any _ _ _ _ _ HV'.out _).mono ?_; rintro e w1 ⟨rfl, hb⟩; replace HB := HB.trans (below_le hb HB.size); replace B := B.on hb; replace D := D.on hb; clear hb; (try clear q0 q1 q2 Q0 Q1 Q2); obtain ⟨_, q0, q1, q2⟩ := id B; obtain ⟨_, Q0, Q1, Q2⟩ := id D) | go_in)
  go_ret3
  exact ⟨rfl, HB⟩
set_option maxRecDepth 100000 in
set_option maxHeartbeats 1000000 in
theorem iMeet_no (p m d r m' d' r' : Int) (hv : Rd.inb p m d r = false) (w : World) : Calls Try.prog 35 #[.int .i64 p, .agg #[.int .i64 m, .int .i64 d, .int .i64 r], .agg #[.int .i64 m', .int .i64 d', .int .i64 r']] w (Ret (.tuple #[.int .i64 0, .int .i64 0, .bool false]) w) := by
  have HV := Lib.hid hv
  clear hv
  have HB : Below w.heap.size w ((w.alloc (.cells #[.int .i64 m, .int .i64 d, .int .i64 r] 25)).alloc (.cells #[.int .i64 m', .int .i64 d', .int .i64 r'] 25)) := below_alloc2 _ _ _
  have B := (Bx.new w m d r 25).alloc (.cells #[.int .i64 m', .int .i64 d', .int .i64 r'] 25)
  have D := Bx.next w (.cells #[.int .i64 m, .int .i64 d, .int .i64 r] 25) m' d' r' 25
  go_enter Try.func35, Try.ntmps35
  go_wp2
  refine wp_scope_jumps 0 (fun _ _ => False) (fun _ _ => 0) rfl ?_ (fun _ _ h => h.elim)
  go_wp2_with (first | (go_at_call_of 50 m; refine (isReaderOf_any _ _ _ _ _ HV.out _).mono ?_; rintro e w1 ⟨rfl, hb⟩; replace HB := HB.trans (below_le hb HB.size); replace B := B.on hb; replace D := D.on hb; clear hb; (try clear q0 q1 q2 Q0 Q1 Q2); obtain ⟨_, q0, q1, q2⟩ := id B; obtain ⟨_, Q0, Q1, Q2⟩ := id D) | go_in)
  simp only [Exit.jump]
  go_ret3
  exact ⟨rfl, HB⟩
set_option maxRecDepth 100000 in
set_option maxHeartbeats 1000000 in
theorem iMeet_no2 (p m d r m' d' r' : Int) (hv : Rd.inb p m d r = true) (hv' : Rd.inb p m' d' r' = false) (w : World) : Calls Try.prog 35 #[.int .i64 p, .agg #[.int .i64 m, .int .i64 d, .int .i64 r], .agg #[.int .i64 m', .int .i64 d', .int .i64 r']] w (Ret (.tuple #[.int .i64 0, .int .i64 0, .bool false]) w) := by
  have HV := Lib.hid hv
  have HV' := Lib.hid hv'
  clear hv hv'
  have HB : Below w.heap.size w ((w.alloc (.cells #[.int .i64 m, .int .i64 d, .int .i64 r] 25)).alloc (.cells #[.int .i64 m', .int .i64 d', .int .i64 r'] 25)) := below_alloc2 _ _ _
  have B := (Bx.new w m d r 25).alloc (.cells #[.int .i64 m', .int .i64 d', .int .i64 r'] 25)
  have D := Bx.next w (.cells #[.int .i64 m, .int .i64 d, .int .i64 r] 25) m' d' r' 25
  go_enter Try.func35, Try.ntmps35
  go_wp2
  refine wp_scope_jumps 0 (fun _ _ => False) (fun _ _ => 0) rfl ?_ (fun _ _ h => h.elim)
  go_wp2_with (first | (go_at_call_of 50 m; refine (isReaderOf_any _ _ _ _ _ HV.out _).mono ?_; rintro e w1 ⟨rfl, hb⟩; replace HB := HB.trans (below_le hb HB.size); replace B := B.on hb; replace D := D.on hb; clear hb; (try clear q0 q1 q2 Q0 Q1 Q2); obtain ⟨_, q0, q1, q2⟩ := id B; obtain ⟨_, Q0, Q1, Q2⟩ := id D) | (go_at_call_of 50 m'; refine (isReaderOf_any _ _ _ _ _ HV'.out _).mono ?_; rintro e w1 ⟨rfl, hb⟩; replace HB := HB.trans (below_le hb HB.size); replace B := B.on hb; replace D := D.on hb; clear hb; (try clear q0 q1 q2 Q0 Q1 Q2); obtain ⟨_, q0, q1, q2⟩ := id B; obtain ⟨_, Q0, Q1, Q2⟩ := id D) | go_in)
  simp only [Exit.jump]
  go_ret3
  exact ⟨rfl, HB⟩
theorem scope_loop {P : Program} {a : Act} {w : World} {Q : Exit → Act → World → Prop} {c X : Code} (l : Nat) (J : Act → World → Prop) (μ : Act → World → Nat) (hf : findLabel c l = some (Code.skip.seq X))
    (body : ∀ a w, J a w → X.wp P (Exit.jump l (fun a' w' => J a' w' ∧ μ a' w' < μ a w) Q) a w) (first : (∀ a w, J a w → X.wp P (Exit.jump l J Q) a w) → c.wp P (Exit.jump l J Q) a w) : (Code.scope c).wp P Q a w :=
  wp_scope_jumps l J μ hf (first fun a w h => Code.wp_mono (fun e a w h => by cases e <;> first | exact h | exact ⟨h.1, h.2.1⟩) (body a w h)) fun a w h => wp_seq (wp_skip (body a w h))
theorem ret_eq {x y : Value} (h : x = y) : Ending.returned y = Ending.returned x := by rw [h]
set_option maxRecDepth 100000 in
set_option maxHeartbeats 1000000 in
theorem sMeet_yes (p m d r m' d' r' : Int) (K : Nat) (hv : Rd.inb p m d r = true) (hv' : Rd.inb p m' d' r' = true) (hK : K ≤ 4000) (hs : ¬ Rd.on p m d r m' d' r' K) (hl : ∀ j, j < K → Rd.on p m d r m' d' r' j) (w : World) : Calls Try.prog 34 #[.int .i64 p, .agg #[.int .i64 m, .int .i64 d, .int .i64 r], .agg #[.int .i64 m', .int .i64 d', .int .i64 r']] w (Ret (mt p m d r m' d' r' K) w) := by
  have HV := Lib.hid hv
  have HV' := Lib.hid hv'
  have HG := Lib.hid (gfacts (good_of hv))
  have HG' := Lib.hid (gfacts (good_of hv'))
  have C1 := Lib.hid (fun (k : Nat) (hk : k ≤ 4000) W => rdFree_any m d r k HG.out.1 HG.out.2.1 HG.out.2.2.1 HG.out.2.2.2.1 HG.out.2.2.2.2 (by omega) W)
  have C2 := Lib.hid (fun (k : Nat) (hk : k ≤ 4000) W => rdFree_any m' d' r' k HG'.out.1 HG'.out.2.1 HG'.out.2.2.1 HG'.out.2.2.2.1 HG'.out.2.2.2.2 (by omega) W)
  have HB : Below w.heap.size w ((w.alloc (.cells #[.int .i64 m, .int .i64 d, .int .i64 r] 25)).alloc (.cells #[.int .i64 m', .int .i64 d', .int .i64 r'] 25)) := below_alloc2 _ _ _
  have B := (Bx.new w m d r 25).alloc (.cells #[.int .i64 m', .int .i64 d', .int .i64 r'] 25)
  have D := Bx.next w (.cells #[.int .i64 m, .int .i64 d, .int .i64 r] 25) m' d' r' 25
  have HS := Lib.hid hs
  have HL := Lib.hid hl
  clear hv hv' hs hl
  go_enter Try.func34, Try.ntmps34
  go_wp2_with (first | (go_at_call_of 46 m; refine (rdBook_any _ _ _ _ _ HV.out _).mono ?_; rintro e w1 ⟨rfl, hb⟩; replace HB := HB.trans (below_le hb HB.size); replace B := B.on hb; replace D := D.on hb; clear hb; (try clear q0 q1 q2 Q0 Q1 Q2); obtain ⟨_, q0, q1, q2⟩ := id B; obtain ⟨_, Q0, Q1, Q2⟩ := id D) | (go_at_call_of 46 m'; refine (rdBook_any _ _ _ _ _ HV'.out _).mono ?_; rintro e w1 ⟨rfl, hb⟩; replace HB := HB.trans (below_le hb HB.size); replace B := B.on hb; replace D := D.on hb; clear hb; (try clear q0 q1 q2 Q0 Q1 Q2); obtain ⟨_, q0, q1, q2⟩ := id B; obtain ⟨_, Q0, Q1, Q2⟩ := id D) | go_in)
  go_loopw [9] (fun i wr => ∃ k : Nat, k ≤ K ∧ i = .int .i64 (k : Int) ∧ Below w.heap.size w wr ∧ Bx wr w.heap.size m d r ∧ Bx wr (w.heap.size + 1) m' d' r') (fun i _ => ((K : Int) - intOf i).toNat)
  case atStart => exact ⟨0, by omega, rfl, HB, B, D⟩
  case round =>
    clear HB B D q0 q1 q2 Q0 Q1 Q2
    obtain ⟨k, hk, rfl, HB, B, D⟩ := hrel
    obtain ⟨_, q0, q1, q2⟩ := id B
    obtain ⟨_, Q0, Q1, Q2⟩ := id D
    by_cases hlt : k < K
    · have ho := HL.out k hlt
      have t1 : decide (Rd.fr m d r k < p) = true := by simpa using ho.1
      have t2 : decide (Rd.fr m' d' r' k < p) = true := by simpa using ho.2.1
      have t3 : (Rd.fr m d r k == Rd.fr m' d' r' k) = false := by simpa using ho.2.2
      clear ho
      go_wp2_with fail
      refine (C1.out k (by omega) _).mono ?_
      rintro e w1 ⟨rfl, hb⟩
      replace HB := HB.trans (below_le hb HB.size)
      replace B := B.on hb
      replace D := D.on hb
      clear hb
      (try clear q0 q1 q2 Q0 Q1 Q2)
      obtain ⟨_, q0, q1, q2⟩ := id B
      obtain ⟨_, Q0, Q1, Q2⟩ := id D
      go_wp2_with fail
      refine (C2.out k (by omega) _).mono ?_
      rintro e w1 ⟨rfl, hb⟩
      replace HB := HB.trans (below_le hb HB.size)
      replace B := B.on hb
      replace D := D.on hb
      clear hb
      (try clear q0 q1 q2 Q0 Q1 Q2)
      obtain ⟨_, q0, q1, q2⟩ := id B
      obtain ⟨_, Q0, Q1, Q2⟩ := id D
      go_wp2
      go_region_held3 (fun w' => w'.cell? ⟨w.heap.size, 0, none⟩ = some (.int .i64 m) ∧ w'.cell? ⟨w.heap.size, 1, none⟩ = some (.int .i64 d) ∧ w'.cell? ⟨w.heap.size, 2, none⟩ = some (.int .i64 r) ∧ w'.cell? ⟨w.heap.size + 1, 0, none⟩ = some (.int .i64 m') ∧ w'.cell? ⟨w.heap.size + 1, 1, none⟩ = some (.int .i64 d') ∧ w'.cell? ⟨w.heap.size + 1, 2, none⟩ = some (.int .i64 r'))
        (first | exact ⟨q0, q1, q2, Q0, Q1, Q2⟩ | exact ⟨p0, p1, p2, P0, P1, P2⟩ | exact ⟨s0, s1, s2, S0, S1, S2⟩ | go_keep)
        (first
          | (go_at_call_of 49 m; refine (C1.out k (by omega) _).mono ?_; rintro e w4 ⟨rfl, hb4⟩; have B4 := (Bx.drew B).on hb4; have D4 := (Bx.drew D).on hb4; obtain ⟨-, p0, p1, p2⟩ := id B4; obtain ⟨-, P0, P1, P2⟩ := id D4)
          | (go_at_call_of 49 m'; refine (C2.out k (by omega) _).mono ?_; rintro e w5 ⟨rfl, hb5⟩; have B5 := B4.on hb5; have D5 := D4.on hb5; obtain ⟨-, s0, s1, s2⟩ := id B5; obtain ⟨-, S0, S1, S2⟩ := id D5))
      have HB := Lib.hid (below_end HB hb4 hb5)
      have B := B5
      have D := D5
      clear hb4 hb5 B4 D4 B5 D5 p0 p1 p2 P0 P1 P2 s0 s1 s2 S0 S1 S2 q0 q1 q2 Q0 Q1 Q2
      go_wp2
      go_roundw
      case rel => exact ⟨k + 1, by omega, by go_num, HB.out, B, D⟩
      case measure => simp [intOf]; omega
    · obtain rfl : k = K := by omega
      clear hlt hk
      by_cases ca : Rd.fr m d r k < p
      · have t1 : decide (Rd.fr m d r k < p) = true := by simpa using ca
        by_cases cb : Rd.fr m' d' r' k < p
        · have t2 : decide (Rd.fr m' d' r' k < p) = true := by simpa using cb
          have t3 : (Rd.fr m d r k == Rd.fr m' d' r' k) = true := by simp; exact Classical.byContradiction fun h => HS.out ⟨ca, cb, h⟩
          have E := Lib.hid (mt_yes ca cb)
          clear ca cb
          go_wp2_with fail
          refine (C1.out k (by omega) _).mono ?_
          rintro e w1 ⟨rfl, hb⟩
          replace HB := HB.trans (below_le hb HB.size)
          replace B := B.on hb
          replace D := D.on hb
          clear hb
          (try clear q0 q1 q2 Q0 Q1 Q2)
          obtain ⟨_, q0, q1, q2⟩ := id B
          obtain ⟨_, Q0, Q1, Q2⟩ := id D
          go_wp2_with fail
          refine (C2.out k (by omega) _).mono ?_
          rintro e w1 ⟨rfl, hb⟩
          replace HB := HB.trans (below_le hb HB.size)
          replace B := B.on hb
          replace D := D.on hb
          clear hb
          (try clear q0 q1 q2 Q0 Q1 Q2)
          obtain ⟨_, q0, q1, q2⟩ := id B
          obtain ⟨_, Q0, Q1, Q2⟩ := id D
          go_wp2
          go_region_held3 (fun w' => w'.cell? ⟨w.heap.size, 0, none⟩ = some (.int .i64 m) ∧ w'.cell? ⟨w.heap.size, 1, none⟩ = some (.int .i64 d) ∧ w'.cell? ⟨w.heap.size, 2, none⟩ = some (.int .i64 r) ∧ w'.cell? ⟨w.heap.size + 1, 0, none⟩ = some (.int .i64 m') ∧ w'.cell? ⟨w.heap.size + 1, 1, none⟩ = some (.int .i64 d') ∧ w'.cell? ⟨w.heap.size + 1, 2, none⟩ = some (.int .i64 r'))
            (first | exact ⟨q0, q1, q2, Q0, Q1, Q2⟩ | exact ⟨p0, p1, p2, P0, P1, P2⟩ | exact ⟨s0, s1, s2, S0, S1, S2⟩ | go_keep)
            (first
              | (go_at_call_of 49 m; refine (C1.out k (by omega) _).mono ?_; rintro e w4 ⟨rfl, hb4⟩; have B4 := (Bx.drew B).on hb4; have D4 := (Bx.drew D).on hb4; obtain ⟨-, p0, p1, p2⟩ := id B4; obtain ⟨-, P0, P1, P2⟩ := id D4)
              | (go_at_call_of 49 m'; refine (C2.out k (by omega) _).mono ?_; rintro e w5 ⟨rfl, hb5⟩; have B5 := B4.on hb5; have D5 := D4.on hb5; obtain ⟨-, s0, s1, s2⟩ := id B5; obtain ⟨-, S0, S1, S2⟩ := id D5))
          have HB := Lib.hid (below_end HB hb4 hb5)
          have B := B5
          have D := D5
          clear hb4 hb5 B4 D4 B5 D5 p0 p1 p2 P0 P1 P2 s0 s1 s2 S0 S1 S2 q0 q1 q2 Q0 Q1 Q2
          have HB := HB.out
          obtain ⟨_, q0, q1, q2⟩ := id B
          obtain ⟨_, Q0, Q1, Q2⟩ := id D
          go_wp2_with fail
          refine (C1.out k (by omega) _).mono ?_
          rintro e w1 ⟨rfl, hb⟩
          replace HB := HB.trans (below_le hb HB.size)
          replace B := B.on hb
          replace D := D.on hb
          clear hb
          (try clear q0 q1 q2 Q0 Q1 Q2)
          obtain ⟨_, q0, q1, q2⟩ := id B
          obtain ⟨_, Q0, Q1, Q2⟩ := id D
          go_wp2
          go_ret3
          exact ⟨ret_eq E.out, HB⟩
        · have t2 : decide (Rd.fr m' d' r' k < p) = false := by simpa using cb
          have E := Lib.hid (mt_no (m := m) (d := d) (r := r) (Or.inr cb))
          clear ca cb
          go_wp2_with fail
          refine (C1.out k (by omega) _).mono ?_
          rintro e w1 ⟨rfl, hb⟩
          replace HB := HB.trans (below_le hb HB.size)
          replace B := B.on hb
          replace D := D.on hb
          clear hb
          (try clear q0 q1 q2 Q0 Q1 Q2)
          obtain ⟨_, q0, q1, q2⟩ := id B
          obtain ⟨_, Q0, Q1, Q2⟩ := id D
          go_wp2_with fail
          refine (C2.out k (by omega) _).mono ?_
          rintro e w1 ⟨rfl, hb⟩
          replace HB := HB.trans (below_le hb HB.size)
          replace B := B.on hb
          replace D := D.on hb
          clear hb
          (try clear q0 q1 q2 Q0 Q1 Q2)
          obtain ⟨_, q0, q1, q2⟩ := id B
          obtain ⟨_, Q0, Q1, Q2⟩ := id D
          go_wp2
          go_ret3
          exact ⟨ret_eq E.out, HB⟩
      · have t1 : decide (Rd.fr m d r k < p) = false := by simpa using ca
        have E := Lib.hid (mt_no (m' := m') (d' := d') (r' := r') (Or.inl ca))
        clear ca
        go_wp2_with fail
        refine (C1.out k (by omega) _).mono ?_
        rintro e w1 ⟨rfl, hb⟩
        replace HB := HB.trans (below_le hb HB.size)
        replace B := B.on hb
        replace D := D.on hb
        clear hb
        (try clear q0 q1 q2 Q0 Q1 Q2)
        obtain ⟨_, q0, q1, q2⟩ := id B
        obtain ⟨_, Q0, Q1, Q2⟩ := id D
        go_wp2
        go_ret3
        exact ⟨ret_eq E.out, HB⟩
-- IMPL
set_option maxRecDepth 100000 in
set_option maxHeartbeats 1000000 in
theorem iMeet_yes (p m d r m' d' r' : Int) (K : Nat) (hv : Rd.inb p m d r = true) (hv' : Rd.inb p m' d' r' = true) (hK : K ≤ 4000) (hs : ¬ Rd.on p m d r m' d' r' K) (hl : ∀ j, j < K → Rd.on p m d r m' d' r' j) (w : World) : Calls Try.prog 35 #[.int .i64 p, .agg #[.int .i64 m, .int .i64 d, .int .i64 r], .agg #[.int .i64 m', .int .i64 d', .int .i64 r']] w (Ret (mt p m d r m' d' r' K) w) := by
  have HV := Lib.hid hv
  have HV' := Lib.hid hv'
  have HG := Lib.hid (gfacts (good_of hv))
  have HG' := Lib.hid (gfacts (good_of hv'))
  have C1 := Lib.hid (fun (k : Nat) (hk : k ≤ 4000) W => markBehind_any m d r k HG.out.1 HG.out.2.1 HG.out.2.2.1 HG.out.2.2.2.1 HG.out.2.2.2.2 (by omega) W)
  have C2 := Lib.hid (fun (k : Nat) (hk : k ≤ 4000) W => markBehind_any m' d' r' k HG'.out.1 HG'.out.2.1 HG'.out.2.2.1 HG'.out.2.2.2.1 HG'.out.2.2.2.2 (by omega) W)
  have HB : Below w.heap.size w ((w.alloc (.cells #[.int .i64 m, .int .i64 d, .int .i64 r] 25)).alloc (.cells #[.int .i64 m', .int .i64 d', .int .i64 r'] 25)) := below_alloc2 _ _ _
  have B := (Bx.new w m d r 25).alloc (.cells #[.int .i64 m', .int .i64 d', .int .i64 r'] 25)
  have D := Bx.next w (.cells #[.int .i64 m, .int .i64 d, .int .i64 r] 25) m' d' r' 25
  have HS := Lib.hid hs
  have HL := Lib.hid hl
  clear hv hv' hs hl
  go_enter Try.func35, Try.ntmps35
  go_wp2
  refine scope_loop 0 (fun a' wr => ∃ (k : Nat) (u10 u11 u12 u13 u14 u15 u16 u17 u18 u19 u20 u21 u22 u23 u24 u25 u26 u27 u28 u29 u30 u31 u32 u33 u34 u35 u36 u37 u38 u39 u40 u41 u42 u43 u44 : Value), k ≤ K ∧ Below w.heap.size w wr ∧ Bx wr w.heap.size m d r ∧ Bx wr (w.heap.size + 1) m' d' r' ∧ a' = { tmps := #[.int .i64 p, .agg #[.int .i64 m, .int .i64 d, .int .i64 r], .agg #[.int .i64 m', .int .i64 d', .int .i64 r'], undef, .pointer (some ⟨w.heap.size, 0, none⟩), .pointer (some ⟨w.heap.size + 1, 0, none⟩), .int .i64 0, .int .i64 0, .bool false, .int .i64 (k : Int), u10, u11, u12, u13, u14, u15, u16, u17, u18, u19, u20, u21, u22, u23, u24, u25, u26, u27, u28, u29, u30, u31, u32, u33, u34, u35, u36, u37, u38, u39, u40, u41, u42, u43, u44], defers := [] }) (fun a' _ => ((K : Int) - intOf (a'.tmps.getD 9 undef)).toNat) rfl ?_ ?_
  · rintro a' wr ⟨k, u10, u11, u12, u13, u14, u15, u16, u17, u18, u19, u20, u21, u22, u23, u24, u25, u26, u27, u28, u29, u30, u31, u32, u33, u34, u35, u36, u37, u38, u39, u40, u41, u42, u43, u44, hk, HB, B, D, rfl⟩
    obtain ⟨_, q0, q1, q2⟩ := id B
    obtain ⟨_, Q0, Q1, Q2⟩ := id D
    by_cases hlt : k < K
    · have ho := HL.out k hlt
      have t1 : decide (p ≤ Rd.fr m d r k) = false := by have := ho.1; simp; omega
      have t2 : decide (p ≤ Rd.fr m' d' r' k) = false := by have := ho.2.1; simp; omega
      have t3 : (Rd.fr m d r k == Rd.fr m' d' r' k) = false := by simpa using ho.2.2
      clear ho
      go_wp2
      go_region_held3 (fun w' => w'.cell? ⟨w.heap.size, 0, none⟩ = some (.int .i64 m) ∧ w'.cell? ⟨w.heap.size, 1, none⟩ = some (.int .i64 d) ∧ w'.cell? ⟨w.heap.size, 2, none⟩ = some (.int .i64 r) ∧ w'.cell? ⟨w.heap.size + 1, 0, none⟩ = some (.int .i64 m') ∧ w'.cell? ⟨w.heap.size + 1, 1, none⟩ = some (.int .i64 d') ∧ w'.cell? ⟨w.heap.size + 1, 2, none⟩ = some (.int .i64 r'))
        (first | exact ⟨q0, q1, q2, Q0, Q1, Q2⟩ | exact ⟨p0, p1, p2, P0, P1, P2⟩ | exact ⟨s0, s1, s2, S0, S1, S2⟩ | go_keep)
        (first
          | (go_at_call_of 52 m; refine (C1.out k (by omega) _).mono ?_; rintro e w4 ⟨rfl, hb4⟩; have B4 := (Bx.drew B).on hb4; have D4 := (Bx.drew D).on hb4; obtain ⟨-, p0, p1, p2⟩ := id B4; obtain ⟨-, P0, P1, P2⟩ := id D4)
          | (go_at_call_of 52 m'; refine (C2.out k (by omega) _).mono ?_; rintro e w5 ⟨rfl, hb5⟩; have B5 := B4.on hb5; have D5 := D4.on hb5; obtain ⟨-, s0, s1, s2⟩ := id B5; obtain ⟨-, S0, S1, S2⟩ := id D5))
      have HB := Lib.hid (below_end HB hb4 hb5)
      have B := B5
      have D := D5
      clear hb4 hb5 B4 D4 B5 D5 p0 p1 p2 P0 P1 P2 s0 s1 s2 S0 S1 S2 q0 q1 q2 Q0 Q1 Q2
      go_wp2
      go_step3
      rw [show (k : Int) + 1 = ((k + 1 : Nat) : Int) by omega]
      exact ⟨rfl, ⟨k + 1, _, _, _, _, _, _, _, _, _, _, _, _, _, _, _, _, _, _, _, _, _, _, _, _, _, _, _, _, _, _, _, _, _, _, _, by omega, HB.out, B, D, rfl⟩, by simp [intOf]; omega⟩
    · obtain rfl : k = K := by omega
      clear hlt hk
      by_cases ca : Rd.fr m d r k < p
      · have t1 : decide (p ≤ Rd.fr m d r k) = false := by simp; omega
        by_cases cb : Rd.fr m' d' r' k < p
        · have t2 : decide (p ≤ Rd.fr m' d' r' k) = false := by simp; omega
          have t3 : (Rd.fr m d r k == Rd.fr m' d' r' k) = true := by simp; exact Classical.byContradiction fun h => HS.out ⟨ca, cb, h⟩
          have E := Lib.hid (mt_yes ca cb)
          clear ca cb
          go_wp2
          go_region_held3 (fun w' => w'.cell? ⟨w.heap.size, 0, none⟩ = some (.int .i64 m) ∧ w'.cell? ⟨w.heap.size, 1, none⟩ = some (.int .i64 d) ∧ w'.cell? ⟨w.heap.size, 2, none⟩ = some (.int .i64 r) ∧ w'.cell? ⟨w.heap.size + 1, 0, none⟩ = some (.int .i64 m') ∧ w'.cell? ⟨w.heap.size + 1, 1, none⟩ = some (.int .i64 d') ∧ w'.cell? ⟨w.heap.size + 1, 2, none⟩ = some (.int .i64 r'))
            (first | exact ⟨q0, q1, q2, Q0, Q1, Q2⟩ | exact ⟨p0, p1, p2, P0, P1, P2⟩ | exact ⟨s0, s1, s2, S0, S1, S2⟩ | go_keep)
            (first
              | (go_at_call_of 52 m; refine (C1.out k (by omega) _).mono ?_; rintro e w4 ⟨rfl, hb4⟩; have B4 := (Bx.drew B).on hb4; have D4 := (Bx.drew D).on hb4; obtain ⟨-, p0, p1, p2⟩ := id B4; obtain ⟨-, P0, P1, P2⟩ := id D4)
              | (go_at_call_of 52 m'; refine (C2.out k (by omega) _).mono ?_; rintro e w5 ⟨rfl, hb5⟩; have B5 := B4.on hb5; have D5 := D4.on hb5; obtain ⟨-, s0, s1, s2⟩ := id B5; obtain ⟨-, S0, S1, S2⟩ := id D5))
          have HB := Lib.hid (below_end HB hb4 hb5)
          have B := B5
          have D := D5
          clear hb4 hb5 B4 D4 B5 D5 p0 p1 p2 P0 P1 P2 s0 s1 s2 S0 S1 S2 q0 q1 q2 Q0 Q1 Q2
          go_wp2
          simp only [Exit.jump]
          go_ret3
          exact ⟨ret_eq E.out, HB.out⟩
        · have t2 : decide (p ≤ Rd.fr m' d' r' k) = true := by simp; omega
          have E := Lib.hid (mt_no (m := m) (d := d) (r := r) (Or.inr cb))
          clear ca cb
          go_wp2
          go_region_held3 (fun w' => w'.cell? ⟨w.heap.size, 0, none⟩ = some (.int .i64 m) ∧ w'.cell? ⟨w.heap.size, 1, none⟩ = some (.int .i64 d) ∧ w'.cell? ⟨w.heap.size, 2, none⟩ = some (.int .i64 r) ∧ w'.cell? ⟨w.heap.size + 1, 0, none⟩ = some (.int .i64 m') ∧ w'.cell? ⟨w.heap.size + 1, 1, none⟩ = some (.int .i64 d') ∧ w'.cell? ⟨w.heap.size + 1, 2, none⟩ = some (.int .i64 r'))
            (first | exact ⟨q0, q1, q2, Q0, Q1, Q2⟩ | exact ⟨p0, p1, p2, P0, P1, P2⟩ | exact ⟨s0, s1, s2, S0, S1, S2⟩ | go_keep)
            (first
              | (go_at_call_of 52 m; refine (C1.out k (by omega) _).mono ?_; rintro e w4 ⟨rfl, hb4⟩; have B4 := (Bx.drew B).on hb4; have D4 := (Bx.drew D).on hb4; obtain ⟨-, p0, p1, p2⟩ := id B4; obtain ⟨-, P0, P1, P2⟩ := id D4)
              | (go_at_call_of 52 m'; refine (C2.out k (by omega) _).mono ?_; rintro e w5 ⟨rfl, hb5⟩; have B5 := B4.on hb5; have D5 := D4.on hb5; obtain ⟨-, s0, s1, s2⟩ := id B5; obtain ⟨-, S0, S1, S2⟩ := id D5))
          have HB := Lib.hid (below_end HB hb4 hb5)
          have B := B5
          have D := D5
          clear hb4 hb5 B4 D4 B5 D5 p0 p1 p2 P0 P1 P2 s0 s1 s2 S0 S1 S2 q0 q1 q2 Q0 Q1 Q2
          go_wp2
          simp only [Exit.jump]
          go_ret3
          exact ⟨ret_eq E.out, HB.out⟩
      · have t1 : decide (p ≤ Rd.fr m d r k) = true := by simp; omega
        have E := Lib.hid (mt_no (m' := m') (d' := d') (r' := r') (Or.inl ca))
        clear ca
        go_wp2
        go_region_held3 (fun w' => w'.cell? ⟨w.heap.size, 0, none⟩ = some (.int .i64 m) ∧ w'.cell? ⟨w.heap.size, 1, none⟩ = some (.int .i64 d) ∧ w'.cell? ⟨w.heap.size, 2, none⟩ = some (.int .i64 r) ∧ w'.cell? ⟨w.heap.size + 1, 0, none⟩ = some (.int .i64 m') ∧ w'.cell? ⟨w.heap.size + 1, 1, none⟩ = some (.int .i64 d') ∧ w'.cell? ⟨w.heap.size + 1, 2, none⟩ = some (.int .i64 r'))
          (first | exact ⟨q0, q1, q2, Q0, Q1, Q2⟩ | exact ⟨p0, p1, p2, P0, P1, P2⟩ | exact ⟨s0, s1, s2, S0, S1, S2⟩ | go_keep)
          (first
            | (go_at_call_of 52 m; refine (C1.out k (by omega) _).mono ?_; rintro e w4 ⟨rfl, hb4⟩; have B4 := (Bx.drew B).on hb4; have D4 := (Bx.drew D).on hb4; obtain ⟨-, p0, p1, p2⟩ := id B4; obtain ⟨-, P0, P1, P2⟩ := id D4)
            | (go_at_call_of 52 m'; refine (C2.out k (by omega) _).mono ?_; rintro e w5 ⟨rfl, hb5⟩; have B5 := B4.on hb5; have D5 := D4.on hb5; obtain ⟨-, s0, s1, s2⟩ := id B5; obtain ⟨-, S0, S1, S2⟩ := id D5))
        have HB := Lib.hid (below_end HB hb4 hb5)
        have B := B5
        have D := D5
        clear hb4 hb5 B4 D4 B5 D5 p0 p1 p2 P0 P1 P2 s0 s1 s2 S0 S1 S2 q0 q1 q2 Q0 Q1 Q2
        go_wp2
        simp only [Exit.jump]
        go_ret3
        exact ⟨ret_eq E.out, HB.out⟩
  · intro again
    go_wp2_with (first | (go_at_call_of 50 m; refine (isReaderOf_any _ _ _ _ _ HV.out _).mono ?_; rintro e w1 ⟨rfl, hb⟩; replace HB := HB.trans (below_le hb HB.size); replace B := B.on hb; replace D := D.on hb; clear hb; (try clear q0 q1 q2 Q0 Q1 Q2); obtain ⟨_, q0, q1, q2⟩ := id B; obtain ⟨_, Q0, Q1, Q2⟩ := id D) | (go_at_call_of 50 m'; refine (isReaderOf_any _ _ _ _ _ HV'.out _).mono ?_; rintro e w1 ⟨rfl, hb⟩; replace HB := HB.trans (below_le hb HB.size); replace B := B.on hb; replace D := D.on hb; clear hb; (try clear q0 q1 q2 Q0 Q1 Q2); obtain ⟨_, q0, q1, q2⟩ := id B; obtain ⟨_, Q0, Q1, Q2⟩ := id D) | go_in)
    have HQ := Lib.hid HB
    clear HB q0 q1 q2 Q0 Q1 Q2
    go_step3
    rename_i K0 kont
    refine kont _ _ (again _ _ ⟨0, _, _, _, _, _, _, _, _, _, _, _, _, _, _, _, _, _, _, _, _, _, _, _, _, _, _, _, _, _, _, _, _, _, _, _, by omega, HQ.out, B, D, rfl⟩)

end Rw
end Go.Proofs.Ytcaklokcajidiaa
