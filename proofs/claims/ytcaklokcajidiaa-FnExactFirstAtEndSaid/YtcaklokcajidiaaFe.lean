/- The reader who is at the end first, from both sides. -/
import Derived.Test.YtcaklokcajidiaaRx3
namespace Go.Proofs.Ytcaklokcajidiaa
open Go.RowKit Go.Joins
set_option linter.unusedVariables false
set_option linter.unusedSimpArgs false
namespace Rx
/-- behind how many days the reader k is at the end -/
def dk (p : Int) (zs : List Int) (k : Nat) : Nat := Rd.dy (zs.getD (k * 3) 0) (zs.getD (k * 3 + 1) 0) (zs.getD (k * 3 + 2) 0) p
/-- the first of the first k readers, and the days -/
def st (p : Int) (zs : List Int) : Nat → Nat × Nat
  | 0 => (0, dk p zs 0)
  | k + 1 => if dk p zs k < (st p zs k).2 then (k, dk p zs k) else st p zs k
theorem st_one (p : Int) (zs : List Int) : st p zs 1 = (0, dk p zs 0) := by
  unfold st
  rw [if_neg (by unfold st; omega)]
  rfl
theorem st_yes {p : Int} {zs : List Int} {k : Nat} (h : dk p zs k < (st p zs k).2) : st p zs (k + 1) = (k, dk p zs k) := by rw [st, if_pos h]
theorem st_no {p : Int} {zs : List Int} {k : Nat} (h : ¬ dk p zs k < (st p zs k).2) : st p zs (k + 1) = st p zs k := by rw [st, if_neg h]
set_option maxRecDepth 100000 in
theorem dk_le (p : Int) (zs : List Int) (k : Nat) : dk p zs k ≤ 4000 := by unfold dk; exact Rd.dy_le _ _ _ _
set_option maxRecDepth 100000 in
theorem st_in (p : Int) (zs : List Int) (k : Nat) : (st p zs k).1 ≤ k ∧ (st p zs k).2 ≤ 4000 := by
  induction k with
  | zero => unfold st; exact ⟨Nat.le_refl _, dk_le _ _ _⟩
  | succ k ih =>
    unfold st
    split
    · exact ⟨Nat.le_succ _, dk_le _ _ _⟩
    · omega
theorem good_ib {p : Int} {zs : List Int} {k : Nat} (h : ib p zs k = true) : Rd.good (zs.getD (k * 3) 0) (zs.getD (k * 3 + 1) 0) (zs.getD (k * 3 + 2) 0) = true ∧ p ≤ 2000 :=
  ⟨Rw.good_of h, (Rw.facts h).2.2.2.2.2.2.1⟩
/-- what it answers -/
def fe (p : Int) (zs : List Int) (len : Nat) : Value := .tuple #[.int .i64 ((st p zs len).1 : Int), .int .i64 ((st p zs len).2 : Int), .bool true]
set_option maxRecDepth 100000 in
set_option maxHeartbeats 1000000 in
theorem sFE_yes {p : Int} {b1 g len cap : Nat} {zs : List Int} {w : World} (h : w.ownsRow b1 25 3 (.slice (some ⟨g, 0, none⟩) len cap) len (nums zs)) (ha : allOf p zs len) :
    Calls Try.prog 39 #[.int .i64 p, .slice (some ⟨g, 0, none⟩) len cap] w (Rw.Ret (fe p zs len) w) := by
  have HC := Lib.hid h
  have HA := Lib.hid ha
  have hlen1 := ha.1
  have hlen6 := ha.2.1
  clear h ha
  go_enter Try.func39, Try.ntmps39
  go_wp2_with fail
  refine (rdAll_yes HC.out HA.out).mono ?_
  rintro e w1 ⟨rfl, hb0⟩
  have HB0 := Lib.hid hb0
  clear hb0
  go_wp2
  go_loopw [7, 8, 18] (fun a l i wr => ∃ (k : Nat) (L : Int), k ≤ len ∧ i = .int .i64 (k : Int) ∧ a = .int .i64 ((st p zs k).1 : Int) ∧ l = .int .i64 L ∧ Hid ((k = 0 ∧ L = -1) ∨ (0 < k ∧ L = ((st p zs k).2 : Int))) ∧ Below w.heap.size w wr) (fun _ _ i _ => ((len : Int) - intOf i).toNat)
  case atStart => exact ⟨0, -1, by omega, rfl, rfl, rfl, (Or.inl ⟨rfl, rfl⟩ : (0 = 0 ∧ (-1 : Int) = -1) ∨ (0 < 0 ∧ (-1 : Int) = ((st p zs 0).2 : Int))), HB0.out⟩
  case round =>
    clear HB0
    obtain ⟨k, L, hk, rfl, rfl, rfl, HL, hb⟩ := hrel
    by_cases hlt : (k : Int) < len
    · obtain ⟨q0, q1, q2⟩ := cells3 (own_on HC.out hb) (k := k) (by omega)
      obtain ⟨hg, hp⟩ := good_ib (HA.out.2.2 k (by omega))
      have ED : Rd.dy (zs.getD (k * 3) 0) (zs.getD (k * 3 + 1) 0) (zs.getD (k * 3 + 2) 0) p = dk p zs k := rfl
      have C := fun W => Rw.rdEnd_any p _ _ _ hg hp W
      rw [ED] at C
      generalize zs.getD (k * 3) 0 = m at *
      generalize zs.getD (k * 3 + 1) 0 = d at *
      generalize zs.getD (k * 3 + 2) 0 = r at *
      have HCc := Lib.hid C
      have hs := hb.size
      have hst := st_in p zs k
      clear hg ED C
      by_cases hc : k = 0 ∨ dk p zs k < (st p zs k).2
      · have ES := Lib.hid (show st p zs (k + 1) = (k, dk p zs k) by
          rcases hc with rfl | hc
          · exact st_one p zs
          · exact st_yes hc)
        have t1 : (decide (L < 0) = true ∧ True) ∨ (decide (L < 0) = false ∧ decide ((dk p zs k : Int) < L) = true) := by
          rcases HL.out with ⟨h1, h2⟩ | ⟨h1, h2⟩
          · left; simp [h2]
          · right
            have h3 : dk p zs k < (st p zs k).2 := by rcases hc with h4 | h4; omega; exact h4
            simp [h2]
            omega
        clear hc hst HL
        generalize dk p zs k = D at *
        generalize (st p zs k).1 = A at *
        rcases t1 with ⟨t1, -⟩ | ⟨t1, t2⟩
        all_goals
          go_wp2_with fail
          refine (HCc.out _).mono ?_
          rintro e w4 ⟨rfl, hb4⟩
          have HB := Lib.hid (hb.trans (below_le (Rw.bx_below hb4) hs))
          clear hb hb4 q0 q1 q2
          go_wp2
          go_roundw
          case rel => exact ⟨k + 1, (D : Int), by omega, by go_num, by rw [ES.out], rfl, (Or.inr ⟨by omega, by rw [ES.out]⟩ : (k + 1 = 0 ∧ (D : Int) = -1) ∨ (0 < k + 1 ∧ (D : Int) = ((st p zs (k + 1)).2 : Int))), HB.out⟩
          case measure => simp [intOf]; omega
      · have ES := Lib.hid (show st p zs (k + 1) = st p zs k from st_no (by omega))
        have hL : L = ((st p zs k).2 : Int) := by rcases HL.out with ⟨h1, h2⟩ | ⟨h1, h2⟩; omega; exact h2
        have EL := Lib.hid hL
        have t1 : decide (L < 0) = false := by simp; omega
        have t2 : decide ((dk p zs k : Int) < L) = false := by simp; omega
        clear hc hst HL hL
        generalize dk p zs k = D at *
        go_wp2_with fail
        refine (HCc.out _).mono ?_
        rintro e w4 ⟨rfl, hb4⟩
        have HB := Lib.hid (hb.trans (below_le (Rw.bx_below hb4) hs))
        clear hb hb4 q0 q1 q2
        go_wp2
        go_roundw
        case rel => exact ⟨k + 1, L, by omega, by go_num, by rw [ES.out], rfl, (Or.inr ⟨by omega, by rw [ES.out]; exact EL.out⟩ : (k + 1 = 0 ∧ L = -1) ∨ (0 < k + 1 ∧ L = ((st p zs (k + 1)).2 : Int))), HB.out⟩
        case measure => simp [intOf]; omega
    · have E := Lib.hid (show k = len by omega)
      have EL := Lib.hid (show L = ((st p zs k).2 : Int) by rcases HL.out with ⟨h1, h2⟩ | ⟨h1, h2⟩; omega; exact h2)
      clear HL
      go_wp2
      go_ret3
      exact ⟨by rw [fe, ← E.out, ← EL.out]; rfl, hb⟩
set_option maxRecDepth 100000 in
set_option maxHeartbeats 1000000 in
theorem iFE_yes {p : Int} {b1 g len cap : Nat} {zs : List Int} {w : World} (h : w.ownsRow b1 25 3 (.slice (some ⟨g, 0, none⟩) len cap) len (nums zs)) (ha : allOf p zs len) :
    Calls Try.prog 41 #[.int .i64 p, .slice (some ⟨g, 0, none⟩) len cap] w (Rw.Ret (fe p zs len) w) := by
  have HC := Lib.hid h
  have HA := Lib.hid ha
  have hlen1 := ha.1
  have hlen6 := ha.2.1
  have hlen0 : (0 : Int) < (len : Int) := by omega
  clear h ha
  go_enter Try.func41, Try.ntmps41
  go_wp2_with fail
  refine (areReaders_yes HC.out HA.out).mono ?_
  rintro e w1 ⟨rfl, hb0⟩
  have hq := cells3 (own_on HC.out hb0) (k := 0) (by omega)
  obtain ⟨hg, hp⟩ := good_ib (HA.out.2.2 0 (by omega))
  have ED : Rd.dy (zs.getD (0 * 3) 0) (zs.getD (0 * 3 + 1) 0) (zs.getD (0 * 3 + 2) 0) p = dk p zs 0 := rfl
  have C := fun W => Rw.daysUpTo_any p _ _ _ hg hp W
  rw [ED] at C
  generalize zs.getD (0 * 3) 0 = m at *
  generalize zs.getD (0 * 3 + 1) 0 = d at *
  generalize zs.getD (0 * 3 + 2) 0 = r at *
  have q0 : w1.cell? ⟨g, 0, none⟩ = some (.int .i64 m) := hq.1
  have q1 : w1.cell? ⟨g, 1, none⟩ = some (.int .i64 d) := hq.2.1
  have q2 : w1.cell? ⟨g, 2, none⟩ = some (.int .i64 r) := hq.2.2
  have HC0 := Lib.hid C
  have HB1 := Lib.hid hb0
  clear hq hg ED C hb0
  go_wp2_with fail
  refine (HC0.out _).mono ?_
  rintro e w2 ⟨rfl, hb2⟩
  have HB0 := Lib.hid (HB1.out.trans (below_le hb2 HB1.out.size))
  clear HB1 hb2 q0 q1 q2 HC0
  go_wp2
  go_loopw [7, 8, 23] (fun a l i wr => ∃ (k : Nat), k ≤ len ∧ i = .int .i64 (k : Int) ∧ a = .int .i64 ((st p zs k).1 : Int) ∧ l = .int .i64 ((st p zs k).2 : Int) ∧ Below w.heap.size w wr) (fun _ _ i _ => ((len : Int) - intOf i).toNat)
  case atStart => exact ⟨0, by omega, rfl, rfl, rfl, HB0.out⟩
  case round =>
    clear HB0
    obtain ⟨k, hk, rfl, rfl, rfl, hb⟩ := hrel
    by_cases hlt : (k : Int) < len
    · obtain ⟨q0, q1, q2⟩ := cells3 (own_on HC.out hb) (k := k) (by omega)
      obtain ⟨hg, hp⟩ := good_ib (HA.out.2.2 k (by omega))
      have ED : Rd.dy (zs.getD (k * 3) 0) (zs.getD (k * 3 + 1) 0) (zs.getD (k * 3 + 2) 0) p = dk p zs k := rfl
      have C := fun W => Rw.daysUpTo_any p _ _ _ hg hp W
      rw [ED] at C
      generalize zs.getD (k * 3) 0 = m at *
      generalize zs.getD (k * 3 + 1) 0 = d at *
      generalize zs.getD (k * 3 + 2) 0 = r at *
      have HCc := Lib.hid C
      have hs := hb.size
      clear hg ED C
      by_cases hc : dk p zs k < (st p zs k).2
      · have ES := Lib.hid (st_yes hc)
        have t1 : decide ((dk p zs k : Int) < ((st p zs k).2 : Int)) = true := by simp; omega
        have t2 : (dk p zs k < (st p zs k).2) = True := eq_true hc
        clear hc
        generalize dk p zs k = D at *
        generalize (st p zs k).1 = A at *
        generalize (st p zs k).2 = B at *
        go_wp2_with fail
        refine (HCc.out _).mono ?_
        rintro e w4 ⟨rfl, hb4⟩
        have HB := Lib.hid (hb.trans (below_le (Rw.bx_below hb4) hs))
        clear hb hb4 q0 q1 q2
        go_wp2
        go_roundw
        case rel => exact ⟨k + 1, by omega, by go_num, by rw [ES.out], by rw [ES.out], HB.out⟩
        case measure => simp [intOf]; omega
      · have ES := Lib.hid (st_no hc)
        have t1 : decide ((dk p zs k : Int) < ((st p zs k).2 : Int)) = false := by simp; omega
        have t2 : (dk p zs k < (st p zs k).2) = False := eq_false hc
        have EA := Lib.hid (rfl : (st p zs k).1 = (st p zs k).1)
        clear hc
        generalize dk p zs k = D at *
        obtain ⟨A, hA⟩ : ∃ A, (st p zs k).1 = A := ⟨_, rfl⟩
        obtain ⟨B, hB⟩ : ∃ B, (st p zs k).2 = B := ⟨_, rfl⟩
        rw [hB] at t1 t2
        rw [hA, hB]
        have HAA := Lib.hid hA
        have HBB := Lib.hid hB
        clear hA hB EA
        go_wp2_with fail
        refine (HCc.out _).mono ?_
        rintro e w4 ⟨rfl, hb4⟩
        have HB := Lib.hid (hb.trans (below_le (Rw.bx_below hb4) hs))
        clear hb hb4 q0 q1 q2
        go_wp2
        go_roundw
        case rel => exact ⟨k + 1, by omega, by go_num, by rw [ES.out, HAA.out], by rw [ES.out, HBB.out], HB.out⟩
        case measure => simp [intOf]; omega
    · have E := Lib.hid (show k = len by omega)
      go_wp2
      go_ret3
      exact ⟨by rw [fe, ← E.out]; rfl, hb⟩
set_option maxRecDepth 100000 in
theorem sFE_no {p : Int} {b1 g len cap : Nat} {zs : List Int} {w : World} (h : w.ownsRow b1 25 3 (.slice (some ⟨g, 0, none⟩) len cap) len (nums zs)) (ha : ¬ allOf p zs len) :
    Calls Try.prog 39 #[.int .i64 p, .slice (some ⟨g, 0, none⟩) len cap] w (Rw.Ret (.tuple #[.int .i64 0, .int .i64 0, .bool false]) w) := by
  have C := Lib.hid (rdAll_no h ha)
  clear h ha
  go_enter Try.func39, Try.ntmps39
  go_wp2_with fail
  refine C.out.mono ?_
  rintro e w1 ⟨rfl, hb0⟩
  go_wp2
  go_ret3
  exact ⟨rfl, hb0⟩
set_option maxRecDepth 100000 in
theorem iFE_no {p : Int} {b1 g len cap : Nat} {zs : List Int} {w : World} (h : w.ownsRow b1 25 3 (.slice (some ⟨g, 0, none⟩) len cap) len (nums zs)) (ha : ¬ allOf p zs len) :
    Calls Try.prog 41 #[.int .i64 p, .slice (some ⟨g, 0, none⟩) len cap] w (Rw.Ret (.tuple #[.int .i64 0, .int .i64 0, .bool false]) w) := by
  have C := Lib.hid (areReaders_no h ha)
  clear h ha
  go_enter Try.func41, Try.ntmps41
  go_wp2_with fail
  refine C.out.mono ?_
  rintro e w1 ⟨rfl, hb0⟩
  go_wp2
  go_ret3
  exact ⟨rfl, hb0⟩
end Rx
end Go.Proofs.Ytcaklokcajidiaa
