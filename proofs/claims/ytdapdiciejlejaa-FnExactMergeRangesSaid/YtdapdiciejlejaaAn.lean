/- Ranges merged, from both sides; how an answer out of a set is the answer to its runs. -/
import Derived.Test.YtdapdiciejlejaaTr
namespace Go.Proofs.Ytdapdiciejlejaa
open Go.RowKit Go.Joins Go.Deep Go.ChangeShapes Go.WideShapes
set_option linter.unusedVariables false
set_option linter.unusedSimpArgs false
namespace Gw
open Rg Gm
/-- the answer, where the arguments are right -/
def aOk (c : Bool) (rs : PR) : Bool := if c = true then okR rs else false
def aN (c : Bool) (rs : PR) : Nat := if c = true then lenR rs else 0
def aL (c : Bool) (rs : PR) : List Int := if c = true then listR rs else []
theorem aN_le (c : Bool) (rs : PR) : aN c rs ≤ 1048576 := by unfold aN; split; exact lenR_le rs; omega
def Ans (c : Bool) (rs : PR) (W : World) (e : Ending) (w' : World) : Prop := Rg.Gives (aOk c rs) (aN c rs) (aL c rs) W e w'
theorem Ans.yes {c : Bool} {rs : PR} {W w' : World} {e : Ending} (hc : c = true) (h : GivesP rs W e w') : Ans c rs W e w' := by
  unfold Ans aOk aN aL
  rw [if_pos hc, if_pos hc, if_pos hc]
  exact h
theorem Ans.no {c : Bool} {rs : PR} {W w' : World} (hc : c = false) (hb : Below W.heap.size W w') : Ans c rs W (.returned (.tuple #[.slice none 0 0, .bool false])) w' := by
  unfold Ans aOk aN aL
  rw [if_neg (by rw [hc]; simp), if_neg (by rw [hc]; simp), if_neg (by rw [hc]; simp)]
  exact Rg.Gives.none hb
theorem set_runs {m : Nat → Bool} {S : Int → Bool} {N : Nat} (h : ∀ k : Nat, k < N → S (k : Int) = m k) (hS : ∀ p, S p = true → 1 ≤ p ∧ p ≤ 2000) (hN : 2000 < N) :
    Ch 1 (runs m N) ∧ (∀ q ∈ runs m N, q.2 ≤ 2000) ∧ ∀ p, S p = has (runs m N) p := by
  have h0 : m 0 = false := by
    rw [← h 0 (by omega)]
    cases e : S ((0 : Nat) : Int) with
    | false => rfl
    | true => have := hS _ e; simp at this
  obtain ⟨a, b, c⟩ := same_runs h0 h (fun p hp => by have := hS p hp; omega)
  refine ⟨a, fun q hq => ?_, c⟩
  obtain ⟨k, hk, rfl⟩ := List.getElem_of_mem hq
  have hb := ch_at _ _ a k hk
  have e2 : (runs m N).getD k (0, 0) = (runs m N)[k] := by simp [List.getD, hk]
  rw [e2] at hb
  have : has (runs m N) ((runs m N)[k]).2 = true := (has_mem _ _).2 ⟨_, hq, hb.1, Int.le_refl _⟩
  rw [← c] at this
  exact (hS _ this).2
theorem takeR_on {rs : PR} {b : Nat} {W W1 w' : World} {e : Ending} (hb : Below W.heap.size W W1) (hB : W.heap.size ≤ b) (h : TakeR rs b W1 e w') : GivesP rs W e w' := by
  obtain ⟨v, rfl, ho, hg⟩ := h
  exact ⟨v, rfl, Li.own_le ho hb.size, hb.grown hg hb.size (fun k hk => by cases hk; exact hB)⟩
theorem givesP_on {rs : PR} {W W1 w' : World} {v : Value} (hb : Below W.heap.size W W1) (ho : Own w' W1.heap.size v (lenR rs) (listR rs)) (hb2 : Below W1.heap.size W1 w') : GivesP rs W (.returned (.tuple #[v, .bool (okR rs)])) w' :=
  gives_on hb ⟨v, rfl, ho, hb2⟩
theorem ret_parts {w1 w' : World} {rs : PR} {W : World} {e : Ending} (h : GivesP rs W e w') : ∃ v, e = .returned (.tuple #[v, .bool (okR rs)]) ∧ Own w' W.heap.size v (lenR rs) (listR rs) ∧ Below W.heap.size W w' := h
/-- every pair of a list is a range, and there are at most a hundred -/
def mgC (zs : List Int) (n : Nat) : Bool := decide (n ≤ 100) && (List.range n).all (fun k => rng (zs.getD (k * 2) 0) (zs.getD (k * 2 + 1) 0))
theorem mgC_iff (zs : List Int) (n : Nat) : mgC zs n = true ↔ n ≤ 100 ∧ ∀ k, k < n → rng (zs.getD (k * 2) 0) (zs.getD (k * 2 + 1) 0) = true := by
  unfold mgC
  simp [List.all_eq_true]
theorem mgC_not {zs : List Int} {n k : Nat} (hk : k < n) (h : rng (zs.getD (k * 2) 0) (zs.getD (k * 2 + 1) 0) = false) : mgC zs n = false := by
  cases hg : mgC zs n with
  | false => rfl
  | true => have := ((mgC_iff zs n).1 hg).2 k hk; rw [h] at this; cases this
/-- the pages of a list as runs -/
def mgR (zs : List Int) : PR := runs (fun q : Nat => has (prs zs) (q : Int)) 2002
theorem rng_in {zs : List Int} {n : Nat} (hz : zs.length = 2 * n) (h : ∀ k, k < n → rng (zs.getD (k * 2) 0) (zs.getD (k * 2 + 1) 0) = true) : ∀ q ∈ prs zs, 1 ≤ q.1 ∧ q.1 ≤ q.2 ∧ q.2 ≤ 2000 := by
  intro q hq
  obtain ⟨h1, h2⟩ := prs_len n zs hz
  obtain ⟨k, hk, rfl⟩ := List.getElem_of_mem hq
  have hg := getD_flat (prs zs) k hk
  rw [h2] at hg
  have hr := (rng_iff _ _).1 (h k (by omega))
  have e2 : (prs zs).getD k (0, 0) = (prs zs)[k] := by simp [List.getD, hk]
  rw [hg.1, hg.2, e2] at hr
  exact hr
theorem mgR_ok {zs : List Int} {n : Nat} (hz : zs.length = 2 * n) (h : ∀ k, k < n → rng (zs.getD (k * 2) 0) (zs.getD (k * 2 + 1) 0) = true) : Ch 1 (mgR zs) ∧ (∀ q ∈ mgR zs, q.2 ≤ 2000) ∧ ∀ p, has (prs zs) p = has (mgR zs) p :=
  set_runs (fun k _ => rfl) (fun p hp => has_within (fun q hq => ⟨(rng_in hz h q hq).1, (rng_in hz h q hq).2.2⟩) hp) (by omega)
set_option maxRecDepth 100000 in
set_option maxHeartbeats 1000000 in
theorem sMerge {b1 g len cap : Nat} {zs : List Int} {w : World} (h : Own w b1 (.slice (some ⟨g, 0, none⟩) len cap) len zs) (hl : len ≤ 1048576) :
    Calls Try.prog 12 #[.slice (some ⟨g, 0, none⟩) len cap] w (Ans (mgC zs len) (mgR zs) w) := by
  have HO := Lib.hid h
  have HZ := Lib.hid (own_size h)
  clear h
  by_cases h100 : len ≤ 100
  · have hl2 : (len : Int) ≤ 100 := by omega
    go_enter Try.func12, Try.ntmps12
    go_wp2
    go_loopw [11] (fun i wr => ∃ k : Nat, k ≤ len ∧ i = .int .i64 (k : Int) ∧ Below w.heap.size w wr ∧ ∀ j, j < k → rng (zs.getD (j * 2) 0) (zs.getD (j * 2 + 1) 0) = true) (fun i _ => ((len : Int) - intOf i).toNat)
    case atStart => exact ⟨0, by omega, rfl, Below.refl _ _, fun j hj => by omega⟩
    case round =>
      obtain ⟨k, hk, rfl, hb, ha⟩ := hrel
      have HA := Lib.hid ha
      have HB := Lib.hid hb
      clear ha hb
      by_cases hlt : (k : Int) < len
      · obtain ⟨q0, q1⟩ := cells2 (Li.own_on HO.out HB.out) (k := k) (by omega)
        obtain ⟨x, hx⟩ : ∃ x, rng (zs.getD (k * 2) 0) (zs.getD (k * 2 + 1) 0) = x := ⟨_, rfl⟩
        have HX := Lib.hid hx
        have HXZ := Lib.hid hx
        clear hx
        generalize zs.getD (k * 2) 0 = f at q0 HX
        generalize zs.getD (k * 2 + 1) 0 = t at q1 HX
        have CX := Lib.hid (fun W => ixRange_any f t x HX.out W)
        cases x
        · have EC := Lib.hid (mgC_not (show k < len by omega) HXZ.out)
          go_wp2_with fail
          refine (CX.out _).mono ?_
          rintro e w4 ⟨rfl, hb4⟩
          have HB4 := Lib.hid (below_r HB.out hb4)
          clear hb4 q0 q1
          go_wp2
          go_ret2
          exact Ans.no EC.out HB4.out
        · go_wp2_with fail
          refine (CX.out _).mono ?_
          rintro e w4 ⟨rfl, hb4⟩
          have HB4 := Lib.hid (below_r HB.out hb4)
          clear hb4 q0 q1
          go_wp2
          go_roundw
          case rel => exact ⟨k + 1, by omega, by go_num, HB4.out, fun j hj => by
            by_cases e : j = k
            · rw [e]; exact HXZ.out
            · exact HA.out j (by omega)⟩
          case measure => simp [intOf]; omega
      · have hall : ∀ k, k < len → rng (zs.getD (k * 2) 0) (zs.getD (k * 2 + 1) 0) = true := fun j hj => HA.out j (by omega)
        have HC := Lib.hid ((mgC_iff zs len).2 ⟨h100, hall⟩)
        have C1 := Lib.hid (ixMarks_some (Li.own_on HO.out HB.out) h100 hall)
        clear hall
        go_wp2_with fail
        refine C1.out.mono ?_
        rintro e w2 ⟨g2, rfl, hM, hb2⟩
        have HB2 := Lib.hid (below_t HB.out hb2)
        have C2 := Lib.hid (ixOf_some hM (by omega))
        clear hM hb2
        go_wp2_with fail
        refine C2.out.mono ?_
        rintro e w3 ⟨v, rfl, ho, hb3⟩
        have HH := Lib.hid (givesP_on HB2.out ho hb3)
        clear ho hb3
        go_wp2
        go_ret2
        exact Ans.yes HC.out HH.out
  · have EC := Lib.hid (show mgC zs len = false by unfold mgC; rw [decide_eq_false h100]; rfl)
    go_enter Try.func12, Try.ntmps12
    go_wp2
    go_ret2
    exact Ans.no EC.out (Below.refl _ _)
set_option maxRecDepth 100000 in
set_option maxHeartbeats 1000000 in
theorem iMerge {b1 g len cap : Nat} {zs : List Int} {w : World} (h : Own w b1 (.slice (some ⟨g, 0, none⟩) len cap) len zs) (hl : len ≤ 1048576) :
    Calls Try.prog 14 #[.slice (some ⟨g, 0, none⟩) len cap] w (Ans (mgC zs len) (mgR zs) w) := by
  have HO := Lib.hid h
  have HZ := Lib.hid (own_size h)
  clear h
  by_cases h100 : len ≤ 100
  · have hl2 : (len : Int) ≤ 100 := by omega
    go_enter Try.func14, Try.ntmps14
    go_wp2
    go_loopw [11] (fun i wr => ∃ k : Nat, k ≤ len ∧ i = .int .i64 (k : Int) ∧ Below w.heap.size w wr ∧ ∀ j, j < k → rng (zs.getD (j * 2) 0) (zs.getD (j * 2 + 1) 0) = true) (fun i _ => ((len : Int) - intOf i).toNat)
    case atStart => exact ⟨0, by omega, rfl, Below.refl _ _, fun j hj => by omega⟩
    case round =>
      obtain ⟨k, hk, rfl, hb, ha⟩ := hrel
      have HA := Lib.hid ha
      have HB := Lib.hid hb
      clear ha hb
      by_cases hlt : (k : Int) < len
      · obtain ⟨q0, q1⟩ := cells2 (Li.own_on HO.out HB.out) (k := k) (by omega)
        obtain ⟨x, hx⟩ : ∃ x, rng (zs.getD (k * 2) 0) (zs.getD (k * 2 + 1) 0) = x := ⟨_, rfl⟩
        have HX := Lib.hid hx
        have HXZ := Lib.hid hx
        clear hx
        generalize zs.getD (k * 2) 0 = f at q0 HX
        generalize zs.getD (k * 2 + 1) 0 = t at q1 HX
        have CX := Lib.hid (fun W => isRange_any f t x HX.out W)
        cases x
        · have EC := Lib.hid (mgC_not (show k < len by omega) HXZ.out)
          go_wp2_with fail
          refine (CX.out _).mono ?_
          rintro e w4 ⟨rfl, hb4⟩
          have HB4 := Lib.hid (below_r HB.out hb4)
          clear hb4 q0 q1
          go_wp2
          go_ret2
          exact Ans.no EC.out HB4.out
        · go_wp2_with fail
          refine (CX.out _).mono ?_
          rintro e w4 ⟨rfl, hb4⟩
          have HB4 := Lib.hid (below_r HB.out hb4)
          clear hb4 q0 q1
          go_wp2
          go_roundw
          case rel => exact ⟨k + 1, by omega, by go_num, HB4.out, fun j hj => by
            by_cases e : j = k
            · rw [e]; exact HXZ.out
            · exact HA.out j (by omega)⟩
          case measure => simp [intOf]; omega
      · have hall : ∀ k, k < len → rng (zs.getD (k * 2) 0) (zs.getD (k * 2 + 1) 0) = true := fun j hj => HA.out j (by omega)
        have HC := Lib.hid ((mgC_iff zs len).2 ⟨h100, hall⟩)
        have C1 := Lib.hid (pagesIn_some (Li.own_on HO.out HB.out) h100 hall)
        have MO := Lib.hid (mgR_ok HZ.out hall)
        clear hall
        go_wp2_with fail
        refine C1.out.mono ?_
        rintro e w2 ⟨b, rfl, hbb, hset, hb2⟩
        have HB2 := Lib.hid (below_t HB.out hb2)
        have HBB := Lib.hid (Nat.le_trans HB.out.size hbb)
        have C2 := Lib.hid (takeRanges_some (hset.same MO.out.2.2) MO.out.1 MO.out.2.1)
        clear hset hb2 hbb
        go_wp2_with fail
        refine C2.out.mono ?_
        rintro e w3 ⟨v, rfl, ho, hg⟩
        have HH := Lib.hid (takeR_on HB2.out HBB.out ⟨v, rfl, ho, hg⟩)
        clear ho hg
        go_wp2
        go_ret2
        exact Ans.yes HC.out HH.out
  · have EC := Lib.hid (show mgC zs len = false by unfold mgC; rw [decide_eq_false h100]; rfl)
    go_enter Try.func14, Try.ntmps14
    go_wp2
    go_ret2
    exact Ans.no EC.out (Below.refl _ _)
end Gw
end Go.Proofs.Ytdapdiciejlejaa
