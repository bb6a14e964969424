/- Ranges of pages, from both sides. -/
import Derived.Test.YtdapdiciejlejaaPs
import Derived.Test.YtdapdiciejlejaaIl
namespace Go.Proofs.Ytdapdiciejlejaa
open Go.RowKit Go.Joins Go.Deep Go.ChangeShapes Go.WideShapes
set_option linter.unusedVariables false
set_option linter.unusedSimpArgs false
namespace Gw
open Rg Gm
/-- page k is one, and behind the one ahead of it -/
def rik (zs : List Int) (k : Nat) : Bool := (decide (1 ≤ zs.getD k 0) && decide (zs.getD k 0 ≤ 2000)) && (decide (k = 0) || decide (zs.getD (k - 1) 0 < zs.getD k 0))
def roC (zs : List Int) (n : Nat) : Bool := (List.range n).all (rik zs)
theorem roC_iff (zs : List Int) (n : Nat) : roC zs n = true ↔ ∀ k, k < n → rik zs k = true := by unfold roC; simp [List.all_eq_true]
theorem rik_iff (zs : List Int) (k : Nat) : rik zs k = true ↔ (1 ≤ zs.getD k 0 ∧ zs.getD k 0 ≤ 2000) ∧ (0 < k → zs.getD (k - 1) 0 < zs.getD k 0) := by
  unfold rik
  simp only [Bool.and_eq_true, Bool.or_eq_true, decide_eq_true_eq]
  constructor
  · rintro ⟨h1, h2⟩; exact ⟨h1, fun h => by omega⟩
  · rintro ⟨h1, h2⟩
    refine ⟨h1, ?_⟩
    by_cases h : k = 0
    · exact .inl h
    · exact .inr (h2 (by omega))
theorem roC_not {zs : List Int} {n k : Nat} (hk : k < n) (h : rik zs k = false) : roC zs n = false := by
  cases hg : roC zs n with
  | false => rfl
  | true => have := (roC_iff zs n).1 hg k hk; rw [h] at this; cases this
theorem rise_ge {zs : List Int} {n : Nat} (h : ∀ k, k < n → rik zs k = true) (k : Nat) (hk : k < n) : (k : Int) + 1 ≤ zs.getD k 0 := by
  induction k with
  | zero => have := ((rik_iff zs 0).1 (h 0 hk)).1; omega
  | succ k ih =>
    have := ih (by omega)
    have h2 := ((rik_iff zs (k + 1)).1 (h (k + 1) hk)).2 (by omega)
    rw [show k + 1 - 1 = k by omega] at h2
    omega
theorem roC_len {zs : List Int} {n : Nat} (h : roC zs n = true) : n ≤ 2000 := by
  rcases Nat.lt_or_ge 2000 n with hlt | hge
  · have hh := (roC_iff zs n).1 h
    have h1 := rise_ge hh 2000 hlt
    have h2 := ((rik_iff zs 2000).1 (hh 2000 hlt)).1
    omega
  · exact hge
/-- a page is on a list -/
def inn (l : List Int) (p : Int) : Bool := l.any (fun x => decide (p = x))
theorem inn_snoc (l : List Int) (x p : Int) : inn (l ++ [x]) p = (inn l p || decide (p = x)) := by unfold inn; rw [List.any_append]; simp
theorem inn_mem (l : List Int) (p : Int) : inn l p = true ↔ p ∈ l := by unfold inn; simp [List.any_eq_true]
theorem take_one (zs : List Int) (k : Nat) (hk : k < zs.length) : zs.take (k + 1) = zs.take k ++ [zs.getD k 0] := by
  rw [List.take_succ_eq_append_getElem hk]
  simp [List.getD, List.getElem?_eq_getElem hk]
def roR (zs : List Int) : PR := runs (fun q : Nat => inn zs (q : Int)) 2002
abbrev OwnL (W : World) (b1 g len cap : Nat) (zs : List Int) : Prop := W.ownsRow b1 3 1 (.slice (some ⟨g, 0, none⟩) len cap) len (Li.nums zs)
theorem ownL_len {W : World} {b1 g len cap : Nat} {zs : List Int} (h : OwnL W b1 g len cap zs) : zs.length = len := by have := h.1; simpa [Li.nums] using this
theorem ownL_cell {W : World} {b1 g len cap : Nat} {zs : List Int} (h : OwnL W b1 g len cap zs) {k : Nat} (hk : k < len) : W.cell? ⟨g, k, none⟩ = some (.int .i64 (zs.getD k 0)) := by
  have e := ownL_len h
  rw [World.ownsRow.cellAt h k (by omega)]
  simp [Li.nums, List.getD, List.getElem?_eq_getElem (show k < zs.length by omega)]
set_option maxRecDepth 100000 in
set_option maxHeartbeats 1000000 in
theorem l1Rising_any {b1 g len cap : Nat} {zs : List Int} {w : World} (h : OwnL w b1 g len cap zs) (hl : len ≤ 1048576) (v : Bool) (hv : roC zs len = v) :
    Calls Try.prog 50 #[.slice (some ⟨g, 0, none⟩) len cap, .int .i64 1, .int .i64 2000] w fun e w' => e = .returned (.bool v) ∧ w = w' := by
  have HO := Lib.hid h
  have HV := Lib.hid hv
  clear h hv
  go_enter Try.func50, Try.ntmps50
  go_wp2
  go_loop [11] (fun i => ∃ k : Nat, k ≤ len ∧ i = .int .i64 (k : Int) ∧ ∀ j, j < k → rik zs j = true) (fun i => ((len : Int) - intOf i).toNat)
  case atStart => exact ⟨0, by omega, rfl, fun j hj => by omega⟩
  case round =>
    obtain ⟨k, hk, rfl, ha⟩ := hrel
    have HA := Lib.hid ha
    clear ha
    by_cases hlt : (k : Int) < len
    · have q0 := ownL_cell HO.out (k := k) (by omega)
      have HK := Lib.hid (rik_iff zs k)
      have HNO := Lib.hid (fun (h : rik zs k = false) => (HV.out.symm.trans (roC_not (show k < len by omega) h)))
      have hqp : 0 < k → w.cell? ⟨g, k - 1, none⟩ = some (.int .i64 (zs.getD (k - 1) 0)) := fun hp => ownL_cell HO.out (k := k - 1) (by omega)
      have HQP := Lib.hid hqp
      have HPB := Lib.hid (show 0 < k → 1 ≤ zs.getD (k - 1) 0 ∧ zs.getD (k - 1) 0 ≤ 2000 from fun h0 => ((rik_iff zs (k - 1)).1 (HA.out (k - 1) (by omega))).1)
      obtain ⟨z, hz⟩ : ∃ z, zs.getD k 0 = z := ⟨_, rfl⟩
      obtain ⟨p, hp⟩ : ∃ p, zs.getD (k - 1) 0 = p := ⟨_, rfl⟩
      rw [hz] at q0 HK
      rw [hp] at HK HQP HPB
      clear hz hp hqp
      obtain ⟨x, hx⟩ : ∃ x, (decide (1 ≤ z) && decide (z ≤ 2000)) = x := ⟨_, rfl⟩
      have C := Lib.hid (fun W => l1In_any z 1 2000 x hx W)
      have HX := Lib.hid hx
      clear hx
      cases x
      · have EV := Lib.hid (HNO.out (by
          cases e : rik zs k with
          | false => rfl
          | true => have := (HK.out.1 e).1; have hxx := HX.out; rw [decide_eq_true this.1, decide_eq_true this.2] at hxx; cases hxx))
        go_wp2_with fail
        refine (C.out _).mono ?_
        rintro e w' ⟨rfl, rfl⟩
        go_wp2
        go_ret
        exact ⟨rb EV.out.symm.symm rfl, rfl⟩
      · have hzb : 1 ≤ z ∧ z ≤ 2000 := by have := HX.out; simpa using this
        have HZB := Lib.hid hzb
        clear hzb
        by_cases h0 : 0 < k
        · have qp := HQP.out h0
          obtain ⟨k0, hk0⟩ : ∃ k0, k = k0 + 1 := ⟨k - 1, by omega⟩
          rw [show k - 1 = k0 by omega] at qp
          have t6 : decide ((0 : Int) < (k : Int)) = true := by rw [decide_eq_true_eq]; omega
          have e5 : IntKind.i64.wrap ((k : Int) - 1) = (k0 : Int) := by rw [show (k : Int) - 1 = (k0 : Int) by omega]; exact IntWalk.i64_in _ (by omega)
          have e6 : wrap64 ((k : Int) - 1) = (k0 : Int) := by rw [show (k : Int) - 1 = (k0 : Int) by omega]; exact IntWalk.wrap64_in _ (by omega)
          have e7 : (k0 : Int) < (len : Int) := by omega
          have e8 : (0 : Int) ≤ (k0 : Int) := by omega
          have H0 := Lib.hid h0
          clear hk0 h0
          by_cases hd : p < z
          · have OK := Lib.hid (HK.out.2 ⟨HZB.out, fun _ => hd⟩)
            have t7 : decide (z ≤ p) = false := by simp; omega
            go_wp2_with fail
            refine (C.out _).mono ?_
            rintro e w' ⟨rfl, rfl⟩
            go_wp2
            go_round
            case rel => exact ⟨k + 1, by omega, by go_num, fun j hj => by
              by_cases e : j = k
              · rw [e]; exact OK.out
              · exact HA.out j (by omega)⟩
            case measure => simp [intOf]; omega
          · have EV := Lib.hid (HNO.out (by
              cases e : rik zs k with
              | false => rfl
              | true => have := (HK.out.1 e).2 H0.out; omega))
            have t7 : decide (z ≤ p) = true := by simp; omega
            go_wp2_with fail
            refine (C.out _).mono ?_
            rintro e w' ⟨rfl, rfl⟩
            go_wp2
            go_ret
            exact ⟨rb EV.out rfl, rfl⟩
        · obtain rfl : k = 0 := by omega
          have OK := Lib.hid (HK.out.2 ⟨HZB.out, fun h => by omega⟩)
          go_wp2_with fail
          refine (C.out _).mono ?_
          rintro e w' ⟨rfl, rfl⟩
          go_wp2
          go_round
          case rel => exact ⟨1, by omega, by go_num, fun j hj => by
            have e : j = 0 := by omega
            subst e
            exact OK.out⟩
          case measure => simp [intOf]; omega
    · have E := Lib.hid (show v = true from by
        rw [← HV.out]
        exact (roC_iff zs len).2 (fun j hj => HA.out j (by omega)))
      go_wp2
      go_ret
      exact ⟨rb E.out rfl, rfl⟩
/-- the page ahead of page k -/
def bef (zs : List Int) (k : Nat) : Int := if k = 0 then 0 else zs.getD (k - 1) 0
theorem bef_next (zs : List Int) (k : Nat) : bef zs (k + 1) = zs.getD k 0 := by unfold bef; rw [if_neg (by omega), show k + 1 - 1 = k by omega]
theorem rik_bef {zs : List Int} {k : Nat} (h : ∀ j, j < k → rik zs j = true) : rik zs k = true ↔ (bef zs k < zs.getD k 0 ∧ zs.getD k 0 ≤ 2000) := by
  rw [rik_iff]
  unfold bef
  by_cases h0 : k = 0
  · rw [if_pos h0]
    constructor
    · intro h; exact ⟨by omega, h.1.2⟩
    · intro h; exact ⟨⟨by omega, h.2⟩, fun h => by omega⟩
  · rw [if_neg h0]
    have hb := ((rik_iff zs (k - 1)).1 (h (k - 1) (by omega))).1
    constructor
    · intro h; exact ⟨h.2 (by omega), h.1.2⟩
    · intro h; exact ⟨⟨by omega, h.2⟩, fun _ => h.1⟩
set_option maxRecDepth 100000 in
set_option maxHeartbeats 1000000 in
theorem areInc_any {b1 g len cap : Nat} {zs : List Int} {w : World} (h : OwnL w b1 g len cap zs) (hl : len ≤ 1048576) (v : Bool) (hv : roC zs len = v) :
    Calls Try.prog 51 #[.slice (some ⟨g, 0, none⟩) len cap, .int .i64 2000] w fun e w' => e = .returned (.bool v) ∧ w = w' := by
  have HO := Lib.hid h
  have HV := Lib.hid hv
  clear h hv
  go_enter Try.func51, Try.ntmps51
  go_wp2
  go_loop [5, 10] (fun b i => ∃ k : Nat, k ≤ len ∧ i = .int .i64 (k : Int) ∧ b = .int .i64 (bef zs k) ∧ ∀ j, j < k → rik zs j = true) (fun _ i => ((len : Int) - intOf i).toNat)
  case atStart => exact ⟨0, by omega, rfl, rfl, fun j hj => by omega⟩
  case round =>
    obtain ⟨k, hk, rfl, rfl, ha⟩ := hrel
    have HA := Lib.hid ha
    by_cases hlt : (k : Int) < len
    · have q0 := ownL_cell HO.out (k := k) (by omega)
      have HK := Lib.hid (rik_bef ha)
      have HNO := Lib.hid (fun (h : rik zs k = false) => (HV.out.symm.trans (roC_not (show k < len by omega) h)))
      have EN := Lib.hid (bef_next zs k)
      obtain ⟨z, hz⟩ : ∃ z, zs.getD k 0 = z := ⟨_, rfl⟩
      obtain ⟨p, hp⟩ : ∃ p, bef zs k = p := ⟨_, rfl⟩
      rw [hz] at q0 HK EN
      rw [hp] at HK ⊢
      clear hz hp ha
      by_cases c1 : p < z
      · have t1 : decide (z ≤ p) = false := by simp; omega
        by_cases c2 : z ≤ 2000
        · have t2 : decide (2000 < z) = false := by simp; omega
          have OK := Lib.hid (HK.out.2 ⟨c1, c2⟩)
          clear c1 c2
          go_wp2
          go_round
          case rel => exact ⟨k + 1, by omega, by go_num, by rw [EN.out], fun j hj => by
            by_cases e : j = k
            · rw [e]; exact OK.out
            · exact HA.out j (by omega)⟩
          case measure => simp [intOf]; omega
        · have t2 : decide (2000 < z) = true := by simp; omega
          have EV := Lib.hid (HNO.out (by
            cases e : rik zs k with
            | false => rfl
            | true => exact absurd (HK.out.1 e).2 c2))
          clear c1 c2
          go_wp2
          go_ret
          exact ⟨rb EV.out rfl, rfl⟩
      · have t1 : decide (z ≤ p) = true := by simp; omega
        have EV := Lib.hid (HNO.out (by
          cases e : rik zs k with
          | false => rfl
          | true => exact absurd (HK.out.1 e).1 c1))
        clear c1
        go_wp2
        go_ret
        exact ⟨rb EV.out rfl, rfl⟩
    · have E := Lib.hid (show v = true from by
        rw [← HV.out]
        exact (roC_iff zs len).2 (fun j hj => HA.out j (by omega)))
      clear ha
      go_wp2
      go_ret
      exact ⟨rb E.out rfl, rfl⟩
set_option maxRecDepth 100000 in
set_option maxHeartbeats 1000000 in
theorem sRop {b1 g len cap : Nat} {zs : List Int} {w : World} (h : OwnL w b1 g len cap zs) (hl : len ≤ 1048576) :
    Calls Try.prog 28 #[.slice (some ⟨g, 0, none⟩) len cap] w (Ans (roC zs len) (roR zs) w) := by
  obtain ⟨i0, hi, hz0, hz1, hz2⟩ := info_parts infoB
  obtain ⟨v, hv⟩ : ∃ v, roC zs len = v := ⟨_, rfl⟩
  have C := Lib.hid (fun (W : World) (hw : Below w.heap.size w W) => l1Rising_any (Li.own_on h hw) hl v hv)
  have HO := Lib.hid h
  have HL := Lib.hid (ownL_len h)
  have HV := Lib.hid hv
  clear h hv
  by_cases h2 : len ≤ 2000
  · have t0 : decide ((2000 : Int) < (len : Int)) = false := by simp; omega
    cases v
    · go_enter Try.func28, Try.ntmps28
      go_wp2_with fail
      refine (C.out _ (Below.refl _ _)).mono ?_
      rintro e w' ⟨rfl, rfl⟩
      go_wp2
      go_ret2
      exact Ans.no HV.out (Below.refl _ _)
    · have HR := Lib.hid ((roC_iff zs len).1 HV.out)
      go_enter Try.func28, Try.ntmps28
      go_wp2_with fail
      refine (C.out _ (Below.refl _ _)).mono ?_
      rintro e w' ⟨rfl, rfl⟩
      go_wp2_with (first | (at_make; refine wpList_make_full _ rfl _ _ 47 rfl w.heap.size 4 i0 (.bool false) 1 Try.underlying47 hi hz0 hz1 _ _ _ _ 2002 rfl rfl rfl rfl (by rw [hz2]; omega) (by unfold maxLen; omega) (Nat.le_refl _) ?_; intro w2 hown hg1))
      have HM0 := Lib.hid (marks_same (marks_new w hown) (m' := fun q : Nat => inn (zs.take 0) (q : Int)) (fun q _ => rfl))
      have HB2 := Lib.hid (Li.below_of_grown hg1)
      clear hown hg1
      go_loopw [18] (fun i wr => ∃ k : Nat, k ≤ len ∧ i = .int .i64 (k : Int) ∧ Marks wr w.heap.size w.heap.size 2002 (fun q : Nat => inn (zs.take k) (q : Int)) ∧ Below w.heap.size w wr) (fun i _ => ((len : Int) - intOf i).toNat)
      case atStart => exact ⟨0, by omega, rfl, HM0.out, HB2.out⟩
      case round =>
        obtain ⟨k, hk, rfl, hx, hb⟩ := hrel
        clear HM0 HB2
        by_cases hlt : (k : Int) < len
        · have q0 := ownL_cell (Li.own_on HO.out hb) (k := k) (by omega)
          have hzb := ((rik_iff zs k).1 (HR.out k (by omega))).1
          have ET := Lib.hid (take_one zs k (by have := HL.out; omega))
          obtain ⟨z, hz⟩ : ∃ z, zs.getD k 0 = z := ⟨_, rfl⟩
          rw [hz] at q0 hzb ET
          clear hz
          obtain ⟨Z, rfl⟩ : ∃ Z : Nat, z = (Z : Int) := ⟨z.toNat, by omega⟩
          have z2 : Z ≤ 2000 := by omega
          have e3 : (Z : Int) < 2002 := by omega
          obtain ⟨u, hu⟩ : ∃ u, wr.cell? ⟨w.heap.size, Z, none⟩ = some u := ⟨_, marks_cell hx (k := Z) (by omega)⟩
          have fx := hx.frozenAt Z
          have HS := Lib.hid (marks_set (k := Z) hx (by omega) (m' := fun q : Nat => inn (zs.take (k + 1)) (q : Int)) (fun q _ => by
            rw [ET.out, inn_snoc]
            by_cases e : q = Z
            · rw [if_pos e, decide_eq_true (show (q : Int) = (Z : Int) by omega), Bool.or_true]
            · rw [if_neg e, decide_eq_false (show ¬ (q : Int) = (Z : Int) by omega), Bool.or_false]))
          have HB5 := Lib.hid (hb.setCell (p := ⟨w.heap.size, Z, none⟩) (Nat.le_refl _) (.bool true))
          clear hx hb hzb
          go_wp2
          go_roundw
          case rel => exact ⟨k + 1, by omega, by go_num, HS.out, HB5.out⟩
          case measure => simp [intOf]; omega
        · have HF := Lib.hid (marks_same hx (m' := fun q : Nat => inn zs (q : Int)) (fun q hq => by rw [List.take_of_length_le (by have := HL.out; omega)]))
          have C5 := Lib.hid (ixOf_some HF.out (by omega))
          have HB5 := Lib.hid hb
          clear hx hb
          go_wp2_with fail
          refine C5.out.mono ?_
          rintro e w5 ⟨v, rfl, ho, hb5⟩
          have HH := Lib.hid (givesP_on HB5.out ho hb5)
          clear ho hb5
          go_wp2
          go_ret2
          exact Ans.yes HV.out HH.out
  · have EC := Lib.hid (show roC zs len = false from by
      cases e : roC zs len with
      | false => rfl
      | true => exact absurd (roC_len e) h2)
    have t0 : decide ((2000 : Int) < (len : Int)) = true := by simp; omega
    go_enter Try.func28, Try.ntmps28
    go_wp2
    go_ret2
    exact Ans.no EC.out (Below.refl _ _)
set_option maxRecDepth 100000 in
set_option maxHeartbeats 1000000 in
theorem iRop {b1 g len cap : Nat} {zs : List Int} {w : World} (h : OwnL w b1 g len cap zs) (hl : len ≤ 1048576) :
    Calls Try.prog 30 #[.slice (some ⟨g, 0, none⟩) len cap] w (Ans (roC zs len) (roR zs) w) := by
  obtain ⟨v, hv⟩ : ∃ v, roC zs len = v := ⟨_, rfl⟩
  have C := Lib.hid (areInc_any h hl v hv)
  have HO := Lib.hid h
  have HL := Lib.hid (ownL_len h)
  have HV := Lib.hid hv
  have hmm := @run_makeMap Try.prog
  clear h hv
  cases v
  · go_enter Try.func30, Try.ntmps30
    go_wp2_with fail
    refine C.out.mono ?_
    rintro e w' ⟨rfl, rfl⟩
    go_wp2
    go_ret2
    exact Ans.no HV.out (Below.refl _ _)
  · have HR := Lib.hid ((roC_iff zs len).1 HV.out)
    have h2 := roC_len HV.out
    have h0 := Lib.hid (Mp.HasSet.same (m' := inn (zs.take 0)) (Mp.made w) (fun p => rfl))
    have hb0 := Lib.hid (below_alloc1 w (.map #[] 0))
    go_enter Try.func30, Try.ntmps30
    go_wp2_with fail
    refine C.out.mono ?_
    rintro e w' ⟨rfl, rfl⟩
    go_wp2
    go_loopw [13] (fun i wr => ∃ k : Nat, k ≤ len ∧ i = .int .i64 (k : Int) ∧ Mp.HasSet wr w.heap.size k (inn (zs.take k)) ∧ Below w.heap.size w wr) (fun i _ => ((len : Int) - intOf i).toNat)
    case atStart => exact ⟨0, by omega, rfl, h0.out, hb0.out⟩
    case round =>
      obtain ⟨k, hk, rfl, hM, hb⟩ := hrel
      clear h0 hb0
      by_cases hlt : (k : Int) < len
      · have q0 := ownL_cell (Li.own_on HO.out hb) (k := k) (by omega)
        have hzb := ((rik_iff zs k).1 (HR.out k (by omega))).1
        have ET := Lib.hid (take_one zs k (by have := HL.out; omega))
        obtain ⟨z, hz⟩ : ∃ z, zs.getD k 0 = z := ⟨_, rfl⟩
        rw [hz] at q0 hzb ET
        clear hz
        have z1 := hzb.1
        have z2 := hzb.2
        have HBb := Lib.hid hb
        clear hb hzb
        go_wp2_with (first
          | (at_mapUpdate; refine Mp.store _ rfl _ _ _ 52 rfl Try.underlying52 w.heap.size _ _ z rfl hM (by unfold maxLen; omega) rfl rfl ⟨by omega, by omega⟩ ?_; intro w2 hM2 hg2 hs2; go_frame)
          | go_in)
        have HS := Lib.hid (hM2.same (m' := inn (zs.take (k + 1))) (fun p => by rw [ET.out, inn_snoc]))
        have HB5 := Lib.hid (HBb.out.grown hg2 HBb.out.size (fun j hj => by cases hj; exact Nat.le_refl _))
        clear hM hM2 hg2
        go_roundw
        case rel => exact ⟨k + 1, by omega, by go_num, HS.out, HB5.out⟩
        case measure => simp [intOf]; omega
      · have HF := Lib.hid (hM.same (m' := inn zs) (fun p => by rw [List.take_of_length_le (by have := HL.out; omega)]))
        have RR := Lib.hid (set_runs (m := fun q : Nat => inn zs (q : Int)) (S := inn zs) (N := 2002) (fun k _ => rfl) (fun p hp => by
          obtain ⟨k, hk, rfl⟩ := List.getElem_of_mem ((inn_mem zs p).1 hp)
          have := ((rik_iff zs k).1 (HR.out k (by have := HL.out; omega))).1
          simpa [List.getD, List.getElem?_eq_getElem hk] using this) (by omega))
        have C5 := Lib.hid (takeRanges_some (HF.out.same RR.out.2.2) RR.out.1 RR.out.2.1)
        have HB5 := Lib.hid hb
        clear hM hb
        go_wp2_with fail
        refine C5.out.mono ?_
        rintro e w6 ⟨v, rfl, ho, hg⟩
        have HH := Lib.hid (takeR_on HB5.out (Nat.le_refl _) ⟨v, rfl, ho, hg⟩)
        clear ho hg
        go_wp2
        go_ret2
        exact Ans.yes HV.out HH.out
end Gw
end Go.Proofs.Ytdapdiciejlejaa
