/- The nearest page, by the program. -/
import Derived.Test.YtgeailpmjfkhgaaNr
import Derived.Test.YtgeailpmjfkhgaaPr
import Derived.Test.YtgeailpmjfkhgaaIl7
import Derived.Shelf.Abstract
namespace Go.Proofs.Ytgeailpmjfkhgaa
open Go.RowKit Go.Joins Go.Deep Go.ChangeShapes Go.WideShapes
set_option linter.unusedVariables false
set_option linter.unusedSimpArgs false
namespace Gw
open Rg Gm
theorem pg_first {zs : List Int} {n : Nat} (hz : zs.length = 2 * n) (hn : 0 < n) (h : zs.getD 0 0 ≤ zs.getD 1 0) : ∃ r, pg (prs zs) = zs.getD 0 0 :: r := by
  match zs, hz with
  | [], hz => simp at hz; omega
  | [_], hz => simp at hz; omega
  | a :: b :: r, hz =>
    have h' : a ≤ b := h
    obtain ⟨u, hu⟩ : ∃ u, wide a b = u + 1 := ⟨wide a b - 1, by unfold wide; omega⟩
    refine ⟨((List.range u).map Nat.succ).map (fun i : Nat => a + (i : Int)) ++ pg (prs r), ?_⟩
    show span a (wide a b) ++ pg (prs r) = a :: _
    rw [hu]
    unfold span
    rw [List.range_succ_eq_map, List.map_cons]
    simp
theorem max_ab (x p : Int) : (if x - p < p - x then p - x else x - p) = ab (x - p) := by unfold ab; split <;> split <;> omega
theorem nearCl_any (x y p : Int) (hx : 0 ≤ x ∧ x ≤ 2001) (hy : 0 ≤ y ∧ y ≤ 2001) (hp : 1 ≤ p ∧ p ≤ 2000) (b : Nat) (w : World) (hc : w.cell? ⟨b, 0, none⟩ = some (.int .i64 p)) :
    Calls Try.prog 49 #[.int .i64 x, .int .i64 y, .pointer (some ⟨b, 0, none⟩)] w fun e w' => e = .returned (.int .i64 (cmpI (ab (x - p)) (ab (y - p)))) ∧ w = w' := by
  have x1 : wrap64 (x - p) = x - p := IntWalk.wrap64_in _ (by omega)
  have x2 : wrap64 (p - x) = p - x := IntWalk.wrap64_in _ (by omega)
  have x3 : wrap64 (y - p) = y - p := IntWalk.wrap64_in _ (by omega)
  have x4 : wrap64 (p - y) = p - y := IntWalk.wrap64_in _ (by omega)
  have i1 := max_ab x p
  have i2 := max_ab y p
  have C := Lib.hid (fun W => cmp_any (ab (x - p)) (ab (y - p)) W)
  generalize ab (x - p) = X at *
  generalize ab (y - p) = Y at *
  clear hx hy hp
  go_enter Try.func49, Try.ntmps49
  go_wp2_with fail
  refine (C.out _).mono ?_
  rintro e w' ⟨rfl, rfl⟩
  go_wp2
  go_ret
  exact ⟨rfl, rfl⟩
theorem cmp_neg {x y : Int} (h : x < y) : cmpI x y = -1 := by unfold cmpI; rw [if_pos h]
theorem cmp_nneg {x y : Int} (h : ¬ x < y) : 0 ≤ cmpI x y := by unfold cmpI; rw [if_neg h]; split <;> omega
set_option maxRecDepth 100000 in
set_option maxHeartbeats 1000000 in
theorem minFunc_some {base gi cap n b : Nat} {ys : List Int} {w : World} (h : w.ownsRow base 3 1 (.slice (some ⟨gi, 0, none⟩) n cap) n (Li.nums ys)) (hn : ys.length = n) (hpos : 0 < n) (hl : n ≤ 40000) (ha : ∀ x ∈ ys, 1 ≤ x ∧ x ≤ 2000) (p : Int) (hp : 1 ≤ p ∧ p ≤ 2000) (hc : w.cell? ⟨b, 0, none⟩ = some (.int .i64 p)) :
    Calls Try.prog 48 #[.slice (some ⟨gi, 0, none⟩) n cap, .func (.func 49) #[] #[.pointer (some ⟨b, 0, none⟩)]] w (Ret (.int .i64 (nr p ys (ys.getD 0 0))) w) := by
  have HC := Lib.hid (Li.row_own h hn (by omega))
  have HA := Lib.hid ha
  have HN := Lib.hid hn
  have HP := Lib.hid hp
  have HCC := Lib.hid hc
  have eg : ∀ args w, (callFunc 49 args).run Try.prog w = .ok (.enter 49 args) w := enters_of Try.func49 (by kernel_rfl) rfl
  have q0 := HC.out.2.2.2 0 hpos
  have hin : ∀ k, k < n → 1 ≤ ys.getD k 0 ∧ ys.getD k 0 ≤ 2000 := fun k hk => by
    have e : ys.getD k 0 = ys[k]'(by omega) := by simp [List.getD, List.getElem?_eq_getElem (show k < ys.length by omega)]
    rw [e]; exact ha _ (List.getElem_mem _)
  have HIN := Lib.hid hin
  have hf := hin 0 hpos
  obtain ⟨f, hff⟩ : ∃ f, ys.getD 0 0 = f := ⟨_, rfl⟩
  rw [hff] at q0 hf ⊢
  have HFF := Lib.hid hff
  have t0 : decide ((n : Int) < 1) = false := by simp; omega
  have hp2 : (0 : Int) < (n : Int) := by omega
  clear h ha hn hp hc hin hff
  go_enter Try.func48, Try.ntmps48
  go_wp2
  go_loopw [5, 6] (fun m i wr => ∃ k : Nat, 1 ≤ k ∧ k ≤ n ∧ i = .int .i64 (k : Int) ∧ m = .int .i64 (nr p (ys.take k) f) ∧ Below w.heap.size w wr) (fun _ i _ => ((n : Int) - intOf i).toNat)
  case atStart => exact ⟨1, by omega, by omega, rfl, by
    have e : ys.take 1 = [f] := by
      have := HFF.out
      have hl := HN.out
      match ys, this, hl with
      | [], _, hl => simp at hl; omega
      | y :: r, this, _ => have e2 : y = f := this
                           rw [e2]; rfl
    rw [e, nr_head]; rfl, Below.refl _ _⟩
  case round =>
    obtain ⟨k, hk1, hk, rfl, rfl, hb⟩ := hrel
    clear q0
    have HB := Lib.hid hb
    have hbd : 0 ≤ nr p (ys.take k) f ∧ nr p (ys.take k) f ≤ 2001 := nr_in ⟨by omega, by omega⟩ (fun x hx => by have := HA.out x (List.mem_of_mem_take hx); omega)
    by_cases hlt : (k : Int) < n
    · have qk := (HC.out.on hb).2.2.2 k (by omega)
      have hy := HIN.out k (by omega)
      have ES := Lib.hid (show nr p (ys.take (k + 1)) f = nr1 p (nr p (ys.take k) f) (ys.getD k 0) from by
        have e : ys.take (k + 1) = ys.take k ++ [ys.getD k 0] := by
          rw [List.take_succ_eq_append_getElem (by have := HN.out; omega)]
          simp [List.getD, List.getElem?_eq_getElem (show k < ys.length by have := HN.out; omega)]
        rw [e, nr_snoc])
      generalize nr p (ys.take k) f = m at *
      generalize ys.getD k 0 = y at *
      have CX := Lib.hid (fun (W : World) (hw : Below w.heap.size w W) => nearCl_any y m p ⟨by omega, by omega⟩ hbd HP.out b W ((hw.cell (p := ⟨b, 0, none⟩) (lt_of_cell HCC.out)).trans HCC.out))
      by_cases hd : ab (y - p) < ab (m - p)
      · have EN := Lib.hid (show nr p (ys.take (k + 1)) f = y by rw [ES.out]; unfold nr1; rw [if_pos hd])
        rw [cmp_neg hd] at CX
        clear hd hb
        go_wp2_with fail
        first | (go_at_call 49) | (go_at_fn 49) | skip
        refine (CX.out _ HB.out).mono ?_
        rintro e w' ⟨rfl, rfl⟩
        go_wp2
        go_roundw
        case rel => exact ⟨k + 1, by omega, by omega, by go_num, by rw [EN.out], HB.out⟩
        case measure => simp [intOf]; omega
      · have EN := Lib.hid (show nr p (ys.take (k + 1)) f = m by rw [ES.out]; unfold nr1; rw [if_neg hd])
        have hcc := cmp_nneg hd
        generalize cmpI (ab (y - p)) (ab (m - p)) = cc at *
        have t3 : decide (cc < 0) = false := by simp; omega
        clear hd hb hcc
        go_wp2_with fail
        first | (go_at_call 49) | (go_at_fn 49) | skip
        refine (CX.out _ HB.out).mono ?_
        rintro e w' ⟨rfl, rfl⟩
        go_wp2
        go_roundw
        case rel => exact ⟨k + 1, by omega, by omega, by go_num, by rw [EN.out], HB.out⟩
        case measure => simp [intOf]; omega
    · have EK := Lib.hid (show nr p (ys.take k) f = nr p ys f by rw [List.take_of_length_le (by have := HN.out; omega)])
      go_wp2
      go_ret
      exact ⟨by rw [EK.out]; rfl, hb⟩
set_option maxRecDepth 100000 in
set_option maxHeartbeats 1000000 in
theorem iNear {b1 g len cap : Nat} {zs : List Int} {w : World} (h : Own w b1 (.slice (some ⟨g, 0, none⟩) len cap) len zs) (hl : len ≤ 1048576) (p : Int) :
    Calls Try.prog 32 #[.slice (some ⟨g, 0, none⟩) len cap, .int .i64 p] w (Ret (.tuple #[.int .i64 (nrV zs len p), .bool (nrOk zs len p)]) w) := by
  obtain ⟨x1, hx1⟩ : ∃ x, good zs len = x := ⟨_, rfl⟩
  obtain ⟨x2, hx2⟩ : ∃ x, isP p = x := ⟨_, rfl⟩
  have ba : Below w.heap.size w (w.alloc (.cells #[.int .i64 p] 3)) := below_alloc1 _ _
  have hPV := pgV_len (own_size h)
  have C1 := Lib.hid (iPages (Li.own_on h ba) hl)
  have C2 := Lib.hid (fun W => isIndexable_any p x2 hx2 W)
  have hcell : (w.alloc (.cells #[.int .i64 p] 3)).cell? ⟨w.heap.size, 0, none⟩ = some (.int .i64 p) := by simp [go_sem]
  have hlt : w.heap.size < (w.alloc (.cells #[.int .i64 p] 3)).heap.size := by simp
  have HA := Lib.hid ba
  have HZ := Lib.hid (own_size h)
  have HX1 := Lib.hid hx1
  have HX2 := Lib.hid hx2
  rw [hx1] at C1
  clear h ba
  by_cases hy : x1 = true ∧ ¬ len = 0
  · obtain ⟨rfl, h0⟩ := hy
    have hpos : 0 < len := by omega
    have hr := (rng_iff _ _).1 ((all_rng hx1).2 0 hpos)
    rw [Nat.zero_mul, Nat.zero_add] at hr
    have hok := (good_ok zs len HZ.out).1 hx1
    have EPV : pgV zs len = pg (prs zs) := by unfold pgV; rw [if_pos hx1]
    obtain ⟨r, hr1⟩ := pg_first HZ.out hpos hr.2.1
    have hys : ∀ x ∈ pg (prs zs), 1 ≤ x ∧ x ≤ 2000 := fun x hx => has_within (fun q hq => ⟨(ok_in hok q hq).1, (ok_in hok q hq).2.2⟩) ((mem_pg _ _).1 hx)
    have hll : (pg (prs zs)).length ≤ 40000 := by have := pg_take_len hx1 HZ.out len; rw [take_all zs len HZ.out] at this; exact this
    obtain ⟨ys, hyse⟩ : ∃ ys, pg (prs zs) = ys := ⟨_, rfl⟩
    have e0 : ys.getD 0 0 = zs.getD 0 0 := by rw [← hyse, hr1]; rfl
    have hlen : 0 < ys.length := by rw [← hyse, hr1]; simp
    rw [EPV, hyse] at C1 hPV
    rw [hyse] at hys hll
    have EV := Lib.hid (show nrOk zs len p = true → nrV zs len p = nr p ys (ys.getD 0 0) from fun h => by unfold nrV; rw [if_pos h, hyse, e0])
    have HYS := Lib.hid hys
    clear hr hok EPV hr1 hyse e0 hys
    cases x2
    · have e1 : nrOk zs len p = false := by unfold nrOk; rw [HX1.out, HX2.out]; rfl
      have e2 : nrV zs len p = 0 := by unfold nrV; rw [if_neg (by rw [e1]; simp)]
      rw [e1, e2]
      clear e1 e2 hx1 hx2
      have t0 : ((ys.length : Int) == 0) = false := by rw [beq_eq_false_iff_ne]; omega
      go_enter Try.func32, Try.ntmps32
      go_wp2_with fail
      refine C1.out.mono ?_
      rintro e w1 ⟨vv, rfl, hown, hb⟩
      have q := (hb.cell (p := ⟨w.heap.size, 0, none⟩) hlt).trans hcell
      have HB := Lib.hid (HA.out.trans (Rg.below_le hb HA.out.size))
      rcases Li.own_forms hown with ⟨_, hz⟩ | ⟨gi, cp, rfl⟩
      · omega
      clear hb hcell hlt hown
      go_wp2_with fail
      refine (C2.out _).mono ?_
      rintro e w' ⟨rfl, rfl⟩
      go_wp2
      go_ret2
      exact ⟨rfl, HB.out⟩
    · have e1 : nrOk zs len p = true := by unfold nrOk; rw [HX1.out, HX2.out, decide_eq_false h0]; rfl
      rw [EV.out e1, e1]
      have hp := (isP_iff p).1 hx2
      have D := Lib.hid (fun (W : World) (gi cp : Nat) (ho : W.ownsRow (w.alloc (.cells #[.int .i64 p] 3)).heap.size 3 1 (.slice (some ⟨gi, 0, none⟩) ys.length cp) ys.length (Li.nums ys)) (hq : W.cell? ⟨w.heap.size, 0, none⟩ = some (.int .i64 p)) => minFunc_some ho rfl hlen hll HYS.out p hp hq)
      generalize nr p ys (ys.getD 0 0) = R at *
      clear e1 hx1 hx2 hp
      have t0 : ((ys.length : Int) == 0) = false := by rw [beq_eq_false_iff_ne]; omega
      go_enter Try.func32, Try.ntmps32
      go_wp2_with fail
      refine C1.out.mono ?_
      rintro e w1 ⟨vv, rfl, hown, hb⟩
      have q := (hb.cell (p := ⟨w.heap.size, 0, none⟩) hlt).trans hcell
      have HB := Lib.hid (HA.out.trans (Rg.below_le hb HA.out.size))
      rcases Li.own_forms hown with ⟨_, hz⟩ | ⟨gi, cp, rfl⟩
      · omega
      have DD := Lib.hid (D.out _ _ _ hown q)
      clear hb hcell hlt hown
      go_wp2_with fail
      refine (C2.out _).mono ?_
      rintro e w' ⟨rfl, rfl⟩
      go_wp2_with fail
      refine DD.out.mono ?_
      rintro e w2 ⟨rfl, hb2⟩
      have HE := Lib.hid (below_t HB.out hb2)
      clear hb2 q
      go_wp2
      go_ret2
      exact ⟨rfl, HE.out⟩
  · have e1 : nrOk zs len p = false := by
      unfold nrOk
      rw [HX1.out]
      cases x1
      · rfl
      · rw [decide_eq_true (show len = 0 from Classical.byContradiction fun h => hy ⟨rfl, h⟩), Bool.not_true, Bool.and_false]
    have e2 : nrV zs len p = 0 := by unfold nrV; rw [if_neg (by rw [e1]; simp)]
    have EL : (pgV zs len).length = 0 := by
      unfold pgV
      cases x1
      · rw [if_neg (by rw [HX1.out]; simp)]; rfl
      · have h0 : len = 0 := Classical.byContradiction fun h => hy ⟨rfl, h⟩
        have hzz := HZ.out
        rw [h0] at hzz
        have : zs = [] := List.eq_nil_of_length_eq_zero (by omega)
        rw [if_pos HX1.out, this]
        rfl
    have EL2 : pgV zs len = [] := List.eq_nil_of_length_eq_zero EL
    rw [EL2] at C1
    rw [e1, e2]
    clear e1 e2 EL EL2 hx1 hx2 hPV hy HX1 HX2
    cases x1
    all_goals (
      go_enter Try.func32, Try.ntmps32
      go_wp2_with fail
      refine C1.out.mono ?_
      rintro e w1 ⟨vv, rfl, hown, hb⟩
      have q := (hb.cell (p := ⟨w.heap.size, 0, none⟩) hlt).trans hcell
      have HB := Lib.hid (HA.out.trans (Rg.below_le hb HA.out.size))
      have hform : ∃ a cp, vv = .slice a 0 cp := by
        rcases Li.own_forms hown with ⟨rfl, _⟩ | ⟨gi, cp, rfl⟩
        · exact ⟨_, _, rfl⟩
        · exact ⟨_, _, rfl⟩
      obtain ⟨a, cp, rfl⟩ := hform
      clear hb hcell hlt hown
      go_wp2
      go_ret2
      exact ⟨rfl, HB.out⟩)
end Gw
end Go.Proofs.Ytgeailpmjfkhgaa
