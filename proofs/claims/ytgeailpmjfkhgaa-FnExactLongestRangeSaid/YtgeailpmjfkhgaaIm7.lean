/- The longest range, by the program: the library's search for the greatest. -/
import Derived.Test.YtgeailpmjfkhgaaIl7
import Derived.Shelf.Abstract
namespace Go.Proofs.Ytgeailpmjfkhgaa
open Go.RowKit Go.Joins Go.Deep Go.ChangeShapes Go.WideShapes
set_option linter.unusedVariables false
set_option linter.unusedSimpArgs false
namespace Gw
open Rg Gm
theorem cmp_pos {x y : Int} (h : y < x) : cmpI x y = 1 := by unfold cmpI; rw [if_neg (by omega), if_pos h]
theorem cmp_not {x y : Int} (h : ¬ y < x) : cmpI x y ≤ 0 := by unfold cmpI; split <;> (try split) <;> omega
set_option maxRecDepth 100000 in
set_option maxHeartbeats 1000000 in
theorem maxFunc_some {b1 g len cap : Nat} {zs : List Int} {w : World} (h : Own w b1 (.slice (some ⟨g, 0, none⟩) len cap) len zs) (hpos : 0 < len) (h20 : len ≤ 20) (ha : ∀ k, k < len → rng (zs.getD (k * 2) 0) (zs.getD (k * 2 + 1) 0) = true) :
    Calls Try.prog 44 #[.slice (some ⟨g, 0, none⟩) len cap, .func (.func 45) #[] #[]] w (Ret (.agg #[.int .i64 (zs.getD (best zs len * 2) 0), .int .i64 (zs.getD (best zs len * 2 + 1) 0)]) w) := by
  have ba := below_alloc1 w (.cells #[.int .i64 0, .int .i64 0] 43)
  have HO := Lib.hid h
  have HR := Lib.hid ha
  have HP0 := Lib.hid (Pr2.new w 0 0)
  have eg : ∀ args w, (callFunc 45 args).run Try.prog w = .ok (.enter 45 args) w := enters_of Try.func45 (by kernel_rfl) rfl
  obtain ⟨q0, q1⟩ := cells2 (Li.own_on h ba) (k := 0) hpos
  rw [Nat.zero_mul] at q0 q1
  obtain ⟨f, hf⟩ : ∃ f, zs.getD 0 0 = f := ⟨_, rfl⟩
  obtain ⟨t, ht⟩ : ∃ t, zs.getD (0 + 1) 0 = t := ⟨_, rfl⟩
  rw [hf] at q0
  rw [ht] at q1
  have HF := Lib.hid hf
  have HT := Lib.hid ht
  have t0 : decide ((len : Int) < 1) = false := by simp; omega
  have hp2 : (0 : Int) < (len : Int) := by omega
  have e1 : (w.alloc (.cells #[.int .i64 0, .int .i64 0] 43)).heap.size = w.heap.size + 1 := by simp
  have HN := Lib.hid (e1 ▸ Pr2.new (w.alloc (.cells #[.int .i64 0, .int .i64 0] 43)) f t)
  have HP1 := Lib.hid (HP0.out.alloc (.cells #[.int .i64 f, .int .i64 t] 43))
  have HB1 := Lib.hid (ba.alloc ba.size (.cells #[.int .i64 f, .int .i64 t] 43))
  clear h ha hf ht ba e1
  go_enter Try.func44, Try.ntmps44
  go_wp2
  go_loopw [6] (fun i wr => ∃ k : Nat, 1 ≤ k ∧ k ≤ len ∧ i = .int .i64 (k : Int) ∧ Pr2 wr w.heap.size 0 0 ∧ Pr2 wr (w.heap.size + 1) (zs.getD (best zs k * 2) 0) (zs.getD (best zs k * 2 + 1) 0) ∧ Below w.heap.size w wr) (fun i _ => ((len : Int) - intOf i).toNat)
  case atStart => exact ⟨1, by omega, by omega, rfl, HP1.out, by
    rw [best_one, Nat.zero_mul, HF.out, HT.out]
    exact HN.out, HB1.out⟩
  case round =>
    obtain ⟨k, hk1, hk, rfl, hp, hq, hb⟩ := hrel
    clear HN HP1 HB1 q0 q1
    by_cases hlt : (k : Int) < len
    · obtain ⟨q0, q1⟩ := cells2 (Li.own_on HO.out hb) (k := k) (by omega)
      have hr1 := (rng_iff _ _).1 (HR.out k (by omega))
      have hr2 := (rng_iff _ _).1 (HR.out (best zs k) (best_lt zs len hpos k hk))
      have ES := Lib.hid (best_step zs k)
      by_cases hc : zs.getD (best zs k * 2 + 1) 0 - zs.getD (best zs k * 2) 0 < zs.getD (k * 2 + 1) 0 - zs.getD (k * 2) 0
      · have EB := Lib.hid (show best zs (k + 1) = k by rw [ES.out, if_pos hc])
        have EF := Lib.hid (show zs.getD (best zs (k + 1) * 2) 0 = zs.getD (k * 2) 0 by rw [EB.out])
        have ET := Lib.hid (show zs.getD (best zs (k + 1) * 2 + 1) 0 = zs.getD (k * 2 + 1) 0 by rw [EB.out])
        generalize zs.getD (best zs k * 2 + 1) 0 = bt at *
        generalize zs.getD (best zs k * 2) 0 = bf at *
        generalize zs.getD (k * 2 + 1) 0 = rt at *
        generalize zs.getD (k * 2) 0 = rf at *
        have C := Lib.hid (fun W => longCl_any rf rt bf bt hr1.1 hr1.2.1 hr1.2.2 hr2.1 hr2.2.1 hr2.2.2 W)
        rw [cmp_pos (show bt - bf + 1 < rt - rf + 1 by omega)] at C
        have c0 := hq.c0
        have c1 := hq.c1
        have HP := Lib.hid hp
        have HQ := Lib.hid hq
        have HB := Lib.hid hb
        clear hr1 hr2 hc hp hq hb
        go_wp2_with fail
        go_region_held3 (fun w' => w'.cell? ⟨g, k * 2, none⟩ = some (.int .i64 rf) ∧ w'.cell? ⟨g, k * 2 + 1, none⟩ = some (.int .i64 rt) ∧ w'.cell? ⟨w.heap.size + 1, 0, none⟩ = some (.int .i64 bf) ∧ w'.cell? ⟨w.heap.size + 1, 1, none⟩ = some (.int .i64 bt))
          (first | exact ⟨q0, q1, c0, c1⟩ | exact hs4 | go_keep)
          (first
            | ((first | (go_at_call 45) | (go_at_fn 45) | skip); refine (C.out _).mono ?_; rintro e w4 ⟨rfl, hb4⟩; have hs4 : w4.cell? ⟨g, k * 2, none⟩ = some (.int .i64 rf) ∧ w4.cell? ⟨g, k * 2 + 1, none⟩ = some (.int .i64 rt) ∧ w4.cell? ⟨w.heap.size + 1, 0, none⟩ = some (.int .i64 bf) ∧ w4.cell? ⟨w.heap.size + 1, 1, none⟩ = some (.int .i64 bt) := keep4 hb4 ⟨q0, q1, c0, c1⟩))
        have hq4 := Pr2.on (show Pr2 wr.drew (w.heap.size + 1) bf bt from HQ.out) hb4
        have hp4 := Pr2.on (show Pr2 wr.drew w.heap.size 0 0 from HP.out) hb4
        have hB4 := HB.out.drew.trans (Rg.below_le hb4 HB.out.size)
        have f0 := hq4.fr 0
        have f1 := hq4.fr 1
        obtain ⟨k1, k2⟩ := hq4.half rf
        obtain ⟨q0', q1', c0', c1'⟩ := hs4
        have HP2 := Lib.hid ((hp4.other (a := ⟨w.heap.size + 1, 0, none⟩) (by simp) (.int .i64 rf)).other (a := ⟨w.heap.size + 1, 1, none⟩) (by simp) (.int .i64 rt))
        have HQ2 := Lib.hid (hq4.set rf rt)
        have HB2 := Lib.hid ((hB4.setCell (p := ⟨w.heap.size + 1, 0, none⟩) (by simp) (.int .i64 rf)).setCell (p := ⟨w.heap.size + 1, 1, none⟩) (by simp) (.int .i64 rt))
        clear hb4 hq4 hp4 hB4 q0 q1 c0 c1
        go_wp2
        go_roundw
        case rel => exact ⟨k + 1, by omega, by omega, by go_num, HP2.out, by rw [EF.out, ET.out]; exact HQ2.out, HB2.out⟩
        case measure => simp [intOf]; omega
      · have EB := Lib.hid (show best zs (k + 1) = best zs k by rw [ES.out, if_neg hc])
        have EF := Lib.hid (show zs.getD (best zs (k + 1) * 2) 0 = zs.getD (best zs k * 2) 0 by rw [EB.out])
        have ET := Lib.hid (show zs.getD (best zs (k + 1) * 2 + 1) 0 = zs.getD (best zs k * 2 + 1) 0 by rw [EB.out])
        generalize zs.getD (best zs k * 2 + 1) 0 = bt at *
        generalize zs.getD (best zs k * 2) 0 = bf at *
        generalize zs.getD (k * 2 + 1) 0 = rt at *
        generalize zs.getD (k * 2) 0 = rf at *
        have C := Lib.hid (fun W => longCl_any rf rt bf bt hr1.1 hr1.2.1 hr1.2.2 hr2.1 hr2.2.1 hr2.2.2 W)
        have hcc := cmp_not (show ¬ bt - bf + 1 < rt - rf + 1 by omega)
        generalize cmpI (rt - rf + 1) (bt - bf + 1) = cc at *
        have t3 : decide (0 < cc) = false := by simp; omega
        have c0 := hq.c0
        have c1 := hq.c1
        have HP := Lib.hid hp
        have HQ := Lib.hid hq
        have HB := Lib.hid hb
        clear hr1 hr2 hc hp hq hb hcc
        go_wp2_with fail
        go_region_held3 (fun w' => w'.cell? ⟨g, k * 2, none⟩ = some (.int .i64 rf) ∧ w'.cell? ⟨g, k * 2 + 1, none⟩ = some (.int .i64 rt) ∧ w'.cell? ⟨w.heap.size + 1, 0, none⟩ = some (.int .i64 bf) ∧ w'.cell? ⟨w.heap.size + 1, 1, none⟩ = some (.int .i64 bt))
          (first | exact ⟨q0, q1, c0, c1⟩ | exact hs4 | go_keep)
          (first
            | ((first | (go_at_call 45) | (go_at_fn 45) | skip); refine (C.out _).mono ?_; rintro e w4 ⟨rfl, hb4⟩; have hs4 : w4.cell? ⟨g, k * 2, none⟩ = some (.int .i64 rf) ∧ w4.cell? ⟨g, k * 2 + 1, none⟩ = some (.int .i64 rt) ∧ w4.cell? ⟨w.heap.size + 1, 0, none⟩ = some (.int .i64 bf) ∧ w4.cell? ⟨w.heap.size + 1, 1, none⟩ = some (.int .i64 bt) := keep4 hb4 ⟨q0, q1, c0, c1⟩))
        have HQ4 := Lib.hid (Pr2.on (show Pr2 wr.drew (w.heap.size + 1) bf bt from HQ.out) hb4)
        have HP4 := Lib.hid (Pr2.on (show Pr2 wr.drew w.heap.size 0 0 from HP.out) hb4)
        have HB4 := Lib.hid (HB.out.drew.trans (Rg.below_le hb4 HB.out.size))
        clear hb4 hs4 q0 q1 c0 c1
        go_wp2
        go_roundw
        case rel => exact ⟨k + 1, by omega, by omega, by go_num, HP4.out, by rw [EF.out, ET.out]; exact HQ4.out, HB4.out⟩
        case measure => simp [intOf]; omega
    · obtain rfl : k = len := by omega
      generalize zs.getD (best zs k * 2 + 1) 0 = bt at *
      generalize zs.getD (best zs k * 2) 0 = bf at *
      have c0 := hq.c0
      have c1 := hq.c1
      have p0 := hp.c0
      have p1 := hp.c1
      have f0 := hp.fr 0
      have f1 := hp.fr 1
      have HB2 := Lib.hid hb
      have Z0 := Lib.hid (hp.set bf bt).c0
      have Z1 := Lib.hid (hp.set bf bt).c1
      clear hb hp hq
      go_wp2
      exact bodyPost_ret (v := .agg #[.int .i64 bf, .int .i64 bt]) (by simp [results, Try.results44, go_sem, Z0.out, Z1.out]) rfl ⟨rfl, (HB2.out.setCell (p := ⟨w.heap.size, 0, none⟩) (Nat.le_refl _) _).setCell (p := ⟨w.heap.size, 1, none⟩) (Nat.le_refl _) _⟩
set_option maxRecDepth 100000 in
set_option maxHeartbeats 1000000 in
theorem iLong {b1 g len cap : Nat} {zs : List Int} {w : World} (h : Own w b1 (.slice (some ⟨g, 0, none⟩) len cap) len zs) (hl : len ≤ 1048576) :
    Calls Try.prog 29 #[.slice (some ⟨g, 0, none⟩) len cap] w (Ret (.tuple #[.agg #[.int .i64 (lgF zs len), .int .i64 (lgT zs len)], .bool (lgOk zs len)]) w) := by
  obtain ⟨v, hv⟩ : ∃ v, good zs len = v := ⟨_, rfl⟩
  have ba := below_alloc1 w (.cells #[.int .i64 0, .int .i64 0] 43)
  have C := Lib.hid (areRanges_some (Li.own_on h ba) hl v hv)
  have HA0 := Lib.hid ba
  have HP0 := Lib.hid (Pr2.new w 0 0)
  have HO := Lib.hid h
  have HV := Lib.hid hv
  clear h hv ba
  by_cases hx : v = true ∧ ¬ len = 0
  · obtain ⟨rfl, h0⟩ := hx
    have e1 : lgOk zs len = true := by unfold lgOk; rw [HV.out, decide_eq_false h0]; rfl
    have e2 : lgF zs len = zs.getD (best zs len * 2) 0 := by unfold lgF; rw [if_pos e1]
    have e3 : lgT zs len = zs.getD (best zs len * 2 + 1) 0 := by unfold lgT; rw [if_pos e1]
    rw [e1, e2, e3]
    clear e1 e2 e3
    have t0 : ((len : Int) == 0) = false := by simp; omega
    have D := Lib.hid (fun (W : World) (hw : Below w.heap.size w W) => maxFunc_some (Li.own_on HO.out hw) (by omega) (all_rng HV.out).1 (all_rng HV.out).2)
    generalize zs.getD (best zs len * 2 + 1) 0 = bt at *
    generalize zs.getD (best zs len * 2) 0 = bf at *
    go_enter Try.func29, Try.ntmps29
    go_wp2_with fail
    refine C.out.mono ?_
    rintro e w1 ⟨rfl, hb⟩
    have HP1 := Lib.hid (HP0.out.on hb)
    have HB := Lib.hid (HA0.out.trans (Rg.below_le hb (by simp)))
    clear hb
    go_wp2_with fail
    refine (D.out _ HB.out).mono ?_
    rintro e w2 ⟨rfl, hb2⟩
    have hp := HP1.out.on hb2
    have p0 := hp.c0
    have p1 := hp.c1
    have f0 := hp.fr 0
    have f1 := hp.fr 1
    have HB2 := Lib.hid (below_t HB.out hb2)
    have Z0 := Lib.hid (hp.set bf bt).c0
    have Z1 := Lib.hid (hp.set bf bt).c1
    clear hb2 hp
    go_wp2
    exact bodyPost_ret (v := .tuple #[.agg #[.int .i64 bf, .int .i64 bt], .bool true]) (by simp [results, Try.results29, go_sem, Z0.out, Z1.out]) rfl ⟨rfl, (HB2.out.setCell (p := ⟨w.heap.size, 0, none⟩) (Nat.le_refl _) _).setCell (p := ⟨w.heap.size, 1, none⟩) (Nat.le_refl _) _⟩
  · have e1 : lgOk zs len = false := by
      unfold lgOk
      rw [HV.out]
      cases v
      · rfl
      · rw [decide_eq_true (show len = 0 from Classical.byContradiction fun h => hx ⟨rfl, h⟩)]; rfl
    have e2 : lgF zs len = 0 := by unfold lgF; rw [if_neg (by rw [e1]; simp)]
    have e3 : lgT zs len = 0 := by unfold lgT; rw [if_neg (by rw [e1]; simp)]
    rw [e1, e2, e3]
    clear e1 e2 e3
    cases v
    · clear hx
      go_enter Try.func29, Try.ntmps29
      go_wp2_with fail
      refine C.out.mono ?_
      rintro e w1 ⟨rfl, hb⟩
      have P1 := HP0.out.on hb
      have c0 := P1.c0
      have c1 := P1.c1
      have f0 := P1.fr 0
      have f1 := P1.fr 1
      have HB := Lib.hid (HA0.out.trans (Rg.below_le hb (by simp)))
      have Z0 := Lib.hid (P1.set 0 0).c0
      have Z1 := Lib.hid (P1.set 0 0).c1
      clear hb P1
      go_wp2
      exact bodyPost_ret (v := .tuple #[.agg #[.int .i64 0, .int .i64 0], .bool false]) (by simp [results, Try.results29, go_sem, Z0.out, Z1.out]) rfl ⟨rfl, (HB.out.setCell (p := ⟨w.heap.size, 0, none⟩) (Nat.le_refl _) _).setCell (p := ⟨w.heap.size, 1, none⟩) (Nat.le_refl _) _⟩
    · obtain rfl : len = 0 := Classical.byContradiction fun h => hx ⟨rfl, h⟩
      clear hx
      go_enter Try.func29, Try.ntmps29
      go_wp2_with fail
      refine C.out.mono ?_
      rintro e w1 ⟨rfl, hb⟩
      have P1 := HP0.out.on hb
      have c0 := P1.c0
      have c1 := P1.c1
      have f0 := P1.fr 0
      have f1 := P1.fr 1
      have HB := Lib.hid (HA0.out.trans (Rg.below_le hb (by simp)))
      have Z0 := Lib.hid (P1.set 0 0).c0
      have Z1 := Lib.hid (P1.set 0 0).c1
      clear hb P1
      go_wp2
      exact bodyPost_ret (v := .tuple #[.agg #[.int .i64 0, .int .i64 0], .bool false]) (by simp [results, Try.results29, go_sem, Z0.out, Z1.out]) rfl ⟨rfl, (HB.out.setCell (p := ⟨w.heap.size, 0, none⟩) (Nat.le_refl _) _).setCell (p := ⟨w.heap.size, 1, none⟩) (Nat.le_refl _) _⟩
end Gw
end Go.Proofs.Ytgeailpmjfkhgaa
