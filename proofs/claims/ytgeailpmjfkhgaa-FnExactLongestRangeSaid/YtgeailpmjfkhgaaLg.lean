/- The longest range, from both sides. -/
import Derived.Test.YtgeailpmjfkhgaaSa
import Derived.Test.YtgeailpmjfkhgaaHi
import Derived.Laws.Rows
namespace Go.Proofs.Ytgeailpmjfkhgaa
open Go.RowKit Go.Joins Go.Deep Go.ChangeShapes Go.WideShapes
set_option linter.unusedVariables false
set_option linter.unusedSimpArgs false
namespace Gw
open Rg Gm
/-- a block of two cells, of the call's own -/
def Pr2 (W : World) (b : Nat) (x y : Int) : Prop := W.heap[b]? = some (.cells #[.int .i64 x, .int .i64 y] 43)
theorem Pr2.lt {W : World} {b : Nat} {x y : Int} (h : Pr2 W b x y) : b < W.heap.size := by
  rcases Nat.lt_or_ge b W.heap.size with h1 | h1
  · exact h1
  · unfold Pr2 at h
    rw [Array.getElem?_eq_none h1] at h
    cases h
theorem Pr2.c0 {W : World} {b : Nat} {x y : Int} (h : Pr2 W b x y) : W.cell? ⟨b, 0, none⟩ = some (.int .i64 x) := by unfold Pr2 at h; simp [World.cell?, h]
theorem Pr2.c1 {W : World} {b : Nat} {x y : Int} (h : Pr2 W b x y) : W.cell? ⟨b, 1, none⟩ = some (.int .i64 y) := by unfold Pr2 at h; simp [World.cell?, h]
theorem Pr2.fr {W : World} {b : Nat} {x y : Int} (h : Pr2 W b x y) (j : Nat) : W.frozen? ⟨b, j, none⟩ = false := by unfold Pr2 at h; simp [World.frozen?, h]
theorem Pr2.set {W : World} {b : Nat} {x y : Int} (h : Pr2 W b x y) (x' y' : Int) : Pr2 ((W.setCell ⟨b, 0, none⟩ (.int .i64 x')).setCell ⟨b, 1, none⟩ (.int .i64 y')) b x' y' := by
  have h1 := heap_setCell_same W b 0 _ _ (.int .i64 x') h
  have h2 := heap_setCell_same _ b 1 _ _ (.int .i64 y') h1
  exact h2
theorem Pr2.half {W : World} {b : Nat} {x y : Int} (h : Pr2 W b x y) (x' : Int) : (W.setCell ⟨b, 0, none⟩ (.int .i64 x')).cell? ⟨b, 1, none⟩ = some (.int .i64 y) ∧ (W.setCell ⟨b, 0, none⟩ (.int .i64 x')).frozen? ⟨b, 1, none⟩ = false := by
  have h1 := heap_setCell_same W b 0 _ _ (.int .i64 x') h
  constructor
  · simp [World.cell?, h1]
  · simp [World.frozen?, h1]
theorem Pr2.on {W W' : World} {b : Nat} {x y : Int} (h : Pr2 W b x y) (hb : Below W.heap.size W W') : Pr2 W' b x y := (hb.block b h.lt).trans h
theorem Pr2.alloc {W : World} {b : Nat} {x y : Int} (h : Pr2 W b x y) (o : Obj) : Pr2 (W.alloc o) b x y := h.on (below_alloc1 W o)
theorem Pr2.new (w : World) (x y : Int) : Pr2 (w.alloc (.cells #[.int .i64 x, .int .i64 y] 43)) w.heap.size x y := heap_alloc_new w _
theorem Pr2.other {W : World} {b : Nat} {x y : Int} (h : Pr2 W b x y) {a : Addr} (ha : b ≠ a.block) (u : Value) : Pr2 (W.setCell a u) b x y := by
  unfold Pr2
  rw [RowKit.Below.heap_setCell _ _ _ _ ha]
  exact h
/-- the place of the longest among the first k -/
def best (zs : List Int) : Nat → Nat
  | 0 => 0
  | k + 1 => if zs.getD (best zs k * 2 + 1) 0 - zs.getD (best zs k * 2) 0 < zs.getD (k * 2 + 1) 0 - zs.getD (k * 2) 0 then k else best zs k
theorem best_step (zs : List Int) (k : Nat) : best zs (k + 1) = if zs.getD (best zs k * 2 + 1) 0 - zs.getD (best zs k * 2) 0 < zs.getD (k * 2 + 1) 0 - zs.getD (k * 2) 0 then k else best zs k := rfl
theorem best_one (zs : List Int) : best zs 1 = 0 := by rw [best_step]; split <;> rfl
theorem best_lt (zs : List Int) (n : Nat) (hn : 0 < n) (k : Nat) (hk : k ≤ n) : best zs k < n := by
  induction k with
  | zero => exact hn
  | succ k ih => rw [best_step]; split
                 · omega
                 · exact ih (by omega)
/-- the answer -/
def lgOk (zs : List Int) (n : Nat) : Bool := good zs n && !decide (n = 0)
def lgF (zs : List Int) (n : Nat) : Int := if lgOk zs n = true then zs.getD (best zs n * 2) 0 else 0
def lgT (zs : List Int) (n : Nat) : Int := if lgOk zs n = true then zs.getD (best zs n * 2 + 1) 0 else 0
theorem ret_agg {x y x' y' : Int} {b b' : Bool} (h1 : x = x') (h2 : y = y') (h3 : b = b') : Ending.returned (.tuple #[.agg #[.int .i64 x, .int .i64 y], .bool b]) = .returned (.tuple #[.agg #[.int .i64 x', .int .i64 y'], .bool b']) := by rw [h1, h2, h3]
set_option maxRecDepth 100000 in
set_option maxHeartbeats 1000000 in
theorem sLong {b1 g len cap : Nat} {zs : List Int} {w : World} (h : Own w b1 (.slice (some ⟨g, 0, none⟩) len cap) len zs) (hl : len ≤ 1048576) :
    Calls Try.prog 28 #[.slice (some ⟨g, 0, none⟩) len cap] w (Ret (.tuple #[.agg #[.int .i64 (lgF zs len), .int .i64 (lgT zs len)], .bool (lgOk zs len)]) w) := by
  obtain ⟨v, hv⟩ : ∃ v, good zs len = v := ⟨_, rfl⟩
  have ba := below_alloc1 w (.cells #[.int .i64 0, .int .i64 0] 43)
  have C := Lib.hid (ixGood_some (Li.own_on h ba) hl v hv)
  have HA0 := Lib.hid ba
  have HP0 := Lib.hid (Pr2.new w 0 0)
  have HO := Lib.hid h
  have HV := Lib.hid hv
  clear h hv ba
  cases v
  · have e1 : lgOk zs len = false := by unfold lgOk; rw [HV.out]; rfl
    have e2 : lgF zs len = 0 := by unfold lgF; rw [if_neg (by rw [e1]; simp)]
    have e3 : lgT zs len = 0 := by unfold lgT; rw [if_neg (by rw [e1]; simp)]
    rw [e1, e2, e3]
    clear e1 e2 e3
    go_enter Try.func28, Try.ntmps28
    go_wp2_with fail
    refine C.out.mono ?_
    rintro e w1 ⟨rfl, hb⟩
    have P1 := HP0.out.on hb
    have c0 := P1.c0
    have c1 := P1.c1
    have f0 := P1.fr 0
    have f1 := P1.fr 1
    have HB := Lib.hid (HA0.out.trans (Rg.below_le hb (by simp)))
    have z0 := (P1.set 0 0).c0
    have z1 := (P1.set 0 0).c1
    have Z0 := Lib.hid z0
    have Z1 := Lib.hid z1
    clear hb P1 z0 z1
    go_wp2
    exact bodyPost_ret (v := .tuple #[.agg #[.int .i64 0, .int .i64 0], .bool false]) (by simp [results, Try.results28, go_sem, Z0.out, Z1.out]) rfl ⟨rfl, (HB.out.setCell (p := ⟨w.heap.size, 0, none⟩) (Nat.le_refl _) _).setCell (p := ⟨w.heap.size, 1, none⟩) (Nat.le_refl _) _⟩
  · by_cases h0 : len = 0
    · subst h0
      have e1 : lgOk zs 0 = false := by unfold lgOk; rw [HV.out]; rfl
      have e2 : lgF zs 0 = 0 := by unfold lgF; rw [if_neg (by rw [e1]; simp)]
      have e3 : lgT zs 0 = 0 := by unfold lgT; rw [if_neg (by rw [e1]; simp)]
      rw [e1, e2, e3]
      clear e1 e2 e3
      go_enter Try.func28, Try.ntmps28
      go_wp2_with fail
      refine C.out.mono ?_
      rintro e w1 ⟨rfl, hb⟩
      have P1 := HP0.out.on hb
      have c0 := P1.c0
      have c1 := P1.c1
      have f0 := P1.fr 0
      have f1 := P1.fr 1
      have HB := Lib.hid (HA0.out.trans (Rg.below_le hb (by simp)))
      have z0 := (P1.set 0 0).c0
      have z1 := (P1.set 0 0).c1
      have Z0 := Lib.hid z0
      have Z1 := Lib.hid z1
      clear hb P1 z0 z1
      go_wp2
      exact bodyPost_ret (v := .tuple #[.agg #[.int .i64 0, .int .i64 0], .bool false]) (by simp [results, Try.results28, go_sem, Z0.out, Z1.out]) rfl ⟨rfl, (HB.out.setCell (p := ⟨w.heap.size, 0, none⟩) (Nat.le_refl _) _).setCell (p := ⟨w.heap.size, 1, none⟩) (Nat.le_refl _) _⟩
    · have e1 : lgOk zs len = true := by unfold lgOk; rw [HV.out, decide_eq_false h0]; rfl
      have e2 : lgF zs len = zs.getD (best zs len * 2) 0 := by unfold lgF; rw [if_pos e1]
      have e3 : lgT zs len = zs.getD (best zs len * 2 + 1) 0 := by unfold lgT; rw [if_pos e1]
      rw [e1, e2, e3]
      clear e1 e2 e3
      have HR := Lib.hid (all_rng HV.out)
      have h20 := HR.out.1
      have hpos : 0 < len := by omega
      have t0 : ((len : Int) == 0) = false := by simp; omega
      have hp2 : (0 : Int) < (len : Int) := by omega
      go_enter Try.func28, Try.ntmps28
      go_wp2_with fail
      refine C.out.mono ?_
      rintro e w1 ⟨rfl, hb⟩
      have HB := Lib.hid (HA0.out.trans (Rg.below_le hb (by simp)))
      have HP1 := Lib.hid (HP0.out.on hb)
      clear hb
      obtain ⟨q0, q1⟩ := cells2 (Li.own_on HO.out HB.out) (k := 0) hpos
      rw [Nat.zero_mul] at q0 q1
      obtain ⟨f, hf⟩ : ∃ f, zs.getD 0 0 = f := ⟨_, rfl⟩
      obtain ⟨t, ht⟩ : ∃ t, zs.getD (0 + 1) 0 = t := ⟨_, rfl⟩
      rw [hf] at q0
      rw [ht] at q1
      have HF := Lib.hid hf
      have HT := Lib.hid ht
      clear hf ht
      have HN := Lib.hid (Pr2.new w1 f t)
      have HP1a := Lib.hid (HP1.out.alloc (.cells #[.int .i64 f, .int .i64 t] 43))
      have HBa := Lib.hid (HB.out.alloc HB.out.size (.cells #[.int .i64 f, .int .i64 t] 43))
      have hs1 := HP1.out.lt
      go_wp2
      clear q0 q1
      go_loopw [21] (fun i wr => ∃ k : Nat, k ≤ len ∧ i = .int .i64 (k : Int) ∧ Pr2 wr w.heap.size 0 0 ∧ Pr2 wr w1.heap.size (zs.getD (best zs k * 2) 0) (zs.getD (best zs k * 2 + 1) 0) ∧ Below w.heap.size w wr) (fun i _ => ((len : Int) - intOf i).toNat)
      case atStart => exact ⟨0, by omega, rfl, HP1a.out, by
        show Pr2 _ _ (zs.getD (0 * 2) 0) (zs.getD (0 * 2 + 1) 0)
        rw [Nat.zero_mul, HF.out, HT.out]
        exact HN.out, HBa.out⟩
      case round =>
        obtain ⟨k, hk, rfl, hp, hq, hb⟩ := hrel
        clear HN HP1a HBa
        by_cases hlt : (k : Int) < len
        · obtain ⟨q0, q1⟩ := cells2 (Li.own_on HO.out hb) (k := k) (by omega)
          have hr1 := (rng_iff _ _).1 (HR.out.2 k (by omega))
          have hr2 := (rng_iff _ _).1 (HR.out.2 (best zs k) (best_lt zs len hpos k hk))
          have ES := Lib.hid (best_step zs k)
          have hps := hp.lt
          have hqs := hq.lt
          have HPx := Lib.hid (hp.alloc (.cells #[.int .i64 (zs.getD (k * 2) 0), .int .i64 (zs.getD (k * 2 + 1) 0)] 43))
          have HQx := Lib.hid (hq.alloc (.cells #[.int .i64 (zs.getD (k * 2) 0), .int .i64 (zs.getD (k * 2 + 1) 0)] 43))
          have HBx := Lib.hid (hb.alloc hb.size (.cells #[.int .i64 (zs.getD (k * 2) 0), .int .i64 (zs.getD (k * 2 + 1) 0)] 43))
          by_cases hc : zs.getD (best zs k * 2 + 1) 0 - zs.getD (best zs k * 2) 0 < zs.getD (k * 2 + 1) 0 - zs.getD (k * 2) 0
          · have EB := Lib.hid (show best zs (k + 1) = k by rw [ES.out, if_pos hc])
            have EF := Lib.hid (show zs.getD (best zs (k + 1) * 2) 0 = zs.getD (k * 2) 0 by rw [EB.out])
            have ET := Lib.hid (show zs.getD (best zs (k + 1) * 2 + 1) 0 = zs.getD (k * 2 + 1) 0 by rw [EB.out])
            generalize zs.getD (best zs k * 2 + 1) 0 = bt at *
            generalize zs.getD (best zs k * 2) 0 = bf at *
            generalize zs.getD (k * 2 + 1) 0 = rt at *
            generalize zs.getD (k * 2) 0 = rf at *
            have c0 := hq.c0
            have c1 := hq.c1
            have f0 := hq.fr 0
            have f1 := hq.fr 1
            obtain ⟨k1, k2⟩ := hq.half rf
            have x1 : wrap64 (rt - rf) = rt - rf := IntWalk.wrap64_in _ (by omega)
            have x2 : wrap64 (bt - bf) = bt - bf := IntWalk.wrap64_in _ (by omega)
            have HP2 := Lib.hid (((hp.other (a := ⟨w1.heap.size, 0, none⟩) (by simp; omega) (.int .i64 rf)).other (a := ⟨w1.heap.size, 1, none⟩) (by simp; omega) (.int .i64 rt)).alloc (.cells #[.int .i64 rf, .int .i64 rt] 43))
            have HQ2 := Lib.hid ((hq.set rf rt).alloc (.cells #[.int .i64 rf, .int .i64 rt] 43))
            have HB2 := Lib.hid (((hb.setCell (p := ⟨w1.heap.size, 0, none⟩) (by simp; omega) (.int .i64 rf)).setCell (p := ⟨w1.heap.size, 1, none⟩) (by simp; omega) (.int .i64 rt)).alloc (by simp; exact hb.size) (.cells #[.int .i64 rf, .int .i64 rt] 43))
            clear hr1 hr2 hp hq hb
            go_wp2
            go_roundw
            case rel => exact ⟨k + 1, by omega, by go_num, HP2.out, by rw [EF.out, ET.out]; exact HQ2.out, HB2.out⟩
            case measure => simp [intOf]; omega
          · have EB := Lib.hid (show best zs (k + 1) = best zs k by rw [ES.out, if_neg hc])
            have EF := Lib.hid (show zs.getD (best zs (k + 1) * 2) 0 = zs.getD (best zs k * 2) 0 by rw [EB.out])
            have ET := Lib.hid (show zs.getD (best zs (k + 1) * 2 + 1) 0 = zs.getD (best zs k * 2 + 1) 0 by rw [EB.out])
            generalize zs.getD (best zs k * 2 + 1) 0 = bt at *
            generalize zs.getD (best zs k * 2) 0 = bf at *
            generalize zs.getD (k * 2 + 1) 0 = rt at *
            generalize zs.getD (k * 2) 0 = rf at *
            have c0 := HQx.out.c0
            have c1 := HQx.out.c1
            have f0 := HQx.out.fr 0
            have f1 := HQx.out.fr 1
            have x1 : wrap64 (rt - rf) = rt - rf := IntWalk.wrap64_in _ (by omega)
            have x2 : wrap64 (bt - bf) = bt - bf := IntWalk.wrap64_in _ (by omega)
            clear hr1 hr2 hp hq hb
            go_wp2
            go_roundw
            case rel => exact ⟨k + 1, by omega, by go_num, HPx.out, by rw [EF.out, ET.out]; exact HQx.out, HBx.out⟩
            case measure => simp [intOf]; omega
        · obtain rfl : k = len := by omega
          generalize zs.getD (best zs k * 2 + 1) 0 = bt at *
          generalize zs.getD (best zs k * 2) 0 = bf at *
          have c0 := hq.c0
          have c1 := hq.c1
          have p0 := hp.c0
          have p1 := hp.c1
          have f0 := hp.fr 0
          have f1 := hp.fr 1
          have HB2 := Lib.hid hb
          have Z0 := Lib.hid (hp.set bf bt).c0
          have Z1 := Lib.hid (hp.set bf bt).c1
          clear hb hp hq
          go_wp2
          exact bodyPost_ret (v := .tuple #[.agg #[.int .i64 bf, .int .i64 bt], .bool true]) (by simp [results, Try.results28, go_sem, Z0.out, Z1.out]) rfl ⟨rfl, (HB2.out.setCell (p := ⟨w.heap.size, 0, none⟩) (Nat.le_refl _) _).setCell (p := ⟨w.heap.size, 1, none⟩) (Nat.le_refl _) _⟩
end Gw
end Go.Proofs.Ytgeailpmjfkhgaa
