/- The program's pages as a set: made of ranges. -/
import Derived.Test.YtdapdiciejlejaaOf
import Derived.Test.YtdapdiciejlejaaMp
import Derived.Test.YtdapdiciejlejaaIa
namespace Go.Proofs.Ytdapdiciejlejaa
open Go.RowKit Go.Joins Go.Deep Go.ChangeShapes Go.WideShapes
set_option linter.unusedVariables false
set_option linter.unusedSimpArgs false
namespace Gw
open Rg Gm
theorem below_t {w w1 w2 : World} (h : Below w.heap.size w w1) (h2 : Below w1.heap.size w1 w2) : Below w.heap.size w w2 := h.trans (Rg.below_le h2 h.size)
theorem all_rng {zs : List Int} {n : Nat} (h : good zs n = true) : n ≤ 20 ∧ ∀ k, k < n → rng (zs.getD (k * 2) 0) (zs.getD (k * 2 + 1) 0) = true :=
  ⟨((good_iff zs n).1 h).1, fun k hk => (rng_iff _ _).2 ((okk_iff zs k).1 (((good_iff zs n).1 h).2 k hk)).1⟩
theorem grown_box {w w' : World} {row : Option Nat} {b : Nat} {x y : Value} (h : B2 w b x y) (hg : w.grownBy w' row) (hne : row ≠ some b) : B2 w' b x y := by
  have hk := hg.block b h.1 (fun e => hne e.symm)
  refine ⟨Nat.lt_of_lt_of_le h.1 hg.size, ?_, ?_⟩
  · rw [← h.2.1]; unfold World.cell?; simp only [hk]
  · rw [← h.2.2]; unfold World.cell?; simp only [hk]
/-- a block of two cells, of the call's own -/
def Pr2 (W : World) (b : Nat) (x y : Int) : Prop := W.heap[b]? = some (.cells #[.int .i64 x, .int .i64 y] 44)
theorem Pr2.lt {W : World} {b : Nat} {x y : Int} (h : Pr2 W b x y) : b < W.heap.size := by
  rcases Nat.lt_or_ge b W.heap.size with h1 | h1
  · exact h1
  · unfold Pr2 at h
    rw [Array.getElem?_eq_none h1] at h
    cases h
theorem Pr2.c0 {W : World} {b : Nat} {x y : Int} (h : Pr2 W b x y) : W.cell? ⟨b, 0, none⟩ = some (.int .i64 x) := by unfold Pr2 at h; simp [World.cell?, h]
theorem Pr2.c1 {W : World} {b : Nat} {x y : Int} (h : Pr2 W b x y) : W.cell? ⟨b, 1, none⟩ = some (.int .i64 y) := by unfold Pr2 at h; simp [World.cell?, h]
theorem Pr2.fr {W : World} {b : Nat} {x y : Int} (h : Pr2 W b x y) (j : Nat) : W.frozen? ⟨b, j, none⟩ = false := by unfold Pr2 at h; simp [World.frozen?, h]
theorem Pr2.set {W : World} {b : Nat} {x y : Int} (h : Pr2 W b x y) (x' y' : Int) : Pr2 ((W.setCell ⟨b, 0, none⟩ (.int .i64 x')).setCell ⟨b, 1, none⟩ (.int .i64 y')) b x' y' := by
  have h1 := heap_setCell_same W b 0 _ _ (.int .i64 x') h
  have h2 := heap_setCell_same _ b 1 _ _ (.int .i64 y') h1
  exact h2
theorem Pr2.half {W : World} {b : Nat} {x y : Int} (h : Pr2 W b x y) (x' : Int) : (W.setCell ⟨b, 0, none⟩ (.int .i64 x')).cell? ⟨b, 1, none⟩ = some (.int .i64 y) ∧ (W.setCell ⟨b, 0, none⟩ (.int .i64 x')).frozen? ⟨b, 1, none⟩ = false := by
  have h1 := heap_setCell_same W b 0 _ _ (.int .i64 x') h
  constructor
  · simp [World.cell?, h1]
  · simp [World.frozen?, h1]
theorem Pr2.on {W W' : World} {b : Nat} {x y : Int} (h : Pr2 W b x y) (hb : Below W.heap.size W W') : Pr2 W' b x y := (hb.block b h.lt).trans h
theorem Pr2.alloc {W : World} {b : Nat} {x y : Int} (h : Pr2 W b x y) (o : Obj) : Pr2 (W.alloc o) b x y := h.on (below_alloc1 W o)
theorem Pr2.new (w : World) (x y : Int) : Pr2 (w.alloc (.cells #[.int .i64 x, .int .i64 y] 44)) w.heap.size x y := heap_alloc_new w _
theorem Pr2.other {W : World} {b : Nat} {x y : Int} (h : Pr2 W b x y) {a : Addr} (ha : b ≠ a.block) (u : Value) : Pr2 (W.setCell a u) b x y := by
  unfold Pr2
  rw [RowKit.Below.heap_setCell _ _ _ _ ha]
  exact h
theorem Pr2.grown {W W' : World} {row : Option Nat} {b : Nat} {x y : Int} (h : Pr2 W b x y) (hg : W.grownBy W' row) (hne : some b ≠ row) : Pr2 W' b x y := (hg.block b h.lt hne).trans h
/-- a set of pages is returned, in new memory -/
def SetR (m : Int → Bool) (W : World) (e : Ending) (w' : World) : Prop := ∃ b, e = .returned (.map (some b)) ∧ W.heap.size ≤ b ∧ Mp.HasSet w' b 200000 m ∧ Below W.heap.size W w'
theorem in_stepI (F p q : Int) (h : F ≤ p) : (decide (F ≤ q) && decide (q < p + 1)) = ((decide (F ≤ q) && decide (q < p)) || decide (q = p)) := by
  rw [Bool.eq_iff_iff]
  simp only [Bool.or_eq_true, Bool.and_eq_true, decide_eq_true_eq]
  omega
set_option maxRecDepth 100000 in
set_option maxHeartbeats 1000000 in
theorem pagesIn_some {b1 g len cap : Nat} {zs : List Int} {w : World} (h : Own w b1 (.slice (some ⟨g, 0, none⟩) len cap) len zs) (hl : len ≤ 100) (ha : ∀ k, k < len → rng (zs.getD (k * 2) 0) (zs.getD (k * 2 + 1) 0) = true) :
    Calls Try.prog 40 #[.slice (some ⟨g, 0, none⟩) len cap] w (SetR (has (prs zs)) w) := by
  have HO := Lib.hid h
  have HA := Lib.hid ha
  have HZ := Lib.hid (own_size h)
  have hmm := @run_makeMap Try.prog
  have h0 := Lib.hid (Mp.HasSet.same (m' := has ((prs zs).take 0)) (Mp.made w) (fun p => rfl))
  have hb0 := Lib.hid (below_alloc1 w (.map #[] 0))
  clear h ha
  go_enter Try.func40, Try.ntmps40
  go_wp2
  go_loopw [10] (fun i wr => ∃ k : Nat, k ≤ len ∧ i = .int .i64 (k : Int) ∧ Mp.HasSet wr w.heap.size (2000 * k) (has ((prs zs).take k)) ∧ Below w.heap.size w wr) (fun i _ => ((len : Int) - intOf i).toNat)
  case atStart => exact ⟨0, by omega, rfl, h0.out, hb0.out⟩
  case round =>
    obtain ⟨wo, rfl⟩ : ∃ wo : World, wo = wr := ⟨_, rfl⟩
    obtain ⟨k, hk, rfl, hM, hb⟩ := hrel
    have HM := Lib.hid hM
    have HB := Lib.hid hb
    clear hM hb h0 hb0
    by_cases hlt : (k : Int) < len
    · obtain ⟨q0, q1⟩ := cells2 (Li.own_on HO.out HB.out) (k := k) (by omega)
      have hr := (rng_iff _ _).1 (HA.out k (by omega))
      have HT := Lib.hid (has_take zs len HZ.out k (by omega))
      obtain ⟨f, hf⟩ : ∃ f, zs.getD (k * 2) 0 = f := ⟨_, rfl⟩
      obtain ⟨t, ht⟩ : ∃ t, zs.getD (k * 2 + 1) 0 = t := ⟨_, rfl⟩
      rw [hf, ht] at hr HT
      rw [hf] at q0
      rw [ht] at q1
      clear hf ht
      have r1 : 1 ≤ f := by omega
      have r2 : f ≤ t := by omega
      have r3 : t ≤ 2000 := by omega
      clear hr
      have X := Lib.hid (B2.new wo (.int .i64 f) (.int .i64 t) 44)
      obtain ⟨m0, hm0⟩ : ∃ m0 : Int → Bool, m0 = has ((prs zs).take k) := ⟨_, rfl⟩
      have HM0 := Lib.hid hm0
      rw [← hm0] at HM
      clear hm0
      have HMa := Lib.hid (HM.out.alloc (.cells #[.int .i64 f, .int .i64 t] 44))
      have HBa := Lib.hid (HB.out.alloc HB.out.size (.cells #[.int .i64 f, .int .i64 t] 44))
      have hlt2 := Lib.hid (show w.heap.size < wo.heap.size from HM.out.lt)
      go_wp2
      clear q0 q1
      go_loopw [6] (fun i wr => ∃ p : Int, f ≤ p ∧ p ≤ t + 1 ∧ i = .int .i64 p ∧ Mp.HasSet wr w.heap.size (2000 * k + (p - f).toNat) (fun q => m0 q || (decide (f ≤ q) && decide (q < p))) ∧ Below w.heap.size w wr ∧ B2 wr wo.heap.size (.int .i64 f) (.int .i64 t)) (fun i _ => (t + 1 - intOf i).toNat)
      case atStart => exact ⟨f, Int.le_refl _, by omega, rfl, Mp.HasSet.same (HMa.out.mono (by omega)) (fun q => by
        rw [show (decide (f ≤ q) && decide (q < f)) = false from by
          by_cases c : f ≤ q
          · rw [decide_eq_false (show ¬ q < f by omega)]; simp
          · rw [decide_eq_false c]; rfl, Bool.or_false]), HBa.out, X.out⟩
      case round =>
        obtain ⟨p, hp1, hp2, rfl, hM, hb, hx⟩ := hrel
        obtain ⟨_, x0, x1⟩ := id hx
        by_cases hlp : p ≤ t
        · have HX := Lib.hid hx
          have HBb := Lib.hid hb
          clear hb hx
          go_wp2_with (first
            | (at_mapUpdate; refine Mp.store _ rfl _ _ _ 52 rfl Try.underlying52 w.heap.size _ _ p rfl hM (by unfold maxLen; omega) rfl rfl ⟨by omega, by omega⟩ ?_; intro w2 hM2 hg2 hs2)
            | go_in)
          have HST := Lib.hid (Mp.HasSet.same (m' := fun q => m0 q || (decide (f ≤ q) && decide (q < p + 1))) (n := 2000 * k + (p + 1 - f).toNat) (hM2.mono (by omega)) (fun q => by
            show (m0 q || (decide (f ≤ q) && decide (q < p)) || decide (q = p)) = (m0 q || (decide (f ≤ q) && decide (q < p + 1)))
            rw [in_stepI f p q hp1, Bool.or_assoc]))
          have HB2 := Lib.hid (HBb.out.grown hg2 HBb.out.size (fun j hj => by cases hj; exact Nat.le_refl _))
          have HX2 := Lib.hid (grown_box HX.out hg2 (fun e => by injection e with e; have := hlt2.out; omega))
          have ep : wrap64 (p + 1) = p + 1 := IntWalk.wrap64_in _ (by omega)
          clear hM hM2 hg2
          go_wp2
          go_roundw
          case rel => exact ⟨p + 1, by omega, by omega, by first | rfl | go_num, HST.out, HB2.out, HX2.out⟩
          case measure => simp [intOf]; omega
        · have e : p = t + 1 := by omega
          have HE := Lib.hid (show Mp.HasSet wr w.heap.size (2000 * (k + 1)) (has ((prs zs).take (k + 1))) from Mp.HasSet.same (hM.mono (by omega)) (fun q => by
            rw [HM0.out, HT.out q, e]
            show (has _ _ || (decide (f ≤ q) && decide (q < t + 1))) = _
            congr 1
            rw [Bool.eq_iff_iff]
            simp only [Bool.and_eq_true, decide_eq_true_eq]
            omega))
          have HB2 := Lib.hid hb
          clear hM hb e
          go_wp2
          go_roundw
          case rel => exact ⟨k + 1, by omega, by go_num, HE.out, HB2.out⟩
          case measure => simp [intOf]; omega
    · have HE := Lib.hid (show Mp.HasSet wo w.heap.size 200000 (has (prs zs)) from by
        have := HM.out
        rw [show k = len by omega, take_all zs len HZ.out] at this
        exact this.mono (by omega))
      go_wp2
      go_ret
      exact ⟨_, rfl, Nat.le_refl _, HE.out, HB.out⟩
end Gw
end Go.Proofs.Ytdapdiciejlejaa
