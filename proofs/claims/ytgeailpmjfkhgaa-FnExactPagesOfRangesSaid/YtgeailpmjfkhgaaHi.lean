/- Whether ranges have a page, from both sides. -/
import Derived.Test.YtgeailpmjfkhgaaMk
import Derived.Test.YtgeailpmjfkhgaaIa
import Derived.Shelf.Abstract
namespace Go.Proofs.Ytgeailpmjfkhgaa
open Go.RowKit Go.Joins Go.Deep Go.ChangeShapes Go.WideShapes
set_option linter.unusedVariables false
set_option linter.unusedSimpArgs false
namespace Gw
open Rg Gm
/-- a page -/
def isP (p : Int) : Bool := decide (1 ≤ p) && decide (p ≤ 2000)
theorem isP_iff (p : Int) : isP p = true ↔ 1 ≤ p ∧ p ≤ 2000 := by unfold isP; simp
theorem below_t {w w1 w2 : World} (h : Below w.heap.size w w1) (h2 : Below w1.heap.size w1 w2) : Below w.heap.size w w2 := h.trans (Rg.below_le h2 h.size)
theorem all_rng {zs : List Int} {n : Nat} (h : good zs n = true) : n ≤ 20 ∧ ∀ k, k < n → rng (zs.getD (k * 2) 0) (zs.getD (k * 2 + 1) 0) = true :=
  ⟨((good_iff zs n).1 h).1, fun k hk => (rng_iff _ _).2 ((okk_iff zs k).1 (((good_iff zs n).1 h).2 k hk)).1⟩
set_option maxRecDepth 100000 in
set_option maxHeartbeats 1000000 in
theorem ixPage_any {b1 g len cap : Nat} {zs : List Int} {w : World} (h : Own w b1 (.slice (some ⟨g, 0, none⟩) len cap) len zs) (hl : len ≤ 1048576) (p : Int) (v : Bool) (hv : (good zs len && isP p) = v) :
    Calls Try.prog 39 #[.slice (some ⟨g, 0, none⟩) len cap, .int .i64 p] w (Ret (.bool v) w) := by
  obtain ⟨x1, hx1⟩ : ∃ x, good zs len = x := ⟨_, rfl⟩
  obtain ⟨x2, hx2⟩ : ∃ x, isP p = x := ⟨_, rfl⟩
  have C1 := Lib.hid (ixGood_some h hl x1 hx1)
  have C2 := Lib.hid (fun W => l1In_any p 1 2000 x2 hx2 W)
  have e : v = (x1 && x2) := by rw [← hv, hx1, hx2]
  subst e
  clear h hv hx1 hx2
  cases x1
  · go_enter Try.func39, Try.ntmps39
    go_wp2_with fail
    refine C1.out.mono ?_
    rintro e w' ⟨rfl, hb⟩
    go_wp2
    go_ret
    exact ⟨rfl, hb⟩
  · go_enter Try.func39, Try.ntmps39
    go_wp2_with fail
    refine C1.out.mono ?_
    rintro e w' ⟨rfl, hb⟩
    go_wp2_with fail
    refine (C2.out _).mono ?_
    rintro e w' ⟨rfl, rfl⟩
    go_wp2
    go_ret
    exact ⟨rfl, hb⟩
/-- the answers -/
def hasOk (zs : List Int) (n : Nat) (p : Int) : Bool := good zs n && isP p
def hasV (zs : List Int) (n : Nat) (p : Int) : Bool := hasOk zs n p && has (prs zs) p
theorem ret2b {a b c d : Bool} (h1 : a = c) (h2 : b = d) : Ending.returned (.tuple #[.bool a, .bool b]) = .returned (.tuple #[.bool c, .bool d]) := by rw [h1, h2]
set_option maxRecDepth 100000 in
set_option maxHeartbeats 1000000 in
theorem sHas {b1 g len cap : Nat} {zs : List Int} {w : World} (h : Own w b1 (.slice (some ⟨g, 0, none⟩) len cap) len zs) (hl : len ≤ 1048576) (p : Int) :
    Calls Try.prog 17 #[.slice (some ⟨g, 0, none⟩) len cap, .int .i64 p] w (Ret (.tuple #[.bool (hasV zs len p), .bool (hasOk zs len p)]) w) := by
  obtain ⟨v, hv⟩ : ∃ v, hasOk zs len p = v := ⟨_, rfl⟩
  have C := Lib.hid (ixPage_any h hl p v hv)
  have HO := Lib.hid h
  unfold hasV
  rw [hv]
  have HV := Lib.hid hv
  clear h hv
  cases v
  · go_enter Try.func17, Try.ntmps17
    go_wp2_with fail
    refine C.out.mono ?_
    rintro e w' ⟨rfl, hb⟩
    go_wp2
    go_ret2
    exact ⟨rfl, hb⟩
  · have hg : good zs len = true := by have := HV.out; unfold hasOk at this; simp only [Bool.and_eq_true] at this; exact this.1
    have hp : isP p = true := by have := HV.out; unfold hasOk at this; simp only [Bool.and_eq_true] at this; exact this.2
    rw [isP_iff] at hp
    have hA := all_rng hg
    obtain ⟨P, rfl⟩ : ∃ P : Nat, p = (P : Int) := ⟨p.toNat, by omega⟩
    have p1 : P ≤ 2000 := by omega
    have p2 : (P : Int) < 2002 := by omega
    have p3 : (0 : Int) ≤ (P : Int) := by omega
    obtain ⟨x, hx⟩ : ∃ x, has (prs zs) (P : Int) = x := ⟨_, rfl⟩
    have HX := Lib.hid hx
    rw [hx]
    have D := Lib.hid (fun (W : World) (hb : Below w.heap.size w W) => ixMarks_some (Li.own_on HO.out hb) (by have := hA.1; omega) hA.2)
    clear hg hp hA hx
    go_enter Try.func17, Try.ntmps17
    go_wp2_with fail
    refine C.out.mono ?_
    rintro e w1 ⟨rfl, hb⟩
    have HB := Lib.hid hb
    clear hb
    go_wp2_with fail
    refine (D.out _ HB.out).mono ?_
    rintro e w2 ⟨g2, rfl, hM, hb2⟩
    have hc := marks_cell hM (k := P) (by omega)
    have HE := Lib.hid (below_t HB.out hb2)
    rw [HX.out] at hc
    clear hb2 hM
    go_wp2
    go_ret2
    exact ⟨ret2b (by simp) rfl, HE.out⟩
/-- the closure: whether a range has the page that lies in a box -/
theorem hasCl_any (f t p : Int) (b : Nat) (v : Bool) (hv : (decide (f ≤ p) && decide (p ≤ t)) = v) (w : World) (hc : w.cell? ⟨b, 0, none⟩ = some (.int .i64 p)) :
    Calls Try.prog 43 #[.agg #[.int .i64 f, .int .i64 t], .pointer (some ⟨b, 0, none⟩)] w (Ret (.bool v) w) := by
  have hlt := lt_of_cell hc
  have hc2 : (w.alloc (.cells #[.int .i64 f, .int .i64 t] 43)).cell? ⟨b, 0, none⟩ = some (.int .i64 p) := ((below_alloc1 w _).cell (p := ⟨b, 0, none⟩) hlt).trans hc
  clear hc hlt
  by_cases c1 : f ≤ p
  · by_cases c2 : p ≤ t
    · have e : v = true := by rw [← hv]; simp [c1, c2]
      subst e
      clear hv
      go_enter Try.func43, Try.ntmps43
      go_wp2
      go_ret
      exact ⟨rfl, below_alloc1 _ _⟩
    · have e : v = false := by rw [← hv]; simp [c2]
      subst e
      have t2 : decide (p ≤ t) = false := by simpa using c2
      clear hv c2
      go_enter Try.func43, Try.ntmps43
      go_wp2
      go_ret
      exact ⟨rfl, below_alloc1 _ _⟩
  · have e : v = false := by rw [← hv]; simp [c1]
    subst e
    have t2 : decide (f ≤ p) = false := by simpa using c1
    clear hv c1
    go_enter Try.func43, Try.ntmps43
    go_wp2
    go_ret
    exact ⟨rfl, below_alloc1 _ _⟩
/-- a place is found, or minus one -/
def Found (v : Bool) (W : World) (e : Ending) (w' : World) : Prop := ∃ z : Int, e = .returned (.int .i64 z) ∧ decide (0 ≤ z) = v ∧ Below W.heap.size W w'
set_option maxRecDepth 100000 in
set_option maxHeartbeats 1000000 in
theorem indexFunc_some {b1 g len cap b : Nat} {zs : List Int} {w : World} (h : Own w b1 (.slice (some ⟨g, 0, none⟩) len cap) len zs) (hl : len ≤ 20) (p : Int) (hc : w.cell? ⟨b, 0, none⟩ = some (.int .i64 p)) :
    Calls Try.prog 53 #[.slice (some ⟨g, 0, none⟩) len cap, .func (.func 43) #[] #[.pointer (some ⟨b, 0, none⟩)]] w (Found (has (prs zs) p) w) := by
  have HO := Lib.hid h
  have HC := Lib.hid hc
  have HZ := Lib.hid (own_size h)
  have eg : ∀ args w, (callFunc 43 args).run Try.prog w = .ok (.enter 43 args) w := enters_of Try.func43 (by kernel_rfl) rfl
  clear h hc
  go_enter Try.func53, Try.ntmps53
  go_wp2
  go_loopw [5, 8] (fun _ i wr => ∃ k : Nat, k ≤ len ∧ i = .int .i64 (k : Int) ∧ has ((prs zs).take k) p = false ∧ Below w.heap.size w wr) (fun _ i _ => ((len : Int) - intOf i).toNat)
  case atStart => exact ⟨0, by omega, rfl, rfl, Below.refl _ _⟩
  case round =>
    obtain ⟨k, hk, rfl, hn, hb⟩ := hrel
    have HB := Lib.hid hb
    have HN := Lib.hid hn
    clear hb hn
    by_cases hlt : (k : Int) < len
    · obtain ⟨q0, q1⟩ := cells2 (Li.own_on HO.out HB.out) (k := k) (by omega)
      have HT := Lib.hid (has_take zs len HZ.out k (by omega) p)
      have HX := Lib.hid (show (decide (zs.getD (k * 2) 0 ≤ p) && decide (p ≤ zs.getD (k * 2 + 1) 0)) = true → has (prs zs) p = true from fun e => by
        have h1 := has_take zs len HZ.out k (by omega) p
        rw [e, Bool.or_true] at h1
        obtain ⟨q, hq, hh⟩ := (has_mem _ p).1 h1
        exact (has_mem _ p).2 ⟨q, List.mem_of_mem_take hq, hh⟩)
      generalize zs.getD (k * 2) 0 = f at *
      generalize zs.getD (k * 2 + 1) 0 = t at *
      obtain ⟨x, hx⟩ : ∃ x, (decide (f ≤ p) && decide (p ≤ t)) = x := ⟨_, rfl⟩
      have CX := Lib.hid (fun (W : World) (hw : Below w.heap.size w W) => hasCl_any f t p b x hx W ((hw.cell (p := ⟨b, 0, none⟩) (lt_of_cell HC.out)).trans HC.out))
      rw [hx] at HT HX
      clear hx
      cases x
      · have HN2 := Lib.hid (HT.out.trans (by rw [HN.out] <;> rfl))
        go_wp2_with fail
        first | (go_at_call 43) | (go_at_fn 43) | skip
        refine (CX.out _ HB.out).mono ?_
        rintro e w4 ⟨rfl, hb4⟩
        have HE := Lib.hid (below_t HB.out hb4)
        clear hb4 q0 q1
        go_wp2
        go_roundw
        case rel => exact ⟨k + 1, by omega, by go_num, HN2.out, HE.out⟩
        case measure => simp [intOf]; omega
      · have HV := Lib.hid (HX.out rfl)
        go_wp2_with fail
        first | (go_at_call 43) | (go_at_fn 43) | skip
        refine (CX.out _ HB.out).mono ?_
        rintro e w4 ⟨rfl, hb4⟩
        have HE := Lib.hid (below_t HB.out hb4)
        clear hb4 q0 q1
        go_wp2
        go_ret
        exact ⟨(k : Int), rfl, by rw [HV.out, decide_eq_true_eq]; omega, HE.out⟩
    · have HV := Lib.hid (show has (prs zs) p = false from by
        have := HN.out
        rw [show k = len by omega, take_all zs len HZ.out] at this
        exact this)
      go_wp2
      go_ret
      exact ⟨-1, rfl, by rw [HV.out]; rfl, HB.out⟩
theorem contains_some {b1 g len cap b : Nat} {zs : List Int} {w : World} (h : Own w b1 (.slice (some ⟨g, 0, none⟩) len cap) len zs) (hl : len ≤ 20) (p : Int) (hc : w.cell? ⟨b, 0, none⟩ = some (.int .i64 p)) :
    Calls Try.prog 42 #[.slice (some ⟨g, 0, none⟩) len cap, .func (.func 43) #[] #[.pointer (some ⟨b, 0, none⟩)]] w (Ret (.bool (has (prs zs) p)) w) := by
  have C := Lib.hid (indexFunc_some h hl p hc)
  generalize has (prs zs) p = v at *
  clear h hc
  go_enter Try.func42, Try.ntmps42
  go_wp2_with fail
  refine C.out.mono ?_
  rintro e w4 ⟨z, rfl, hz, hb⟩
  subst hz
  cases hd : decide (0 ≤ z)
  all_goals (
    have hdd : decide (z ≥ 0) = decide (0 ≤ z) := rfl
    go_wp2
    go_ret
    exact ⟨rb hd rfl, hb⟩)
set_option maxRecDepth 100000 in
set_option maxHeartbeats 1000000 in
theorem iHas {b1 g len cap : Nat} {zs : List Int} {w : World} (h : Own w b1 (.slice (some ⟨g, 0, none⟩) len cap) len zs) (hl : len ≤ 1048576) (p : Int) :
    Calls Try.prog 18 #[.slice (some ⟨g, 0, none⟩) len cap, .int .i64 p] w (Ret (.tuple #[.bool (hasV zs len p), .bool (hasOk zs len p)]) w) := by
  obtain ⟨x1, hx1⟩ : ∃ x, good zs len = x := ⟨_, rfl⟩
  obtain ⟨x2, hx2⟩ : ∃ x, isP p = x := ⟨_, rfl⟩
  have ba : Below w.heap.size w (w.alloc (.cells #[.int .i64 p] 3)) := below_alloc1 _ _
  have C1 := Lib.hid (areRanges_some (Li.own_on h ba) hl x1 hx1)
  have C2 := Lib.hid (fun W => isIndexable_any p x2 hx2 W)
  have hcell : (w.alloc (.cells #[.int .i64 p] 3)).cell? ⟨w.heap.size, 0, none⟩ = some (.int .i64 p) := by simp [go_sem]
  have hlt : w.heap.size < (w.alloc (.cells #[.int .i64 p] 3)).heap.size := by simp
  have HO := Lib.hid h
  have HA := Lib.hid ba
  unfold hasV hasOk
  rw [hx1, hx2]
  have HX1 := Lib.hid hx1
  clear h hx1 hx2 ba
  cases x1
  · go_enter Try.func18, Try.ntmps18
    go_wp2_with fail
    refine C1.out.mono ?_
    rintro e w1 ⟨rfl, hb⟩
    have HB := Lib.hid (HA.out.trans (Rg.below_le hb HA.out.size))
    clear hb hcell hlt
    go_wp2
    go_ret2
    exact ⟨rfl, HB.out⟩
  · cases x2
    · go_enter Try.func18, Try.ntmps18
      go_wp2_with fail
      refine C1.out.mono ?_
      rintro e w1 ⟨rfl, hb⟩
      have q := (hb.cell (p := ⟨w.heap.size, 0, none⟩) hlt).trans hcell
      have HB := Lib.hid (HA.out.trans (Rg.below_le hb HA.out.size))
      clear hb hcell hlt
      go_wp2_with fail
      refine (C2.out _).mono ?_
      rintro e w' ⟨rfl, rfl⟩
      go_wp2
      go_ret2
      exact ⟨rfl, HB.out⟩
    · have D := Lib.hid (fun (W : World) (hw : Below w.heap.size w W) (hq : W.cell? ⟨w.heap.size, 0, none⟩ = some (.int .i64 p)) => contains_some (Li.own_on HO.out hw) (all_rng HX1.out).1 p hq)
      generalize has (prs zs) p = v at *
      go_enter Try.func18, Try.ntmps18
      go_wp2_with fail
      refine C1.out.mono ?_
      rintro e w1 ⟨rfl, hb⟩
      have q := (hb.cell (p := ⟨w.heap.size, 0, none⟩) hlt).trans hcell
      have HB := Lib.hid (HA.out.trans (Rg.below_le hb HA.out.size))
      clear hb hcell hlt
      go_wp2_with fail
      refine (C2.out _).mono ?_
      rintro e w' ⟨rfl, rfl⟩
      go_wp2_with fail
      refine (D.out _ HB.out q).mono ?_
      rintro e w2 ⟨rfl, hb2⟩
      have HE := Lib.hid (below_t HB.out hb2)
      clear hb2 q
      go_wp2
      go_ret2
      exact ⟨ret2b (by simp) rfl, HE.out⟩
end Gw
end Go.Proofs.Ytgeailpmjfkhgaa
