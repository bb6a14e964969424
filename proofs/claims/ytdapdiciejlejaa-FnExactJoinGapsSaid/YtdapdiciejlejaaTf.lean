/- The first range is taken out of a set of pages. -/
import Derived.Test.YtdapdiciejlejaaPn
namespace Go.Proofs.Ytdapdiciejlejaa
open Go.RowKit Go.Joins Go.Deep Go.ChangeShapes Go.WideShapes
set_option linter.unusedVariables false
set_option linter.unusedSimpArgs false
namespace Gw
open Rg Gm
theorem grown_then {a b c : World} {row : Option Nat} {B : Nat} (h : a.grownBy b row) (k : b.grownBy c (some B)) (hB : a.heap.size ≤ B ∨ row = some B) : a.grownBy c row :=
  h.andThen k (fun j hj => by cases hj; exact hB)
theorem grown_below {a b : World} {row : Option Nat} {x : World} (h : a.grownBy b row) (k : Below b.heap.size b x) : a.grownBy x row :=
  h.andThen (Li.grown_of_below k) (fun j hj => by cases hj)
set_option maxRecDepth 100000 in
set_option maxHeartbeats 1000000 in
theorem takeFirst_some {b n : Nat} {f t : Int} {r : PR} {w : World} (h : Mp.HasSet w b n (has ((f, t) :: r))) (h1 : 1 ≤ f) (h2 : f ≤ t) (h3 : Ch (t + 2) r) (h4 : t ≤ 2000) (h5 : ∀ q ∈ r, q.2 ≤ 2000) :
    Calls Try.prog 56 #[.map (some b)] w fun e w' => e = .returned (.agg #[.int .i64 f, .int .i64 t]) ∧ Mp.HasSet w' b n (has r) ∧ w.grownBy w' (some b) := by
  have ba := below_alloc1 w (.cells #[.int .i64 0, .int .i64 0] 44)
  have hbl := h.lt
  have HP0 := Lib.hid (Pr2.new w 0 0)
  have HS0 := h.alloc (.cells #[.int .i64 0, .int .i64 0] 44)
  have HG0 := Lib.hid (Li.grown_of_below ba)
  have e1 : (w.alloc (.cells #[.int .i64 0, .int .i64 0] 44)).heap.size = w.heap.size + 1 := by simp
  have HCH := Lib.hid h3
  have hmem : ∀ p, has ((f, t) :: r) p = true → f ≤ p ∧ p ≤ 2000 := fun p hp => by
    by_cases c : p < f
    · rw [has_lo (rs := (f, t) :: r) (lo := f) ⟨Int.le_refl _, h2, h3⟩ c] at hp; cases hp
    · obtain ⟨q, hq, _, hq2⟩ := (has_mem _ p).1 hp
      rcases List.mem_cons.1 hq with rfl | hq
      · have e : p ≤ t := hq2
        omega
      · have := h5 q hq
        omega
  have hff : has ((f, t) :: r) f = true := has_in (Int.le_refl _) h2
  have HMEM := Lib.hid hmem
  have HFF := Lib.hid hff
  clear h h3 h5 hmem hff
  go_enter Try.func56, Try.ntmps56
  go_wp2_with (first
    | (at_range; refine Mp.range _ rfl _ 52 rfl Try.underlying52 b n _ rfl HS0 ?_; intro w0 cnt hrg0 hle hg0 hs0)
    | go_in)
  rw [e1] at hrg0 hs0
  have HRG0 := Lib.hid hrg0
  have HP1 := Lib.hid (HP0.out.grown hg0 (by simp))
  have HG1 := Lib.hid (show w.grownBy w0 none from HG0.out.andThen hg0 (fun j hj => by cases hj))
  clear hrg0 hg0 HS0
  go_frame
  rw [e1]
  go_loopw [3] (fun x wr => ∃ (y : Int) (left : Int → Bool) (cnt : Nat), x = .int .i64 y ∧ Mp.Rg wr b (w.heap.size + 1) n (has ((f, t) :: r)) left cnt ∧ (y = 2000 ∨ has ((f, t) :: r) y = true) ∧ y ≤ 2000 ∧ (∀ p, has ((f, t) :: r) p = true → left p = false → y ≤ p) ∧ w.grownBy wr none ∧ Pr2 wr w.heap.size 0 0) (fun _ wr => wr.rangeLeft b (w.heap.size + 1))
  case atStart => exact ⟨2000, _, _, rfl, HRG0.out, _root_.Or.inl rfl, by omega, (fun p h1 h2 => by rw [h1] at h2; cases h2), HG1.out, HP1.out⟩
  case round =>
    obtain ⟨y, left, cnt, rfl, hrg, hy, hy2, hmin, hgw, hp⟩ := hrel
    clear HP1 HG1 HRG0
    have HRG := Lib.hid hrg
    have HMIN := Lib.hid hmin
    have HGW := Lib.hid hgw
    have HY := Lib.hid hy
    have HPP := Lib.hid hp
    clear hmin hgw hy hp
    go_wp2_with (first
      | (at_next; refine Mp.next _ rfl _ rfl b (w.heap.size + 1) n _ left cnt rfl hrg ?_ ?_)
      | go_in)
    · intro _ hl0
      have EY := Lib.hid (show y = f from by
        have h1 := HMIN.out f HFF.out (hl0 f)
        rcases HY.out with h | h
        · have := (HMEM.out f HFF.out).2
          have := HMIN.out
          omega
        · have := (HMEM.out y h).1
          omega)
      have HSS := Lib.hid (HRG.out.set)
      have HGW2 := Lib.hid (HGW.out.but (some b))
      clear hrg hl0
      rw [EY.out]
      go_wp2
      go_loopw [5] (fun x wr => ∃ y : Int, x = .int .i64 y ∧ f ≤ y ∧ y ≤ t + 1 ∧ Mp.HasSet wr b n (has ((y, t) :: r)) ∧ w.grownBy wr (some b) ∧ Pr2 wr w.heap.size 0 0) (fun x _ => (t + 1 - intOf x).toNat)
      case atStart => exact ⟨f, rfl, by omega, by omega, HSS.out, HGW2.out, HPP.out⟩
      case round =>
        obtain ⟨y2, rfl, hy1, hy3, hset, hg, hp⟩ := hrel
        clear HSS HGW2 HPP
        by_cases hc : y2 ≤ t
        · have hv : has ((y2, t) :: r) y2 = true := has_in (Int.le_refl _) hc
          have HSET := hset
          have HG := Lib.hid hg
          have HP := Lib.hid hp
          clear hg hp
          go_wp2_with (first
            | (at_lookup; refine Mp.look _ rfl _ _ 52 rfl Try.underlying52 b n _ y2 rfl HSET rfl ⟨by omega, by omega⟩ true hv ?_)
            | (at_delete; refine Mp.strike _ rfl _ _ 52 rfl Try.underlying52 b n _ y2 rfl HSET rfl ⟨by omega, by omega⟩ ?_; intro w2 hset2 hg2 hs2; go_frame)
            | go_in)
          have HS2 := Lib.hid (hset2.same (m' := has ((y2 + 1, t) :: r)) (fun p => (has_take1 HCH.out hc p).symm))
          have HG3 := Lib.hid (grown_then HG.out hg2 (_root_.Or.inr rfl))
          have HP3 := Lib.hid (HP.out.grown hg2 (fun e => by injection e with e; omega))
          have ep : wrap64 (y2 + 1) = y2 + 1 := IntWalk.wrap64_in _ (by omega)
          clear hset HSET hset2 hg2 hv
          go_wp2
          go_roundw
          case rel => exact ⟨y2 + 1, by first | rfl | go_num, by omega, by omega, HS2.out, HG3.out, HP3.out⟩
          case measure => simp [intOf]; omega
        · have e : y2 = t + 1 := by omega
          subst e
          have hv : has ((t + 1, t) :: r) (t + 1) = false := by rw [has_none (by omega)]; exact has_lo HCH.out (by omega)
          have HSE := Lib.hid (hset.same (m' := has r) (fun p => has_none (by omega) p))
          have HG := Lib.hid hg
          have c0 := hp.c0
          have c1 := hp.c1
          have f0 := hp.fr 0
          have f1 := hp.fr 1
          have Z0 := Lib.hid (hp.set f t).c0
          have Z1 := Lib.hid (hp.set f t).c1
          have ep : wrap64 (t + 1 - 1) = t := by rw [show t + 1 - 1 = t by omega]; exact IntWalk.wrap64_in _ (by omega)
          have hne : b ≠ w.heap.size := by omega
          have HSF := Lib.hid (show Mp.HasSet ((wr.setCell ⟨w.heap.size, 0, none⟩ (.int .i64 f)).setCell ⟨w.heap.size, 1, none⟩ (.int .i64 t)) b n (has r) from by
            obtain ⟨D, d1, d2⟩ := HSE.out
            exact ⟨D, (d1.setCell (a := ⟨w.heap.size, 0, none⟩) hne _).setCell (a := ⟨w.heap.size, 1, none⟩) hne _, d2⟩)
          have HGF := Lib.hid (show w.grownBy ((wr.setCell ⟨w.heap.size, 0, none⟩ (.int .i64 f)).setCell ⟨w.heap.size, 1, none⟩ (.int .i64 t)) (some b) from by
            have g1 := HG.out
            refine ⟨g1.os, g1.tape, g1.output, by simpa using g1.size, fun k hk hr => ?_⟩
            have hk2 : k ≠ w.heap.size := by omega
            rw [RowKit.Below.heap_setCell _ _ _ _ hk2, RowKit.Below.heap_setCell _ _ _ _ hk2]
            exact g1.block k hk hr)
          clear hp hg
          go_wp2_with (first
            | (at_lookup; refine Mp.look _ rfl _ _ 52 rfl Try.underlying52 b n _ (t + 1) rfl hset rfl ⟨by omega, by omega⟩ false hv ?_)
            | go_in)
          exact bodyPost_ret (v := .agg #[.int .i64 f, .int .i64 t]) (by simp [results, Try.results56, go_sem, Z0.out, Z1.out]) rfl ⟨rfl, HSF.out, HGF.out⟩
    · intro x w1 cnt1 hxa hxb hlx hmx hrg1 hlt hg1 hs1 hen
      have hxf := HMEM.out x hmx
      have HR1 := Lib.hid hrg1
      have HGN := Lib.hid (grown_then HGW.out hg1 (_root_.Or.inl (by omega)))
      have HPN := Lib.hid (HPP.out.grown hg1 (fun e => by injection e with e; omega))
      have EL := Lib.hid hrg.left_eq
      clear hrg hg1
      obtain ⟨z, hz⟩ : ∃ z, (if x < y then x else y) = z := ⟨_, rfl⟩
      have HZ := Lib.hid hz
      go_wp2
      go_roundw
      case rel => exact ⟨z, _, cnt1, by first | rfl | (simp; omega), HR1.out, by
        have := HZ.out
        split at this
        · exact _root_.Or.inr (this ▸ hmx)
        · rw [← this]; exact HY.out, by
        have := HZ.out
        split at this <;> omega, fun p hp1 hp2 => by
        have hz := HZ.out
        by_cases e : p = x
        · subst e; split at hz <;> omega
        · have := HMIN.out p hp1 (by simpa [e] using hp2)
          split at hz <;> omega, HGN.out, HPN.out⟩
      case measure => rw [HR1.out.left_eq, EL.out]; exact hlt
end Gw
end Go.Proofs.Ytdapdiciejlejaa
