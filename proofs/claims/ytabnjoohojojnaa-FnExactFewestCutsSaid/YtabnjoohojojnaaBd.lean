/- A part turned, by the model. -/
import Derived.Test.YtabnjoohojojnaaBc
import Derived.Laws.AppendOwnNone
namespace Go.Proofs.Ytabnjoohojojnaa
open Go.RowKit Go.Joins Go.Deep Go.ChangeShapes Go.WideShapes
set_option linter.unusedVariables false
set_option linter.unusedSimpArgs false
namespace Ln
/-- an empty list of the call's own -/
theorem own_empty (w : World) (base : Nat) (hb : base ≤ w.heap.size) (z : Array Value) (hz : z.size = 0) : (w.alloc (.cells z 3)).ownsRow base 3 1 (.slice (some ⟨w.heap.size, 0, none⟩) 0 0) 0 [] := by
  refine ⟨rfl, _root_.Or.inr ⟨w.heap.size, 0, z, rfl, hb, ?_, Nat.le_refl _, Nat.zero_le _, by simpa using hz, by simp⟩⟩
  show (w.heap.push _)[w.heap.size]? = _
  simp
theorem src_at {w : World} {base go n cap : Nat} {zs : List Int} (h : Ow w base go n cap zs) (z : Array Value) :
    ∀ j u, (Li.nums zs)[j]? = some u → (w.alloc (.cells z 3)).cell? ((⟨go, 0, none⟩ : Addr).add j) = some u := by
  have hl := ow_len h
  have hg := (ow_lt h).2
  intro j u hu
  have hj : j < n := by
    rcases Nat.lt_or_ge j n with h1 | h1
    · exact h1
    · rw [List.getElem?_eq_none (by rw [Li.nums_length]; omega)] at hu
      cases hu
  have e := ow_cell h hj
  have e2 : (⟨go, 0, none⟩ : Addr).add j = ⟨go, j, none⟩ := by simp [Addr.add]; intro h; exact h.symm
  rw [e2, World.cell?_alloc_lt w _ ⟨go, j, none⟩ hg, e, ← hu]
  simp [Li.nums, List.getD, List.getElem?_eq_getElem (show j < zs.length by omega)]
theorem nums_one (zs : List Int) : ∀ x ∈ Li.nums zs, x.oneCell' = true := by
  intro x hx
  obtain ⟨a, _, rfl⟩ := List.mem_map.1 hx
  rfl
/-- a copy of a list of the call's own -/
theorem l1Own_any {base n : Nat} {v : Value} {zs : List Int} {w : World} (h : w.ownsRow base 3 1 v n (Li.nums zs)) (hn : n ≤ 1048576) :
    Calls Try.prog 54 #[v] w fun e w' => ∃ v', e = .returned v' ∧ w'.ownsRow w.heap.size 3 1 v' n (Li.nums zs) ∧ Below w.heap.size w w' := by
  obtain ⟨i0, hi, hz0, hz1, hz2⟩ := info_parts Li.info3
  have O := own_empty w w.heap.size (Nat.le_refl _) #[] rfl
  have HO := Lib.hid O
  rcases Li.own_forms h with ⟨rfl, rfl⟩ | ⟨go, cap, rfl⟩
  · have hz : zs = [] := List.eq_nil_of_length_eq_zero (by have := h.1; simpa [Li.nums] using this)
    subst hz
    clear h
    go_enter Try.func54, Try.ntmps54
    go_wp2_with (first | (at_builtin; refine wpList_append_own_none rfl _ _ 22 rfl w.heap.size 3 i0 1 Try.underlying22 hi _ _ _ rfl O rfl ?_))
    go_ret
    exact ⟨_, rfl, HO.out, below_alloc1 w (.cells #[] 3)⟩
  · have hl := ow_len h
    have HL := Lib.hid hl
    have HH := Lib.hid (src_at h #[])
    have HN := Lib.hid (show (Li.nums zs).length = n * 1 by rw [Li.nums_length, hl, Nat.mul_one])
    clear h hl
    go_enter Try.func54, Try.ntmps54
    go_wp2_with (first | (at_builtin; refine wpList_append_own _ rfl _ _ 22 rfl w.heap.size 3 i0 (.int .i64 0) 1 8 Try.underlying22 hi hz0 hz1 hz2 rfl (by decide) _ _ _ rfl O ⟨go, 0, none⟩ n cap (Li.nums zs) rfl HN.out HH.out (nums_one zs) (by unfold maxLen; omega) (by omega) (by simp) ?_; intro v2 w2 hown2 hgrow2 hnil2))
    clear O
    go_ret
    refine ⟨_, rfl, by simpa using hown2, (below_alloc1 w (.cells #[] 3)).grown hgrow2 (by simp) (fun j hj => by have := (HO.out.lt j hj).1; omega)⟩
/-- turned from f on, as far as i -/
def tS (zs : List Int) (f t i : Nat) : List Int := (List.range zs.length).map fun j => if f ≤ j ∧ j < i then -zs.getD (f + t - j) 0 else zs.getD j 0
theorem tS_len (zs : List Int) (f t i : Nat) : (tS zs f t i).length = zs.length := by simp [tS]
theorem tS_at (zs : List Int) (f t i j : Nat) (hj : j < zs.length) : (tS zs f t i).getD j 0 = if f ≤ j ∧ j < i then -zs.getD (f + t - j) 0 else zs.getD j 0 := by
  simp [tS, List.getD, hj]
theorem ext_getD {l l' : List Int} (hl : l.length = l'.length) (h : ∀ j, j < l.length → l.getD j 0 = l'.getD j 0) : l = l' := by
  refine List.ext_getElem hl fun j h1 h2 => ?_
  have := h j h1
  simpa [List.getD, List.getElem?_eq_getElem h1, List.getElem?_eq_getElem h2] using this
theorem tS_start (zs : List Int) (f t : Nat) : tS zs f t f = zs := by
  refine ext_getD (tS_len _ _ _ _) fun j hj => ?_
  rw [tS_len] at hj
  rw [tS_at _ _ _ _ _ hj, if_neg (by omega)]
theorem tS_set (zs : List Int) (f t i : Nat) (hf : f ≤ i) (hi : i < zs.length) : (Li.nums (tS zs f t i)).set i (.int .i64 (-zs.getD (f + t - i) 0)) = Li.nums (tS zs f t (i + 1)) := by
  unfold Li.nums
  rw [← List.map_set]
  congr 1
  refine ext_getD (by rw [List.length_set, tS_len, tS_len]) fun j hj => ?_
  rw [List.length_set, tS_len] at hj
  rw [tS_at _ _ _ _ _ hj]
  by_cases e : j = i
  · subst e
    rw [if_pos (by omega)]
    simp [List.getD, tS_len, hj]
  · have : ((tS zs f t i).set i (-zs.getD (f + t - i) 0)).getD j 0 = (tS zs f t i).getD j 0 := by
      have e' : ¬ i = j := fun h => e h.symm
      simp [List.getD, List.getElem?_set, e']
    rw [this, tS_at _ _ _ _ _ hj]
    by_cases c : f ≤ j ∧ j < i
    · rw [if_pos c, if_pos (by omega)]
    · rw [if_neg c, if_neg (by omega)]
def tL (zs : List Int) (f t : Nat) : List Int := tS zs f t (t + 1)
set_option maxRecDepth 100000 in
set_option maxHeartbeats 4000000 in
theorem biTurn_any {b1 g len cap : Nat} {zs : List Int} {w : World} (h : Ow w b1 g len cap zs) (h8 : len ≤ 8) (hz : ∀ k, k < len → -8 ≤ zs.getD k 0 ∧ zs.getD k 0 ≤ 8) (f t : Nat) (hft : f ≤ t) (ht : t < len) :
    Calls Try.prog 57 #[.slice (some ⟨g, 0, none⟩) len cap, .int .i64 (f : Int), .int .i64 (t : Int)] w fun e w' => ∃ v, e = .returned v ∧ w'.ownsRow w.heap.size 3 1 v len (Li.nums (tL zs f t)) ∧ Below w.heap.size w w' := by
  have HL := Lib.hid (ow_len h)
  have C := Lib.hid (l1Own_any h (by omega))
  have HO := Lib.hid h
  have HK := Lib.hid hz
  clear h hz
  go_enter Try.func57, Try.ntmps57
  go_wp2_with fail
  refine C.out.mono ?_
  rintro e w1 ⟨v, rfl, ho, hb⟩
  rcases Li.own_forms ho with ⟨_, h0⟩ | ⟨a, cp, rfl⟩
  · omega
  have HB0 := Lib.hid hb
  have H0 := Lib.hid (show Ow w1 w.heap.size a len cp (tS zs f t f) by rw [tS_start]; exact ho)
  clear ho hb
  go_wp2
  go_loopw [8] (fun x wr => ∃ (i : Nat), f ≤ i ∧ i ≤ t + 1 ∧ x = .int .i64 (i : Int) ∧ Hid (Ow wr w.heap.size a len cp (tS zs f t i)) ∧ Hid (Below w.heap.size w wr)) (fun x _ => ((t : Int) + 1 - intOf x).toNat)
  case atStart => exact ⟨f, by omega, by omega, rfl, H0, HB0⟩
  case round =>
    obtain ⟨i, hi1, hi2, rfl, HT, HB⟩ := hrel
    clear H0 HB0
    by_cases hlt : i ≤ t
    · have hlt2 : (i : Int) ≤ (t : Int) := by omega
      have hil : i < len := by omega
      obtain ⟨z, HZK, hc⟩ := ow_at (Li.own_on HO.out HB.out) (k := f + t - i) (by omega)
      have hzb := HK.out (f + t - i) (by omega)
      rw [HZK.out] at hzb
      have z1 := hzb.1
      have z2 := hzb.2
      have x1 : wrap64 (-z) = -z := IntWalk.wrap64_in _ (by omega)
      have hc2 := ow_cell HT.out hil
      obtain ⟨y, hy⟩ : ∃ y, (tS zs f t i).getD i 0 = y := ⟨_, rfl⟩
      rw [hy] at hc2
      have hf := HT.out.frozenAt i
      have hst := (HT.out.stored i (.int .i64 (-z))).1
      have hss := tS_set zs f t i hi1 (by rw [HL.out]; exact hil)
      rw [HZK.out] at hss
      rw [hss] at hst
      have HST2 := Lib.hid hst
      have HB3 := Lib.hid (HB.out.setCell (p := ⟨a, i, none⟩) (ow_lt HT.out).1 (.int .i64 (-z)))
      have i1 : (0 : Int) ≤ (f : Int) + (t : Int) - (i : Int) := by omega
      have i2 : (f : Int) + (t : Int) - (i : Int) < (len : Int) := by omega
      have i3 : wrap64 ((f : Int) + (t : Int) - (i : Int)) = (f : Int) + (t : Int) - (i : Int) := IntWalk.wrap64_in _ (by omega)
      clear hst hss hy hzb
      go_wp2_with go_in
      go_roundw
      case rel => exact ⟨i + 1, by omega, by omega, by first | rfl | go_num, HST2, HB3⟩
      case measure => simp [intOf] <;> omega
    · have HE := Lib.hid (show i = t + 1 by omega)
      have hlt2 : ¬ (i : Int) ≤ (t : Int) := by omega
      go_wp2
      go_ret
      exact ⟨_, rfl, by unfold tL; rw [← HE.out]; exact HT.out, HB.out⟩
end Ln
end Go.Proofs.Ytabnjoohojojnaa
