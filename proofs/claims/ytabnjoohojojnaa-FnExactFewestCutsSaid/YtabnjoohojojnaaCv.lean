/- The longest rising lists from each place on, by the program. -/
import Derived.Test.YtabnjoohojojnaaCu
import Derived.Test.YtabnjoohojojnaaBy
import Derived.Deep.LoopGhost
import Derived.Deep.QuietTactic
import Derived.BigQuiet
import Derived.StillTailTactics
namespace Go.Proofs.Ytabnjoohojojnaa
open Go.RowKit Go.Joins Go.Deep Go.ChangeShapes Go.WideShapes
set_option linter.unusedVariables false
set_option linter.unusedSimpArgs false
namespace Rz
open Ln
theorem at_set0 (L : List Int) (i j : Nat) (x : Int) (hi : i < L.length) : at' (L.set i x) j = if j = i then x else at' L j := by
  unfold at'
  by_cases e : j = i
  · subst e; rw [if_pos rfl]; simp [List.getD, hi]
  · rw [if_neg e]; simp [List.getD, List.getElem?_set_ne (fun h => e h.symm)]
theorem nums_set (L : List Int) (i : Nat) (x : Int) : (Li.nums L).set i (.int .i64 x) = Li.nums (L.set i x) := by simp [Li.nums, List.map_set]
theorem at_set (L : List Int) (i j : Nat) (x : Int) (hi : i < L.length) : at' (L.set i x) j = if j = i then x else at' L j := at_set0 L i j x hi
/-- from q on the lengths are known, none greater than what is left -/
def Known (zs L : List Int) (n q : Nat) : Prop := L.length = n ∧ Rf zs L q ∧ ∀ i, q ≤ i → i < n → at' L i ≤ (n : Int) - i
/-- the place p is asked against the next ones ahead of x -/
def Half (zs L0 L : List Int) (n p x : Nat) : Prop := L.length = n ∧ (∀ i, i ≠ p → at' L i = at' L0 i) ∧ 1 ≤ at' L p ∧ at' L p ≤ (n : Int) - p ∧ (∀ j, p < j → j < x → at' zs p < at' zs j → at' L0 j + 1 ≤ at' L p) ∧
  (at' L p = 1 ∨ ∃ j, p < j ∧ j < x ∧ at' zs p < at' zs j ∧ at' L p = at' L0 j + 1)
theorem half_start {zs L0 : List Int} {n p : Nat} (h : L0.length = n) (hp : p < n) : Half zs L0 (L0.set p 1) n p (p + 1) := by
  have e := fun j => at_set L0 p j 1 (by omega)
  refine ⟨by simp [h], fun i hi => by rw [e, if_neg hi], ?_, ?_, fun j h1 h2 => by omega, ?_⟩
  · rw [e, if_pos rfl]; omega
  · rw [e, if_pos rfl]; omega
  · exact _root_.Or.inl (by rw [e, if_pos rfl])
theorem half_skip {zs L0 L : List Int} {n p x : Nat} (h : Half zs L0 L n p x) (hx : ¬ at' zs p < at' zs x) : Half zs L0 L n p (x + 1) := by
  obtain ⟨a, b, c, d, e, f⟩ := h
  refine ⟨a, b, c, d, fun j h1 h2 h3 => ?_, ?_⟩
  · by_cases ej : j = x
    · subst ej; exact absurd h3 hx
    · exact e j h1 (by omega) h3
  · rcases f with f | ⟨j, f1, f2, f3⟩
    · exact _root_.Or.inl f
    · exact _root_.Or.inr ⟨j, f1, by omega, f3⟩
theorem half_take {zs L0 L : List Int} {n p x : Nat} (h : Half zs L0 L n p x) (hp : p < n) (hpx : p < x) (hxn : x < n) (hx : at' zs p < at' zs x) (hk : ∀ i, p + 1 ≤ i → i < n → at' L0 i ≤ (n : Int) - i) :
    Half zs L0 (L.set p (max (at' L p) (at' L x + 1))) n p (x + 1) := by
  obtain ⟨a, b, c, d, e, f⟩ := h
  have ex : at' L x = at' L0 x := b x (by omega)
  have s := fun j => at_set L p j (max (at' L p) (at' L x + 1)) (by omega)
  have hxk := hk x (by omega) hxn
  refine ⟨by simp [a], fun i hi => by rw [s, if_neg hi]; exact b i hi, ?_, ?_, fun j h1 h2 h3 => ?_, ?_⟩
  · rw [s, if_pos rfl]; omega
  · rw [s, if_pos rfl, ex]; omega
  · rw [s, if_pos rfl, ex]
    by_cases ej : j = x
    · subst ej; omega
    · have := e j h1 (by omega) h3; omega
  · rw [s, if_pos rfl, ex]
    by_cases em : at' L p ≤ at' L0 x + 1
    · exact _root_.Or.inr ⟨x, hpx, by omega, hx, by omega⟩
    · rcases f with f | ⟨j, f1, f2, f3, f4⟩
      · exact _root_.Or.inl (by omega)
      · exact _root_.Or.inr ⟨j, f1, by omega, f3, by omega⟩
theorem half_done {zs L0 L : List Int} {n p : Nat} (hz : zs.length = n) (h : Half zs L0 L n p n) (hk : Known zs L0 n (p + 1)) (hp : p < n) : Known zs L n p := by
  obtain ⟨a, b, c, d, e, f⟩ := h
  obtain ⟨k1, k2, k3⟩ := hk
  refine ⟨a, fun i h1 h2 => ?_, fun i h1 h2 => ?_⟩
  · by_cases ei : i = p
    · subst ei
      refine ⟨c, fun j j1 j2 j3 => ?_, ?_⟩
      · rw [b j (by omega)]; exact e j j1 (by omega) j3
      · rcases f with f | ⟨j, f1, f2, f3, f4⟩
        · exact _root_.Or.inl f
        · exact _root_.Or.inr ⟨j, f1, by omega, f3, by rw [b j (by omega)]; exact f4⟩
    · obtain ⟨q1, q2, q3⟩ := k2 i (by omega) h2
      rw [b i ei]
      refine ⟨q1, fun j j1 j2 j3 => ?_, ?_⟩
      · rw [b j (by omega)]; exact q2 j j1 j2 j3
      · rcases q3 with q3 | ⟨j, f1, f2, f3, f4⟩
        · exact _root_.Or.inl q3
        · exact _root_.Or.inr ⟨j, f1, f2, f3, by rw [b j (by omega)]; exact f4⟩
  · by_cases ei : i = p
    · subst ei; exact d
    · rw [b i ei]; exact k3 i (by omega) h2
def RPost (zs : List Int) (n : Nat) (w : World) (e : Ending) (w' : World) : Prop := ∃ (g : Nat) (L : List Int), e = .returned (.slice (some ⟨g, 0, none⟩) n n) ∧ w'.ownsRow w.heap.size 3 1 (.slice (some ⟨g, 0, none⟩) n n) n (Li.nums L) ∧ Known zs L n 0 ∧ Below w.heap.size w w'
theorem own_at {W : World} {base g n cap : Nat} {L : List Int} (h : W.ownsRow base 3 1 (.slice (some ⟨g, 0, none⟩) n cap) n (Li.nums L)) {k : Nat} (hk : k < n) : W.cell? ⟨g, k, none⟩ = some (.int .i64 (at' L k)) := ow_cell h hk
set_option maxRecDepth 100000 in
set_option maxHeartbeats 2000000 in
theorem rising_any {b1 g len cap : Nat} {zs : List Int} {w : World} (h : Ow w b1 g len cap zs) (hl8 : len ≤ 9) (hl1 : 1 ≤ len) :
    Calls Try.prog 82 #[.slice (some ⟨g, 0, none⟩) len cap] w (RPost zs len w) := by
  obtain ⟨i0, hi, hz0, hz1, hz2⟩ := info_parts Li.info3
  have hz := ow_len h
  have HO := Lib.hid h
  have HZ := Lib.hid hz
  clear h hz
  go_enter Try.func82, Try.ntmps82
  go_wp2_with (first | (at_make; refine wpList_make_full _ rfl _ _ 22 rfl w.heap.size 3 i0 (.int .i64 0) 1 Try.underlying22 hi hz0 hz1 _ _ _ _ len rfl rfl rfl rfl (by rw [hz2]; omega) (by unfold maxLen; omega) (Nat.le_refl _) ?_; intro w1 hown hg1))
  have hb0 := Li.below_of_grown hg1
  have h0 : w1.ownsRow w.heap.size 3 1 (.slice (some ⟨w.heap.size, 0, none⟩) len len) len (Li.nums (List.replicate len 0)) := by
    have e : (madeCells (Value.int .i64 0).cells (len * 1)).toList = List.replicate len (.int .i64 0) := by rw [Nat.mul_one]; exact toList_madeCells_one _ _
    have e2 : Li.nums (List.replicate len 0) = List.replicate len (.int .i64 0) := by simp [Li.nums]
    rw [e2, ← e]
    exact hown
  have H0 := Lib.hid h0
  have HB0 := Lib.hid hb0
  clear hown hg1 h0 hb0
  go_loopg [4, 5] len (fun gk p x wr => ∃ (L : List Int), gk ≤ len ∧ p = .int .i64 ((gk : Int) - 1) ∧ Known zs L len gk ∧ wr.ownsRow w.heap.size 3 1 (.slice (some ⟨w.heap.size, 0, none⟩) len len) len (Li.nums L) ∧ Below w.heap.size w wr)
  case atStart => exact ⟨List.replicate len 0, Nat.le_refl _, rfl, ⟨by simp, fun i h1 h2 => by have := HZ.out; omega, fun i h1 h2 => by omega⟩, H0.out, HB0.out⟩
  case round =>
    obtain ⟨L, hgk, rfl, hkn, hown, hb⟩ := hrel
    have HKN := Lib.hid hkn
    have HOW := Lib.hid hown
    have HB := Lib.hid hb
    clear hkn hown hb
    by_cases hlt : 1 ≤ gk
    · obtain ⟨p, rfl⟩ : ∃ p, gk = p + 1 := ⟨gk - 1, by omega⟩
      have hp : p < len := by omega
      have ep : (((p + 1 : Nat) : Int) - 1) = (p : Int) := by omega
      rw [ep]
      clear ep
      have hown := HOW.out
      have hcp := own_at hown hp
      have hfz := hown.frozenAt p
      obtain ⟨s1, gr1⟩ := hown.stored p (.int .i64 1)
      rw [nums_set] at s1
      have HS := Lib.hid s1
      have HH := Lib.hid (half_start (zs := zs) HKN.out.1 hp)
      have HB1 := Lib.hid (HB.out.setCell (p := ⟨w.heap.size, p, none⟩) (Nat.le_refl _) (.int .i64 1))
      clear s1 gr1 hown
      go_wp2
      go_loopw [5] (fun x wi => ∃ (n : Nat) (L' : List Int), x = .int .i64 (n : Int) ∧ p < n ∧ n ≤ len ∧ Half zs L L' len p n ∧ wi.ownsRow w.heap.size 3 1 (.slice (some ⟨w.heap.size, 0, none⟩) len len) len (Li.nums L') ∧ Below w.heap.size w wi) (fun x _ => ((len : Int) - intOf x).toNat)
      case atStart => exact ⟨p + 1, _, by first | rfl | go_num, by omega, by omega, HH.out, HS.out, HB1.out⟩
      case round =>
        obtain ⟨n, L', rfl, hn1, hn2, hhf, hown, hb⟩ := hrel
        have HHF := Lib.hid hhf
        have HOI := Lib.hid hown
        have HBI := Lib.hid hb
        clear hhf hown hb
        by_cases hlt2 : (n : Int) < len
        · have hn3 : n < len := by omega
          obtain ⟨zp, HZP, cp⟩ := ow_at (Li.own_on HO.out HBI.out) hp
          obtain ⟨zn, HZN, cn⟩ := ow_at (Li.own_on HO.out HBI.out) hn3
          by_cases hlt3 : zp < zn
          · go_wp2
            go_quiet (fail)
            go_wp2
            have hbd : Below wr.heap.size wr (wr.drewN nq) := Li.below_draws (Below.refl _ _) nq
            have HOD := Lib.hid (Li.own_on HOI.out hbd)
            have HBD := Lib.hid (Li.below_draws HBI.out nq)
            clear hbd cp cn
            obtain ⟨wd, hwd⟩ : ∃ wd, wr.drewN nq = wd := ⟨_, rfl⟩
            rw [hwd] at HOD HBD
            simp only [hwd]
            have hcp := own_at HOD.out hp
            have hcn := own_at HOD.out hn3
            have hfz := HOD.out.frozenAt p
            have hk := HKN.out.2.2
            have lp1 := HHF.out.2.2.1
            have lp2 := HHF.out.2.2.2.1
            have ln := hk n (by omega) hn3
            have en := HHF.out.2.1 n (by omega)
            rw [← en] at ln
            have kn := (HKN.out.2.1 n (by omega) (by rw [HZ.out]; exact hn3)).1
            rw [← en] at kn
            have HT := Lib.hid (half_take HHF.out hp hn1 hn3 (show zs.getD p 0 < zs.getD n 0 by rw [HZP.out, HZN.out]; exact hlt3) hk)
            obtain ⟨a, ha⟩ : ∃ a, at' L' p = a := ⟨_, rfl⟩
            obtain ⟨b, hb⟩ : ∃ b, at' L' n = b := ⟨_, rfl⟩
            rw [ha] at hcp lp1 lp2
            rw [hb] at hcn ln kn
            have wadd : IntKind.i64.wrap (b + 1) = b + 1 := by rw [IntKind.wrap_i64]; omega
            rw [ha, hb] at HT
            obtain ⟨M, hM⟩ : ∃ M, max a (b + 1) = M := ⟨_, rfl⟩
            rw [hM] at HT
            have hif : (if a < b + 1 then b + 1 else a) = M := by rw [← hM]; split <;> omega
            clear hk en hwd ha hb hM
            go_still_tail 13, (by kernel_rfl)
            change wpList _ _ _ _ _ wd.drew
            obtain ⟨w2, hw2⟩ : ∃ w2, wd.drew = w2 := ⟨_, rfl⟩
            have HO2' := Li.own_on HOD.out (Below.refl wd.heap.size wd).drew
            have HB2' := HBD.out.drew
            rw [hw2] at HO2' HB2'
            rw [hw2]
            have hc2 := own_at HO2' hp
            have hf2 := HO2'.frozenAt p
            obtain ⟨s1, gr1⟩ := HO2'.stored p (.int .i64 M)
            rw [nums_set] at s1
            have HS1 := Lib.hid s1
            have HB3 := Lib.hid (HB2'.setCell (p := ⟨w.heap.size, p, none⟩) (Nat.le_refl _) (.int .i64 M))
            clear s1 gr1 HO2' HB2' hcp hcn hfz hw2
            go_wp2
            go_roundw
            case rel => exact ⟨n + 1, _, by go_num, by omega, by omega, HT.out, HS1.out, HB3.out⟩
            case measure => simp [intOf]; omega
          · have HN := Lib.hid (half_skip HHF.out (show ¬ zs.getD p 0 < zs.getD n 0 by rw [HZP.out, HZN.out]; exact hlt3))
            have t3 : decide (zp < zn) = false := by simpa using hlt3
            clear hlt3
            go_wp2
            go_quiet (fail)
            go_wp2
            have HOD := Lib.hid (Li.own_on HOI.out (Li.below_draws (Below.refl _ _) nq))
            have HBD := Lib.hid (Li.below_draws HBI.out nq)
            go_roundw
            case rel => exact ⟨n + 1, L', by go_num, by omega, by omega, HN.out, HOD.out, HBD.out⟩
            case measure => simp [intOf]; omega
        · have e : n = len := by omega
          subst e
          have HD := Lib.hid (half_done HZ.out HHF.out HKN.out hp)
          go_wp2
          go_roundg p
          case measure => omega
          case rel => exact ⟨L', by omega, by first | rfl | go_num, HD.out, HOI.out, HBI.out⟩
    · have e : gk = 0 := by omega
      subst e
      go_wp2
      go_ret
      exact ⟨_, L, rfl, HOW.out, HKN.out, HB.out⟩
end Rz
end Go.Proofs.Ytabnjoohojojnaa
