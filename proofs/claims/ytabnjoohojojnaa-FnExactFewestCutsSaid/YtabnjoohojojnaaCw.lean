/- The fewest leaves that are cut out: the model. -/
import Derived.Test.YtabnjoohojojnaaCv
import Derived.Test.YtabnjoohojojnaaBf
namespace Go.Proofs.Ytabnjoohojojnaa
open Go.RowKit Go.Joins Go.Deep Go.ChangeShapes Go.WideShapes
set_option linter.unusedVariables false
set_option linter.unusedSimpArgs false
namespace Rz
open Ln
def fcN (zs : List Int) : Int := if bnd zs = true then (zs.length : Int) - (eb zs zs.length 100 : Int) else 0
def Kn (zs L : List Int) (n i : Nat) : Prop := L.length = n ∧ ∀ k, k < i → 0 < at' zs k → at' L k = (eb zs k (at' zs k) : Int) + 1
def Hf (zs L : List Int) (n i c : Nat) : Prop := Kn zs L n i ∧ at' L i = (eb zs c (at' zs i) : Int) + 1
theorem hf_start {zs L : List Int} {n i : Nat} (h : Kn zs L n i) (hi : i < n) : Hf zs (L.set i 1) n i 0 :=
  ⟨⟨by rw [List.length_set]; exact h.1, fun k hk hp => by rw [at_set0 L i k 1 (by rw [h.1]; exact hi), if_neg (by omega)]; exact h.2 k hk hp⟩, by rw [at_set0 L i i 1 (by rw [h.1]; exact hi), if_pos rfl]; rfl⟩
theorem hf_take {zs L : List Int} {n i c : Nat} (h : Hf zs L n i c) (hc : c < i) (hi : i < n) (h1 : 0 < at' zs c) (h2 : at' zs c < at' zs i) : Hf zs (L.set i (max (at' L i) (at' L c + 1))) n i (c + 1) := by
  refine ⟨⟨by rw [List.length_set]; exact h.1.1, fun k hk hp => by rw [at_set0 L i k _ (by rw [h.1.1]; exact hi), if_neg (by omega)]; exact h.1.2 k hk hp⟩, ?_⟩
  rw [at_set0 L i i _ (by rw [h.1.1]; exact hi), if_pos rfl, h.2, h.1.2 c hc h1]
  have e : eb zs (c + 1) (at' zs i) = max (eb zs c (at' zs i)) (eb zs c (at' zs c) + 1) := by
    rw [show eb zs (c + 1) (at' zs i) = max (eb zs c (at' zs i)) (if 0 < at' zs c ∧ at' zs c < at' zs i then eb zs c (at' zs c) + 1 else 0) from rfl, if_pos ⟨h1, h2⟩]
  rw [e]
  omega
theorem hf_skip {zs L : List Int} {n i c : Nat} (h : Hf zs L n i c) (h1 : ¬ (0 < at' zs c ∧ at' zs c < at' zs i)) : Hf zs L n i (c + 1) := by
  refine ⟨h.1, ?_⟩
  have e : eb zs (c + 1) (at' zs i) = eb zs c (at' zs i) := by
    rw [show eb zs (c + 1) (at' zs i) = max (eb zs c (at' zs i)) (if 0 < at' zs c ∧ at' zs c < at' zs i then eb zs c (at' zs c) + 1 else 0) from rfl, if_neg h1]; omega
  rw [e]; exact h.2
theorem hf_end {zs L : List Int} {n i : Nat} (h : Hf zs L n i i) : Kn zs L n (i + 1) :=
  ⟨h.1.1, fun k hk hp => by
    by_cases e : k = i
    · subst e; exact h.2
    · exact h.1.2 k (by omega) hp⟩
theorem kn_skip {zs L : List Int} {n i : Nat} (h : Kn zs L n i) (h1 : ¬ 0 < at' zs i) : Kn zs L n (i + 1) :=
  ⟨h.1, fun k hk hp => by
    by_cases e : k = i
    · subst e; exact absurd hp h1
    · exact h.2 k (by omega) hp⟩
theorem mo_take {zs L : List Int} {n i : Nat} (h : Hf zs L n i i) (h1 : 0 < at' zs i) (h2 : at' zs i < 100) : max (eb zs i 100 : Int) (at' L i) = (eb zs (i + 1) 100 : Int) := by
  rw [h.2, show eb zs (i + 1) 100 = max (eb zs i 100) (if 0 < at' zs i ∧ at' zs i < 100 then eb zs i (at' zs i) + 1 else 0) from rfl, if_pos ⟨h1, h2⟩]
  omega
theorem mo_skip {zs : List Int} {i : Nat} (h1 : ¬ 0 < at' zs i) : (eb zs i 100 : Int) = (eb zs (i + 1) 100 : Int) := by
  rw [show eb zs (i + 1) 100 = max (eb zs i 100) (if 0 < at' zs i ∧ at' zs i < 100 then eb zs i (at' zs i) + 1 else 0) from rfl, if_neg (fun h => h1 h.1)]
  omega
theorem l1Most_any (a b : Int) (w : World) : Calls Try.prog 61 #[.int .i64 a, .int .i64 b] w fun e w' => e = .returned (.int .i64 (max a b)) ∧ w = w' := by
  by_cases h : b < a
  · have E := Lib.hid (show max a b = a by omega)
    rw [E.out]
    go_enter Try.func61, Try.ntmps61
    go_wp2
    go_ret
    exact ⟨rfl, rfl⟩
  · have E := Lib.hid (show max a b = b by omega)
    rw [E.out]
    have t := decide_eq_false h
    clear h
    go_enter Try.func61, Try.ntmps61
    go_wp2
    go_ret
    exact ⟨rfl, rfl⟩
set_option maxRecDepth 100000 in
set_option maxHeartbeats 4000000 in
theorem sFewestCuts {b1 g len cap : Nat} {zs : List Int} {w : World} (h : Ow w b1 g len cap zs) (hl : len ≤ 1048576) :
    Calls Try.prog 33 #[.slice (some ⟨g, 0, none⟩) len cap] w (Ret (.tuple #[.int .i64 (fcN zs), .bool (bnd zs)]) w) := by
  obtain ⟨v, hv⟩ : ∃ v, bnd zs = v := ⟨_, rfl⟩
  have C1 := Lib.hid (biGood_any h hl v hv)
  rw [hv]
  cases v
  · rw [show fcN zs = 0 by unfold fcN; rw [hv]; rfl]
    clear h hv
    go_enter Try.func33, Try.ntmps33
    go_wp2_with fail
    refine C1.out.mono ?_
    rintro e w' ⟨rfl, rfl⟩
    go_wp2
    go_ret2
    exact ⟨rfl, Below.refl _ _⟩
  · have hz := ow_len h
    have hB := (bnd_iff zs).1 hv
    obtain ⟨R, hR⟩ : ∃ R, fcN zs = R := ⟨_, rfl⟩
    have HR := Lib.hid (show R = (len : Int) - (eb zs len 100 : Int) by rw [← hR]; unfold fcN; rw [if_pos hv, hz])
    have b8 := bnd_8 hB
    have h8 : len ≤ 8 := by have := hB.2.1; omega
    have HK := Lib.hid (show ∀ k, k < len → -8 ≤ zs.getD k 0 ∧ zs.getD k 0 ≤ 8 ∧ zs.getD k 0 ≠ 0 from fun k hk => by
      have := b8 k (by omega)
      have h0 := (hB.2.2.2 k (by omega)).1
      omega)
    have HO := Lib.hid h
    have HE := Lib.hid (fun c v => eb_le zs c v)
    obtain ⟨i0, hi, hz0, hz1, hz2⟩ := info_parts Li.info3
    rw [hR]
    clear h hv hz hR b8 hB
    go_enter Try.func33, Try.ntmps33
    go_wp2_with fail
    refine C1.out.mono ?_
    rintro e w' ⟨rfl, rfl⟩
    go_wp2_with (first | (at_make; refine wpList_make_full _ rfl _ _ 22 rfl w.heap.size 3 i0 (.int .i64 0) 1 Try.underlying22 hi hz0 hz1 _ _ _ _ len rfl rfl rfl rfl (by rw [hz2]; omega) (by unfold maxLen; omega) (Nat.le_refl _) ?_; intro w1 hown hg1))
    have hb0 := Li.below_of_grown hg1
    have h0 : w1.ownsRow w.heap.size 3 1 (.slice (some ⟨w.heap.size, 0, none⟩) len len) len (Li.nums (List.replicate len 0)) := by
      have e : (madeCells (Value.int .i64 0).cells (len * 1)).toList = List.replicate len (.int .i64 0) := by rw [Nat.mul_one]; exact toList_madeCells_one _ _
      have e2 : Li.nums (List.replicate len 0) = List.replicate len (.int .i64 0) := by simp [Li.nums]
      rw [e2, ← e]
      exact hown
    have H0 := Lib.hid h0
    have HB0 := Lib.hid hb0
    clear hown hg1 h0 hb0
    go_loopw [5, 8, 17] (fun m x p wr => ∃ (i : Nat) (M : Int) (L : List Int), i ≤ len ∧ p = .int .i64 (i : Int) ∧ m = .int .i64 M ∧ Hid (M = (eb zs i 100 : Int)) ∧ Hid (Kn zs L len i) ∧ Hid (wr.ownsRow w.heap.size 3 1 (.slice (some ⟨w.heap.size, 0, none⟩) len len) len (Li.nums L)) ∧ Hid (Below w.heap.size w wr)) (fun _ _ p _ => ((len : Int) - intOf p).toNat)
    case atStart => exact ⟨0, 0, List.replicate len 0, Nat.zero_le _, rfl, rfl, Lib.hid rfl, Lib.hid ⟨by simp, fun k hk => by omega⟩, H0, HB0⟩
    case round =>
      obtain ⟨i, M, L, hi2, rfl, rfl, HM, HKN, HOW, HB⟩ := hrel
      have hme := HE.out i 100
      have m1 : 0 ≤ M := by rw [HM.out]; omega
      have m2 : M ≤ 8 := by rw [HM.out]; omega
      clear hme
      by_cases hlt : (i : Int) < len
      · have hi3 : i < len := by omega
        obtain ⟨z, HZ, cz⟩ := ow_at (Li.own_on HO.out HB.out) hi3
        have hzb := HK.out i hi3
        rw [HZ.out] at hzb
        have z1 := hzb.1
        have z2 := hzb.2.1
        have z3 := hzb.2.2
        clear hzb
        by_cases hneg : z < 0
        · have HN := Lib.hid (show M = (eb zs (i + 1) 100 : Int) by rw [HM.out]; exact mo_skip (by unfold at'; rw [HZ.out]; omega))
          have HK2 := Lib.hid (kn_skip HKN.out (show ¬ 0 < at' zs i by unfold at'; rw [HZ.out]; omega))
          go_wp2
          go_roundw
          case rel => exact ⟨i + 1, M, L, by omega, by go_num, rfl, HN, HK2, HOW, HB⟩
          case measure => simp [intOf]; omega
        · have tneg : decide (z < 0) = false := by simpa using hneg
          have hpos : 0 < z := by omega
          have hown := HOW.out
          have hcp := own_at hown hi3
          have hfz := hown.frozenAt i
          obtain ⟨s1, gr1⟩ := hown.stored i (.int .i64 1)
          rw [nums_set] at s1
          have HS := Lib.hid s1
          have HH := Lib.hid (hf_start HKN.out hi3)
          have HB1 := Lib.hid (HB.out.setCell (p := ⟨w.heap.size, i, none⟩) (Nat.le_refl _) (.int .i64 1))
          clear s1 gr1 hown hneg
          go_wp2
          go_loopw [8] (fun x wi => ∃ (c : Nat) (L' : List Int), x = .int .i64 (c : Int) ∧ c ≤ i ∧ Hid (Hf zs L' len i c) ∧ Hid (wi.ownsRow w.heap.size 3 1 (.slice (some ⟨w.heap.size, 0, none⟩) len len) len (Li.nums L')) ∧ Hid (Below w.heap.size w wi)) (fun x _ => ((i : Int) - intOf x).toNat)
          case atStart => exact ⟨0, _, rfl, by omega, HH, HS, HB1⟩
          case round =>
            obtain ⟨c, L', rfl, hc, HHF, HOI, HBI⟩ := hrel
            by_cases hlt2 : (c : Int) < i
            · have hc3 : c < i := by omega
              obtain ⟨y, HY, cy⟩ := ow_at (Li.own_on HO.out HBI.out) (show c < len by omega)
              have hyb := HK.out c (by omega)
              rw [HY.out] at hyb
              have y1 := hyb.1
              have y2 := hyb.2.1
              clear hyb
              by_cases h1 : 0 < y
              · by_cases h2 : y < z
                · have HT := Lib.hid (hf_take HHF.out hc3 hi3 (show 0 < at' zs c by unfold at'; rw [HY.out]; exact h1) (show at' zs c < at' zs i by unfold at'; rw [HY.out, HZ.out]; exact h2))
                  have k1 := HHF.out.2
                  have k2 := HHF.out.1.2 c hc3 (show 0 < at' zs c by unfold at'; rw [HY.out]; exact h1)
                  have e1 := HE.out c (at' zs i)
                  have e2 := HE.out c (at' zs c)
                  have hcp := own_at HOI.out hi3
                  have hcn := own_at HOI.out (show c < len by omega)
                  have hfz := HOI.out.frozenAt i
                  obtain ⟨a, ha⟩ : ∃ a, at' L' i = a := ⟨_, rfl⟩
                  obtain ⟨b, hb⟩ : ∃ b, at' L' c = b := ⟨_, rfl⟩
                  rw [ha] at hcp k1 HT
                  rw [hb] at hcn k2 HT
                  have b1 : 0 ≤ b := by omega
                  have b2 : b ≤ 9 := by omega
                  have wadd : IntKind.i64.wrap (b + 1) = b + 1 := by rw [IntKind.wrap_i64]; omega
                  have CM := Lib.hid (fun W => l1Most_any a (b + 1) W)
                  obtain ⟨X, hX⟩ : ∃ X, max a (b + 1) = X := ⟨_, rfl⟩
                  rw [hX] at CM HT
                  have hcl : c < len := by omega
                  clear k1 k2 e1 e2 ha hb hX
                  go_wp2_with fail
                  go_still_tail 13, (by kernel_rfl)
                  still_call ((CM.out _).mono fun _ _ ⟨h1, h2⟩ => ⟨h1, h2.symm⟩)
                  repeat still_step
                  try refine wpStill_nil ?_
                  change wpList _ _ _ _ _ wr.drew
                  obtain ⟨w2, hw2⟩ : ∃ w2, wr.drew = w2 := ⟨_, rfl⟩
                  have HO2' := Li.own_on HOI.out (Below.refl wr.heap.size wr).drew
                  have HB2' := HBI.out.drew
                  rw [hw2] at HO2' HB2'
                  rw [hw2]
                  have hc2 := own_at HO2' hi3
                  have hf2 := HO2'.frozenAt i
                  obtain ⟨s1, gr1⟩ := HO2'.stored i (.int .i64 X)
                  rw [nums_set] at s1
                  have HS1 := Lib.hid s1
                  have HB3 := Lib.hid (HB2'.setCell (p := ⟨w.heap.size, i, none⟩) (Nat.le_refl _) (.int .i64 X))
                  clear s1 gr1 HO2' HB2' hcp hcn hfz hw2
                  go_wp2
                  go_roundw
                  case rel => exact ⟨c + 1, _, by go_num, by omega, HT, HS1, HB3⟩
                  case measure => simp [intOf]; omega
                · have HT := Lib.hid (hf_skip HHF.out (show ¬ (0 < at' zs c ∧ at' zs c < at' zs i) by unfold at'; rw [HY.out, HZ.out]; omega))
                  have t2 : decide (y < z) = false := by simpa using h2
                  clear h2
                  go_wp2
                  go_roundw
                  case rel => exact ⟨c + 1, L', by go_num, by omega, HT, HOI, HBI⟩
                  case measure => simp [intOf]; omega
              · have HT := Lib.hid (hf_skip HHF.out (show ¬ (0 < at' zs c ∧ at' zs c < at' zs i) by unfold at'; rw [HY.out, HZ.out]; omega))
                have t2 : decide (0 < y) = false := by simpa using h1
                clear h1
                go_wp2
                go_roundw
                case rel => exact ⟨c + 1, L', by go_num, by omega, HT, HOI, HBI⟩
                case measure => simp [intOf]; omega
            · have e : c = i := by omega
              subst e
              have hcp := own_at HOI.out hi3
              have HN := Lib.hid (show max M (at' L' c) = (eb zs (c + 1) 100 : Int) by rw [HM.out]; exact mo_take HHF.out (by unfold at'; rw [HZ.out]; exact hpos) (by unfold at'; rw [HZ.out]; omega))
              have HK2 := Lib.hid (hf_end HHF.out)
              obtain ⟨a, ha⟩ : ∃ a, at' L' c = a := ⟨_, rfl⟩
              rw [ha] at hcp HN
              have CM := Lib.hid (fun W => l1Most_any M a W)
              obtain ⟨X, hX⟩ : ∃ X, max M a = X := ⟨_, rfl⟩
              rw [hX] at CM HN
              clear ha hX
              go_wp2_with fail
              refine (CM.out _).mono ?_
              rintro e w' ⟨rfl, rfl⟩
              go_wp2
              go_roundw
              case rel => exact ⟨c + 1, X, L', by omega, by go_num, rfl, HN, HK2, HOI, HBI⟩
              case measure => simp [intOf]; omega
      · have ek : i = len := by omega
        have HQ := Lib.hid (show (len : Int) - M = R by rw [HM.out, ek, HR.out])
        clear ek
        go_wp2
        go_ret2
        exact ⟨by rw [HQ.out] <;> rfl, HB.out⟩
end Rz
end Go.Proofs.Ytabnjoohojojnaa
