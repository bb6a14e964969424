/- FewestSwaps from both sides. -/
import Derived.Test.YtogkebbgkeffcabOwn
import Derived.Test.YtogkebbgkeffcabFsm
namespace Go.Proofs.Ytogkebbgkeffcab
open Go.RowKit Go.Joins Go.Deep Go.ChangeShapes Go.WideShapes
set_option linter.unusedVariables false
set_option linter.unusedSimpArgs false
namespace So
open Sh
def fs (zs : List Int) : Int := if Ns.good zs = true then ((Ns.all zs.length zs zs.length).1 : Int) else 0
theorem fs_no {zs : List Int} (h : Ns.good zs = false) : fs zs = 0 := by unfold fs; rw [h]; rfl
theorem fs_yes {zs : List Int} (h : Ns.good zs = true) : fs zs = ((Ns.all zs.length zs zs.length).1 : Int) := by unfold fs; rw [h]; rfl
theorem own_at {W : World} {base g n cap : Nat} {L : List Int} (h : W.ownsRow base 3 1 (.slice (some ⟨g, 0, none⟩) n cap) n (Li.nums L)) {k : Nat} (hk : k < n) : W.cell? ⟨g, k, none⟩ = some (.int .i64 (Ns.at' L k)) := ow_cell h hk
theorem nums_set (L : List Int) (i : Nat) (x : Int) : (Li.nums L).set i (.int .i64 x) = Li.nums (L.set i x) := by simp [Li.nums, List.map_set]
set_option maxRecDepth 100000 in
set_option maxHeartbeats 2000000 in
theorem sSwaps {b1 g len cap : Nat} {zs : List Int} {w : World} (h : Ow w b1 g len cap zs) (hl : len ≤ 1048576) :
    Calls Try.prog 9 #[.slice (some ⟨g, 0, none⟩) len cap] w (Ret (.tuple #[.int .i64 (fs zs), .bool (Ns.good zs)]) w) := by
  have HO0 := Lib.hid h
  have hz := ow_len h
  cases hg : Ns.good zs with
  | false =>
    have HG := Lib.hid hg
    have E := Lib.hid (fs_no hg)
    clear h hz hg
    rw [E.out]
    go_enter Try.func9, Try.ntmps9
    go_wp2_with fail
    refine (sStands_any HO0.out hl false HG.out).mono ?_
    rintro e w' ⟨rfl, rfl⟩
    have HB := Lib.hid (Below.refl w.heap.size w)
    go_wp2
    go_ret2
    exact ⟨rfl, HB.out⟩
  | true =>
    have HG := Lib.hid hg
    have hok := (Ns.good_iff zs).1 hg
    have E := Lib.hid (show fs zs = ((Ns.all len zs len).1 : Int) by rw [fs_yes hg, hz])
    have HI := Lib.hid (show Ns.Inj len zs by rw [← hz]; exact Ns.inj_of hok)
    have hl8 : len ≤ 8 := by have := hok.2.1; omega
    have h18 : 1 ≤ len := by have := hok.1; omega
    have HZ := Lib.hid hz
    clear h hz hg hok
    rw [E.out]
    go_enter Try.func9, Try.ntmps9
    go_wp2_with fail
    refine (sStands_any HO0.out hl true HG.out).mono ?_
    rintro e w' ⟨rfl, rfl⟩
    have HB := Lib.hid (Below.refl w.heap.size w)
    have HO := Lib.hid (Li.own_on HO0.out HB.out)
    go_wp2_with fail
    refine (l1Own_cells g len cap zs HZ.out hl _ (ow_lt HO.out).2 (fun j hj => ow_cell HO.out hj)).mono ?_
    rintro e w2 ⟨v2, rfl, o2, hb⟩
    have o3 := Li.own_le o2 (show w.heap.size ≤ _ from HB.out.size)
    rw [HZ.out] at o3
    have HB2 := Lib.hid (HB.out.trans (Sh.below_le hb HB.out.size))
    clear o2 hb
    rcases Li.own_forms o3 with ⟨rfl, h0⟩ | ⟨go, cp, rfl⟩
    · omega
    have HGO := Lib.hid (o3.lt go rfl)
    have HO3 := Lib.hid o3
    clear o3
    go_wp2
    go_loopw [4, 15] (fun n i wr => ∃ k : Nat, k ≤ len ∧ i = .int .i64 (k : Int) ∧ n = .int .i64 (((Ns.all len zs k).1 : Nat) : Int) ∧ wr.ownsRow w.heap.size 3 1 (.slice (some ⟨go, 0, none⟩) len cp) len (Li.nums (Ns.all len zs k).2) ∧ Below w.heap.size w wr) (fun _ i _ => ((len : Int) - intOf i).toNat)
    case atStart => exact ⟨0, by omega, rfl, rfl, HO3.out, HB2.out⟩
    case round =>
      obtain ⟨k, hk, rfl, rfl, hown, hb⟩ := hrel
      obtain ⟨wo, rfl⟩ : ∃ wo : World, wo = wr := ⟨_, rfl⟩
      have HOW := Lib.hid hown
      have HBO := Lib.hid hb
      clear hown hb
      by_cases hlt : (k : Int) < len
      · have hk2 : k < len := by omega
        obtain ⟨U, hU⟩ : ∃ U, (Ns.all len zs k).1 = U := ⟨_, rfl⟩
        obtain ⟨L0, hL0⟩ : ∃ L0, (Ns.all len zs k).2 = L0 := ⟨_, rfl⟩
        have ms := Ns.mend_start HI.out hk2
        rw [hU, hL0] at ms
        have HMS := Lib.hid ms
        rw [hU]
        have HOW2 := Lib.hid (show wo.ownsRow w.heap.size 3 1 (.slice (some ⟨go, 0, none⟩) len cp) len (Li.nums L0) by rw [← hL0]; exact HOW.out)
        clear ms hU hL0 HOW
        go_wp2
        go_loopw [4] (fun n wr => ∃ (c : Nat) (L : List Int), n = .int .i64 (c : Int) ∧ Ns.Mend len zs k c L ∧ wr.ownsRow w.heap.size 3 1 (.slice (some ⟨go, 0, none⟩) len cp) len (Li.nums L) ∧ Below w.heap.size w wr) (fun n _ => (100 - intOf n).toNat)
        case atStart => exact ⟨U, L0, rfl, HMS.out, HOW2.out, HBO.out⟩
        case round =>
          obtain ⟨c, L, rfl, hm, hown, hb⟩ := hrel
          have hc := Ns.mend_le hm
          have hc2 : c ≤ 64 := Nat.le_trans hc (Nat.mul_le_mul (show k + 1 ≤ 8 by omega) hl8)
          have hi := hm.choose_spec.1
          have q0 := own_at hown hk2
          obtain ⟨z, hzz⟩ : ∃ z, Ns.at' L k = z := ⟨_, rfl⟩
          have hz1 := hi.2.1 k hk2
          rw [hzz] at q0 hz1
          obtain ⟨m, rfl⟩ := Int.eq_ofNat_of_zero_le hz1.1
          have hm8 : m < len := by omega
          have HM := Lib.hid hm
          have HZZ := Lib.hid hzz
          have HBW := Lib.hid hb
          by_cases hmk : m = k
          · subst hmk
            obtain ⟨e1, e2⟩ := Ns.mend_end hm hzz
            have HE1 := Lib.hid e1
            have HON := Lib.hid (show wr.ownsRow w.heap.size 3 1 (.slice (some ⟨go, 0, none⟩) len cp) len (Li.nums (Ns.all len zs (m + 1)).2) by rw [← e2]; exact hown)
            clear e1 e2 hown hi hz1 hm hzz hc hb
            go_wp2
            go_roundw
            case rel => exact ⟨m + 1, by omega, by go_num, by rw [HE1.out], HON.out, HBW.out⟩
            case measure => simp [intOf]; omega
          · have hne : Ns.at' L k ≠ (k : Int) := by rw [hzz]; omega
            have HMN := Lib.hid (Ns.mend_next hk2 hm hne)
            have q1 := own_at hown hm8
            obtain ⟨y, hy⟩ : ∃ y, Ns.at' L m = y := ⟨_, rfl⟩
            rw [hy] at q1
            obtain ⟨s1, gr1⟩ := hown.stored k (.int .i64 y)
            obtain ⟨s2, gr2⟩ := s1.stored m (.int .i64 (m : Int))
            have HS2 := Lib.hid (show ((wr.setCell ⟨go, k, none⟩ (.int .i64 y)).setCell ⟨go, m, none⟩ (.int .i64 (m : Int))).ownsRow w.heap.size 3 1 (.slice (some ⟨go, 0, none⟩) len cp) len (Li.nums (Ns.ex L k)) by
              rw [nums_set, nums_set] at s2
              have e : Ns.ex L k = (L.set k y).set m (m : Int) := by
                unfold Ns.ex
                rw [hzz, Int.toNat_natCast, hy]
              rw [e]
              exact s2)
            have HB3 := Lib.hid ((hb.setCell (p := ⟨go, k, none⟩) HGO.out.1 (.int .i64 y)).setCell (p := ⟨go, m, none⟩) HGO.out.1 (.int .i64 (m : Int)))
            have f1 := hown.frozenAt k
            have f2 := hown.frozenAt m
            have t1 : (m == k) = false := by simpa using hmk
            have t2 : ((m : Int) == (k : Int)) = false := by simp; omega
            have t3 : ((m : Int) != (k : Int)) = true := by simp; omega
            have t4 : ¬ k = m := fun e => hmk e.symm
            clear s1 s2 gr1 gr2 hown hi hz1 hm hzz hc hne hy hb
            go_wp2
            go_roundw
            case rel => exact ⟨c + 1, Ns.ex L k, by go_num, HMN.out, HS2.out, HB3.out⟩
            case measure => simp [intOf]; omega
      · have EK := Lib.hid (show k = len by omega)
        go_wp2
        go_ret2
        exact ⟨by rw [← EK.out]; rfl, HBO.out⟩
set_option maxRecDepth 100000 in
set_option maxHeartbeats 2000000 in
theorem iSwaps {b1 g len cap : Nat} {zs : List Int} {w : World} (h : Ow w b1 g len cap zs) (hl : len ≤ 1048576) :
    Calls Try.prog 11 #[.slice (some ⟨g, 0, none⟩) len cap] w (Ret (.tuple #[.int .i64 (fs zs), .bool (Ns.good zs)]) w) := by
  have HO0 := Lib.hid h
  have hz := ow_len h
  cases hg : Ns.good zs with
  | false =>
    have HG := Lib.hid hg
    have E := Lib.hid (fs_no hg)
    clear h hz hg
    rw [E.out]
    go_enter Try.func11, Try.ntmps11
    go_wp2_with fail
    refine (iStands_any HO0.out hl false HG.out).mono ?_
    rintro e w1 ⟨rfl, hb⟩
    have HB := Lib.hid hb
    clear hb
    go_wp2
    go_ret2
    exact ⟨rfl, HB.out⟩
  | true =>
    have HG := Lib.hid hg
    have hok := (Ns.good_iff zs).1 hg
    have E := Lib.hid (show fs zs = ((Ns.all len zs len).1 : Int) by rw [fs_yes hg, hz])
    have HI := Lib.hid (show Ns.Inj len zs by rw [← hz]; exact Ns.inj_of hok)
    have hl8 : len ≤ 8 := by have := hok.2.1; omega
    have h18 : 1 ≤ len := by have := hok.1; omega
    have HZ := Lib.hid hz
    clear h hz hg hok
    rw [E.out]
    go_enter Try.func11, Try.ntmps11
    go_wp2_with fail
    refine (iStands_any HO0.out hl true HG.out).mono ?_
    rintro e w1 ⟨rfl, hb⟩
    have HB := Lib.hid hb
    clear hb
    have HO := Lib.hid (Li.own_on HO0.out HB.out)
    go_wp2_with fail
    refine (clone_cells g len cap zs HZ.out hl _ (ow_lt HO.out).2 (fun j hj => ow_cell HO.out hj)).mono ?_
    rintro e w2 ⟨v2, rfl, o2, hb⟩
    have o3 := Li.own_le o2 (show w.heap.size ≤ _ from HB.out.size)
    rw [HZ.out] at o3
    have HB2 := Lib.hid (HB.out.trans (Sh.below_le hb HB.out.size))
    clear o2 hb
    rcases Li.own_forms o3 with ⟨rfl, h0⟩ | ⟨go, cp, rfl⟩
    · omega
    have HGO := Lib.hid (o3.lt go rfl)
    have HO3 := Lib.hid o3
    clear o3
    go_wp2
    go_loopw [4, 15] (fun n i wr => ∃ k : Nat, k ≤ len ∧ i = .int .i64 (k : Int) ∧ n = .int .i64 (((Ns.all len zs k).1 : Nat) : Int) ∧ wr.ownsRow w.heap.size 3 1 (.slice (some ⟨go, 0, none⟩) len cp) len (Li.nums (Ns.all len zs k).2) ∧ Below w.heap.size w wr) (fun _ i _ => ((len : Int) - intOf i).toNat)
    case atStart => exact ⟨0, by omega, rfl, rfl, HO3.out, HB2.out⟩
    case round =>
      obtain ⟨k, hk, rfl, rfl, hown, hb⟩ := hrel
      obtain ⟨wo, rfl⟩ : ∃ wo : World, wo = wr := ⟨_, rfl⟩
      have HOW := Lib.hid hown
      have HBO := Lib.hid hb
      clear hown hb
      by_cases hlt : (k : Int) < len
      · have hk2 : k < len := by omega
        obtain ⟨U, hU⟩ : ∃ U, (Ns.all len zs k).1 = U := ⟨_, rfl⟩
        obtain ⟨L0, hL0⟩ : ∃ L0, (Ns.all len zs k).2 = L0 := ⟨_, rfl⟩
        have ms := Ns.mend_start HI.out hk2
        rw [hU, hL0] at ms
        have HMS := Lib.hid ms
        rw [hU]
        have HOW2 := Lib.hid (show wo.ownsRow w.heap.size 3 1 (.slice (some ⟨go, 0, none⟩) len cp) len (Li.nums L0) by rw [← hL0]; exact HOW.out)
        clear ms hU hL0 HOW
        go_wp2
        go_loopw [4] (fun n wr => ∃ (c : Nat) (L : List Int), n = .int .i64 (c : Int) ∧ Ns.Mend len zs k c L ∧ wr.ownsRow w.heap.size 3 1 (.slice (some ⟨go, 0, none⟩) len cp) len (Li.nums L) ∧ Below w.heap.size w wr) (fun n _ => (100 - intOf n).toNat)
        case atStart => exact ⟨U, L0, rfl, HMS.out, HOW2.out, HBO.out⟩
        case round =>
          obtain ⟨c, L, rfl, hm, hown, hb⟩ := hrel
          have hc := Ns.mend_le hm
          have hc2 : c ≤ 64 := Nat.le_trans hc (Nat.mul_le_mul (show k + 1 ≤ 8 by omega) hl8)
          have hi := hm.choose_spec.1
          have q0 := own_at hown hk2
          obtain ⟨z, hzz⟩ : ∃ z, Ns.at' L k = z := ⟨_, rfl⟩
          have hz1 := hi.2.1 k hk2
          rw [hzz] at q0 hz1
          obtain ⟨m, rfl⟩ := Int.eq_ofNat_of_zero_le hz1.1
          have hm8 : m < len := by omega
          have HM := Lib.hid hm
          have HZZ := Lib.hid hzz
          have HBW := Lib.hid hb
          by_cases hmk : m = k
          · subst hmk
            obtain ⟨e1, e2⟩ := Ns.mend_end hm hzz
            have HE1 := Lib.hid e1
            have HON := Lib.hid (show wr.ownsRow w.heap.size 3 1 (.slice (some ⟨go, 0, none⟩) len cp) len (Li.nums (Ns.all len zs (m + 1)).2) by rw [← e2]; exact hown)
            clear e1 e2 hown hi hz1 hm hzz hc hb
            go_wp2
            go_roundw
            case rel => exact ⟨m + 1, by omega, by go_num, by rw [HE1.out], HON.out, HBW.out⟩
            case measure => simp [intOf]; omega
          · have hne : Ns.at' L k ≠ (k : Int) := by rw [hzz]; omega
            have HMN := Lib.hid (Ns.mend_next hk2 hm hne)
            have q1 := own_at hown hm8
            obtain ⟨y, hy⟩ : ∃ y, Ns.at' L m = y := ⟨_, rfl⟩
            rw [hy] at q1
            obtain ⟨s1, gr1⟩ := hown.stored k (.int .i64 y)
            obtain ⟨s2, gr2⟩ := s1.stored m (.int .i64 (m : Int))
            have HS2 := Lib.hid (show ((wr.setCell ⟨go, k, none⟩ (.int .i64 y)).setCell ⟨go, m, none⟩ (.int .i64 (m : Int))).ownsRow w.heap.size 3 1 (.slice (some ⟨go, 0, none⟩) len cp) len (Li.nums (Ns.ex L k)) by
              rw [nums_set, nums_set] at s2
              have e : Ns.ex L k = (L.set k y).set m (m : Int) := by
                unfold Ns.ex
                rw [hzz, Int.toNat_natCast, hy]
              rw [e]
              exact s2)
            have HB3 := Lib.hid ((hb.setCell (p := ⟨go, k, none⟩) HGO.out.1 (.int .i64 y)).setCell (p := ⟨go, m, none⟩) HGO.out.1 (.int .i64 (m : Int)))
            have f1 := hown.frozenAt k
            have f2 := hown.frozenAt m
            have t1 : (m == k) = false := by simpa using hmk
            have t2 : ((m : Int) == (k : Int)) = false := by simp; omega
            have t3 : ((m : Int) != (k : Int)) = true := by simp; omega
            have t4 : ¬ k = m := fun e => hmk e.symm
            clear s1 s2 gr1 gr2 hown hi hz1 hm hzz hc hne hy hb
            go_wp2
            go_roundw
            case rel => exact ⟨c + 1, Ns.ex L k, by go_num, HMN.out, HS2.out, HB3.out⟩
            case measure => simp [intOf]; omega
      · have EK := Lib.hid (show k = len by omega)
        go_wp2
        go_ret2
        exact ⟨by rw [← EK.out]; rfl, HBO.out⟩
end So
end Go.Proofs.Ytogkebbgkeffcab
