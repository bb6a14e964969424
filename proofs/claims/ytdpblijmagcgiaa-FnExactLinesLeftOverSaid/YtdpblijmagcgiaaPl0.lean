/- The breaks that are allowed: the program. -/
import Derived.Test.YtdpblijmagcgiaaAr
namespace Go.Proofs.Ytdpblijmagcgiaa
open Go.RowKit Go.Joins Go.Deep Go.ChangeShapes Go.WideShapes
set_option linter.unusedVariables false
set_option linter.unusedSimpArgs false
namespace Ln
theorem ibA_len {zs : List Int} (h : Okp zs) (k : Nat) (hk : k ≤ zs.length) : (ibA zs k).length ≤ 60 * k := by
  induction k with
  | zero => simp [ibA]
  | succ k ih =>
    have h1 := ih (by omega)
    have h2 := h.2.2 k (by omega)
    rw [ibA_step, List.length_append, List.length_append, ib1_len]
    simp only [List.length_cons, List.length_nil]
    omega
set_option maxRecDepth 100000 in
set_option maxHeartbeats 4000000 in
theorem allowedBreaks_any {b1 g len cap : Nat} {zs : List Int} {w : World} (h : Ow w b1 g len cap zs) (ho : Okp zs) :
    Calls Try.prog 71 #[.slice (some ⟨g, 0, none⟩) len cap] w fun e w' => ∃ v, e = .returned v ∧ w'.ownsRow w.heap.size 3 1 v (ibA zs len).length (Li.nums (ibA zs len)) ∧ Below w.heap.size w w' := by
  have HO := Lib.hid h
  have HZ := Lib.hid (ow_len h)
  have h12 : len ≤ 12 := by have := ho.2.1; have := ow_len h; omega
  have HA := Lib.hid (fun k (hk : k < len) => ho.2.2 k (by have := ow_len h; omega))
  have HL := Lib.hid (fun k (hk : k ≤ len) => ibA_len ho k (by have := ow_len h; omega))
  have HP := Lib.hid (fun k (hk : k ≤ len) => by have := psum_bd ho.2.2 0 k (by have := ow_len h; omega); rw [Nat.zero_add] at this; exact this)
  obtain ⟨i0, hi, hz0, hz1, hz2⟩ := info_parts Li.info3
  clear h ho
  go_enter Try.func71, Try.ntmps71
  go_wp2
  go_loopw [3, 4, 10] (fun v s i wr => ∃ (k : Nat) (P : Int) (vv : Value), vv = v ∧ k ≤ len ∧ i = .int .i64 (k : Int) ∧ s = .int .i64 P ∧ Hid (P = psum zs k) ∧ wr.ownsRow w.heap.size 3 1 vv (ibA zs k).length (Li.nums (ibA zs k)) ∧ Below w.heap.size w wr) (fun _ _ i _ => ((len : Int) - intOf i).toNat)
  case atStart => exact ⟨0, 0, _, rfl, by omega, rfl, rfl, Lib.hid rfl, World.ownsRow_nil _ _ _ _, Below.refl _ _⟩
  case round =>
    obtain ⟨k, P, vv, rfl, hk, rfl, rfl, HS, hown, hb⟩ := hrel
    have HB := Lib.hid hb
    clear hb
    have hp := HP.out k hk
    rw [show psum zs 0 = 0 from rfl, ← HS.out] at hp
    have p1 : 0 ≤ P := by omega
    have p2 : P ≤ 720 := by omega
    clear hp
    by_cases hlt : (k : Int) < len
    · obtain ⟨z, HZK, hc⟩ := ow_at (Li.own_on HO.out HB.out) (k := k) (by omega)
      have hza := HA.out k (by omega)
      rw [HZK.out] at hza
      obtain ⟨n, rfl⟩ := Int.eq_ofNat_of_zero_le (show 0 ≤ z by omega)
      have hn1 : 1 ≤ n := by omega
      have hn2 : n ≤ 60 := by omega
      have HS2 := Lib.hid (show P + (n : Int) = psum zs (k + 1) by rw [psum_step, ← HS.out, HZK.out])
      have HN := Lib.hid (ibA_step zs k)
      rw [HZK.out, ← HS.out, ← HS2.out, Int.toNat_natCast] at HN
      have hM := HL.out k (by omega)
      obtain ⟨M, hMe⟩ : ∃ M, ibA zs k = M := ⟨_, rfl⟩
      rw [hMe] at hown HN hM
      have hown0 : wr.ownsRow w.heap.size 3 1 vv (M ++ ib1 P 0).length (Li.nums (M ++ ib1 P 0)) := by rw [show ib1 P 0 = [] from rfl, List.append_nil]; exact hown
      clear hza hMe hown
      go_wp2
      go_loopw [3, 7] (fun v i wr => ∃ (j : Nat) (vv : Value), vv = v ∧ j ≤ n - 3 ∧ i = .int .i64 ((j : Int) + 2) ∧ wr.ownsRow w.heap.size 3 1 vv (M ++ ib1 P j).length (Li.nums (M ++ ib1 P j)) ∧ Below w.heap.size w wr) (fun _ i _ => ((n : Int) + 2 - intOf i).toNat)
      case atStart => exact ⟨0, _, rfl, by omega, rfl, hown0, HB.out⟩
      case round =>
        obtain ⟨j, vv, rfl, hj, rfl, hown, hbi⟩ := hrel
        by_cases hle : j < n - 3
        · have hle2 : (j : Int) + 2 ≤ (n : Int) - 2 := by omega
          have HSQ0 := Lib.hid (show M ++ ib1 P (j + 1) = (M ++ ib1 P j) ++ [P + ((j : Int) + 2)] by rw [show ib1 P (j + 1) = ib1 P j ++ [P + ((j : Int) + 2)] from rfl, ← List.append_assoc])
          have hq0 : (M ++ ib1 P j).length ≤ 800 := by rw [List.length_append, ib1_len]; omega
          obtain ⟨Q, hQ⟩ : ∃ Q, M ++ ib1 P j = Q := ⟨_, rfl⟩
          rw [hQ] at hown HSQ0 hq0
          clear hQ
          have HOw := Lib.hid (hown.alloc (.cells #[.int .i64 (P + ((j : Int) + 2))] 3))
          have HLT := Lib.hid (fun i hj => (hown.lt i hj).1)
          have hsi := hbi.size
          have HBi := Lib.hid hbi
          clear hown hbi
          go_wp2_with (first | (at_builtin; refine wpList_append_own _ rfl _ _ 22 rfl w.heap.size 3 i0 (.int .i64 0) 1 8 Try.underlying22 hi hz0 hz1 hz2 rfl (by decide) _ _ _ rfl HOw.out ⟨_, 0, none⟩ 1 1 [.int .i64 (P + ((j : Int) + 2))] rfl rfl (cell_one_new _ _ _) (fun x hx => by simp at hx; subst hx; rfl) (by unfold maxLen; omega) (by omega) (by simp; omega) ?_; intro v3 w3 hown3 hgrow3 _))
          have HB4 := Lib.hid (Below.grown (HBi.out.alloc HBi.out.size (.cells #[.int .i64 (P + ((j : Int) + 2))] 3)) hgrow3 (by simp; omega) HLT.out)
          have HO3 := Lib.hid (show w3.ownsRow w.heap.size 3 1 v3 (M ++ ib1 P (j + 1)).length (Li.nums (M ++ ib1 P (j + 1))) by rw [HSQ0.out, nums_snoc, List.length_append]; exact hown3)
          clear hown3 hgrow3
          go_roundw
          case rel => exact ⟨j + 1, _, rfl, by omega, by go_num, HO3.out, HB4.out⟩
          case measure => simp [intOf] <;> omega
        · have hle2 : ¬ (j : Int) + 2 ≤ (n : Int) - 2 := by omega
          have ej : j = n - 3 := by omega
          have HN2 := Lib.hid (show ibA zs (k + 1) = (M ++ ib1 P j) ++ [P + (n : Int)] by rw [HN.out, ej, List.append_assoc])
          have hq0 : (M ++ ib1 P j).length ≤ 800 := by rw [List.length_append, ib1_len]; omega
          obtain ⟨Q, hQ⟩ : ∃ Q, M ++ ib1 P j = Q := ⟨_, rfl⟩
          rw [hQ] at hown HN2 hq0
          clear hQ ej
          have HOw := Lib.hid (hown.alloc (.cells #[.int .i64 (P + (n : Int))] 3))
          have HLT := Lib.hid (fun i hj => (hown.lt i hj).1)
          have hsi := hbi.size
          have HBi := Lib.hid hbi
          clear hown hbi
          go_wp2_with (first | (at_builtin; refine wpList_append_own _ rfl _ _ 22 rfl w.heap.size 3 i0 (.int .i64 0) 1 8 Try.underlying22 hi hz0 hz1 hz2 rfl (by decide) _ _ _ rfl HOw.out ⟨_, 0, none⟩ 1 1 [.int .i64 (P + (n : Int))] rfl rfl (cell_one_new _ _ _) (fun x hx => by simp at hx; subst hx; rfl) (by unfold maxLen; omega) (by omega) (by simp; omega) ?_; intro v3 w3 hown3 hgrow3 _))
          have HB4 := Lib.hid (Below.grown (HBi.out.alloc HBi.out.size (.cells #[.int .i64 (P + (n : Int))] 3)) hgrow3 (by simp; omega) HLT.out)
          have HO3 := Lib.hid (show w3.ownsRow w.heap.size 3 1 v3 (ibA zs (k + 1)).length (Li.nums (ibA zs (k + 1))) by rw [HN2.out, nums_snoc, List.length_append]; exact hown3)
          clear hown3 hgrow3
          go_roundw
          case rel => exact ⟨k + 1, P + (n : Int), _, rfl, by omega, by go_num, by first | rfl | go_num, HS2, HO3.out, HB4.out⟩
          case measure => simp [intOf] <;> omega
    · have HE := Lib.hid (show k = len by omega)
      have HOw := Lib.hid hown
      clear hown
      go_wp2
      go_ret
      exact ⟨_, rfl, by rw [← HE.out]; exact HOw.out, HB.out⟩
theorem areParagraphs_any {b1 g len cap : Nat} {zs : List Int} {w : World} (h : Ow w b1 g len cap zs) (hl : len ≤ 1048576) (v : Bool) (hv : (parB zs && allB zs 1 60) = v) :
    Calls Try.prog 69 #[.slice (some ⟨g, 0, none⟩) len cap] w fun e w' => e = .returned (.bool v) ∧ w = w' := by
  have C := Lib.hid (areNumbers_any 12 60 h hl v (by rw [← hv]; rfl))
  clear h hv
  go_enter Try.func69, Try.ntmps69
  go_wp2_with fail
  refine C.out.mono ?_
  rintro e w' ⟨rfl, rfl⟩
  go_wp2
  go_ret
  exact ⟨rfl, rfl⟩
theorem isLinesOfPage_any (n : Int) (v : Bool) (hv : pageB n = v) (w : World) :
    Calls Try.prog 70 #[.int .i64 n] w fun e w' => e = .returned (.bool v) ∧ w = w' := by
  unfold pageB at hv
  by_cases c1 : 2 ≤ n
  · by_cases c2 : n ≤ 60
    · have e : v = true := by rw [← hv]; simp [c1, c2]
      subst e
      clear hv
      go_enter Try.func70, Try.ntmps70
      go_wp2
      go_ret
      exact ⟨rfl, rfl⟩
    · have e : v = false := by rw [← hv]; simp [c2]
      subst e
      have t2 : decide (n ≤ 60) = false := by simpa using c2
      clear hv c2
      go_enter Try.func70, Try.ntmps70
      go_wp2
      go_ret
      exact ⟨rfl, rfl⟩
  · have e : v = false := by rw [← hv]; simp [c1]
    subst e
    have t2 : decide (2 ≤ n) = false := by simpa using c1
    clear hv c1
    go_enter Try.func70, Try.ntmps70
    go_wp2
    go_ret
    exact ⟨rfl, rfl⟩
/-- a row of the call's own, its end left out -/
theorem own_shrink {W : World} {base g n cap k : Nat} {zs : List Int} (h : W.ownsRow base 3 1 (.slice (some ⟨g, 0, none⟩) n cap) n (Li.nums zs)) (hk : k ≤ n) : W.ownsRow base 3 1 (.slice (some ⟨g, 0, none⟩) k cap) k (Li.nums (zs.take k)) := by
  obtain ⟨h1, h2⟩ := h
  have hz : zs.length = n := by simpa [Li.nums] using h1
  refine ⟨by simp [Li.nums]; omega, ?_⟩
  rcases h2 with ⟨h3, _⟩ | ⟨g', cap', cur, hv, hb, hh, hn, hm, hs, ht⟩
  · cases h3
  · injection hv with hv1 hv2 hv3
    subst hv3
    injection hv1 with hv1
    injection hv1 with hv1
    subst hv1
    refine _root_.Or.inr ⟨g, cap, cur, rfl, hb, hh, by omega, hm, hs, ?_⟩
    have e : Li.nums (zs.take k) = (Li.nums zs).take k := by simp [Li.nums]
    rw [e, ← ht, List.take_take, Nat.mul_one, Nat.mul_one, Nat.min_eq_left hk]
theorem alZ_len (zs : List Int) (n : Int) : (alZ zs n).length ≤ 1048576 := by
  unfold alZ
  split
  · next h =>
    have hp := (pags_ok h).1
    have := alA_len hp zs.length (Nat.le_refl _)
    have := hp.2.1
    omega
  · simp
set_option maxRecDepth 100000 in
set_option maxHeartbeats 1000000 in
theorem iAllowed {b1 g len cap : Nat} {zs : List Int} {n : Int} {w : World} (h : Ow w b1 g len cap zs) (hl : len ≤ 1048576) :
    Calls Try.prog 38 #[.slice (some ⟨g, 0, none⟩) len cap, .int .i64 n] w (Gives (pags zs n) (alZ zs n) w) := by
  have hz := ow_len h
  obtain ⟨x1, hx1⟩ : ∃ x, (parB zs && allB zs 1 60) = x := ⟨_, rfl⟩
  obtain ⟨x2, hx2⟩ : ∃ x, pageB n = x := ⟨_, rfl⟩
  have C1 := Lib.hid (areParagraphs_any h hl x1 hx1)
  have C2 := Lib.hid (fun W => isLinesOfPage_any n x2 hx2 W)
  have hp : pags zs n = (x1 && x2) := by unfold pags; rw [hx1, hx2]
  rw [hp]
  cases x1
  · rw [show alZ zs n = [] by unfold alZ; rw [hp]; rfl]
    clear h hx1 hx2 hp
    go_enter Try.func38, Try.ntmps38
    go_wp2_with fail
    refine C1.out.mono ?_
    rintro e w' ⟨rfl, rfl⟩
    go_wp2
    go_ret2
    exact ⟨_, rfl, World.ownsRow_nil _ _ _ _, Below.refl _ _⟩
  · cases x2
    · rw [show alZ zs n = [] by unfold alZ; rw [hp]; rfl]
      clear h hx1 hx2 hp
      go_enter Try.func38, Try.ntmps38
      go_wp2_with fail
      refine C1.out.mono ?_
      rintro e w' ⟨rfl, rfl⟩
      go_wp2_with fail
      refine (C2.out _).mono ?_
      rintro e w' ⟨rfl, rfl⟩
      go_wp2
      go_ret2
      exact ⟨_, rfl, World.ownsRow_nil _ _ _ _, Below.refl _ _⟩
    · have hok := (pags_ok hp).1
      have C3 := Lib.hid (allowedBreaks_any h hok)
      have hal := alA_all (fun k hk => (hok.2.2 k hk).1) hok.1
      have hlen := alA_len hok zs.length (Nat.le_refl _)
      have hl2 := hok.2.1
      rw [hz] at hal hlen
      rw [hal] at C3
      rw [show alZ zs n = alA zs len by unfold alZ; rw [hp, hz]; rfl]
      obtain ⟨L, hL⟩ : ∃ L, alA zs len = L := ⟨_, rfl⟩
      obtain ⟨s, hs⟩ : ∃ s, psum zs len = s := ⟨_, rfl⟩
      rw [hL] at hlen
      rw [hL, hs] at C3
      rw [hL]
      rw [List.length_append, show [s].length = 1 from rfl] at C3
      clear h hx1 hx2 hp hok hal hL hs
      go_enter Try.func38, Try.ntmps38
      go_wp2_with fail
      refine C1.out.mono ?_
      rintro e w' ⟨rfl, rfl⟩
      go_wp2_with fail
      refine (C2.out _).mono ?_
      rintro e w' ⟨rfl, rfl⟩
      go_wp2_with fail
      refine C3.out.mono ?_
      rintro e w1 ⟨v, rfl, ho, hb⟩
      obtain ⟨gq, cp, rfl⟩ : ∃ gq cp, v = .slice (some ⟨gq, 0, none⟩) (L.length + 1) cp := by
        rcases Li.own_forms ho with ⟨_, h0⟩ | h1
        · omega
        · exact h1
      have HO := Lib.hid (own_shrink ho (Nat.le_succ _))
      have hcp := (ow_cap ho).1
      have r1 := to_run gq 0 (L.length + 1) cp L.length (by omega)
      have r2 : ((L.length + 1 : Nat) : Int) - 1 = (L.length : Int) := by omega
      clear ho
      go_wp2
      go_ret2
      exact ⟨_, rfl, by have := HO.out; rwa [List.take_left] at this, hb⟩
end Ln
end Go.Proofs.Ytdpblijmagcgiaa
