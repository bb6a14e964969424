/- FirstVolumes from both sides. -/
import Derived.Test.YtkfoapidmockfaaLv5
import Derived.Test.YtkfoapidmockfaaFf5
import Derived.IntWalk
namespace Go.Proofs.Ytkfoapidmockfaa
open Go.RowKit Go.Joins Go.Deep Go.ChangeShapes Go.WideShapes
set_option linter.unusedVariables false
set_option linter.ambiguousOpen false
set_option linter.unusedSimpArgs false
namespace Ch
open Sh
theorem cut_run (go o k cp a : Nat) (ai : Int) (hai : ai = (a : Int)) (ha : a ≤ k) (hc : k ≤ cp) : ∃ o' : Nat, (∀ W, (Instr.slice 22 (.slice (some ⟨go, o, none⟩) k cp) (some (.int .i64 ai)) none none).run Try.prog W = .ok (.slice (some ⟨go, o', none⟩) (k - a) (cp - a)) W) ∧ (o' = o + a ∨ k - a = 0) := by
  subst hai
  refine ⟨if cp = a then o else o + a, fun W => ?_, ?_⟩
  · rw [run_slice_l W 22 (some ⟨go, o, none⟩) k cp (by kernel_rfl) .i64 (a : Int) (by omega) (by omega)]
    have e : (sizeOf (Try.prog.elem 22)).run Try.prog W = .ok 1 W := by kernel_rfl
    rw [e]
    simp only [Result.andThen, sliced, Int.toNat_natCast, Nat.mul_one]
    by_cases h : cp = a
    · simp [h]
    · simp [h, Addr.add]
  · by_cases h : cp = a
    · exact _root_.Or.inr (by omega)
    · exact _root_.Or.inl (by rw [if_neg h])
theorem at_cut {W : World} {b o o' k a : Nat} {l : List Int} (h : Il.At W b o k l) (ha : a ≤ k) (ho : o' = o + a ∨ k - a = 0) : Il.At W b o' (k - a) (l.drop a) := by
  have d := at_drop h a ha
  rcases ho with rfl | h0
  · exact d
  · exact ⟨d.1, d.2.1, d.2.2.1, fun j hj => by omega⟩
/-- the answer -/
def fvl (zs : List Int) (v : Int) : List Int := if ask zs v = true then fv ((lv zs v : Nat) : Int) v.toNat zs else []
theorem fvl_no {zs : List Int} {v : Int} (h : ask zs v = false) : fvl zs v = [] := by unfold fvl; rw [h]; rfl
theorem fvl_yes {zs : List Int} {V : Nat} (h : ask zs (V : Int) = true) : fvl zs (V : Int) = fv ((lv zs (V : Int) : Nat) : Int) V zs := by unfold fvl; rw [if_pos h, Int.toNat_natCast]
theorem fvl_len (zs : List Int) (v : Int) : (fvl zs v).length ≤ 1048576 := by
  unfold fvl
  cases h : ask zs v with
  | false => simp
  | true =>
    have := ask_parts h
    simp only [if_true]
    rw [fv_length]
    omega
/-- no chapter has more pages than the least volume -/
theorem lv_all {zs : List Int} {v : Int} (ha : ask zs v = true) : (∀ z ∈ zs, z ≤ ((lv zs v : Nat) : Int)) ∧ lv zs v ≤ 1440 := by
  obtain ⟨hg, hv1, hv5, hvn⟩ := ask_parts ha
  have ho := (good_iff zs).1 hg
  have GD := good_of ho
  have hex : ∃ K, 1 ≤ K ∧ K ≤ 1440 ∧ fit zs v K = true ∧ ∀ u, 1 ≤ u → u < K → fit zs v u = false := by
    have : ∀ n, 1 ≤ n → fit zs v n = true → ∃ K, 1 ≤ K ∧ K ≤ n ∧ fit zs v K = true ∧ ∀ u, 1 ≤ u → u < K → fit zs v u = false := by
      intro n
      induction n with
      | zero => intro h; omega
      | succ n ih =>
        intro h1 hn
        by_cases c : ∃ u, 1 ≤ u ∧ u < n + 1 ∧ fit zs v u = true
        · obtain ⟨u, u1, u2, u3⟩ := c
          by_cases e : u = n
          · subst e
            obtain ⟨K, k1, k2, k3, k4⟩ := ih u1 u3
            exact ⟨K, k1, by omega, k3, k4⟩
          · have hun : ∃ w, 1 ≤ w ∧ w ≤ n ∧ fit zs v w = true ∧ ∀ q, 1 ≤ q → q < w → fit zs v q = false := by
              clear ih
              have : ∀ m, ∀ u, u ≤ m → 1 ≤ u → fit zs v u = true → ∃ w, 1 ≤ w ∧ w ≤ u ∧ fit zs v w = true ∧ ∀ q, 1 ≤ q → q < w → fit zs v q = false := by
                intro m
                induction m with
                | zero => intro u h1 h2; omega
                | succ m ihm =>
                  intro u h1 h2 h3
                  by_cases c2 : ∃ q, 1 ≤ q ∧ q < u ∧ fit zs v q = true
                  · obtain ⟨q, q1, q2, q3⟩ := c2
                    obtain ⟨w, w1, w2, w3, w4⟩ := ihm q (by omega) q1 q3
                    exact ⟨w, w1, by omega, w3, w4⟩
                  · exact ⟨u, h2, Nat.le_refl _, h3, fun q q1 q2 => by
                      cases h : fit zs v q with
                      | false => rfl
                      | true => exact absurd ⟨q, q1, q2, h⟩ c2⟩
              obtain ⟨w, w1, w2, w3, w4⟩ := this u u (Nat.le_refl _) u1 u3
              exact ⟨w, w1, by omega, w3, w4⟩
            obtain ⟨K, k1, k2, k3, k4⟩ := hun
            exact ⟨K, k1, by omega, k3, k4⟩
        · exact ⟨n + 1, h1, Nat.le_refl _, hn, fun q q1 q2 => by
            cases h : fit zs v q with
            | false => rfl
            | true => exact absurd ⟨q, q1, q2, h⟩ c⟩
    exact this 1440 (by omega) (fit_great GD ho.1 hv1 (Nat.le_refl _))
  obtain ⟨K, k1, k2, k3, k4⟩ := hex
  have e : lv zs v = K := lv_is k1 (by omega) k3 k4
  rw [e]
  refine ⟨fun z hz => ?_, k2⟩
  rcases Int.lt_or_le (K : Int) z with h | h
  · rw [fit_small hz h] at k3
    cases k3
  · exact h
/-- what is left ahead of a volume -/
def Left (W : World) (g o k c v : Nat) (M : Int) (l : List Int) : Prop := Il.At W g o k l ∧ k ≤ c ∧ c ≤ maxLen ∧ Good l ∧ (∀ z ∈ l, z ≤ M) ∧ v ≤ k
theorem Left.on {W W' : World} {g o k c v : Nat} {M : Int} {l : List Int} (h : Left W g o k c v M l) (hb : Below W.heap.size W W') : Left W' g o k c v M l := ⟨h.1.on hb, h.2⟩
theorem Left.next {W : World} {g o o' k c v n : Nat} {M : Int} {l : List Int} (h : Left W g o k c (v + 1) M l) (ho : o' = o + n ∨ k - n = 0) (h1 : 1 ≤ n) (hn : n ≤ k) (hl : ∀ u, 1 ≤ u → u < n → v + 1 ≤ vn M (l.drop u)) : Left W g o' (k - n) (c - n) v M (l.drop n) :=
  ⟨at_cut h.1 hn ho, by have := h.2.1; omega, by have := h.2.2.1; omega, h.2.2.2.1.drop n, fun z hz => h.2.2.2.2.1 z (List.mem_of_mem_drop hz), by
    have := enough_left h.2.2.2.1 h.2.2.2.2.1 h1 (by rw [h.1.1]; exact h.2.2.2.2.2) hl
    rw [h.1.1] at this
    exact this⟩
theorem Left.cv {W : World} {g o o' k c v n : Nat} {M : Int} {l : List Int} (h : Left W g o k c v M l) (ho : o' = o + n ∨ k - n = 0) (hn : n ≤ k) (h0 : 0 ≤ M) (h5 : M ≤ 5000) :
    Calls Try.prog 51 #[.slice (some ⟨g, o', none⟩) (k - n) (c - n), .int .i64 M] W fun e w' => e = .returned (.int .i64 ((vn M (l.drop n) : Nat) : Int)) ∧ W = w' := by
  have := cv_any (cap := c - n) (m := M) (at_cut h.1 hn ho) (h.2.2.2.1.drop n) h0 h5
  rw [cv_yes ((allLe_iff _ _).2 fun z hz => h.2.2.2.2.1 z (List.mem_of_mem_drop hz))] at this
  exact this
theorem Left.vn {W : World} {g o o' k c v n : Nat} {M : Int} {l : List Int} (h : Left W g o k c v M l) (ho : o' = o + n ∨ k - n = 0) (hn : n ≤ k) (h0 : 0 ≤ M) (h5 : M ≤ 5000) (cap : Nat) :
    Calls Try.prog 50 #[.slice (some ⟨g, o', none⟩) (k - n) cap, .int .i64 M] W fun e w' => e = .returned (.int .i64 ((vn M (l.drop n) : Nat) : Int)) ∧ W = w' := by
  have a := at_cut h.1 hn ho
  exact vn_any (cap := cap) (m := M) a (h.2.2.2.1.drop n) (fun j hj => h.2.2.2.2.1 _ (List.mem_of_mem_drop (mem_at (by rw [a.1]; exact hj)))) h0 h5
theorem Left.small {W : World} {g o k c v : Nat} {M : Int} {l : List Int} (h : Left W g o k c v M l) : k ≤ 12 := by have := h.2.2.2.1.1; rw [h.1.1] at this; exact this
set_option maxRecDepth 100000 in
set_option maxHeartbeats 8000000 in
theorem sFirstV {b1 g len cap : Nat} {zs : List Int} {w : World} (h : Ow w b1 g len cap zs) (hl : len ≤ 1048576) (v : Int) :
    Calls Try.prog 30 #[.slice (some ⟨g, 0, none⟩) len cap, .int .i64 v] w (Li.Gives (ask zs v) (fvl zs v) w) := by
  obtain ⟨i0, hi, hz0, hz1, hz2⟩ := info_parts Li.info3
  have HO := Lib.hid h
  have hz := ow_len h
  cases ha : ask zs v with
  | false =>
    have HG := Lib.hid ha
    have E := Lib.hid (fvl_no ha)
    rw [E.out]
    clear h hz ha
    go_enter Try.func30, Try.ntmps30
    go_wp2_with fail
    refine (sAsk_any HO.out hl v false HG.out).mono ?_
    rintro e w' ⟨rfl, rfl⟩
    go_wp2
    go_ret2
    exact Li.Gives.none (Below.refl _ _)
  | true =>
    have HG := Lib.hid ha
    obtain ⟨hg, hv1, hv5, hvn⟩ := ask_parts ha
    obtain ⟨V, rfl⟩ := Int.eq_ofNat_of_zero_le (show 0 ≤ v by omega)
    have E := Lib.hid (fvl_yes ha)
    obtain ⟨hM, hM2⟩ := lv_all ha
    obtain ⟨M, hMq⟩ : ∃ M, lv zs (V : Int) = M := ⟨_, rfl⟩
    have C := Lib.hid (caLeast_any h hl (V : Int) ha)
    rw [hMq] at hM hM2 E C
    have hcap := (ow_cap h).1
    have hcap2 := (ow_cap h).2
    have L0 := Lib.hid (show Left w g 0 len cap V (M : Int) zs from ⟨ow_off h hl, hcap, hcap2, good_of ((good_iff zs).1 hg), hM, by omega⟩)
    have hV5 : V ≤ 5 := by omega
    clear h hz ha hg hM hMq hcap hcap2 hv1 hv5 hvn
    go_enter Try.func30, Try.ntmps30
    go_wp2_with fail
    refine (sAsk_any HO.out hl (V : Int) true HG.out).mono ?_
    rintro e w' ⟨rfl, rfl⟩
    go_wp2_with fail
    refine C.out.mono ?_
    rintro e w' ⟨rfl, rfl⟩
    go_wp2
    go_loopg [0, 1, 7] V (fun gk s x out wr => ∃ (o k c u : Nat) (l ys : List Int), gk = u ∧ s = .slice (some ⟨g, o, none⟩) k c ∧ x = .int .i64 (u : Int) ∧ u ≤ V ∧ Left w g o k c u (M : Int) l ∧ ys ++ fv (M : Int) u l = fv (M : Int) V zs ∧ ys.length ≤ V ∧ wr.ownsRow w.heap.size 3 1 out ys.length (Li.nums ys) ∧ Below w.heap.size w wr)
    case atStart => exact ⟨0, len, cap, V, zs, [], rfl, rfl, rfl, Nat.le_refl _, L0.out, rfl, by simp, World.ownsRow_nil _ _ _ _, Below.refl _ _⟩
    case round =>
      obtain ⟨o, k, c, u, l, ys, hgku, rfl, rfl, huV, hleft, hys, hyl, hown, hb⟩ := hrel
      have HGK := Lib.hid hgku
      clear hgku
      obtain ⟨wo, rfl⟩ : ∃ wo : World, wo = wr := ⟨_, rfl⟩
      have HL := Lib.hid hleft
      have HY := Lib.hid hys
      have HOW := Lib.hid hown
      have HB := Lib.hid hb
      have hk12 := hleft.small
      have hkc := hleft.2.1
      have hcm := hleft.2.2.1
      have hku := hleft.2.2.2.2.2
      unfold maxLen at hcm
      clear hleft hys hown hb
      by_cases hu : (0 : Int) < (u : Int)
      · obtain ⟨u', huq⟩ : ∃ u', u = u' + 1 := ⟨u - 1, by omega⟩
        have HU := Lib.hid huq
        have hup : u' < u := by omega
        have hud : decide (0 < u) = true := by simp; omega
        clear huq
        have HLO := Lib.hid (show Left wo g o k c (u' + 1) (M : Int) l by rw [← HU.out]; exact HL.out.on HB.out)
        go_wp2
        go_loopg [8] 19 (fun gi y wr => ∃ n : Nat, gi = 20 - n ∧ y = .int .i64 (n : Int) ∧ 1 ≤ n ∧ n ≤ k ∧ (∀ q, 1 ≤ q → q < n → u' + 1 ≤ vn (M : Int) (l.drop q)) ∧ wr = wo)
        case atStart => exact ⟨1, rfl, rfl, Nat.le_refl _, by omega, fun q q1 q2 => by omega, rfl⟩
        case round =>
          obtain ⟨n, hgi, rfl, hn1, hnk, hall, hww⟩ := hrel
          subst hww
          obtain ⟨wo, rfl⟩ : ∃ wo : World, wo = wr := ⟨_, rfl⟩
          have HGI := Lib.hid hgi
          clear hgi
          have HAL := Lib.hid hall
          obtain ⟨o', hr, ho'⟩ := cut_run g o k c n (n : Int) rfl hnk hkc
          have HOP := Lib.hid ho'
          have CV := Lib.hid (HLO.out.cv ho' hnk (by omega) (by omega))
          have hXle := vn_le (M : Int) (l.drop n)
          rw [List.length_drop, HL.out.1.1] at hXle
          have hX1 : n < k → 1 ≤ vn (M : Int) (l.drop n) := fun hlt => by
            have e2 : l.drop n = l[n]'(by rw [HL.out.1.1]; exact hlt) :: l.drop (n + 1) := List.drop_eq_getElem_cons (by rw [HL.out.1.1]; exact hlt)
            rw [e2]
            exact vn_pos _ _ _ (HL.out.2.2.2.1.2 _ (List.getElem_mem _)).1
          have NI := Lib.hid (fun (hx : vn (M : Int) (l.drop n) < u' + 1) => nn_is (m := (M : Int)) (v := u' + 1) (l := l) hn1 (by rw [HL.out.1.1]; exact hnk) hx hall)
          have HN1 := Lib.hid (fun (hx : u' + 1 ≤ vn (M : Int) (l.drop n)) => (show ∀ q, 1 ≤ q → q < n + 1 → u' + 1 ≤ vn (M : Int) (l.drop q) from fun q q1 q2 => by
            by_cases e : q = n
            · subst e; exact hx
            · exact hall q q1 (by omega)))
          obtain ⟨X, hX⟩ : ∃ X, vn (M : Int) (l.drop n) = X := ⟨_, rfl⟩
          rw [hX] at CV hXle hX1 NI HN1
          have HX1 := Lib.hid hX1
          clear hall ho' hX hX1
          by_cases a1 : u = 1 ∧ n < k
          · have t1 : ((u : Int) == 1) = true := by simp; omega
            have t2 : (n : Int) < (k : Int) := by omega
            have HX := Lib.hid (HN1.out (by have := HX1.out a1.2; omega))
            clear a1
            go_wp2
            go_roundg (20 - (n + 1))
            case measure => have := HGI.out; omega
            case rel => exact ⟨n + 1, rfl, by go_num, by omega, by omega, HX.out, rfl⟩
          · by_cases a2 : u ≤ X
            · have hu1 : ¬ u = 1 := fun h => a1 ⟨h, by omega⟩
              have t1 : ((u : Int) == 1) = false := by simp; omega
              have t3 : (u : Int) - 1 < (X : Int) := by omega
              have HX := Lib.hid (HN1.out (by have := HU.out; omega))
              have hnk2 : n < k := by omega
              clear a1 a2 hu1
              go_wp2_with (first | (go_at_call 51; refine CV.out.mono ?_; rintro e w' ⟨rfl, rfl⟩))
              go_roundg (20 - (n + 1))
              case measure => have := HGI.out; omega
              case rel => exact ⟨n + 1, rfl, by go_num, by omega, by omega, HX.out, rfl⟩
            · have EN := Lib.hid (NI.out (by have := HU.out; omega))
              have t3 : ¬ (u : Int) - 1 < (X : Int) := by omega
              have LN := Lib.hid (Left.next (v := u') (by rw [← HU.out]; exact HL.out) HOP.out hn1 hnk HAL.out)
              have EY := Lib.hid (show (ys ++ [(n : Int)]) ++ fv (M : Int) u' (l.drop n) = fv (M : Int) V zs by
                rw [← HY.out, List.append_assoc, HU.out]
                show ys ++ ((n : Int) :: fv (M : Int) u' (l.drop n)) = ys ++ ((nn (M : Int) (u' + 1) l : Int) :: fv (M : Int) u' (l.drop (nn (M : Int) (u' + 1) l)))
                rw [EN.out])
              have hyl2 : ys.length + 1 ≤ V := by
                have e := congrArg List.length EY.out
                rw [List.length_append, List.length_append, fv_length, fv_length] at e
                simp at e
                omega
              have hx : ((((u : Int)) == 1) = true ∧ ¬ (n : Int) < (k : Int)) ∨ (((u : Int)) == 1) = false := by
                by_cases e : u = 1
                · exact _root_.Or.inl ⟨by simp; omega, fun h => a1 ⟨e, by omega⟩⟩
                · exact _root_.Or.inr (by simp; omega)
              have hown := HOW.out
              have hsz := HB.out.size
              have en : (u : Int) - 1 = (u' : Int) := by have := HU.out; omega
              have HEN := Lib.hid en
              clear a1 a2 en
              rcases hx with ⟨t1, t2⟩ | t1
              all_goals
                go_wp2_with (first | (go_at_call 51; refine CV.out.mono ?_; rintro e w' ⟨rfl, rfl⟩) | (at_builtin; refine wpList_append_own _ rfl _ _ 22 rfl w.heap.size 3 i0 (.int .i64 0) 1 8 Try.underlying22 hi hz0 hz1 hz2 rfl (by decide) _ _ _ rfl (hown.alloc _) ⟨wo.heap.size, 0, none⟩ 1 1 [.int .i64 (n : Int)] rfl rfl (cell_one_new _ _ _) (fun x hx => by simp at hx; subst hx; rfl) (by unfold maxLen; omega) (by omega) (by simp; omega) ?_; intro v' w6 hown2 hgrow2 hnil2))
                have O := Lib.hid (own_more (ys := ys ++ [(n : Int)]) hown2 rfl)
                have BB := Lib.hid ((HB.out.alloc HB.out.size (.cells #[.int .i64 (n : Int)] 3)).grown hgrow2 (by simp; omega) (fun j hj => (hown.lt j hj).1))
                clear hown2 hgrow2 hnil2
                go_roundg u'
                case measure => have := HGK.out; omega
                case rel => exact ⟨o', k - n, c - n, u', l.drop n, ys ++ [(n : Int)], rfl, rfl, by rw [← HEN.out], by omega, LN.out, EY.out, by simp; omega, O.out, BB.out⟩
      · obtain rfl : u = 0 := by omega
        have EY := Lib.hid (show fvl zs (V : Int) = ys by rw [E.out, ← HY.out]; simp [fv])
        clear hu
        go_wp2
        go_ret2
        exact ⟨_, rfl, own_eq HOW.out EY.out, HB.out⟩
/-- the answers up to j stand, zeros behind them -/
def part (F : List Int) (V j : Nat) : List Int := F.take j ++ List.replicate (V - j) 0
theorem part_length {F : List Int} {V j : Nat} (hF : F.length = V) (hj : j ≤ V) : (part F V j).length = V := by simp [part, hF]; omega
theorem part_next {F : List Int} {V j : Nat} {x : Int} {r : List Int} (hF : F.length = V) (hj : j < V) (h : F.drop j = x :: r) : (part F V j).set j x = part F V (j + 1) ∧ F.drop (j + 1) = r := by
  have e1 : F.drop (j + 1) = r := by rw [← List.tail_drop, h]; rfl
  have e2 : F.take (j + 1) = F.take j ++ [x] := by
    have : F[j]'(by omega) = x := by
      have e3 := List.drop_eq_getElem_cons (l := F) (i := j) (by omega)
      rw [h] at e3
      injection e3 with e4 e5
      exact e4.symm
    rw [List.take_succ_eq_append_getElem (by omega), this]
  refine ⟨?_, e1⟩
  unfold part
  have e4 : (F.take j).length = j := by rw [List.length_take]; omega
  rw [List.set_append_right _ _ (by rw [e4]; exact Nat.le_refl _), e4, Nat.sub_self, e2, show V - j = (V - (j + 1)) + 1 by omega, List.replicate_succ, List.set_cons_zero, List.append_assoc]
  rfl
theorem part_end {F : List Int} {V : Nat} (hF : F.length = V) : part F V V = F := by simp [part, List.take_of_length_le (show F.length ≤ V by omega)]
theorem set_at (L : List Int) (j : Nat) (x : Int) (h : j < L.length) : (L.set j x).getD j 0 = x := by simp [List.getD, h]
set_option maxRecDepth 100000 in
set_option maxHeartbeats 8000000 in
theorem iFirstV {b1 g len cap : Nat} {zs : List Int} {w : World} (h : Ow w b1 g len cap zs) (hl : len ≤ 1048576) (v : Int) :
    Calls Try.prog 31 #[.slice (some ⟨g, 0, none⟩) len cap, .int .i64 v] w (Li.Gives (ask zs v) (fvl zs v) w) := by
  obtain ⟨i0, hi, hz0, hz1, hz2⟩ := info_parts Li.info3
  have HO := Lib.hid h
  have hz := ow_len h
  have C := Lib.hid (iLeast h hl v)
  cases ha : ask zs v with
  | false =>
    have E := Lib.hid (fvl_no ha)
    rw [E.out]
    rw [ha] at C
    obtain ⟨q, hq⟩ : ∃ q, lva zs v = q := ⟨_, rfl⟩
    rw [hq] at C
    clear h hz ha hq
    go_enter Try.func31, Try.ntmps31
    go_wp2_with fail
    refine C.out.mono ?_
    rintro e w1 ⟨rfl, hb⟩
    have HB := Lib.hid hb
    clear hb
    go_wp2
    go_ret2
    exact Li.Gives.none HB.out
  | true =>
    obtain ⟨hg, hv1, hv5, hvn⟩ := ask_parts ha
    obtain ⟨V, rfl⟩ := Int.eq_ofNat_of_zero_le (show 0 ≤ v by omega)
    have E := Lib.hid (fvl_yes ha)
    obtain ⟨hM, hM2⟩ := lv_all ha
    rw [ha, lva_yes ha] at C
    obtain ⟨M, hMq⟩ : ∃ M, lv zs (V : Int) = M := ⟨_, rfl⟩
    rw [hMq] at hM hM2 E C
    have hcap := (ow_cap h).1
    have hcap2 := (ow_cap h).2
    have L0 := Lib.hid (show Left w g 0 len cap V (M : Int) zs from ⟨ow_off h hl, hcap, hcap2, good_of ((good_iff zs).1 hg), hM, by omega⟩)
    have hV5 : V ≤ 5 := by omega
    obtain ⟨F, hF⟩ : ∃ F, fv (M : Int) V zs = F := ⟨_, rfl⟩
    have FL := Lib.hid (show F.length = V by rw [← hF, fv_length])
    have HF := Lib.hid hF
    rw [hF] at E
    clear h hz ha hg hM hMq hcap hcap2 hv1 hv5 hvn hF
    go_enter Try.func31, Try.ntmps31
    go_wp2_with fail
    refine C.out.mono ?_
    rintro e w1 ⟨rfl, hb⟩
    have HB1 := Lib.hid hb
    have hs1 := hb.size
    clear hb
    go_wp2_with (first | (at_make; refine wpList_make_full _ rfl _ _ 22 rfl w1.heap.size 3 i0 (.int .i64 0) 1 Try.underlying22 hi hz0 hz1 _ _ _ _ V rfl rfl rfl rfl (by rw [hz2]; omega) (by unfold maxLen; omega) (Nat.le_refl _) ?_; intro w2 hown hg1))
    have hb0 := Li.below_of_grown hg1
    obtain ⟨B, hBq⟩ : ∃ B, w1.heap.size = B := ⟨_, rfl⟩
    rw [hBq] at hown hs1 ⊢
    have h0 : w2.ownsRow B 3 1 (.slice (some ⟨B, 0, none⟩) V V) V (Li.nums (part F V 0)) := by
      have e : (madeCells (Value.int .i64 0).cells (V * 1)).toList = List.replicate V (.int .i64 0) := by rw [Nat.mul_one]; exact toList_madeCells_one _ _
      have e2 : Li.nums (part F V 0) = List.replicate V (.int .i64 0) := by simp [part, Li.nums]
      rw [e2, ← e]
      exact hown
    have H0 := Lib.hid h0
    have HB0 := Lib.hid (HB1.out.trans (Sh.below_le hb0 HB1.out.size))
    clear hown hg1 h0 hb0 hBq
    go_loopg [9, 24] V (fun gk s i wr => ∃ (o k c j : Nat) (l : List Int), gk = V - j ∧ j ≤ V ∧ s = .slice (some ⟨g, o, none⟩) k c ∧ i = .int .i64 (j : Int) ∧ Left w g o k c (V - j) (M : Int) l ∧ fv (M : Int) (V - j) l = F.drop j ∧ wr.ownsRow B 3 1 (.slice (some ⟨B, 0, none⟩) V V) V (Li.nums (part F V j)) ∧ Below w.heap.size w wr)
    case atStart => exact ⟨0, len, cap, 0, zs, rfl, Nat.zero_le _, rfl, rfl, L0.out, HF.out, H0.out, HB0.out⟩
    case round =>
      obtain ⟨o, k, c, j, l, hgk, hj, rfl, rfl, hleft, hfv, hown, hb⟩ := hrel
      obtain ⟨wo, rfl⟩ : ∃ wo : World, wo = wr := ⟨_, rfl⟩
      have HGK := Lib.hid hgk
      have HL := Lib.hid hleft
      have HFV := Lib.hid hfv
      have HOW := Lib.hid hown
      have HB := Lib.hid hb
      have hk12 := hleft.small
      have hkc := hleft.2.1
      have hcm := hleft.2.2.1
      have hku := hleft.2.2.2.2.2
      unfold maxLen at hcm
      clear hgk hleft hfv hown hb
      by_cases hlt : (j : Int) < (V : Int)
      · obtain ⟨u', huq⟩ : ∃ u', V - j = u' + 1 := ⟨V - j - 1, by omega⟩
        have HU := Lib.hid huq
        have hk1 : 1 ≤ k := by omega
        obtain ⟨o1, hr1, ho1⟩ := cut_run g o k c 1 1 rfl hk1 hkc
        have HO1 := Lib.hid ho1
        have PL := Lib.hid (part_length FL.out hj)
        obtain ⟨P, hP⟩ : ∃ P, part F V j = P := ⟨_, rfl⟩
        have HP := Lib.hid hP
        rw [hP] at HOW PL
        have q0 := ow_cell (show Ow wo B B V V P from HOW.out) (show j < V by omega)
        obtain ⟨q, hq⟩ : ∃ q, P.getD j 0 = q := ⟨_, rfl⟩
        rw [hq] at q0
        have fz := HOW.out.frozenAt j
        obtain ⟨s1, gr1⟩ := HOW.out.stored j (.int .i64 1)
        rw [nums_set] at s1
        have HS1 := Lib.hid s1
        have HBS := Lib.hid (HB.out.setCell (p := ⟨B, j, none⟩) hs1 (.int .i64 1))
        clear huq ho1 hP hq s1 gr1
        go_wp2
        go_loopg [9] 19 (fun gi s wr => ∃ n o' : Nat, gi = 20 - n ∧ s = .slice (some ⟨g, o', none⟩) (k - n) (c - n) ∧ 1 ≤ n ∧ n ≤ k ∧ (o' = o + n ∨ k - n = 0) ∧ (∀ q, 1 ≤ q → q < n → u' + 1 ≤ vn (M : Int) (l.drop q)) ∧ wr.ownsRow B 3 1 (.slice (some ⟨B, 0, none⟩) V V) V (Li.nums (P.set j (n : Int))) ∧ Below w.heap.size w wr)
        case atStart => exact ⟨1, o1, rfl, rfl, Nat.le_refl _, hk1, HO1.out, fun q q1 q2 => by omega, HS1.out, HBS.out⟩
        case round =>
          obtain ⟨n, o', hgi, rfl, hn1, hnk, ho', hall, hown, hb⟩ := hrel
          have HGI := Lib.hid hgi
          have HOP := Lib.hid ho'
          have HAL := Lib.hid hall
          have HOW2 := Lib.hid hown
          have HB2 := Lib.hid hb
          have HLO := Lib.hid (show Left wr g o k c (V - j) (M : Int) l from HL.out.on hb)
          have CV := Lib.hid (HLO.out.vn ho' hnk (by omega) (by omega) (c - n))
          have hXle := vn_le (M : Int) (l.drop n)
          rw [List.length_drop, HL.out.1.1] at hXle
          have NI := Lib.hid (fun (hx : vn (M : Int) (l.drop n) < u' + 1) => nn_is (m := (M : Int)) (v := u' + 1) (l := l) hn1 (by rw [HL.out.1.1]; exact hnk) hx hall)
          have HN1 := Lib.hid (fun (hx : u' + 1 ≤ vn (M : Int) (l.drop n)) => (show ∀ q, 1 ≤ q → q < n + 1 → u' + 1 ≤ vn (M : Int) (l.drop q) from fun q q1 q2 => by
            by_cases e : q = n
            · subst e; exact hx
            · exact hall q q1 (by omega)))
          obtain ⟨X, hX⟩ : ∃ X, vn (M : Int) (l.drop n) = X := ⟨_, rfl⟩
          rw [hX] at CV hXle NI HN1
          have hUq : (V : Int) - (j : Int) = (u' : Int) + 1 := by have := HU.out; omega
          have HUQ := Lib.hid hUq
          have HXU := Lib.hid (show ((V : Int) - (j : Int) ≤ (X : Int)) ↔ u' + 1 ≤ X by omega)
          clear hgi ho' hall hown hb hX hUq
          by_cases a2 : (V : Int) - (j : Int) ≤ (X : Int)
          · have HX := Lib.hid (HN1.out (HXU.out.1 a2))
            have hnk2 : n < k := by have := HXU.out.1 a2; omega
            obtain ⟨o2, hr2, ho2⟩ := cut_run g o' (k - n) (c - n) 1 1 rfl (by omega) (by omega)
            rw [Nat.sub_sub, Nat.sub_sub] at hr2
            rw [Nat.sub_sub] at ho2
            have HO2 := Lib.hid (show o2 = o + (n + 1) ∨ k - (n + 1) = 0 by
              rcases ho2 with e | e
              · rcases HOP.out with e2 | e2
                · exact _root_.Or.inl (by omega)
                · exact _root_.Or.inr (by omega)
              · exact _root_.Or.inr e)
            have q1 := ow_cell (show Ow wr B B V V (P.set j (n : Int)) from HOW2.out) (show j < V by omega)
            rw [set_at _ _ _ (by rw [PL.out]; omega)] at q1
            have fz2 := HOW2.out.frozenAt j
            obtain ⟨s1, gr1⟩ := HOW2.out.stored j (.int .i64 ((n : Int) + 1))
            rw [nums_set, List.set_set] at s1
            have HS2 := Lib.hid s1
            have HBS2 := Lib.hid (HB2.out.setCell (p := ⟨B, j, none⟩) hs1 (.int .i64 ((n : Int) + 1)))
            clear ho2 s1 gr1
            go_wp2_with fail
            refine CV.out.mono ?_
            rintro e w' ⟨rfl, rfl⟩
            go_wp2
            go_roundg (20 - (n + 1))
            case measure => have := HGI.out; omega
            case rel => exact ⟨n + 1, o2, rfl, rfl, by omega, by omega, HO2.out, HX.out, HS2.out, HBS2.out⟩
          · have EN := Lib.hid (NI.out (by have := HXU.out; omega))
            have HN := Lib.hid (show F.drop j = (n : Int) :: fv (M : Int) u' (l.drop n) by
              rw [← HFV.out, HU.out]
              show (nn (M : Int) (u' + 1) l : Int) :: fv (M : Int) u' (l.drop (nn (M : Int) (u' + 1) l)) = _
              rw [EN.out])
            have NX := Lib.hid (part_next FL.out (show j < V by omega) HN.out)
            have HO3 := Lib.hid (show wr.ownsRow B 3 1 (.slice (some ⟨B, 0, none⟩) V V) V (Li.nums (part F V (j + 1))) by rw [← NX.out.1, HP.out]; exact HOW2.out)
            have EU := Lib.hid (show V - (j + 1) = u' by have := HU.out; omega)
            have LN := Lib.hid (show Left w g o' (k - n) (c - n) (V - (j + 1)) (M : Int) (l.drop n) by
              rw [EU.out]
              exact Left.next (v := u') (by rw [← HU.out]; exact HL.out) HOP.out hn1 hnk HAL.out)
            have FN := Lib.hid (show fv (M : Int) (V - (j + 1)) (l.drop n) = F.drop (j + 1) by rw [EU.out, NX.out.2])
            go_wp2_with fail
            refine CV.out.mono ?_
            rintro e w' ⟨rfl, rfl⟩
            go_wp2
            go_roundg (V - (j + 1))
            case measure => have := HGK.out; omega
            case rel => exact ⟨o', k - n, c - n, j + 1, l.drop n, rfl, by omega, rfl, by go_num, LN.out, FN.out, HO3.out, HB2.out⟩
      · obtain rfl : j = V := by omega
        have EF := Lib.hid (show fvl zs (j : Int) = part F j j by rw [E.out, part_end FL.out])
        have EL := Lib.hid (show (fvl zs (j : Int)).length = j by rw [E.out, FL.out])
        have hOWN := HOW.out
        go_wp2
        go_ret2
        exact ⟨_, rfl, by rw [EL.out, EF.out]; exact Li.own_le HOW.out hs1, HB.out⟩
end Ch
end Go.Proofs.Ytkfoapidmockfaa
