/- The best of all choices of places, from the model's side. -/
import Derived.Test.YtogkebbgkeffcaaFs1
namespace Go.Proofs.Ytogkebbgkeffcaa
open Go.RowKit Go.Joins Go.Deep Go.ChangeShapes Go.WideShapes
set_option linter.unusedVariables false
set_option linter.unusedSimpArgs false
namespace So
open Sh
theorem and_one : ∀ x : Fin 256, bits BinOp.and IntKind.i64 ((x.val : Nat) : Int) 1 = ((x.val % 2 : Nat) : Int) := by decide +kernel
theorem bit_is {b k : Nat} (hb : b < 256) : (bits BinOp.and IntKind.i64 ((b : Int) / 2 ^ k) 1 == 1) = b.testBit k := by
  have hlt : b / 2 ^ k < 256 := Nat.lt_of_le_of_lt (Nat.div_le_self _ _) hb
  have h1 := and_one ⟨b / 2 ^ k, hlt⟩
  have e : ((b : Int) / 2 ^ k) = ((b / 2 ^ k : Nat) : Int) := by
    rw [Int.natCast_ediv]
    simp
  rw [e, h1, Nat.testBit_eq_decide_div_mod_eq, Bool.eq_iff_iff]
  simp only [beq_iff_eq, decide_eq_true_eq]
  omega
theorem last_at {P : List Nat} (h : 0 < P.length) : P.getLastD 0 = P.getD (P.length - 1) 0 := by
  rw [List.getLastD_eq_getLast?, List.getLast?_eq_getElem?, List.getD]
theorem pl_le (b k : Nat) : (ints (St.pl b k)).length ≤ k := by
  rw [ints_len]
  induction k with
  | zero => exact Nat.le_refl _
  | succ k ih =>
    unfold St.pl
    split
    · rw [List.length_append]; simp only [List.length_cons, List.length_nil]; omega
    · omega
theorem sl_form {w : World} {base n : Nat} {v : Value} {xs : List Value} (h : w.ownsRow base 3 1 v n xs) : ∃ a cap, v = .slice a n cap ∧ (0 < n → ∃ g, a = some ⟨g, 0, none⟩) := by
  rcases Li.own_forms h with ⟨rfl, rfl⟩ | ⟨g, cap, rfl⟩
  · exact ⟨none, 0, rfl, fun h => by omega⟩
  · exact ⟨_, cap, rfl, fun _ => ⟨g, rfl⟩⟩
theorem lx_diff : ∀ (a b : List Nat) (i : Nat), a.length = b.length → i < a.length → (∀ u, u < i → a.getD u 0 = b.getD u 0) → a.getD i 0 ≠ b.getD i 0 → St.lx a b = decide (a.getD i 0 < b.getD i 0)
  | [], _, _, _, h, _, _ => by simp at h
  | x :: a, [], _, h, _, _, _ => by simp at h
  | x :: a, y :: b, 0, _, _, _, hn => by
    have hn2 : x ≠ y := by simpa using hn
    unfold St.lx
    rw [if_neg hn2]
    simp
  | x :: a, y :: b, i + 1, hl, hi, hu, hn => by
    have h0 := hu 0 (by omega)
    have hxy : x = y := by simpa using h0
    unfold St.lx
    rw [if_pos hxy]
    have := lx_diff a b i (by simpa using hl) (by simpa using hi) (fun u hu2 => by have := hu (u + 1) (by omega); simpa using this) (by simpa using hn)
    simpa using this
theorem lx_all : ∀ (a b : List Nat), a.length = b.length → (∀ u, u < a.length → a.getD u 0 = b.getD u 0) → St.lx a b = false
  | [], _, _, _ => by simp [St.lx]
  | x :: a, [], h, _ => by simp at h
  | x :: a, y :: b, hl, hu => by
    have h0 := hu 0 (by simp)
    have hxy : x = y := by simpa using h0
    unfold St.lx
    rw [if_pos hxy]
    exact lx_all a b (by simpa using hl) (fun u hu2 => by have := hu (u + 1) (by simp; omega); simpa using this)
def SOut (zs : List Int) (N : Nat) (w : World) (b : Nat) (best : Value) (wr : World) : Prop := b ≤ N ∧ wr.ownsRow w.heap.size 3 1 best (ints (St.bo zs b)).length (Li.nums (ints (St.bo zs b))) ∧ Below w.heap.size w wr
def SIn (zs : List Int) (n b : Nat) (wo : World) (i : Nat) (some rises : Value) (wr : World) : Prop := i ≤ n ∧ wr.ownsRow wo.heap.size 3 1 some (ints (St.pl b i)).length (Li.nums (ints (St.pl b i))) ∧ rises = .bool (St.rs zs b i) ∧ Below wo.heap.size wo wr
set_option maxRecDepth 100000 in
set_option maxHeartbeats 4000000 in
theorem shStay_any {b1 g len cap : Nat} {zs : List Int} {w : World} (h : Ow w b1 g len cap zs) (hok : Ns.Ok zs) :
    Calls Try.prog 61 #[.slice (some ⟨g, 0, none⟩) len cap] w fun e w' => ∃ v, e = .returned v ∧ w'.ownsRow w.heap.size 3 1 v (ints (St.bo zs (2 ^ len))).length (Li.nums (ints (St.bo zs (2 ^ len)))) ∧ Below w.heap.size w w' := by
  obtain ⟨i0, hi, hz0, hz1, hz2⟩ := info_parts Li.info3
  have HO := Lib.hid h
  have hz := ow_len h
  have hl8 : len ≤ 8 := by have := hok.2.1; omega
  have HZ := Lib.hid hz
  obtain ⟨N, hN⟩ : ∃ N, 2 ^ len = N := ⟨_, rfl⟩
  have hN2 : N ≤ 256 := by rw [← hN]; exact Nat.le_trans (Nat.pow_le_pow_right (by omega) hl8) (by decide)
  have hpow : (2 : Int) ^ len = (N : Int) := by rw [← hN]; simp
  have HN := Lib.hid hN
  have HOK := Lib.hid hok
  rw [hN]
  clear h hz hN hok
  go_enter Try.func61, Try.ntmps61
  go_wp2
  go_loopw [3, 4] (fun v x wr => ∃ b : Nat, x = .int .i64 (b : Int) ∧ SOut zs N w b v wr) (fun _ x _ => ((N : Int) - intOf x).toNat)
  case atStart => exact ⟨0, rfl, Nat.zero_le _, World.ownsRow_nil _ _ _ _, Below.refl _ _⟩
  case round =>
    obtain ⟨b, rfl, hb, hbest, hbw⟩ := hrel
    obtain ⟨wo, rfl⟩ : ∃ wo : World, wo = wr := ⟨_, rfl⟩
    have HBEST := Lib.hid hbest
    have HBW := Lib.hid hbw
    clear hbest hbw
    by_cases hlt : b < N
    · go_wp2
      clear hpow
      go_loopw [5, 6, 19] (fun s r i wr => ∃ k : Nat, i = .int .i64 (k : Int) ∧ SIn zs len b wo k s r wr) (fun _ _ i _ => ((len : Int) - intOf i).toNat)
      case atStart => exact ⟨0, rfl, Nat.zero_le _, World.ownsRow_nil _ _ _ _, rfl, Below.refl _ _⟩
      case round =>
        obtain ⟨k, rfl, hk, hsome, rfl, hbi⟩ := hrel
        have HSOME := Lib.hid hsome
        have HBI := Lib.hid hbi
        clear hsome hbi
        by_cases hlt2 : (k : Int) < len
        · have hk2 : k < len := by omega
          have hbit := bit_is (b := b) (k := k) (by omega)
          obtain ⟨r, hr⟩ : ∃ r, St.rs zs b k = r := ⟨_, rfl⟩
          rw [hr]
          have HR := Lib.hid hr
          clear hr
          cases hb1 : b.testBit k with
          | false =>
            rw [hb1] at hbit
            have N1 := Lib.hid (show St.pl b (k + 1) = St.pl b k by
              show (if b.testBit k = true then St.pl b k ++ [k] else St.pl b k) = _
              rw [hb1]; rfl)
            have N2 := Lib.hid (show St.rs zs b (k + 1) = r by
              show (if b.testBit k = true then _ else St.rs zs b k) = _
              rw [hb1, HR.out]; rfl)
            have O := Lib.hid (own_eq (ys := ints (St.pl b (k + 1))) HSOME.out (by rw [N1.out]))
            clear hb1
            go_wp2
            go_roundw
            case rel => exact ⟨k + 1, by go_num, by omega, O.out, by rw [N2.out], HBI.out⟩
            case measure => simp [intOf]; omega
          | true =>
            rw [hb1] at hbit
            have N1 := Lib.hid (show St.pl b (k + 1) = St.pl b k ++ [k] by
              show (if b.testBit k = true then St.pl b k ++ [k] else St.pl b k) = _
              rw [hb1]; rfl)
            have N2 := Lib.hid (show St.rs zs b (k + 1) = (r && (decide (St.pl b k = []) || decide (St.at' zs ((St.pl b k).getLastD 0) < St.at' zs k))) by
              show (if b.testBit k = true then _ else St.rs zs b k) = _
              rw [hb1, HR.out]; rfl)
            have hpl := pl_le b k
            have hown := HSOME.out
            have hsz := HBI.out.size
            clear hb1
            cases r with
            | false =>
              have N3 := Lib.hid (show St.rs zs b (k + 1) = false by rw [N2.out]; rfl)
              go_wp2
              go_quiet (fail)
              have hownD := Li.own_on hown (Li.below_draws (Below.refl wr.heap.size wr) nq)
              have HBD := Lib.hid (Li.below_draws HBI.out nq)
              have hszD := HBD.out.size
              clear hown hsz
              obtain ⟨wd, hwd⟩ : ∃ wd, wr.drewN nq = wd := ⟨_, rfl⟩
              rw [hwd] at hownD HBD hszD
              rw [hwd]
              clear hwd
              go_wp2_with (first | (at_builtin; refine wpList_append_own _ rfl _ _ 22 rfl wo.heap.size 3 i0 (.int .i64 0) 1 8 Try.underlying22 hi hz0 hz1 hz2 rfl (by decide) _ _ _ rfl (hownD.alloc _) ⟨wd.heap.size, 0, none⟩ 1 1 [.int .i64 (k : Int)] rfl rfl (cell_one_new _ _ _) (fun x hx => by simp at hx; subst hx; rfl) (by unfold maxLen; omega) (by omega) (by simp; omega) ?_; intro v' w6 hown2 hgrow2 hnil2))
              have O := Lib.hid (own_eq (ys := ints (St.pl b (k + 1))) (own_more hown2 (ints_snoc (St.pl b k) k)) (by rw [N1.out]))
              have BB := Lib.hid ((HBD.out.alloc HBD.out.size _).grown hgrow2 (by simp; omega) (fun j hj => (hownD.lt j hj).1))
              clear hown2 hgrow2 hnil2 hownD
              go_roundw
              case rel => exact ⟨k + 1, by go_num, by omega, O.out, by rw [N3.out], BB.out⟩
              case measure => simp [intOf]; omega
            | true =>
              by_cases hp0 : (St.pl b k) = []
              · have N3 := Lib.hid (show St.rs zs b (k + 1) = true by rw [N2.out, hp0]; rfl)
                have HP0 := Lib.hid hp0
                rw [hp0] at hown
                have hown : wr.ownsRow wo.heap.size 3 1 _ 0 (Li.nums []) := hown
                clear hp0
                rcases Li.own_forms hown with ⟨rfl, _⟩ | ⟨gs, cs, rfl⟩
                · go_wp2
                  go_quiet (fail)
                  have hownD := Li.own_on hown (Li.below_draws (Below.refl wr.heap.size wr) nq)
                  have HBD := Lib.hid (Li.below_draws HBI.out nq)
                  have hszD := HBD.out.size
                  clear hown hsz
                  obtain ⟨wd, hwd⟩ : ∃ wd, wr.drewN nq = wd := ⟨_, rfl⟩
                  rw [hwd] at hownD HBD hszD
                  rw [hwd]
                  clear hwd
                  go_wp2_with (first | (at_builtin; refine wpList_append_own _ rfl _ _ 22 rfl wo.heap.size 3 i0 (.int .i64 0) 1 8 Try.underlying22 hi hz0 hz1 hz2 rfl (by decide) _ _ _ rfl (hownD.alloc _) ⟨wd.heap.size, 0, none⟩ 1 1 [.int .i64 (k : Int)] rfl rfl (cell_one_new _ _ _) (fun x hx => by simp at hx; subst hx; rfl) (by unfold maxLen; omega) (by omega) (by simp; omega) ?_; intro v' w6 hown2 hgrow2 hnil2))
                  have O := Lib.hid (own_eq (ys := ints (St.pl b (k + 1))) (own_more (zs := []) hown2 rfl) (by rw [N1.out, HP0.out]; rfl))
                  have BB := Lib.hid ((HBD.out.alloc HBD.out.size _).grown hgrow2 (by simp; omega) (fun j hj => (hownD.lt j hj).1))
                  clear hown2 hgrow2 hnil2 hownD
                  go_roundw
                  case rel => exact ⟨k + 1, by go_num, by omega, O.out, by rw [N3.out], BB.out⟩
                  case measure => simp [intOf]; omega
                · go_wp2
                  go_quiet (fail)
                  have hownD := Li.own_on hown (Li.below_draws (Below.refl wr.heap.size wr) nq)
                  have HBD := Lib.hid (Li.below_draws HBI.out nq)
                  have hszD := HBD.out.size
                  clear hown hsz
                  obtain ⟨wd, hwd⟩ : ∃ wd, wr.drewN nq = wd := ⟨_, rfl⟩
                  rw [hwd] at hownD HBD hszD
                  rw [hwd]
                  clear hwd
                  go_wp2_with (first | (at_builtin; refine wpList_append_own _ rfl _ _ 22 rfl wo.heap.size 3 i0 (.int .i64 0) 1 8 Try.underlying22 hi hz0 hz1 hz2 rfl (by decide) _ _ _ rfl (hownD.alloc _) ⟨wd.heap.size, 0, none⟩ 1 1 [.int .i64 (k : Int)] rfl rfl (cell_one_new _ _ _) (fun x hx => by simp at hx; subst hx; rfl) (by unfold maxLen; omega) (by omega) (by simp; omega) ?_; intro v' w6 hown2 hgrow2 hnil2))
                  have O := Lib.hid (own_eq (ys := ints (St.pl b (k + 1))) (own_more (zs := []) hown2 rfl) (by rw [N1.out, HP0.out]; rfl))
                  have BB := Lib.hid ((HBD.out.alloc HBD.out.size _).grown hgrow2 (by simp; omega) (fun j hj => (hownD.lt j hj).1))
                  clear hown2 hgrow2 hnil2 hownD
                  go_roundw
                  case rel => exact ⟨k + 1, by go_num, by omega, O.out, by rw [N3.out], BB.out⟩
                  case measure => simp [intOf]; omega
              · have hm0 : 0 < (St.pl b k).length := by
                  cases h2 : St.pl b k with
                  | nil => exact absurd h2 hp0
                  | cons x l => simp
                have hlast := last_at hm0
                have hmem : (St.pl b k).getD ((St.pl b k).length - 1) 0 ∈ St.pl b k := by
                  rw [List.getD, List.getElem?_eq_getElem (show (St.pl b k).length - 1 < (St.pl b k).length by omega)]
                  exact List.getElem_mem _
                have hqk := St.pl_lt b k _ hmem
                have HI := Lib.hid (ints_at (St.pl b k) ((St.pl b k).length - 1) (by omega))
                obtain ⟨m, hm⟩ : ∃ m, (ints (St.pl b k)).length = m := ⟨_, rfl⟩
                have hm2 : (St.pl b k).length = m := by rw [← hm, ints_len]
                obtain ⟨q, hq⟩ : ∃ q, (St.pl b k).getD (m - 1) 0 = q := ⟨_, rfl⟩
                rw [hm2] at hqk hlast HI hm0
                rw [hq] at hqk hlast HI
                rw [hm] at hown hpl
                have HM := Lib.hid hm
                have HL := Lib.hid hlast
                clear hm hm2 hq hmem hlast
                rcases Li.own_forms hown with ⟨_, h0⟩ | ⟨gs, cs, rfl⟩
                · omega
                have cs0 := ow_cell (by rw [← HM.out] at hown ⊢; exact hown : Ow wr wo.heap.size gs m cs (ints (St.pl b k))) (show m - 1 < m by omega)
                rw [HI.out] at cs0
                obtain ⟨zq, HZQ, cq⟩ := ow_at (Li.own_on HO.out (HBW.out.trans (Sh.below_le HBI.out HBW.out.size))) (show q < len by omega)
                obtain ⟨zk, HZK, ck⟩ := ow_at (Li.own_on HO.out (HBW.out.trans (Sh.below_le HBI.out HBW.out.size))) hk2
                have hw : IntKind.i64.wrap ((m : Int) - 1) = (m : Int) - 1 := by rw [IntKind.wrap_i64]; omega
                have tn : ((m : Int) - 1).toNat = m - 1 := by omega
                have m1 : 0 ≤ (m : Int) - 1 := by omega
                have e0 : (m == 0) = false := by simp; omega
                have e1 : ((m : Int) == 0) = false := by simp; omega
                have HP := Lib.hid hp0
                clear hp0
                by_cases c : zq < zk
                · have N3 := Lib.hid (show St.rs zs b (k + 1) = true by
                    rw [N2.out, HL.out]
                    have : St.at' zs q < St.at' zs k := by
                      show zs.getD q 0 < zs.getD k 0
                      rw [HZQ.out, HZK.out]; exact c
                    simp [this])
                  go_wp2
                  go_quiet (fail)
                  have hownD := Li.own_on hown (Li.below_draws (Below.refl wr.heap.size wr) nq)
                  have HBD := Lib.hid (Li.below_draws HBI.out nq)
                  have hszD := HBD.out.size
                  clear hown hsz cq ck cs0
                  obtain ⟨wd, hwd⟩ : ∃ wd, wr.drewN nq = wd := ⟨_, rfl⟩
                  rw [hwd] at hownD HBD hszD
                  rw [hwd]
                  clear hwd
                  go_wp2_with (first | (at_builtin; refine wpList_append_own _ rfl _ _ 22 rfl wo.heap.size 3 i0 (.int .i64 0) 1 8 Try.underlying22 hi hz0 hz1 hz2 rfl (by decide) _ _ _ rfl (hownD.alloc _) ⟨wd.heap.size, 0, none⟩ 1 1 [.int .i64 (k : Int)] rfl rfl (cell_one_new _ _ _) (fun x hx => by simp at hx; subst hx; rfl) (by unfold maxLen; omega) (by omega) (by simp; omega) ?_; intro v' w6 hown2 hgrow2 hnil2))
                  rw [← HM.out] at hown2
                  have O := Lib.hid (own_eq (ys := ints (St.pl b (k + 1))) (own_more hown2 (ints_snoc (St.pl b k) k)) (by rw [N1.out]))
                  have BB := Lib.hid ((HBD.out.alloc HBD.out.size _).grown hgrow2 (by simp; omega) (fun j hj => (hownD.lt j hj).1))
                  clear hown2 hgrow2 hnil2 hownD
                  go_roundw
                  case rel => exact ⟨k + 1, by go_num, by omega, O.out, by rw [N3.out], BB.out⟩
                  case measure => simp [intOf]; omega
                · have N3 := Lib.hid (show St.rs zs b (k + 1) = false by
                    rw [N2.out, HL.out]
                    have : ¬ St.at' zs q < St.at' zs k := by
                      show ¬ zs.getD q 0 < zs.getD k 0
                      rw [HZQ.out, HZK.out]; exact c
                    simp [this, HP.out])
                  have t4 : decide (zq < zk) = false := by simpa using c
                  clear c
                  go_wp2
                  go_quiet (fail)
                  have hownD := Li.own_on hown (Li.below_draws (Below.refl wr.heap.size wr) nq)
                  have HBD := Lib.hid (Li.below_draws HBI.out nq)
                  have hszD := HBD.out.size
                  clear hown hsz cq ck cs0
                  obtain ⟨wd, hwd⟩ : ∃ wd, wr.drewN nq = wd := ⟨_, rfl⟩
                  rw [hwd] at hownD HBD hszD
                  rw [hwd]
                  clear hwd
                  go_wp2_with (first | (at_builtin; refine wpList_append_own _ rfl _ _ 22 rfl wo.heap.size 3 i0 (.int .i64 0) 1 8 Try.underlying22 hi hz0 hz1 hz2 rfl (by decide) _ _ _ rfl (hownD.alloc _) ⟨wd.heap.size, 0, none⟩ 1 1 [.int .i64 (k : Int)] rfl rfl (cell_one_new _ _ _) (fun x hx => by simp at hx; subst hx; rfl) (by unfold maxLen; omega) (by omega) (by simp; omega) ?_; intro v' w6 hown2 hgrow2 hnil2))
                  rw [← HM.out] at hown2
                  have O := Lib.hid (own_eq (ys := ints (St.pl b (k + 1))) (own_more hown2 (ints_snoc (St.pl b k) k)) (by rw [N1.out]))
                  have BB := Lib.hid ((HBD.out.alloc HBD.out.size _).grown hgrow2 (by simp; omega) (fun j hj => (hownD.lt j hj).1))
                  clear hown2 hgrow2 hnil2 hownD
                  go_roundw
                  case rel => exact ⟨k + 1, by go_num, by omega, O.out, by rw [N3.out], BB.out⟩
                  case measure => simp [intOf]; omega
        · have ek : k = len := by omega
          subst ek
          have ES : St.bo zs (b + 1) = if (St.rs zs b k && St.better (St.pl b k) (St.bo zs b)) = true then St.pl b k else St.bo zs b := by
            have e := HZ.out
            show (if (St.rs zs b zs.length && St.better (St.pl b zs.length) (St.bo zs b)) = true then St.pl b zs.length else St.bo zs b) = _
            rw [e]
          obtain ⟨P, hP⟩ : ∃ P, St.pl b k = P := ⟨_, rfl⟩
          obtain ⟨B, hB⟩ : ∃ B, St.bo zs b = B := ⟨_, rfl⟩
          obtain ⟨r, hr⟩ : ∃ r, St.rs zs b k = r := ⟨_, rfl⟩
          have hown5 := HSOME.out
          have hown3 := Li.own_on HBEST.out HBI.out
          rw [hP] at hown5
          rw [hB] at hown3
          rw [hP, hB, hr] at ES
          rw [hr]
          have hpl := pl_le b k
          rw [hP, ints_len] at hpl
          have hbl : B.length ≤ k := by rw [← hB, ← HZ.out]; exact bo_le zs b
          rw [ints_len] at hown5 hown3
          obtain ⟨mP, hmP⟩ : ∃ mP, P.length = mP := ⟨_, rfl⟩
          obtain ⟨mB, hmB⟩ : ∃ mB, B.length = mB := ⟨_, rfl⟩
          rw [hmP] at hown5 hpl
          rw [hmB] at hown3 hbl
          obtain ⟨a5, c5, rfl, ha5⟩ := sl_form hown5
          obtain ⟨a3, c3, rfl, ha3⟩ := sl_form hown3
          have HES := Lib.hid ES
          have HMP := Lib.hid hmP
          have HMB := Lib.hid hmB
          have HA5 := Lib.hid ha5
          have HA3 := Lib.hid ha3
          have H5 := Lib.hid hown5
          have H3 := Lib.hid hown3
          have NB := Lib.hid (HBW.out.trans (Sh.below_le HBI.out HBW.out.size))
          clear ES hP hB hr hmP hmB ha5 ha3 hown5 hown3
          cases r with
          | false =>
            have NO := Lib.hid (own_eq (ys := ints (St.bo zs (b + 1))) (by rw [ints_len, HMB.out]; exact H3.out) (by rw [HES.out]; rfl))
            go_wp2
            go_roundw
            case rel => exact ⟨b + 1, by go_num, by omega, NO.out, NB.out⟩
            case measure => simp [intOf]; omega
          | true =>
            by_cases c1 : mP < mB
            · have NO := Lib.hid (own_eq (ys := ints (St.bo zs (b + 1))) (by rw [ints_len, HMB.out]; exact H3.out) (by
                rw [HES.out]
                have e : St.better P B = false := by
                  unfold St.better
                  rw [HMP.out, HMB.out]
                  simp only [Bool.or_eq_false_iff, Bool.and_eq_false_iff, decide_eq_false_iff_not]
                  exact ⟨by omega, _root_.Or.inl (by omega)⟩
                rw [e]; rfl))
              go_wp2
              go_roundw
              case rel => exact ⟨b + 1, by go_num, by omega, NO.out, NB.out⟩
              case measure => simp [intOf]; omega
            · have d1 : decide (mP < mB) = false := by simpa using c1
              have d1i : decide ((mP : Int) < (mB : Int)) = false := by simp; omega
              by_cases c2 : mB < mP
              · have NO := Lib.hid (own_eq (ys := ints (St.bo zs (b + 1))) (by rw [ints_len, HMP.out]; exact Li.own_le H5.out HBW.out.size) (by
                  rw [HES.out]
                  have e : St.better P B = true := by
                    unfold St.better
                    rw [HMP.out, HMB.out]
                    simp [c2]
                  rw [e]; rfl))
                clear c1
                go_wp2_with fail
                refine wp_loop_rounds 1 ?_
                rw [rounds_succ]
                go_wp2
                go_roundw
                case rel => exact ⟨b + 1, by go_num, by omega, NO.out, NB.out⟩
                case measure => simp [intOf]; omega
              · have em : mB = mP := by omega
                subst em
                clear c1 c2 d1 d1i
                have d2 : decide (mB < mB) = false := by simp
                have EB := Lib.hid (show St.better P B = St.lx P B by
                  unfold St.better
                  rw [HMP.out, HMB.out]
                  simp)
                obtain ⟨wm, rfl⟩ : ∃ wm : World, wm = wr := ⟨_, rfl⟩
                have OLD := Lib.hid (fun (e : St.better P B = false) => (show St.bo zs (b + 1) = B by rw [HES.out, e]; rfl))
                have NEW := Lib.hid (fun (e : St.better P B = true) => (show St.bo zs (b + 1) = P by rw [HES.out, e]; rfl))
                go_wp2_with fail
                go_loopw [8, 9] (fun x i wi => ∃ u : Nat, u ≤ mB ∧ x = .bool false ∧ i = .int .i64 (u : Int) ∧ (∀ v, v < u → P.getD v 0 = B.getD v 0) ∧ Below wm.heap.size wm wi) (fun _ i _ => ((mB : Int) - intOf i).toNat)
                case atStart => exact ⟨0, by omega, rfl, rfl, fun v hv => by omega, Below.refl _ _⟩
                case round =>
                  obtain ⟨u, hu, rfl, rfl, hall, hb2⟩ := hrel
                  have HALL := Lib.hid hall
                  have HB2 := Lib.hid hb2
                  have DD := Lib.hid (show ∀ n, Below wm.heap.size wm (wr.drewN n) from fun n => Li.below_draws HB2.out n)
                  clear hall hb2
                  by_cases hlt3 : u < mB
                  · obtain ⟨g5, rfl⟩ := HA5.out (by omega)
                    obtain ⟨g3, rfl⟩ := HA3.out (by omega)
                    have q5 := ow_cell (Li.own_on H5.out HB2.out) hlt3
                    have q3 := ow_cell (Li.own_on H3.out HB2.out) hlt3
                    rw [ints_at P u (by rw [HMP.out]; exact hlt3)] at q5
                    rw [ints_at B u (by rw [HMB.out]; exact hlt3)] at q3
                    obtain ⟨x, hx⟩ : ∃ x, P.getD u 0 = x := ⟨_, rfl⟩
                    obtain ⟨y, hy⟩ : ∃ y, B.getD u 0 = y := ⟨_, rfl⟩
                    rw [hx] at q5
                    rw [hy] at q3
                    have HX := Lib.hid hx
                    have HY := Lib.hid hy
                    clear hx hy
                    by_cases hxy : x = y
                    · have N := Lib.hid (show ∀ v, v < u + 1 → P.getD v 0 = B.getD v 0 from fun v hv => by
                        by_cases e : v = u
                        · rw [e, HX.out, HY.out, hxy]
                        · exact HALL.out v (by omega))
                      have e1 : (x == y) = true := by simpa using hxy
                      have e2 : ((x : Int) == (y : Int)) = true := by simp; omega
                      have e3 : ((x : Int) != (y : Int)) = false := by simp; omega
                      clear hxy
                      go_wp2
                      go_quiet (fail)
                      go_wp2
                      have BB := Lib.hid (Li.below_draws HB2.out nq)
                      go_roundw
                      case rel => exact ⟨u + 1, by omega, rfl, by go_num, N.out, BB.out⟩
                      case measure => simp [intOf]; omega
                    · have LX := Lib.hid (show St.lx P B = decide (x < y) by
                        have h := lx_diff P B u (by rw [HMP.out, HMB.out]) (by rw [HMP.out]; exact hlt3) HALL.out (by rw [HX.out, HY.out]; exact hxy)
                        rw [HX.out, HY.out] at h
                        exact h)
                      have e1 : (x == y) = false := by simpa using hxy
                      have e2 : ((x : Int) == (y : Int)) = false := by simp; omega
                      have e3 : ((x : Int) != (y : Int)) = true := by simp; omega
                      have NBW := Lib.hid (NB.out.trans (Sh.below_le HB2.out NB.out.size))
                      clear hxy
                      by_cases hxl : x < y
                      · have F := Lib.hid (NEW.out (by rw [EB.out, LX.out]; simpa using hxl))
                        have t5 : decide (x < y) = true := by simpa using hxl
                        have t6 : decide ((x : Int) < (y : Int)) = true := by simp; omega
                        clear hxl
                        go_wp2
                        go_quiet (fail)
                        go_wp2
                        go_quiet (fail)
                        go_wp2
                        go_roundw
                        case rel => exact ⟨b + 1, by go_num, by omega, own_eq (ys := ints (St.bo zs (b + 1))) (by rw [ints_len, HMP.out]; exact Li.own_le (Li.own_on H5.out (DD.out _)) HBW.out.size) (by rw [F.out]), NB.out.trans (Sh.below_le (DD.out _) NB.out.size)⟩
                        case measure => simp [intOf]; omega
                      · have F := Lib.hid (OLD.out (by rw [EB.out, LX.out]; simpa using hxl))
                        have t5 : decide (x < y) = false := by simpa using hxl
                        have t6 : decide ((x : Int) < (y : Int)) = false := by simp; omega
                        clear hxl
                        go_wp2
                        go_quiet (fail)
                        go_wp2
                        go_quiet (fail)
                        go_wp2
                        go_roundw
                        case rel => exact ⟨b + 1, by go_num, by omega, own_eq (ys := ints (St.bo zs (b + 1))) (by rw [ints_len, HMB.out]; exact Li.own_on H3.out (DD.out _)) (by rw [F.out]), NB.out.trans (Sh.below_le (DD.out _) NB.out.size)⟩
                        case measure => simp [intOf]; omega
                  · have eu : u = mB := by omega
                    subst eu
                    have F := Lib.hid (OLD.out (by rw [EB.out]; exact lx_all P B (by rw [HMP.out, HMB.out]) (fun v hv => HALL.out v (by rw [HMP.out] at hv; exact hv))))
                    go_wp2
                    go_roundw
                    case rel => exact ⟨b + 1, by go_num, by omega, own_eq (ys := ints (St.bo zs (b + 1))) (by rw [ints_len, HMB.out]; exact Li.own_on H3.out HB2.out) (by rw [F.out]), NB.out.trans (Sh.below_le HB2.out NB.out.size)⟩
                    case measure => simp [intOf]; omega
    · have eb : b = N := by omega
      subst eb
      go_wp2
      go_ret
      exact ⟨_, rfl, HBEST.out, HBW.out⟩
end So
end Go.Proofs.Ytogkebbgkeffcaa
