/- What spec.ParsePages answers of a text of at most 100 bytes: the pages of which it is the text, and nothing of every other one. -/
import Derived.Test.YtocmgggggdcebaaDoorCread
import Derived.Test.YtocmgggggdcebaaDoorTold
import Derived.BigQuiet
import Derived.Deep.AppendLies
import Derived.Deep.QuietTactic
import Derived.Outline
namespace Go.Proofs.YtocmgggggdcebaaDoor
open Go.RowKit
set_option linter.unusedVariables false
namespace P
theorem below_next {a b c : World} (h : Below a.heap.size a b) (k : Below b.heap.size b c) : Below a.heap.size a c := h.trans (k.mono h.size)
theorem own_le {w : World} {base base' size n : Nat} {e : TypeId} {v : Value} {xs : List Value} (h : w.ownsRow base e size v n xs) (hb : base' ≤ base) : w.ownsRow base' e size v n xs :=
  ⟨h.1, h.2.imp id fun ⟨g, cap, cur, h1, h2, h3⟩ => ⟨g, cap, cur, h1, Nat.le_trans hb h2, h3⟩⟩
/-- a list and a bool are returned: the list in new memory -/
def Gives (ok : Bool) (zs : List Int) (W : World) (e : Ending) (w' : World) : Prop :=
  ∃ v, e = .returned (.tuple #[v, .bool ok]) ∧ w'.ownsRow W.heap.size 3 1 v zs.length (nums zs) ∧ Below W.heap.size W w'
theorem Gives.none {W w' : World} (hb : Below W.heap.size W w') : Gives false [] W (.returned (.tuple #[.slice none 0 0, .bool false])) w' :=
  ⟨_, rfl, World.ownsRow_nil _ _ _ _, hb⟩
open Classical in
/-- what a parse ends in, given what its parts came to -/
noncomputable def ans (l : List UInt8) : Option (List Int) → Bool × List Int
  | some ys => if Pages ys ∧ T.text ys = l then (true, ys) else (false, [])
  | none => (false, [])
theorem ans_none (l : List UInt8) : ans l none = (false, []) := rfl
theorem ans_yes {l : List UInt8} {ys : List Int} (h1 : Pages ys) (h2 : T.text ys = l) : ans l (some ys) = (true, ys) := by simp [ans, h1, h2]
theorem ans_bad {l : List UInt8} {ys : List Int} (h : ¬ Pages ys) : ans l (some ys) = (false, []) := by simp [ans, h]
theorem ans_other {l : List UInt8} {ys : List Int} (h : ¬ T.text ys = l) : ans l (some ys) = (false, []) := by simp [ans, h]
theorem strs_at (ps : List (List UInt8)) (j : Nat) (h : j < ps.length) : (strs ps)[j]? = some (.string ⟨(ps.getD j []).toArray⟩) := by
  simp [strs, List.getD, List.getElem?_eq_getElem h]
theorem Li_cell {W W' : World} {base g cap n : Nat} {L : List (List UInt8)} (h : W.ownsRow base 9 1 (.slice (some ⟨g, 0, none⟩) n cap) n (strs L)) (hn : L.length = n) (hb : Below W.heap.size W W') {k : Nat} (hk : k < n) : W'.cell? ⟨g, k, none⟩ = some (.string ⟨(L.getD k []).toArray⟩) := by
  rw [hb.cell (p := ⟨g, k, none⟩) (h.lt g rfl).2, h.cellAt k (by omega), strs_at L k (by omega)]
theorem nums_snoc (ys : List Int) (x : Int) : nums (ys ++ [x]) = nums ys ++ [.int .i64 x] := by simp [nums]
theorem rng_length (a b : Int) : (rng a b).length = (b + 1 - a).toNat := by simp [rng]
theorem rng_take (a b : Int) (j : Nat) (h : (j : Int) < b + 1 - a) : (rng a b).take (j + 1) = (rng a b).take j ++ [a + (j : Int)] := by
  rw [List.take_succ_eq_append_getElem (by rw [rng_length]; omega)]
  simp [rng]
theorem fo_skip (ru : List UInt8 → Int × Int) (L : List (List UInt8)) (k : Nat) (ys : List Int) (h : k < L.length) (hz : (ru (L.getD k [])).1 = 0) : fo ru (L.drop k) ys = none := by
  rw [List.drop_eq_getElem_cons h, fo]
  rw [show L[k] = L.getD k [] from by simp [List.getD, List.getElem?_eq_getElem h], if_pos hz]
theorem fo_take (ru : List UInt8 → Int × Int) (L : List (List UInt8)) (k : Nat) (ys : List Int) (a b : Int) (h : k < L.length) (he : ru (L.getD k []) = (a, b)) (hz : ¬ a = 0) : fo ru (L.drop k) ys = fo ru (L.drop (k + 1)) (ys ++ rng a b) := by
  rw [List.drop_eq_getElem_cons h, fo]
  rw [show L[k] = L.getD k [] from by simp [List.getD, List.getElem?_eq_getElem h], he, if_neg hz]
theorem fo_end (ru : List UInt8 → Int × Int) (L : List (List UInt8)) (ys : List Int) : fo ru (L.drop L.length) ys = some ys := by rw [List.drop_length]; rfl
theorem sp_part (c : UInt8) (l : List UInt8) : ∀ p ∈ sp c l, p.length ≤ l.length := by
  induction l with
  | nil => intro p h; simp [sp] at h; rw [h]; exact Nat.le_refl _
  | cons x xs ih =>
    intro p h
    unfold sp at h
    split at h
    · rcases List.mem_cons.mp h with rfl | h
      · simp
      · have := ih p h; simp; omega
    · rcases List.mem_cons.mp h with rfl | h
      · cases hs : sp c xs with
        | nil => simp
        | cons q r => have := ih q (by rw [hs]; simp); simp; omega
      · have := ih p (List.mem_of_mem_tail h); simp; omega
theorem getD_mem (L : List (List UInt8)) (k : Nat) (h : k < L.length) : L.getD k [] ∈ L := by
  simp [List.getD, List.getElem?_eq_getElem h]
theorem getD_last (L : List (List UInt8)) (h : 0 < L.length) : L.getLastD [] = L.getD (L.length - 1) [] := by
  rw [List.getLastD_eq_getLast?, List.getLast?_eq_getElem?]
  rfl
theorem getD_head (L : List (List UInt8)) : L.headD [] = L.getD 0 [] := by cases L <;> rfl
theorem rdS_lt (p : List UInt8) : -1 ≤ rdS p ∧ rdS p ≤ 1000000 := by
  unfold rdS
  split
  · rename_i h
    have := val_bd p p.length (Nat.le_refl _) (fun j hj => List.all_eq_true.mp h.2.2.2 _ (List.getElem_mem _))
    rw [List.take_length] at this
    have h6 : (10 : Int) ^ p.length ≤ 10 ^ 6 := by
      rcases (show p.length = 0 ∨ p.length = 1 ∨ p.length = 2 ∨ p.length = 3 ∨ p.length = 4 ∨ p.length = 5 ∨ p.length = 6 from by omega) with e | e | e | e | e | e | e <;> rw [e] <;> decide
    omega
  · omega
theorem bpBook_yes (n : Int) (h1 : 1 ≤ n) (h2 : n ≤ 2000) (w : World) :
    Calls Tryd.prog 21 #[.int .i64 n] w fun e w' => e = .returned (.bool true) ∧ w = w' := by
  go_enter Tryd.func21, Tryd.ntmps21
  go_wp2
  go_ret
  exact ⟨rfl, rfl⟩
theorem bpBook_no (n : Int) (h : ¬ 1 ≤ n ∨ ¬ n ≤ 2000) (w : World) :
    Calls Tryd.prog 21 #[.int .i64 n] w fun e w' => e = .returned (.bool false) ∧ w = w' := by
  by_cases c1 : 1 ≤ n <;> by_cases c2 : n ≤ 2000 <;> first | (exfalso; omega) | skip
  all_goals
    clear h
    go_enter Tryd.func21, Tryd.ntmps21
    go_wp2
    go_ret
    exact ⟨rfl, rfl⟩
theorem least_any (a b : Int) (w : World) :
    Calls Tryd.prog 23 #[.int .i64 a, .int .i64 b] w fun e w' => e = .returned (.int .i64 (if a < b then a else b)) ∧ w = w' := by
  by_cases c : a < b
  · rw [if_pos c]
    go_enter Tryd.func23, Tryd.ntmps23
    go_wp2
    go_ret
    exact ⟨rfl, rfl⟩
  · rw [if_neg c]
    go_enter Tryd.func23, Tryd.ntmps23
    go_wp2
    go_ret
    exact ⟨rfl, rfl⟩
theorem ruS_at (p : List UInt8) (m t : Nat) (q0 qt : List UInt8) (a b : Int) (hm : (sp 45 p).length = m) (ht : t + 1 = m) (h0 : (sp 45 p).getD 0 [] = q0) (h1 : (sp 45 p).getD t [] = qt) (ha : rdS q0 = a) (hb : rdS qt = b) :
    ruS p = if m ≤ 2 ∧ 1 ≤ a ∧ a ≤ 2000 ∧ a ≤ b ∧ b ≤ 2000 ∧ b ≤ a + 20 then (a, b) else (0, 0) := by
  have e1 : rdS ((sp 45 p).headD []) = a := by rw [getD_head, h0, ha]
  have e2 : rdS ((sp 45 p).getLastD []) = b := by rw [getD_last _ (by omega), hm, show m - 1 = t from by omega, h1, hb]
  unfold ruS
  simp only [e1, e2, hm]
theorem least_ex (a b : Int) (w : World) :
    Calls Tryd.prog 23 #[.int .i64 a, .int .i64 b] w fun e w' => ∃ d, e = .returned (.int .i64 d) ∧ (d ≤ a ∧ d ≤ b ∧ (d = a ∨ d = b)) ∧ w = w' := by
  refine (least_any a b w).mono ?_
  rintro e w' ⟨rfl, rfl⟩
  refine ⟨_, rfl, ?_, rfl⟩
  split <;> omega
theorem bpList_none (a : Option Addr) (cap : Nat) (w : World) :
    Calls Tryd.prog 13 #[.slice a 0 cap] w fun e w' => e = .returned (.bool false) ∧ w = w' := by
  go_enter Tryd.func13, Tryd.ntmps13
  go_wp2
  go_ret
  exact ⟨rfl, rfl⟩
theorem l1Read_q (l : List UInt8) (hl : l.length ≤ 200) (w : World) :
    Calls Tryd.prog 20 #[.string ⟨l.toArray⟩] w fun e w' => e = .returned (.int .i64 (rdS l)) ∧ w' = w := (l1Read_any l hl w).mono fun _ _ h => ⟨h.1, h.2.symm⟩
set_option maxRecDepth 100000 in
set_option maxHeartbeats 4000000 in
theorem specParse (l : List UInt8) (hl : l.length ≤ 100) (w : World) :
    Calls Tryd.prog 9 #[.string ⟨l.toArray⟩] w (Gives (ans l (fo ruS (sp 44 l) [])).1 (ans l (fo ruS (sp 44 l) [])).2 w) := by
  obtain ⟨i0, hi, hz0, hz1, hz2⟩ := info_parts info3
  obtain ⟨n, hn⟩ : ∃ n, (sp 44 l).length = n := ⟨_, rfl⟩
  have hn0 : 0 < n := by rw [← hn]; exact sp_pos 44 l
  have hn1 : n ≤ 101 := by have := sp_le 44 l; omega
  have HN := Lib.hid hn
  have hdec : decide ((100 : Int) < (l.length : Int)) = false := by simp; omega
  have S44 := Lib.hid (fun W => l1Split_any l 44 (by omega) W)
  clear hn
  go_enter Tryd.func9, Tryd.ntmps9
  go_wp2_with fail
  refine (S44.out _).mono ?_
  rintro e w1 ⟨v1, rfl, ho1, hb1⟩
  rw [HN.out] at ho1
  obtain ⟨g1, cap1, rfl, _, hg1⟩ := World.ownsRow.form ho1 hn0
  have HO1 := Lib.hid ho1
  have hs1 := hb1.size
  have HB1 := Lib.hid hb1
  clear ho1 hb1 S44
  go_wp2
  go_loopw [4, 17] (fun v i wr => ∃ (k : Nat) (ys : List Int), k ≤ n ∧ i = .int .i64 (k : Int) ∧ wr.ownsRow w1.heap.size 3 1 v ys.length (nums ys) ∧ Hid (fo ruS (sp 44 l) [] = fo ruS ((sp 44 l).drop k) ys) ∧ ys.length ≤ 21 * k ∧ Below w1.heap.size w1 wr) (fun _ i _ => n - (intOf i).toNat)
  case atStart => exact ⟨0, [], by omega, rfl, World.ownsRow_nil _ _ _ _, Lib.hid (by simp), by simp, Below.refl _ _⟩
  case round =>
    obtain ⟨k, ys, hk, rfl, hown, hfo, hys, hb⟩ := hrel
    obtain ⟨wo, rfl⟩ : ∃ wo : World, wo = wr := ⟨_, rfl⟩
    have hsz := hb.size
    by_cases hlt : k < n
    · obtain ⟨p, hp⟩ : ∃ p, (sp 44 l).getD k [] = p := ⟨_, rfl⟩
      have hpl : p.length ≤ 100 := by
        have := sp_part 44 l p (by rw [← hp]; exact getD_mem _ k (by rw [HN.out]; exact hlt))
        omega
      have hc := (Li_cell HO1.out HN.out hb hlt)
      rw [hp] at hc
      obtain ⟨m, hm⟩ : ∃ m, (sp 45 p).length = m := ⟨_, rfl⟩
      have hm0 : 0 < m := by rw [← hm]; exact sp_pos 45 p
      have hm1 : m ≤ 101 := by have := sp_le 45 p; omega
      obtain ⟨t, ht⟩ : ∃ t : Nat, t + 1 = m := ⟨m - 1, by omega⟩
      have htI : (m : Int) - 1 = (t : Int) := by omega
      have S45 := Lib.hid (fun W => l1Split_any p 45 (by omega) W)
      have HM := Lib.hid hm
      have HP := Lib.hid hp
      have HT := Lib.hid ht
      clear hp hm ht
      go_wp2_with fail
      refine (S45.out _).mono ?_
      rintro e w2 ⟨v2, rfl, ho2, hb2⟩
      rw [HM.out] at ho2
      obtain ⟨g2, cap2, rfl, _, hg2⟩ := World.ownsRow.form ho2 hm0
      obtain ⟨q0, hq0⟩ : ∃ q, (sp 45 p).getD 0 [] = q := ⟨_, rfl⟩
      obtain ⟨qt, hqt⟩ : ∃ q, (sp 45 p).getD t [] = q := ⟨_, rfl⟩
      have c0 : w2.cell? ⟨g2, 0, none⟩ = some (.string ⟨q0.toArray⟩) := by rw [ho2.cellAt 0 (by omega), strs_at _ 0 (by rw [HM.out]; exact hm0), hq0]
      have ct : w2.cell? ⟨g2, t, none⟩ = some (.string ⟨qt.toArray⟩) := by rw [ho2.cellAt t (by have := HT.out; omega), strs_at _ t (by rw [HM.out]; have := HT.out; omega), hqt]
      have hl0 : q0.length ≤ 200 := by have := sp_part 45 p q0 (by rw [← hq0]; exact getD_mem _ 0 (by rw [HM.out]; exact hm0)); omega
      have hlt2 : qt.length ≤ 200 := by have := sp_part 45 p qt (by rw [← hqt]; exact getD_mem _ t (by rw [HM.out]; have := HT.out; omega)); omega
      have ht1 : (t : Int) < m := by omega
      have htm : t < m := by have := HT.out; omega
      have HQ0 := Lib.hid hq0
      have HQT := Lib.hid hqt
      clear ho2 hq0 hqt
      obtain ⟨a, ha⟩ : ∃ a, rdS q0 = a := ⟨_, rfl⟩
      obtain ⟨b, hbb⟩ : ∃ b, rdS qt = b := ⟨_, rfl⟩
      have hab := rdS_lt q0
      have hbb2 := rdS_lt qt
      rw [ha] at hab
      rw [hbb] at hbb2
      obtain ⟨ha1, ha2⟩ := hab
      obtain ⟨hb3, hb4⟩ := hbb2
      have RU := Lib.hid (ruS_at p m t q0 qt a b HM.out HT.out HQ0.out HQT.out ha hbb)
      have hown2 := own_on hown hb2
      have hbw := hb.trans (hb2.mono hsz)
      clear hown
      go_wp2
      go_quiet ((go_at_call 20; exact Calls.quiet_of_same (l1Read_q _ (by first | exact hl0 | exact hlt2) _)))
      have hown3 := own_on hown2 (show Below w2.heap.size w2 (w2.drewN nq) from ⟨rfl, rfl, rfl, Nat.le_refl _, fun _ _ => rfl⟩)
      have hbw3 : Below w1.heap.size w1 (w2.drewN nq) := hbw.trans ⟨rfl, rfl, rfl, Nat.le_refl _, fun _ _ => rfl⟩
      clear c0 ct hown2 hbw hb hb2
      obtain ⟨w3, hw3⟩ : ∃ w3, w3 = w2.drewN nq := ⟨_, rfl⟩
      rw [← hw3] at hown3 hbw3 ⊢
      rw [ha, hbb]
      clear hw3 ha hbb
      by_cases hok : m ≤ 2 ∧ 1 ≤ a ∧ a ≤ 2000 ∧ a ≤ b ∧ b ≤ 2000 ∧ b ≤ a + 20
      · obtain ⟨k1, k2, k3, k4, k5, k6⟩ := hok
        have FO := Lib.hid (show fo ruS (sp 44 l) [] = fo ruS ((sp 44 l).drop (k + 1)) (ys ++ rng a b) by
          rw [hfo.out]
          exact fo_take ruS (sp 44 l) k ys a b (by rw [HN.out]; exact hlt) (by rw [HP.out, RU.out, if_pos ⟨k1, k2, k3, k4, k5, k6⟩]) (by omega))
        have hm2 : decide ((2 : Int) < (m : Int)) = false := by simp; omega
        clear hfo RU
        go_wp2_with (first | (go_at_call 21; refine (bpBook_yes _ k2 k3 _).mono ?_; rintro e w' ⟨rfl, rfl⟩) | (go_at_call 23; refine (least_ex _ _ _).mono ?_; rintro e w' ⟨d, rfl, ⟨hd1, hd2, hd3⟩, rfl⟩) | (go_at_call 22; refine (l1In_yes _ _ _ k4 (by omega) _).mono ?_; rintro e w' ⟨rfl, rfl⟩))
        go_loopw [4, 10] (fun v i wr => ∃ j : Nat, (j : Int) ≤ b + 1 - a ∧ i = .int .i64 (a + (j : Int)) ∧ wr.ownsRow w1.heap.size 3 1 v (ys.length + j) (nums (ys ++ (rng a b).take j)) ∧ Below w1.heap.size w1 wr) (fun _ i _ => (b + 1 - intOf i).toNat)
        case atStart => exact ⟨0, by omega, by simp, by simpa using hown3, hbw3⟩
        case round =>
          obtain ⟨j, hj, rfl, hv, hb5⟩ := hrel
          have hsz5 := hb5.size
          by_cases hlt5 : a + (j : Int) ≤ b
          · have HT5 := Lib.hid (rng_take a b j (by omega))
            go_wp2_with (first | (at_builtin; refine wpList_append_own _ rfl _ _ 22 rfl w1.heap.size 3 i0 (.int .i64 0) 1 8 Tryd.underlying22 hi hz0 hz1 hz2 rfl (by decide) _ _ _ rfl (hv.alloc _) ⟨wr.heap.size, 0, none⟩ 1 1 [.int .i64 (a + (j : Int))] rfl rfl (cell_one_new _ _ _) (fun x hx => by simp at hx; subst hx; rfl) (by unfold maxLen; omega) (by omega) (by simp; omega) ?_; intro v' w5 hown5 hgrow5 hnil5))
            have O := Lib.hid (show w5.ownsRow w1.heap.size 3 1 v' (ys.length + (j + 1)) (nums (ys ++ (rng a b).take (j + 1))) by rw [HT5.out, ← List.append_assoc, nums_snoc]; exact hown5)
            have B := Lib.hid ((hb5.alloc hsz5 _).grown hgrow5 (by simp; omega) (fun q hq => (hv.lt q hq).1))
            clear hown5 hgrow5 hnil5 hv hb5
            go_roundw
            case rel => exact ⟨j + 1, by omega, by have : ((j + 1 : Nat) : Int) = (j : Int) + 1 := by omega
                                                   rw [this, Int.add_assoc], O.out, B.out⟩
            case measure => simp [intOf]; omega
          · have HJ := Lib.hid (show j = (rng a b).length by rw [rng_length]; omega)
            have O := Lib.hid (show wr.ownsRow w1.heap.size 3 1 u4 (ys ++ rng a b).length (nums (ys ++ rng a b)) by
              rw [HJ.out, List.take_length] at hv
              rw [List.length_append]; exact hv)
            have HLen := Lib.hid (show (ys ++ rng a b).length ≤ 21 * (k + 1) by rw [List.length_append, ← HJ.out]; omega)
            clear hv
            go_wp2
            go_roundw
            case rel => exact ⟨k + 1, ys ++ rng a b, by omega, by go_num, O.out, FO, HLen.out, hb5⟩
            case measure => simp [intOf]; omega
      · have FO := Lib.hid (show ans l (fo ruS (sp 44 l) []) = (false, []) by
          rw [hfo.out, fo_skip ruS (sp 44 l) k ys (by rw [HN.out]; exact hlt) (by rw [HP.out, RU.out, if_neg hok])]
          rfl)
        have HBW := Lib.hid (Gives.none (HB1.out.trans (hbw3.mono HB1.out.size)))
        clear hfo RU hown3
        by_cases hm2 : 2 < m
        · have hm3 : decide ((2 : Int) < (m : Int)) = true := by simp; omega
          clear hok
          go_wp2
          go_ret2
          rw [FO.out]
          exact HBW.out
        · have hm3 : decide ((2 : Int) < (m : Int)) = false := by simp; omega
          by_cases hka : 1 ≤ a ∧ a ≤ 2000
          · obtain ⟨k2, k3⟩ := hka
            have HOK := Lib.hid (show ¬ a ≤ b ∨ ¬ b ≤ 2000 ∨ ¬ b ≤ a + 20 by omega)
            clear hok
            go_wp2_with (first | (go_at_call 21; refine (bpBook_yes _ k2 k3 _).mono ?_; rintro e w' ⟨rfl, rfl⟩) | (go_at_call 23; refine (least_ex _ _ _).mono ?_; rintro e w' ⟨d, rfl, ⟨hd1, hd2, hd3⟩, rfl⟩) | (go_at_call 22; refine (l1In_no _ _ _ (by have := HOK.out; omega) _).mono ?_; rintro e w' ⟨rfl, rfl⟩))
            go_ret2
            rw [FO.out]
            exact HBW.out
          · have HOK := Lib.hid (show ¬ 1 ≤ a ∨ ¬ a ≤ 2000 by omega)
            clear hok hka
            go_wp2_with (first | (go_at_call 21; refine (bpBook_no _ HOK.out _).mono ?_; rintro e w' ⟨rfl, rfl⟩))
            go_ret2
            rw [FO.out]
            exact HBW.out
    · have hkn : k = n := by omega
      have FO := Lib.hid (show fo ruS (sp 44 l) [] = some ys by
        rw [hfo.out, hkn, ← HN.out]
        exact fo_end ruS (sp 44 l) ys)
      have HBW := Lib.hid (HB1.out.trans (hb.mono HB1.out.size))
      clear hfo hkn
      by_cases hy : ys.length = 0
      · have HY := Lib.hid (show ans l (fo ruS (sp 44 l) []) = (false, []) by rw [FO.out]; exact ans_bad (fun h => by have := h.1; omega))
        have hform : ∃ a0 cap0, u4 = .slice a0 0 cap0 := by
          rw [hy] at hown
          rcases hown.2 with ⟨h, _⟩ | ⟨g, cap, cur, h, _⟩
          · exact ⟨_, _, h⟩
          · exact ⟨_, _, h⟩
        obtain ⟨a0, cap0, rfl⟩ := hform
        clear hy hown
        go_wp2_with (first | (go_at_call 13; refine (bpList_none _ _ _).mono ?_; rintro e w' ⟨rfl, rfl⟩))
        go_ret2
        rw [HY.out]
        exact Gives.none HBW.out
      · obtain ⟨g, cap, rfl, _, hg⟩ := World.ownsRow.form hown (by omega)
        have hra : RowAt wo g 0 ys.length ys := ⟨rfl, by omega, hg, fun q hq => by
          rw [Nat.zero_add, hown.cellAt q (by omega)]
          unfold nums
          simp [List.getD, List.getElem?_eq_getElem hq]⟩
        have HRA := Lib.hid hra
        clear hra
        by_cases hp : Pages ys
        · have C1 := Lib.hid (fun W h => bpList_yes g ys.length cap ys W h hp)
          have C2 := Lib.hid (fun W h => bpText_any g ys.length cap ys W h hp)
          have HPG := Lib.hid hp
          clear hp
          go_wp2_with fail
          refine (C1.out _ HRA.out).mono ?_
          rintro e w4 ⟨rfl, hb4⟩
          go_wp2_with fail
          refine (C2.out _ (HRA.out.on hb4)).mono ?_
          rintro e w5 ⟨rfl, hb5⟩
          have HB5 := Lib.hid (HBW.out.trans ((hb4.trans (hb5.mono hb4.size)).mono HBW.out.size))
          by_cases ht : T.text ys = l
          · have HY := Lib.hid (show ans l (fo ruS (sp 44 l) []) = (true, ys) by rw [FO.out]; exact ans_yes HPG.out ht)
            have O := Lib.hid (own_le (own_on (own_on hown hb4) hb5) hs1)
            have q5 : (T.text ys == l) = true := by simpa using ht
            clear ht hown hb4 hb5
            go_wp2
            go_ret2
            rw [HY.out]
            exact ⟨_, rfl, O.out, HB5.out⟩
          · have HY := Lib.hid (show ans l (fo ruS (sp 44 l) []) = (false, []) by rw [FO.out]; exact ans_other ht)
            have q5 : (T.text ys == l) = false := by simpa using ht
            clear ht hown hb4 hb5
            go_wp2
            go_ret2
            rw [HY.out]
            exact Gives.none HB5.out
        · have C1 := Lib.hid (fun W h => bpList_no g ys.length cap ys W h hp)
          have HY := Lib.hid (show ans l (fo ruS (sp 44 l) []) = (false, []) by rw [FO.out]; exact ans_bad hp)
          clear hp hown
          go_wp2_with fail
          refine (C1.out _ HRA.out).mono ?_
          rintro e w4 ⟨rfl, hb4⟩
          have HB4 := Lib.hid (HBW.out.trans (hb4.mono HBW.out.size))
          clear hb4
          go_wp2
          go_ret2
          rw [HY.out]
          exact Gives.none HB4.out
end P
end Go.Proofs.YtocmgggggdcebaaDoor
