/- What spec.l1Split and spec.l1Read answer: the parts of a text of at most 1048576 bytes in new memory, and the number that a text of at most 200 bytes spells. -/
import Derived.Test.YtlghonnakokioaaDoorChecked
import Derived.Test.YtlghonnakokioaaDoorPm
import Derived.WalkKit
import Derived.Lib.Hide
import Derived.Below
import Derived.Maps.AppendAt
import Derived.Laws.OwnMore
import Derived.Outline
namespace Go.Proofs.YtlghonnakokioaaDoor
open Go.RowKit
set_option linter.unusedVariables false
namespace P
def strs (ps : List (List UInt8)) : List Value := ps.map (fun p => Value.string ⟨p.toArray⟩)
theorem strs_snoc (ps : List (List UInt8)) (p : List UInt8) : strs (ps ++ [p]) = strs ps ++ [.string ⟨p.toArray⟩] := by simp [strs]
/-- what has been read of a part is laid ahead of the rest -/
def pre (cur : List UInt8) (L : List (List UInt8)) : List (List UInt8) := (cur ++ L.headD []) :: L.tail
theorem pre_nil (c : UInt8) (l : List UInt8) : pre [] (sp c l) = sp c l := by
  unfold pre
  cases h : sp c l with
  | nil => have := sp_pos c l; rw [h] at this; simp at this
  | cons a r => simp
theorem sp_at (c : UInt8) (l : List UInt8) (k : Nat) (h : k < l.length) : sp c (l.drop k) = if l[k] = c then [] :: sp c (l.drop (k + 1)) else (l[k] :: (sp c (l.drop (k + 1))).headD []) :: (sp c (l.drop (k + 1))).tail := by
  rw [List.drop_eq_getElem_cons h, sp]
theorem cur_next (l : List UInt8) (st k : Nat) (h : k < l.length) (hs : st ≤ k) : (l.drop st).take (k + 1 - st) = (l.drop st).take (k - st) ++ [l[k]] := by
  rw [show k + 1 - st = (k - st) + 1 from by omega, List.take_succ_eq_append_getElem (by rw [List.length_drop]; omega), List.getElem_drop]
  congr 2
  congr 1
  omega
theorem inv_skip (c : UInt8) (l : List UInt8) (ps : List (List UInt8)) (st k : Nat) (h : k < l.length) (hs : st ≤ k) (hc : ¬ l[k] = c) (hi : sp c l = ps ++ pre ((l.drop st).take (k - st)) (sp c (l.drop k))) :
    sp c l = ps ++ pre ((l.drop st).take (k + 1 - st)) (sp c (l.drop (k + 1))) := by
  rw [hi, sp_at c l k h, if_neg hc, cur_next l st k h hs]
  simp [pre]
theorem inv_hit (c : UInt8) (l : List UInt8) (ps : List (List UInt8)) (st k : Nat) (h : k < l.length) (hc : l[k] = c) (hi : sp c l = ps ++ pre ((l.drop st).take (k - st)) (sp c (l.drop k))) :
    sp c l = (ps ++ [(l.drop st).take (k - st)]) ++ pre ((l.drop (k + 1)).take (k + 1 - (k + 1))) (sp c (l.drop (k + 1))) := by
  rw [hi, sp_at c l k h, if_pos hc, Nat.sub_self, List.take_zero, pre_nil]
  simp [pre]
theorem inv_end (c : UInt8) (l : List UInt8) (ps : List (List UInt8)) (st : Nat) (hi : sp c l = ps ++ pre ((l.drop st).take (l.length - st)) (sp c (l.drop l.length))) : sp c l = ps ++ [l.drop st] := by
  have e : (l.drop st).take (l.length - st) = l.drop st := List.take_of_length_le (by rw [List.length_drop]; exact Nat.le_refl _)
  rw [hi, e, List.drop_length]
  simp [sp, pre]
theorem idx_at (l : List UInt8) (k : Nat) (h : k < l.length) (x : UInt8) (hx : l[k] = x) (W : World) : (Instr.index 9 (.string ⟨l.toArray⟩) (.int .i64 (k : Int))).run Tryd.prog W = .ok (.int .u8 x.toNat) W := by
  subst hx
  have hs : (0 : Int) ≤ (k : Int) ∧ (k : Int) < ((⟨l.toArray⟩ : ByteArray).size : Int) := ⟨by omega, by show (k : Int) < (l.toArray.size : Int); simp; omega⟩
  rw [run_index_string W 9 ⟨l.toArray⟩ .i64 k (by kernel_rfl), dif_pos hs]
  rfl
theorem sl_at (l : List UInt8) (i j : Nat) (h : i ≤ j) (hj : j ≤ l.length) (W : World) :
    (Instr.slice 9 (.string ⟨l.toArray⟩) (some (.int .i64 (i : Int))) (some (.int .i64 (j : Int))) none).run Tryd.prog W = .ok (.string ⟨((l.drop i).take (j - i)).toArray⟩) W := by
  rw [run_slice_string W 9 ⟨l.toArray⟩ .i64 .i64 i j (by kernel_rfl) (by omega) (by omega) (by show (j : Int) ≤ (l.toArray.size : Int); simp; omega), ByteArray.extract_mk]
  simp
theorem sl_from (l : List UInt8) (i : Nat) (h : i ≤ l.length) (W : World) :
    (Instr.slice 9 (.string ⟨l.toArray⟩) (some (.int .i64 (i : Int))) none none).run Tryd.prog W = .ok (.string ⟨(l.drop i).toArray⟩) W := by
  have hz : ((⟨l.toArray⟩ : ByteArray).size : Int) = (l.length : Int) := by show (l.toArray.size : Int) = _; simp
  rw [run_slice_string_from_if W 9 ⟨l.toArray⟩ .i64 i (by kernel_rfl), if_pos ⟨by omega, by omega⟩, ByteArray.extract_mk]
  have hz2 : (⟨l.toArray⟩ : ByteArray).size = l.length := by omega
  rw [hz2, Int.toNat_natCast, List.take_of_length_le (by rw [List.length_drop]; exact Nat.le_refl _)]
theorem info9 : (Tryd.prog.info? 9).map (fun i => (i.zero, i.size, i.bytes)) = some (some (.string ByteArray.empty), 1, 16) := by kernel_rfl
set_option maxRecDepth 100000 in
set_option maxHeartbeats 2000000 in
theorem l1Split_any (l : List UInt8) (c : UInt8) (hl : l.length ≤ 1048576) (w : World) :
    Calls Tryd.prog 50 #[.string ⟨l.toArray⟩, .int .u8 c.toNat] w fun e w' => ∃ v, e = .returned v ∧ w'.ownsRow w.heap.size 9 1 v (sp c l).length (strs (sp c l)) ∧ Below w.heap.size w w' := by
  obtain ⟨i0, hi, hz0, hz1, hz2⟩ := info_parts info9
  go_enter Tryd.func50, Tryd.ntmps50
  go_wp2
  go_loopw [5, 6, 7] (fun v f i wr => ∃ (k st : Nat) (ps : List (List UInt8)), k ≤ l.length ∧ st ≤ k ∧ ps.length ≤ k ∧ i = .int .i64 (k : Int) ∧ f = .int .i64 (st : Int) ∧ wr.ownsRow w.heap.size 9 1 v ps.length (strs ps) ∧ Hid (sp c l = ps ++ pre ((l.drop st).take (k - st)) (sp c (l.drop k))) ∧ Below w.heap.size w wr) (fun _ _ i _ => l.length - (intOf i).toNat)
  case atStart => exact ⟨0, 0, [], by omega, by omega, by simp, rfl, rfl, World.ownsRow_nil _ _ _ _, Lib.hid (by simp [pre_nil]), Below.refl _ _⟩
  case round =>
    obtain ⟨k, st, ps, hk, hs, hp, rfl, rfl, hown, hinv, hb⟩ := hrel
    have hsz := hb.size
    by_cases hlt : k < l.length
    · obtain ⟨x, hx⟩ : ∃ x, l[k] = x := ⟨_, rfl⟩
      have r1 := idx_at l k hlt x hx
      by_cases hc : x = c
      · have I := Lib.hid (inv_hit c l ps st k hlt (by rw [hx]; exact hc) hinv.out)
        have q1 : ((x.toNat : Int) == (c.toNat : Int)) = true := by rw [hc]; simp
        have r2 := sl_at l st k hs hk
        clear hx hc hinv
        go_wp2_with (first | (at_builtin; refine wpList_append_own _ rfl _ _ 63 rfl w.heap.size 9 i0 (.string ByteArray.empty) 1 16 Tryd.underlying63 hi hz0 hz1 hz2 rfl (by decide) _ _ _ rfl (hown.alloc _) ⟨wr.heap.size, 0, none⟩ 1 1 [.string ⟨((l.drop st).take (k - st)).toArray⟩] rfl rfl (cell_one_new _ _ _) (fun x hx => by simp at hx; subst hx; rfl) (by unfold maxLen; omega) (by omega) (by simp; omega) ?_; intro v' w2 hown2 hgrow2 hnil2))
        have O := Lib.hid (show w2.ownsRow w.heap.size 9 1 v' (ps ++ [(l.drop st).take (k - st)]).length (strs (ps ++ [(l.drop st).take (k - st)])) by rw [strs_snoc, List.length_append]; exact hown2)
        have B := Lib.hid ((hb.alloc hsz _).grown hgrow2 (by simp; omega) (fun j hj => (hown.lt j hj).1))
        clear hown2 hgrow2 hnil2 hown hb
        go_roundw
        case rel => exact ⟨k + 1, k + 1, ps ++ [(l.drop st).take (k - st)], by omega, by omega, by rw [List.length_append]; show ps.length + 1 ≤ k + 1; omega, by go_num, by go_num, O.out, I, B.out⟩
        case measure => simp [intOf]; omega
      · have I := Lib.hid (inv_skip c l ps st k hlt hs (by rw [hx]; exact hc) hinv.out)
        have q1 : ((x.toNat : Int) == (c.toNat : Int)) = false := by
          simp only [beq_eq_false_iff_ne, ne_eq]
          intro h
          exact hc (UInt8.toNat_inj.mp (by omega))
        clear hx hc hinv
        go_wp2
        go_roundw
        case rel => exact ⟨k + 1, st, ps, by omega, by omega, by omega, by go_num, rfl, hown, I, hb⟩
        case measure => simp [intOf]; omega
    · have hkl : k = l.length := by omega
      have r2 := sl_from l st (by omega)
      have I := Lib.hid (inv_end c l ps st (by have := hinv.out; rw [hkl] at this; exact this))
      clear hinv hkl
      go_wp2_with (first | (at_builtin; refine wpList_append_own _ rfl _ _ 63 rfl w.heap.size 9 i0 (.string ByteArray.empty) 1 16 Tryd.underlying63 hi hz0 hz1 hz2 rfl (by decide) _ _ _ rfl (hown.alloc _) ⟨wr.heap.size, 0, none⟩ 1 1 [.string ⟨(l.drop st).toArray⟩] rfl rfl (cell_one_new _ _ _) (fun x hx => by simp at hx; subst hx; rfl) (by unfold maxLen; omega) (by omega) (by simp; omega) ?_; intro v' w2 hown2 hgrow2 hnil2))
      have O := Lib.hid (show w2.ownsRow w.heap.size 9 1 v' (sp c l).length (strs (sp c l)) by rw [I.out, strs_snoc, List.length_append]; exact hown2)
      have B := Lib.hid ((hb.alloc hsz _).grown hgrow2 (by simp; omega) (fun j hj => (hown.lt j hj).1))
      clear hown2 hgrow2 hnil2 hown hb
      go_ret
      exact ⟨v', rfl, O.out, B.out⟩
theorem val_snoc (l : List UInt8) (k : Nat) (h : k < l.length) : val (l.take (k + 1)) = 10 * val (l.take k) + ((l[k].toNat : Int) - 48) := by
  unfold val
  rw [List.take_succ_eq_append_getElem h, List.foldl_append]
  rfl
theorem val_bd (l : List UInt8) (k : Nat) (hk : k ≤ l.length) (hd : ∀ j (h : j < k), isD (l[j]'(by omega)) = true) : 0 ≤ val (l.take k) ∧ val (l.take k) < 10 ^ k := by
  induction k with
  | zero => simp [val]
  | succ k ih =>
    obtain ⟨h1, h2⟩ := ih (by omega) (fun j h => hd j (by omega))
    have h3 := hd k (by omega)
    unfold isD at h3
    simp only [Bool.and_eq_true, decide_eq_true_eq] at h3
    rw [val_snoc l k (by omega), Int.pow_succ]
    omega
theorem l1In_yes (n lo hi : Int) (h1 : lo ≤ n) (h2 : n ≤ hi) (w : World) :
    Calls Tryd.prog 53 #[.int .i64 n, .int .i64 lo, .int .i64 hi] w fun e w' => e = .returned (.bool true) ∧ w = w' := by
  go_enter Tryd.func53, Tryd.ntmps53
  go_wp2
  go_ret
  exact ⟨rfl, rfl⟩
theorem l1In_no (n lo hi : Int) (h : ¬ lo ≤ n ∨ ¬ n ≤ hi) (w : World) :
    Calls Tryd.prog 53 #[.int .i64 n, .int .i64 lo, .int .i64 hi] w fun e w' => e = .returned (.bool false) ∧ w = w' := by
  by_cases c1 : lo ≤ n <;> by_cases c2 : n ≤ hi <;> first | (exfalso; omega) | skip
  all_goals
    clear h
    go_enter Tryd.func53, Tryd.ntmps53
    go_wp2
    go_ret
    exact ⟨rfl, rfl⟩
theorem ret_n {a b : Int} (h : a = b) : Ending.returned (.int .i64 a) = .returned (.int .i64 b) := by rw [h]
theorem rdS_bad (l : List UInt8) (h : ¬ (1 ≤ l.length ∧ l.length ≤ 6 ∧ ¬ (l.headD 0 = 48 ∧ 1 < l.length) ∧ l.all isD = true)) : rdS l = -1 := by unfold rdS; rw [if_neg h]
set_option maxRecDepth 100000 in
set_option maxHeartbeats 1000000 in
theorem l1Read_loop (l : List UInt8) (ha : 1 ≤ l.length) (hb : l.length ≤ 6) (x : UInt8) (hx : l[0]'(by omega) = x) (hz : ¬ (l.headD 0 = 48 ∧ 1 < l.length)) (q : Bool) (hq : ((x.toNat : Int) == 48) = q) (hq2 : q = true → ¬ 1 < l.length) (w : World) :
    Calls Tryd.prog 51 #[.string ⟨l.toArray⟩] w fun e w' => e = .returned (.int .i64 (rdS l)) ∧ w = w' := by
  have r1 : ∀ W : World, (Instr.index 9 (.string ⟨l.toArray⟩) (.int .i64 0)).run Tryd.prog W = .ok (.int .u8 x.toNat) W := fun W => idx_at l 0 (by omega) x hx W
  have HZ := Lib.hid hz
  clear hz hx
  cases q
  all_goals
    first | (have q3 : ¬ 1 < l.length := hq2 rfl) | skip
    clear hq2
    go_enter Tryd.func51, Tryd.ntmps51
    go_wp2_with (go_at_call 53; refine (l1In_yes _ _ _ (by omega) (by omega) _).mono ?_; rintro e w' ⟨rfl, rfl⟩)
    go_loop [3, 4] (fun n i => ∃ k : Nat, k ≤ l.length ∧ i = .int .i64 (k : Int) ∧ n = .int .i64 (val (l.take k)) ∧ Hid (∀ j (h : j < k) (h' : j < l.length), isD l[j] = true)) (fun _ i => l.length - (intOf i).toNat)
    case atStart => exact ⟨0, by omega, rfl, rfl, Lib.hid (fun j h => absurd h (by omega))⟩
    case round =>
      obtain ⟨k, hk, rfl, rfl, hd⟩ := hrel
      obtain ⟨v1, v2⟩ := val_bd l k hk (fun j h => hd.out j h (by omega))
      have v3 : (10 : Int) ^ k ≤ 10 ^ 6 := by
        rcases (show k = 0 ∨ k = 1 ∨ k = 2 ∨ k = 3 ∨ k = 4 ∨ k = 5 ∨ k = 6 from by omega) with rfl | rfl | rfl | rfl | rfl | rfl | rfl <;> decide
      have v4 : val (l.take k) < 1000000 := Int.lt_of_lt_of_le v2 (Int.le_trans v3 (by decide))
      clear v2 v3
      obtain ⟨n, hn⟩ : ∃ n, n = val (l.take k) := ⟨_, rfl⟩
      rw [← hn] at v1 v4 ⊢
      have HN := Lib.hid hn
      clear hn
      by_cases hlt : k < l.length
      · obtain ⟨y, hy⟩ : ∃ y, l[k] = y := ⟨_, rfl⟩
        have r2 := idx_at l k hlt y hy
        have hyb : (y.toNat : Int) < 256 := by have := y.toNat_lt; omega
        have HY := Lib.hid hy
        clear hy
        by_cases hD : 48 ≤ (y.toNat : Int) ∧ (y.toNat : Int) ≤ 57
        · obtain ⟨d1, d2⟩ := hD
          have HS := Lib.hid (val_snoc l k hlt)
          have HD := Lib.hid (show ∀ j (h : j < k + 1) (h' : j < l.length), isD l[j] = true from fun j h h' => by
            by_cases e : j = k
            · subst e
              have : isD y = true := by unfold isD; simp only [Bool.and_eq_true, decide_eq_true_eq]; omega
              rw [HY.out]; exact this
            · exact hd.out j (by omega) h')
          go_wp2
          go_round
          case rel => exact ⟨k + 1, by omega, by go_num, by rw [HS.out, ← HN.out, HY.out], HD⟩
          case measure => simp [intOf]; omega
        · have HB := Lib.hid (rdS_bad l (fun h => hD (by
            have h4 := List.all_eq_true.mp h.2.2.2 l[k] (List.getElem_mem hlt)
            rw [HY.out] at h4
            unfold isD at h4
            simp only [Bool.and_eq_true, decide_eq_true_eq] at h4
            omega)))
          by_cases d1 : (y.toNat : Int) < 48
          · clear hD
            go_wp2
            go_ret
            exact ⟨ret_n HB.out.symm, rfl⟩
          · have d2 : 57 < (y.toNat : Int) := by omega
            clear hD
            go_wp2
            go_ret
            exact ⟨ret_n HB.out.symm, rfl⟩
      · have HE := Lib.hid (show rdS l = n by
          have hkl : k = l.length := by omega
          unfold rdS
          rw [if_pos ⟨ha, hb, HZ.out, List.all_eq_true.mpr (fun c hc => by
            obtain ⟨j, hj, e⟩ := List.getElem_of_mem hc
            rw [← e]; exact hd.out j (by omega) hj)⟩, HN.out, hkl, List.take_length])
        go_wp2
        go_ret
        exact ⟨ret_n HE.out.symm, rfl⟩
set_option maxRecDepth 100000 in
set_option maxHeartbeats 1000000 in
theorem l1Read_any (l : List UInt8) (hl : l.length ≤ 200) (w : World) :
    Calls Tryd.prog 51 #[.string ⟨l.toArray⟩] w fun e w' => e = .returned (.int .i64 (rdS l)) ∧ w = w' := by
  by_cases h1 : 1 ≤ l.length ∧ l.length ≤ 6
  · obtain ⟨ha, hb⟩ := h1
    obtain ⟨x, hx⟩ : ∃ x, l[0]'(by omega) = x := ⟨_, rfl⟩
    have hh : l.headD 0 = x := by rw [← hx]; cases l with | nil => simp at ha | cons y r => rfl
    have r1 : ∀ W : World, (Instr.index 9 (.string ⟨l.toArray⟩) (.int .i64 0)).run Tryd.prog W = .ok (.int .u8 x.toNat) W := fun W => idx_at l 0 (by omega) x hx W
    by_cases h2 : x = 48 ∧ 1 < l.length
    · have HB := Lib.hid (rdS_bad l (fun h => h.2.2.1 ⟨by rw [hh]; exact h2.1, h2.2⟩))
      have q1 : ((x.toNat : Int) == 48) = true := by rw [h2.1]; rfl
      have q2 : 1 < l.length := h2.2
      clear h2 hx hh
      go_enter Tryd.func51, Tryd.ntmps51
      go_wp2_with (first | (go_at_call 53; refine (l1In_yes _ _ _ (by omega) (by omega) _).mono ?_; rintro e w' ⟨rfl, rfl⟩))
      go_ret
      exact ⟨ret_n HB.out.symm, rfl⟩
    · refine l1Read_loop l ha hb x hx (by rw [hh]; exact h2) ((x.toNat : Int) == 48) rfl (fun hq hl1 => h2 ⟨?_, hl1⟩) w
      have : (x.toNat : Int) = 48 := by simpa using hq
      exact UInt8.toNat_inj.mp (by show x.toNat = 48; omega)
  · have HB := Lib.hid (rdS_bad l (fun h => h1 ⟨h.1, h.2.1⟩))
    go_enter Tryd.func51, Tryd.ntmps51
    go_wp2_with (first | (go_at_call 53; refine (l1In_no _ _ _ (by omega) _).mono ?_; rintro e w' ⟨rfl, rfl⟩))
    go_ret
    exact ⟨ret_n HB.out.symm, rfl⟩
end P
end Go.Proofs.YtlghonnakokioaaDoor
