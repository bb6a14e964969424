/- A text split at a byte, by the model. -/
import Derived.Test.YtbebojahjfnkiaaDoorTc0
namespace Go.Proofs.YtbebojahjfnkiaaDoor
open Go.RowKit Go.Joins Go.Deep Go.ChangeShapes Go.WideShapes Go.Lib
set_option linter.unusedVariables false
set_option linter.unusedSimpArgs false
namespace Ln
theorem sp_len_pos (c : UInt8) (l : List UInt8) : 0 < (sp c l).length := by
  cases h : sp c l with
  | nil => exact absurd h (sp_ne c l)
  | cons x xs => simp
def strs (ps : List (List UInt8)) : List Value := ps.map (fun p => Value.string ⟨p.toArray⟩)
theorem strs_snoc (ps : List (List UInt8)) (p : List UInt8) : strs (ps ++ [p]) = strs ps ++ [.string ⟨p.toArray⟩] := by simp [strs]
/-- what has been read of a part is laid ahead of the rest -/
def pre (cur : List UInt8) (L : List (List UInt8)) : List (List UInt8) := (cur ++ L.headD []) :: L.tail
theorem pre_nil (c : UInt8) (l : List UInt8) : pre [] (sp c l) = sp c l := by
  unfold pre
  cases h : sp c l with
  | nil => have := sp_len_pos c l; rw [h] at this; simp at this
  | cons a r => simp
theorem sp_at (c : UInt8) (l : List UInt8) (k : Nat) (h : k < l.length) : sp c (l.drop k) = if l[k] = c then [] :: sp c (l.drop (k + 1)) else (l[k] :: (sp c (l.drop (k + 1))).headD []) :: (sp c (l.drop (k + 1))).tail := by
  rw [List.drop_eq_getElem_cons h, sp]
theorem cur_next (l : List UInt8) (st k : Nat) (h : k < l.length) (hs : st ≤ k) : (l.drop st).take (k + 1 - st) = (l.drop st).take (k - st) ++ [l[k]] := by
  rw [show k + 1 - st = (k - st) + 1 from by omega, List.take_succ_eq_append_getElem (by rw [List.length_drop]; omega), List.getElem_drop]
  congr 2
  congr 1
  omega
theorem inv_skip (c : UInt8) (l : List UInt8) (ps : List (List UInt8)) (st k : Nat) (h : k < l.length) (hs : st ≤ k) (hc : ¬ l[k] = c) (hi : sp c l = ps ++ pre ((l.drop st).take (k - st)) (sp c (l.drop k))) :
    sp c l = ps ++ pre ((l.drop st).take (k + 1 - st)) (sp c (l.drop (k + 1))) := by
  rw [hi, sp_at c l k h, if_neg hc, cur_next l st k h hs]
  simp [pre]
theorem inv_hit (c : UInt8) (l : List UInt8) (ps : List (List UInt8)) (st k : Nat) (h : k < l.length) (hc : l[k] = c) (hi : sp c l = ps ++ pre ((l.drop st).take (k - st)) (sp c (l.drop k))) :
    sp c l = (ps ++ [(l.drop st).take (k - st)]) ++ pre ((l.drop (k + 1)).take (k + 1 - (k + 1))) (sp c (l.drop (k + 1))) := by
  rw [hi, sp_at c l k h, if_pos hc, Nat.sub_self, List.take_zero, pre_nil]
  simp [pre]
theorem inv_end (c : UInt8) (l : List UInt8) (ps : List (List UInt8)) (st : Nat) (hi : sp c l = ps ++ pre ((l.drop st).take (l.length - st)) (sp c (l.drop l.length))) : sp c l = ps ++ [l.drop st] := by
  have e : (l.drop st).take (l.length - st) = l.drop st := List.take_of_length_le (by rw [List.length_drop]; exact Nat.le_refl _)
  rw [hi, e, List.drop_length]
  simp [sp, pre]
theorem idx_at (l : List UInt8) (k : Nat) (h : k < l.length) (x : UInt8) (hx : l[k] = x) (W : World) : (Instr.index 9 (.string ⟨l.toArray⟩) (.int .i64 (k : Int))).run Tryd.prog W = .ok (.int .u8 x.toNat) W := by
  subst hx
  have hs : (0 : Int) ≤ (k : Int) ∧ (k : Int) < ((⟨l.toArray⟩ : ByteArray).size : Int) := ⟨by omega, by show (k : Int) < (l.toArray.size : Int); simp; omega⟩
  rw [run_index_string W 9 ⟨l.toArray⟩ .i64 k (by kernel_rfl), dif_pos hs]
  rfl
theorem sl_at (l : List UInt8) (i j : Nat) (h : i ≤ j) (hj : j ≤ l.length) (W : World) :
    (Instr.slice 9 (.string ⟨l.toArray⟩) (some (.int .i64 (i : Int))) (some (.int .i64 (j : Int))) none).run Tryd.prog W = .ok (.string ⟨((l.drop i).take (j - i)).toArray⟩) W := by
  rw [run_slice_string W 9 ⟨l.toArray⟩ .i64 .i64 i j (by kernel_rfl) (by omega) (by omega) (by show (j : Int) ≤ (l.toArray.size : Int); simp; omega), ByteArray.extract_mk]
  simp
theorem sl_from (l : List UInt8) (i : Nat) (h : i ≤ l.length) (W : World) :
    (Instr.slice 9 (.string ⟨l.toArray⟩) (some (.int .i64 (i : Int))) none none).run Tryd.prog W = .ok (.string ⟨(l.drop i).toArray⟩) W := by
  have hz : ((⟨l.toArray⟩ : ByteArray).size : Int) = (l.length : Int) := by show (l.toArray.size : Int) = _; simp
  rw [run_slice_string_from_if W 9 ⟨l.toArray⟩ .i64 i (by kernel_rfl), if_pos ⟨by omega, by omega⟩, ByteArray.extract_mk]
  have hz2 : (⟨l.toArray⟩ : ByteArray).size = l.length := by omega
  rw [hz2, Int.toNat_natCast, List.take_of_length_le (by rw [List.length_drop]; exact Nat.le_refl _)]
theorem info9 : (Tryd.prog.info? 9).map (fun i => (i.zero, i.size, i.bytes)) = some (some (.string ByteArray.empty), 1, 16) := by kernel_rfl
set_option maxRecDepth 100000 in
set_option maxHeartbeats 2000000 in
theorem l1Split_any (l : List UInt8) (c : UInt8) (hl : l.length ≤ 1048576) (w : World) :
    Calls Tryd.prog 24 #[.string ⟨l.toArray⟩, .int .u8 c.toNat] w fun e w' => ∃ v, e = .returned v ∧ w'.ownsRow w.heap.size 9 1 v (sp c l).length (strs (sp c l)) ∧ Below w.heap.size w w' := by
  obtain ⟨i0, hi, hz0, hz1, hz2⟩ := info_parts info9
  go_enter Tryd.func24, Tryd.ntmps24
  go_wp2
  go_loopw [5, 6, 7] (fun v f i wr => ∃ (k st : Nat) (ps : List (List UInt8)), k ≤ l.length ∧ st ≤ k ∧ ps.length ≤ k ∧ i = .int .i64 (k : Int) ∧ f = .int .i64 (st : Int) ∧ wr.ownsRow w.heap.size 9 1 v ps.length (strs ps) ∧ Hid (sp c l = ps ++ pre ((l.drop st).take (k - st)) (sp c (l.drop k))) ∧ Below w.heap.size w wr) (fun _ _ i _ => l.length - (intOf i).toNat)
  case atStart => exact ⟨0, 0, [], by omega, by omega, by simp, rfl, rfl, World.ownsRow_nil _ _ _ _, Lib.hid (by simp [pre_nil]), Below.refl _ _⟩
  case round =>
    obtain ⟨k, st, ps, hk, hs, hp, rfl, rfl, hown, hinv, hb⟩ := hrel
    have hsz := hb.size
    by_cases hlt : k < l.length
    · obtain ⟨x, hx⟩ : ∃ x, l[k] = x := ⟨_, rfl⟩
      have r1 := idx_at l k hlt x hx
      by_cases hc : x = c
      · have I := Lib.hid (inv_hit c l ps st k hlt (by rw [hx]; exact hc) hinv.out)
        have q1 : ((x.toNat : Int) == (c.toNat : Int)) = true := by rw [hc]; simp
        have r2 := sl_at l st k hs hk
        clear hx hc hinv
        go_wp2_with (first | (at_builtin; refine wpList_append_own _ rfl _ _ 22 rfl w.heap.size 9 i0 (.string ByteArray.empty) 1 16 Tryd.underlying22 hi hz0 hz1 hz2 rfl (by decide) _ _ _ rfl (hown.alloc _) ⟨wr.heap.size, 0, none⟩ 1 1 [.string ⟨((l.drop st).take (k - st)).toArray⟩] rfl rfl (cell_one_new _ _ _) (fun x hx => by simp at hx; subst hx; rfl) (by unfold maxLen; omega) (by omega) (by simp; omega) ?_; intro v' w2 hown2 hgrow2 hnil2))
        have O := Lib.hid (show w2.ownsRow w.heap.size 9 1 v' (ps ++ [(l.drop st).take (k - st)]).length (strs (ps ++ [(l.drop st).take (k - st)])) by rw [strs_snoc, List.length_append]; exact hown2)
        have B := Lib.hid ((hb.alloc hsz _).grown hgrow2 (by simp; omega) (fun j hj => (hown.lt j hj).1))
        clear hown2 hgrow2 hnil2 hown hb
        go_roundw
        case rel => exact ⟨k + 1, k + 1, ps ++ [(l.drop st).take (k - st)], by omega, by omega, by rw [List.length_append]; show ps.length + 1 ≤ k + 1; omega, by go_num, by go_num, O.out, I, B.out⟩
        case measure => simp [intOf]; omega
      · have I := Lib.hid (inv_skip c l ps st k hlt hs (by rw [hx]; exact hc) hinv.out)
        have q1 : ((x.toNat : Int) == (c.toNat : Int)) = false := by
          simp only [beq_eq_false_iff_ne, ne_eq]
          intro h
          exact hc (UInt8.toNat_inj.mp (by omega))
        clear hx hc hinv
        go_wp2
        go_roundw
        case rel => exact ⟨k + 1, st, ps, by omega, by omega, by omega, by go_num, rfl, hown, I, hb⟩
        case measure => simp [intOf]; omega
    · have hkl : k = l.length := by omega
      have r2 := sl_from l st (by omega)
      have I := Lib.hid (inv_end c l ps st (by have := hinv.out; rw [hkl] at this; exact this))
      clear hinv hkl
      go_wp2_with (first | (at_builtin; refine wpList_append_own _ rfl _ _ 22 rfl w.heap.size 9 i0 (.string ByteArray.empty) 1 16 Tryd.underlying22 hi hz0 hz1 hz2 rfl (by decide) _ _ _ rfl (hown.alloc _) ⟨wr.heap.size, 0, none⟩ 1 1 [.string ⟨(l.drop st).toArray⟩] rfl rfl (cell_one_new _ _ _) (fun x hx => by simp at hx; subst hx; rfl) (by unfold maxLen; omega) (by omega) (by simp; omega) ?_; intro v' w2 hown2 hgrow2 hnil2))
      have O := Lib.hid (show w2.ownsRow w.heap.size 9 1 v' (sp c l).length (strs (sp c l)) by rw [I.out, strs_snoc, List.length_append]; exact hown2)
      have B := Lib.hid ((hb.alloc hsz _).grown hgrow2 (by simp; omega) (fun j hj => (hown.lt j hj).1))
      clear hown2 hgrow2 hnil2 hown hb
      go_ret
      exact ⟨v', rfl, O.out, B.out⟩
end Ln
end Go.Proofs.YtbebojahjfnkiaaDoor
