/- The lengths of the words of a text: mathematics, and the program. -/
import Derived.Test.YtbebojahjfnkiaaDoorTb0
namespace Go.Proofs.YtbebojahjfnkiaaDoor
open Go.RowKit Go.Joins Go.Deep Go.ChangeShapes Go.WideShapes Go.Lib
set_option linter.unusedVariables false
set_option linter.unusedSimpArgs false
namespace Ln
/-- a text, split -/
def sp (c : UInt8) : List UInt8 → List (List UInt8)
  | [] => [[]]
  | b :: l => if b = c then [] :: sp c l else (b :: (sp c l).headD []) :: (sp c l).tail
theorem sp_ne (c : UInt8) (l : List UInt8) : sp c l ≠ [] := by
  cases l with
  | nil => simp [sp]
  | cons b l => unfold sp; split <;> simp
/-- the lengths of the words -/
def lens (l : List UInt8) : List Int := (sp 32 l).map fun p => (p.length : Int)
theorem lens_nil : lens [] = [0] := rfl
theorem lens_ne (l : List UInt8) : lens l ≠ [] := by unfold lens; simp [sp_ne]
theorem lens_hit (l : List UInt8) : lens (32 :: l) = 0 :: lens l := by
  unfold lens
  have e : sp 32 (32 :: l) = [] :: sp 32 l := by rw [sp, if_pos rfl]
  rw [e]
  simp
theorem lens_miss (b : UInt8) (l : List UInt8) (h : ¬ b = 32) : lens (b :: l) = (1 + (lens l).headD 0) :: (lens l).tail := by
  have e : sp 32 (b :: l) = (b :: (sp 32 l).headD []) :: (sp 32 l).tail := by rw [sp, if_neg h]
  unfold lens
  rw [e]
  cases h2 : sp 32 l with
  | nil => exact absurd h2 (sp_ne 32 l)
  | cons p ps =>
    simp
    omega
theorem lens_at (l : List UInt8) (k : Nat) (h : k < l.length) : lens (l.drop k) = if l[k] = 32 then 0 :: lens (l.drop (k + 1)) else (1 + (lens (l.drop (k + 1))).headD 0) :: (lens (l.drop (k + 1))).tail := by
  rw [List.drop_eq_getElem_cons h]
  split
  · next e => rw [e]; exact lens_hit _
  · next e => exact lens_miss _ _ e
/-- so many words ended, c signs of the next one -/
def LInv (l : List UInt8) (k : Nat) (ps : List Int) (c : Int) : Prop := lens l = ps ++ (c + (lens (l.drop k)).headD 0) :: (lens (l.drop k)).tail
theorem linv_start (l : List UInt8) : LInv l 0 [] 0 := by
  unfold LInv
  rw [List.drop_zero]
  cases h : lens l with
  | nil => exact absurd h (lens_ne l)
  | cons x xs => simp
theorem linv_hit {l : List UInt8} {k : Nat} {ps : List Int} {c : Int} (h : LInv l k ps c) (hk : k < l.length) (hb : l[k] = 32) : LInv l (k + 1) (ps ++ [c]) 0 := by
  unfold LInv at *
  rw [h, lens_at l k hk, if_pos hb]
  cases h2 : lens (l.drop (k + 1)) with
  | nil => exact absurd h2 (lens_ne _)
  | cons x xs => simp
theorem linv_miss {l : List UInt8} {k : Nat} {ps : List Int} {c : Int} (h : LInv l k ps c) (hk : k < l.length) (hb : ¬ l[k] = 32) : LInv l (k + 1) ps (c + 1) := by
  unfold LInv at *
  rw [h, lens_at l k hk, if_neg hb]
  simp only [List.headD_cons, List.tail_cons]
  congr 2
  omega
theorem linv_end {l : List UInt8} {k : Nat} {ps : List Int} {c : Int} (h : LInv l k ps c) (hk : ¬ k < l.length) : lens l = ps ++ [c] := by
  unfold LInv at h
  rw [h, List.drop_of_length_le (by omega), lens_nil]
  simp
theorem sp_le (c : UInt8) (l : List UInt8) : (sp c l).length ≤ l.length + 1 := by
  induction l with
  | nil => simp [sp]
  | cons b l ih =>
    unfold sp
    split
    · simp; omega
    · simp only [List.length_cons, List.length_tail]; omega
theorem lens_len (l : List UInt8) : (lens l).length ≤ l.length + 1 := by unfold lens; rw [List.length_map]; exact sp_le 32 l
/-- a row of the call's own, and an iterator beside it -/
theorem own_iterAt {W : World} {base n k : Nat} {v : Value} {xs : List Value} {s : ByteArray} {pos pos' : Nat} (h : W.ownsRow base 3 1 v n xs) (hk : W.heap[k]? = some (.stringIter s pos)) : (W.iterAt k s pos').ownsRow base 3 1 v n xs := by
  refine ⟨h.1, ?_⟩
  rcases h.2 with hn | ⟨g, cap, cur, rfl, hb, hg, r⟩
  · exact _root_.Or.inl hn
  · refine _root_.Or.inr ⟨g, cap, cur, rfl, hb, ?_, r⟩
    rw [iterAt_other W k g s pos' (fun e => by rw [e, hk] at hg; cases hg)]
    exact hg
theorem own_not_iter {W : World} {base n k : Nat} {v : Value} {xs : List Value} {s : ByteArray} {pos : Nat} (h : W.ownsRow base 3 1 v n xs) (hk : W.heap[k]? = some (.stringIter s pos)) : some k ≠ v.ownBlock := by
  rcases h.2 with ⟨rfl, _⟩ | ⟨g, cap, cur, rfl, hb, hg, r⟩
  · simp [Value.ownBlock]
  · intro e
    have e2 : k = g := by simpa [Value.ownBlock] using e
    rw [e2, hg] at hk
    cases hk
theorem iter_grown {W W' : World} {row : Option Nat} {k : Nat} {s : ByteArray} {pos : Nat} (hg : W.grownBy W' row) (hk : W.heap[k]? = some (.stringIter s pos)) (hr : some k ≠ row) : W'.heap[k]? = some (.stringIter s pos) := by
  rw [hg.block k (Array.getElem?_eq_some_iff.1 hk).1 hr]
  exact hk
theorem iter_alloc {W : World} {k : Nat} {s : ByteArray} {pos : Nat} (o : Obj) (hk : W.heap[k]? = some (.stringIter s pos)) : (W.alloc o).heap[k]? = some (.stringIter s pos) := by
  have hlt := (Array.getElem?_eq_some_iff.1 hk).1
  show (W.heap.push o)[k]? = _
  rw [Array.getElem?_push_lt hlt, ← hk]
  simp [hlt]
theorem iter_set {W : World} {k : Nat} {s : ByteArray} {pos : Nat} {p : Addr} (u : Value) (hk : W.heap[k]? = some (.stringIter s pos)) (hp : k ≠ p.block) : (W.setCell p u).heap[k]? = some (.stringIter s pos) := by
  rw [Below.heap_setCell _ _ _ _ hp]
  exact hk
theorem own_one (w : World) (x : Int) : Ow (w.alloc (.cells #[.int .i64 x] 3)) w.heap.size w.heap.size 1 1 [x] := by
  refine ⟨rfl, _root_.Or.inr ⟨w.heap.size, 1, #[.int .i64 x], rfl, Nat.le_refl _, ?_, Nat.le_refl _, by unfold maxLen; omega, rfl, rfl⟩⟩
  show (w.heap.push _)[w.heap.size]? = _
  simp
theorem last_set (ps : List Int) (c d : Int) : (Li.nums (ps ++ [c])).set ps.length (.int .i64 d) = Li.nums (ps ++ [d]) := by
  unfold Li.nums
  rw [List.map_append, List.map_append, List.set_append_right _ _ (by simp)]
  simp
theorem last_at (ps : List Int) (c : Int) : (ps ++ [c]).getD ps.length 0 = c := by
  rw [getD_app_r _ _ _ _ (Nat.le_refl _), Nat.sub_self]
  rfl
theorem own_some1 {W : World} {base n : Nat} {v : Value} {xs : List Value} (h : W.ownsRow base 3 1 v (n + 1) xs) : ∃ g cp, v = .slice (some ⟨g, 0, none⟩) (n + 1) cp := by
  rcases Li.own_forms h with ⟨_, h0⟩ | h1
  · omega
  · exact h1
theorem nx_ascii_at (W : World) (g : Nat) (l : List UInt8) (pos : Nat) (hg : W.heap[g]? = some (.stringIter ⟨l.toArray⟩ pos)) (h : pos < l.length) (b : UInt8) (hb : l[pos] = b) (ha : b.toNat < 128) (ty : TypeId) :
    (Instr.next (.pointer (some ⟨g, 0, none⟩)) true ty).run Tryd.prog W = .ok (.tuple #[.bool true, .int .i64 (pos : Int), .int .i32 (b.toNat : Int)]) (W.iterAt g ⟨l.toArray⟩ (pos + 1)) := by
  have hs : pos < (⟨l.toArray⟩ : ByteArray).size := by rw [ba_size]; exact h
  have e := ba_at l pos hs
  rw [hb] at e
  have r := run_next_ascii_at (P := Tryd.prog) W g ⟨l.toArray⟩ pos ty hg hs (by rw [e]; exact ha)
  rw [e] at r
  exact r
theorem nx_end_at (W : World) (g : Nat) (l : List UInt8) (pos : Nat) (hg : W.heap[g]? = some (.stringIter ⟨l.toArray⟩ pos)) (h : ¬ pos < l.length) (ty : TypeId) :
    (Instr.next (.pointer (some ⟨g, 0, none⟩)) true ty).run Tryd.prog W = .ok (.tuple #[.bool false]) W :=
  run_next_end_at (P := Tryd.prog) W g ⟨l.toArray⟩ pos ty hg (by rw [ba_size]; exact h)
set_option maxRecDepth 100000 in
set_option maxHeartbeats 4000000 in
theorem wordLengths_any (l : List UInt8) (hl : l.length ≤ 200) (ha : ∀ k (h : k < l.length), (l[k]).toNat < 128) (w : World) :
    Calls Tryd.prog 27 #[.string ⟨l.toArray⟩] w fun e w' => ∃ v, e = .returned v ∧ w'.ownsRow w.heap.size 3 1 v (lens l).length (Li.nums (lens l)) ∧ Below w.heap.size w w' := by
  obtain ⟨n, hn⟩ : ∃ n, l.length = n := ⟨_, rfl⟩
  have HN := Lib.hid hn
  have HA := Lib.hid ha
  rw [hn] at hl
  have HO0 := Lib.hid ((own_one w 0).alloc (.stringIter ⟨l.toArray⟩ 0))
  have HI0 := Lib.hid (show ((w.alloc (.cells #[.int .i64 0] 3)).iter ⟨l.toArray⟩ 0).heap[w.heap.size + 1]? = some (.stringIter ⟨l.toArray⟩ 0) by
    have := World.iter_heap (w.alloc (.cells #[.int .i64 0] 3)) ⟨l.toArray⟩ 0
    rwa [show (w.alloc (.cells #[.int .i64 0] 3)).heap.size = w.heap.size + 1 by simp] at this)
  have HB0 := Lib.hid (show Below w.heap.size w ((w.alloc (.cells #[.int .i64 0] 3)).iter ⟨l.toArray⟩ 0) from (below_alloc1 w _).trans (below_le (below_iter _ _ _) (by simp)))
  obtain ⟨i0, hi, hz0, hz1, hz2⟩ := info_parts Li.info3
  clear hn ha
  go_enter Tryd.func27, Tryd.ntmps27
  go_wp2
  go_loopw [3] (fun v wr => ∃ (pos : Nat) (ps : List Int) (c : Int) (vv : Value), vv = v ∧ pos ≤ n ∧ ps.length ≤ pos ∧ 0 ≤ c ∧ c ≤ (pos : Int) ∧ Hid (wr.ownsRow w.heap.size 3 1 vv (ps ++ [c]).length (Li.nums (ps ++ [c]))) ∧ Hid (wr.heap[w.heap.size + 1]? = some (.stringIter ⟨l.toArray⟩ pos)) ∧ Hid (LInv l pos ps c) ∧ Hid (Below w.heap.size w wr)) (fun _ wr => n - wr.iterPos (w.heap.size + 1))
  case atStart => exact ⟨0, [], 0, _, rfl, by omega, by simp, by omega, by simp, HO0, HI0, Lib.hid (linv_start l), HB0⟩
  case round =>
    obtain ⟨pos, ps, c, vv, rfl, hpos, hps, hc0, hc1, HO, HI, HL, HB⟩ := hrel
    clear HO0 HI0 HB0
    by_cases hp : pos < n
    · have hpl : pos < l.length := by rw [HN.out]; exact hp
      obtain ⟨b, hb⟩ : ∃ b, l[pos] = b := ⟨_, rfl⟩
      have hb128 := HA.out pos hpl
      rw [hb] at hb128
      have hnx := nx_ascii_at wr (w.heap.size + 1) l pos HI.out hpl b hb hb128
      have HOX := Lib.hid (own_iterAt (pos' := pos + 1) HO.out HI.out)
      have HIX := Lib.hid (iterAt_heap wr (w.heap.size + 1) ⟨l.toArray⟩ pos (pos + 1) HI.out)
      have HBX := Lib.hid (below_iterAt HB.out (show w.heap.size ≤ w.heap.size + 1 by omega) ⟨l.toArray⟩ (pos + 1))
      obtain ⟨wx, hwx⟩ : ∃ wx, wr.iterAt (w.heap.size + 1) ⟨l.toArray⟩ (pos + 1) = wx := ⟨_, rfl⟩
      have hszx : wx.heap.size = wr.heap.size := by rw [← hwx]; exact iterAt_size _ _ _ _
      rw [hwx] at hnx HOX HIX HBX
      have hsw := HBX.out.size
      have HLT := Lib.hid (fun j hj => (HOX.out.lt j hj).1)
      have HWX := Lib.hid hwx
      have HPW := Lib.hid (show wr.iterPos (w.heap.size + 1) = pos by unfold World.iterPos; rw [HI.out])
      by_cases hbl : b = 32
      · have HL2 := Lib.hid (linv_hit HL.out hpl (by rw [hb]; exact hbl))
        have tq : ((b.toNat : Int) == 32) = true := by rw [hbl]; rfl
        have HOw := Lib.hid (HOX.out.alloc (.cells #[.int .i64 0] 3))
        have hlen : (ps ++ [c]).length = ps.length + 1 := by simp
        rw [hlen] at HOw
        clear hb hb128 hbl hwx hszx hlen
        obtain ⟨x, hx⟩ : ∃ x, b.toNat = x := ⟨_, rfl⟩
        rw [hx] at hnx tq
        clear hx
        go_wp2_with (first | (at_builtin; refine wpList_append_own _ rfl _ _ 30 rfl w.heap.size 3 i0 (.int .i64 0) 1 8 Tryd.underlying30 hi hz0 hz1 hz2 rfl (by decide) _ _ _ rfl HOw.out ⟨_, 0, none⟩ 1 1 [.int .i64 0] rfl rfl (cell_one_new _ _ _) (fun x hx => by simp at hx; subst hx; rfl) (by unfold maxLen; omega) (by omega) (by simp; omega) ?_; intro v3 w3 hown3 hgrow3 _))
        have HB4 := Lib.hid (Below.grown (HBX.out.alloc HBX.out.size (.cells #[.int .i64 0] 3)) hgrow3 (by simp; omega) HLT.out)
        have HI4 := Lib.hid (iter_grown hgrow3 (iter_alloc (.cells #[.int .i64 0] 3) HIX.out) (own_not_iter HOX.out HIX.out))
        have HO3 := Lib.hid (show w3.ownsRow w.heap.size 3 1 v3 ((ps ++ [c]) ++ [0]).length (Li.nums ((ps ++ [c]) ++ [0])) by rw [nums_snoc, List.length_append, List.length_append]; exact hown3)
        clear hown3 hgrow3
        go_roundw
        case rel => exact ⟨pos + 1, ps ++ [c], 0, _, rfl, by omega, by simp; omega, by omega, by omega, HO3, HI4, HL2, HB4⟩
        case measure =>
          have e1 : w3.iterPos (w.heap.size + 1) = pos + 1 := by unfold World.iterPos; rw [HI4.out]
          rw [e1, HPW.out]
          omega
      · have HL2 := Lib.hid (linv_miss HL.out hpl (by rw [hb]; exact hbl))
        have tq : ((b.toNat : Int) == 32) = false := by
          rw [beq_eq_false_iff_ne]
          intro e
          exact hbl (UInt8.toNat_inj.1 (by show b.toNat = 32; omega))
        have hlen : (ps ++ [c]).length = ps.length + 1 := by simp
        have HOX' := HOX.out
        rw [hlen] at HOX'
        obtain ⟨gq, cp, hvv⟩ := own_some1 HOX'
        have hce := ow_cell (by rw [hvv] at HOX'; exact HOX') (k := ps.length) (by omega)
        rw [last_at] at hce
        have hfz := (show wx.ownsRow w.heap.size 3 1 (.slice (some ⟨gq, 0, none⟩) (ps.length + 1) cp) (ps.length + 1) (Li.nums (ps ++ [c])) by rw [← hvv]; exact HOX').frozenAt ps.length
        have hst := ((show wx.ownsRow w.heap.size 3 1 (.slice (some ⟨gq, 0, none⟩) (ps.length + 1) cp) (ps.length + 1) (Li.nums (ps ++ [c])) by rw [← hvv]; exact HOX').stored ps.length (.int .i64 (c + 1))).1
        rw [last_set] at hst
        have hgk : w.heap.size + 1 ≠ gq := by
          have := own_not_iter HOX.out HIX.out
          rw [hvv] at this
          intro e
          exact this (by rw [e]; rfl)
        have hgb : w.heap.size ≤ gq := HLT.out gq (by rw [hvv]; rfl)
        have HST := Lib.hid hst
        have HI4 := Lib.hid (iter_set (p := ⟨gq, ps.length, none⟩) (.int .i64 (c + 1)) HIX.out hgk)
        have HB4 := Lib.hid (HBX.out.setCell (p := ⟨gq, ps.length, none⟩) hgb (.int .i64 (c + 1)))
        obtain ⟨p, hp2⟩ : ∃ p, ps.length = p := ⟨_, rfl⟩
        have HP := Lib.hid hp2
        rw [hp2] at hvv hce hfz hps
        rw [hp2] at HST HI4 HB4
        have r2 : ((p + 1 : Nat) : Int) - 1 = (p : Int) := by omega
        have bp1 : (p : Int) < ((p + 1 : Nat) : Int) := by omega
        have bp2 : (p : Int) < (p : Int) + 1 := by omega
        subst hvv
        clear hb hb128 hbl hwx hszx hlen HOX' hst hp2 hgk hgb
        obtain ⟨x, hx⟩ : ∃ x, b.toNat = x := ⟨_, rfl⟩
        rw [hx] at hnx tq
        clear hx
        go_wp2
        go_roundw
        case rel => exact ⟨pos + 1, ps, c + 1, _, rfl, by omega, by have := HP.out; omega, by omega, by omega, Lib.hid (by rw [List.length_append, HP.out]; exact HST.out), HI4, HL2, HB4⟩
        case measure =>
          rw [HPW.out]
          have e1 : (wx.setCell ⟨gq, p, none⟩ (.int .i64 (c + 1))).iterPos (w.heap.size + 1) = pos + 1 := by unfold World.iterPos; rw [HI4.out]
          first | (rw [e1]; omega) | (simp only [e1]; omega) | trace_state
    · have hnx := nx_end_at wr (w.heap.size + 1) l pos HI.out (by rw [HN.out]; exact hp)
      have HE := Lib.hid (linv_end HL.out (by rw [HN.out]; exact hp))
      go_wp2
      go_ret
      exact ⟨_, rfl, by rw [HE.out]; exact HO.out, HB.out⟩
end Ln
end Go.Proofs.YtbebojahjfnkiaaDoor
