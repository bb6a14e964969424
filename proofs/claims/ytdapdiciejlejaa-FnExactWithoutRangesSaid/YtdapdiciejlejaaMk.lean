/- The model's marks: a list of booleans, true at each page that ranges have. -/
import Derived.Test.YtdapdiciejlejaaGw
import Derived.Test.YtdapdiciejlejaaGm6
namespace Go.Proofs.Ytdapdiciejlejaa
open Go.RowKit Go.Joins Go.Deep Go.ChangeShapes Go.WideShapes
set_option linter.unusedVariables false
set_option linter.unusedSimpArgs false
namespace Gw
open Rg Gm
theorem infoB : (Try.prog.info? 4).map (fun i => (i.zero, i.size, i.bytes)) = some (some (.bool false), 1, 1) := by kernel_rfl
def bits (m : Nat → Bool) (n : Nat) : List Value := (List.range n).map (fun k => Value.bool (m k))
theorem bits_len (m : Nat → Bool) (n : Nat) : (bits m n).length = n := by simp [bits]
theorem bits_none (n : Nat) : List.replicate n (Value.bool false) = bits (fun _ => false) n := by
  apply List.ext_getElem
  · simp [bits]
  · intro i h1 h2; simp [bits]
theorem bits_same {m m' : Nat → Bool} {n : Nat} (h : ∀ k, k < n → m k = m' k) : bits m n = bits m' n := List.map_congr_left fun k hk => by rw [h k (List.mem_range.1 hk)]
theorem bits_set (m : Nat → Bool) {n j : Nat} (h : j < n) (b : Bool) : (bits m n).set j (.bool b) = bits (fun k => if k = j then b else m k) n := by
  apply List.ext_getElem
  · simp [bits]
  · intro i h1 h2
    by_cases e : i = j
    · subst e; simp [bits]
    · rw [List.getElem_set_ne (fun e2 => e e2.symm)]
      simp [bits, e]
/-- marks of the call's own -/
abbrev Marks (W : World) (b1 g n : Nat) (m : Nat → Bool) : Prop := W.ownsRow b1 4 1 (.slice (some ⟨g, 0, none⟩) n n) n (bits m n)
theorem marks_cell {W : World} {b1 g n : Nat} {m : Nat → Bool} (h : Marks W b1 g n m) {k : Nat} (hk : k < n) : W.cell? ⟨g, k, none⟩ = some (.bool (m k)) := by
  rw [World.ownsRow.cellAt h k (by omega)]
  simp [bits, hk]
theorem marks_same {W : World} {b1 g n : Nat} {m m' : Nat → Bool} (h : Marks W b1 g n m) (e : ∀ k, k < n → m k = m' k) : Marks W b1 g n m' := by
  unfold Marks at h ⊢
  rw [← bits_same e]
  exact h
def MarksR (n : Nat) (m : Nat → Bool) (W : World) (e : Ending) (w' : World) : Prop := ∃ g, e = .returned (.slice (some ⟨g, 0, none⟩) n n) ∧ Marks w' W.heap.size g n m ∧ Below W.heap.size W w'
theorem in_step (F p q : Nat) (h : F ≤ p) : (decide (F ≤ q) && decide (q < p + 1)) = ((decide (F ≤ q) && decide (q < p)) || decide (q = p)) := by
  rw [Bool.eq_iff_iff]
  simp only [Bool.or_eq_true, Bool.and_eq_true, decide_eq_true_eq]
  omega
set_option maxRecDepth 100000 in
set_option maxHeartbeats 1000000 in
theorem ixMarks_some {b1 g len cap : Nat} {zs : List Int} {w : World} (h : Own w b1 (.slice (some ⟨g, 0, none⟩) len cap) len zs) (hl : len ≤ 100) (ha : ∀ k, k < len → rng (zs.getD (k * 2) 0) (zs.getD (k * 2 + 1) 0) = true) :
    Calls Try.prog 37 #[.slice (some ⟨g, 0, none⟩) len cap] w (MarksR 2002 (fun q : Nat => has (prs zs) (q : Int)) w) := by
  obtain ⟨i0, hi, hz0, hz1, hz2⟩ := info_parts infoB
  have HO := Lib.hid h
  have HA := Lib.hid ha
  have HZ := Lib.hid (own_size h)
  clear h ha
  go_enter Try.func37, Try.ntmps37
  go_wp2_with (first | (at_make; refine wpList_make_full _ rfl _ _ 47 rfl w.heap.size 4 i0 (.bool false) 1 Try.underlying47 hi hz0 hz1 _ _ _ _ 2002 rfl rfl rfl rfl (by rw [hz2]; omega) (by unfold maxLen; omega) (Nat.le_refl _) ?_; intro w1 hown hg1))
  have h0 : Hid (Marks w1 w.heap.size w.heap.size 2002 (fun q : Nat => has ((prs zs).take 0) (q : Int))) := Lib.hid (by
    unfold Marks
    have e : (madeCells (Value.bool false).cells (2002 * 1)).toList = List.replicate 2002 (.bool false) := by rw [Nat.mul_one]; exact toList_madeCells_one _ _
    rw [show (fun q : Nat => has ((prs zs).take 0) (q : Int)) = fun _ => false from rfl, ← bits_none, ← e]
    exact hown)
  have hb0 := Lib.hid (Li.below_of_grown hg1)
  clear hown hg1
  go_loopw [10] (fun i wr => ∃ k : Nat, k ≤ len ∧ i = .int .i64 (k : Int) ∧ Marks wr w.heap.size w.heap.size 2002 (fun q : Nat => has ((prs zs).take k) (q : Int)) ∧ Below w.heap.size w wr) (fun i _ => ((len : Int) - intOf i).toNat)
  case atStart => exact ⟨0, by omega, rfl, h0.out, hb0.out⟩
  case round =>
    obtain ⟨wo, rfl⟩ : ∃ wo : World, wo = wr := ⟨_, rfl⟩
    obtain ⟨k, hk, rfl, hM, hb⟩ := hrel
    have HM := Lib.hid hM
    have HB := Lib.hid hb
    clear hM hb h0 hb0
    by_cases hlt : (k : Int) < len
    · obtain ⟨q0, q1⟩ := cells2 (Li.own_on HO.out HB.out) (k := k) (by omega)
      have hr := (rng_iff _ _).1 (HA.out k (by omega))
      have HT := Lib.hid (has_take zs len HZ.out k (by omega))
      obtain ⟨f, hf⟩ : ∃ f, zs.getD (k * 2) 0 = f := ⟨_, rfl⟩
      obtain ⟨t, ht⟩ : ∃ t, zs.getD (k * 2 + 1) 0 = t := ⟨_, rfl⟩
      rw [hf, ht] at hr HT
      rw [hf] at q0
      rw [ht] at q1
      clear hf ht
      obtain ⟨F, rfl⟩ : ∃ F : Nat, f = (F : Int) := ⟨f.toNat, by omega⟩
      obtain ⟨T, rfl⟩ : ∃ T : Nat, t = (T : Int) := ⟨t.toNat, by omega⟩
      have r1 : 1 ≤ F := by omega
      have r2 : F ≤ T := by omega
      have r3 : T ≤ 2000 := by omega
      clear hr
      have X := Lib.hid (B2.new wo (.int .i64 (F : Int)) (.int .i64 (T : Int)) 44)
      obtain ⟨m0, hm0⟩ : ∃ m0 : Nat → Bool, m0 = fun q : Nat => has ((prs zs).take k) (q : Int) := ⟨_, rfl⟩
      have HM0 := Lib.hid hm0
      rw [← hm0] at HM
      clear hm0
      have HMa := Lib.hid (Li.own_on HM.out (below_alloc1 wo (.cells #[.int .i64 (F : Int), .int .i64 (T : Int)] 44)))
      have HBa := Lib.hid (HB.out.alloc HB.out.size (.cells #[.int .i64 (F : Int), .int .i64 (T : Int)] 44))
      have hlt2 := Lib.hid (show w.heap.size < wo.heap.size from (HM.out.lt w.heap.size rfl).2)
      go_wp2
      clear q0 q1
      go_loopw [6] (fun i wr => ∃ p : Nat, F ≤ p ∧ p ≤ T + 1 ∧ i = .int .i64 (p : Int) ∧ Marks wr w.heap.size w.heap.size 2002 (fun q : Nat => m0 q || (decide (F ≤ q) && decide (q < p))) ∧ Below w.heap.size w wr ∧ B2 wr wo.heap.size (.int .i64 (F : Int)) (.int .i64 (T : Int))) (fun i _ => ((T : Int) + 1 - intOf i).toNat)
      case atStart => exact ⟨F, Nat.le_refl _, by omega, rfl, marks_same HMa.out (fun q _ => by
        rw [show (decide (F ≤ q) && decide (q < F)) = false from by
          by_cases c : F ≤ q
          · rw [decide_eq_false (show ¬ q < F by omega)]; simp
          · rw [decide_eq_false c]; rfl, Bool.or_false]), HBa.out, X.out⟩
      case round =>
        obtain ⟨p, hp1, hp2, rfl, hM, hb, hx⟩ := hrel
        obtain ⟨_, x0, x1⟩ := id hx
        by_cases hlp : (p : Int) ≤ (T : Int)
        · have hd := marks_cell hM (k := p) (by omega)
          have hfr := hM.frozenAt p
          have hst := (hM.stored p (.bool true)).1
          rw [bits_set _ (by omega) true] at hst
          have HST := Lib.hid (marks_same (m' := fun q : Nat => m0 q || (decide (F ≤ q) && decide (q < p + 1))) hst (fun q _ => by
            rw [in_step F p q hp1]
            by_cases e : q = p
            · subst e; simp
            · rw [if_neg e, decide_eq_false e, Bool.or_false]))
          have HB2 := Lib.hid (hb.setCell (p := ⟨w.heap.size, p, none⟩) (Nat.le_refl _) (.bool true))
          have HX2 := Lib.hid (show B2 (wr.setCell ⟨w.heap.size, p, none⟩ (.bool true)) wo.heap.size (.int .i64 (F : Int)) (.int .i64 (T : Int)) from by
            have hne : wo.heap.size ≠ w.heap.size := by have := hlt2.out; omega
            exact ⟨by simpa using hx.1, (World.cell?_setCell_far _ _ _ _ (fun e => hne e.symm)).trans x0, (World.cell?_setCell_far _ _ _ _ (fun e => hne e.symm)).trans x1⟩)
          clear hst hM hb hx
          go_wp2
          go_roundw
          case rel => exact ⟨p + 1, by omega, by omega, by go_num, HST.out, HB2.out, HX2.out⟩
          case measure => simp [intOf]; omega
        · have e : p = T + 1 := by omega
          have HE := Lib.hid (show Marks wr w.heap.size w.heap.size 2002 (fun q : Nat => has ((prs zs).take (k + 1)) (q : Int)) from marks_same hM (fun q _ => by
            rw [HM0.out, HT.out (q : Int), e]
            show (has _ _ || (decide (F ≤ q) && decide (q < T + 1))) = _
            congr 1
            rw [Bool.eq_iff_iff]
            simp only [Bool.and_eq_true, decide_eq_true_eq]
            omega))
          have HB2 := Lib.hid hb
          clear hM hb e
          go_wp2
          go_roundw
          case rel => exact ⟨k + 1, by omega, by go_num, HE.out, HB2.out⟩
          case measure => simp [intOf]; omega
    · have HE := Lib.hid (show Marks wo w.heap.size w.heap.size 2002 (fun q : Nat => has (prs zs) (q : Int)) from by
        have := HM.out
        rw [show k = len by omega, take_all zs len HZ.out] at this
        exact this)
      go_wp2
      go_ret
      exact ⟨_, rfl, HE.out, HB.out⟩
end Gw
end Go.Proofs.Ytdapdiciejlejaa
