/- WordsOfText from both sides. -/
import Derived.Test.YtbebojahjfnkiaaDoorTf0
namespace Go.Proofs.YtbebojahjfnkiaaDoor
open Go.RowKit Go.Joins Go.Deep Go.ChangeShapes Go.WideShapes Go.Lib
set_option linter.unusedVariables false
set_option linter.unusedSimpArgs false
namespace Ln
theorem own_pos {W : World} {base n : Nat} {v : Value} {xs : List Value} (h : W.ownsRow base 3 1 v n xs) (h1 : 1 ≤ n) : ∃ g cp, v = .slice (some ⟨g, 0, none⟩) n cp := by
  rcases Li.own_forms h with ⟨_, h0⟩ | h1
  · omega
  · exact h1
def plens (ps : List (List UInt8)) : List Int := ps.map fun p => (p.length : Int)
theorem plens_len (ps : List (List UInt8)) : (plens ps).length = ps.length := by simp [plens]
theorem plens_sp (l : List UInt8) : plens (sp 32 l) = lens l := rfl
theorem lnParts_any (l : List UInt8) (hl : l.length ≤ 1048576) (w : World) :
    Calls Tryd.prog 12 #[.string ⟨l.toArray⟩] w fun e w' => ∃ v, e = .returned v ∧ w'.ownsRow w.heap.size 9 1 v (sp 32 l).length (strs (sp 32 l)) ∧ Below w.heap.size w w' := by
  have C := Lib.hid (show Calls Tryd.prog 24 #[.string ⟨l.toArray⟩, .int .u8 32] w _ from l1Split_any l 32 hl w)
  go_enter Tryd.func12, Tryd.ntmps12
  go_wp2_with fail
  refine C.out.mono ?_
  rintro e w1 ⟨v, rfl, ho, hb⟩
  have HO := Lib.hid ho
  clear ho
  go_wp2
  go_ret
  exact ⟨_, rfl, HO.out, hb⟩
/-- a row of texts of the call's own -/
theorem str_forms {W : World} {base n : Nat} {v : Value} {xs : List Value} (h : W.ownsRow base 9 1 v n xs) : (v = .slice none 0 0 ∧ n = 0) ∨ ∃ g cap, v = .slice (some ⟨g, 0, none⟩) n cap := Li.own_forms h
theorem str_at {W : World} {base g n cap : Nat} {ps : List (List UInt8)} (h : W.ownsRow base 9 1 (.slice (some ⟨g, 0, none⟩) n cap) n (strs ps)) {k : Nat} (hk : k < n) : ∃ p, Hid (ps[k]? = some p) ∧ W.cell? ⟨g, k, none⟩ = some (.string ⟨p.toArray⟩) := by
  have hl : ps.length = n := by have := h.1; simpa [strs] using this
  refine ⟨ps[k]'(by omega), Lib.hid (List.getElem?_eq_getElem (by omega)), ?_⟩
  rw [h.cellAt k (by omega)]
  simp [strs, List.getElem?_eq_getElem (show k < ps.length by omega)]
theorem plens_take (ps : List (List UInt8)) (k : Nat) (p : List UInt8) (h : ps[k]? = some p) : plens (ps.take (k + 1)) = plens (ps.take k) ++ [(p.length : Int)] := by
  have hk : k < ps.length := by
    rcases Nat.lt_or_ge k ps.length with h1 | h1
    · exact h1
    · rw [List.getElem?_eq_none h1] at h; cases h
  rw [List.take_succ_eq_append_getElem hk]
  have e : ps[k] = p := by rw [List.getElem?_eq_getElem hk] at h; injection h
  rw [e]
  simp [plens]
set_option maxRecDepth 100000 in
set_option maxHeartbeats 2000000 in
theorem lnLengths_any {base n : Nat} {v : Value} {ps : List (List UInt8)} {w : World} (h : w.ownsRow base 9 1 v n (strs ps)) (hn : n ≤ 1048576) (hp : ∀ p ∈ ps, p.length ≤ 1048576) :
    Calls Tryd.prog 11 #[v] w fun e w' => ∃ v', e = .returned v' ∧ w'.ownsRow w.heap.size 3 1 v' n (Li.nums (plens ps)) ∧ Below w.heap.size w w' := by
  have hl : ps.length = n := by have := h.1; simpa [strs] using this
  obtain ⟨i0, hi, hz0, hz1, hz2⟩ := info_parts Li.info3
  have HO := Lib.hid h
  have HL := Lib.hid hl
  have HP := Lib.hid hp
  obtain ⟨a, cp, rfl⟩ : ∃ a cp, v = .slice a n cp := by rcases str_forms h with ⟨rfl, rfl⟩ | ⟨g, cap, rfl⟩ <;> exact ⟨_, _, rfl⟩
  clear h hl hp
  go_enter Tryd.func11, Tryd.ntmps11
  go_wp2
  go_loopw [3, 8] (fun v i wr => ∃ (k : Nat) (vv : Value), vv = v ∧ k ≤ n ∧ i = .int .i64 (k : Int) ∧ wr.ownsRow w.heap.size 3 1 vv k (Li.nums (plens (ps.take k))) ∧ Below w.heap.size w wr) (fun _ i _ => ((n : Int) - intOf i).toNat)
  case atStart => exact ⟨0, _, rfl, by omega, rfl, World.ownsRow_nil _ _ _ _, Below.refl _ _⟩
  case round =>
    obtain ⟨k, vv, rfl, hk, rfl, hown, hb⟩ := hrel
    have HB := Lib.hid hb
    have hsw := hb.size
    clear hb
    by_cases hlt : (k : Int) < (n : Int)
    · obtain ⟨g, rfl⟩ : ∃ g, a = some ⟨g, 0, none⟩ := by
        rcases str_forms HO.out with ⟨_, h0⟩ | ⟨g, cap, h1⟩
        · omega
        · injection h1 with h1; exact ⟨g, h1⟩
      obtain ⟨p, HPK, hc⟩ := str_at (Li.own_on HO.out HB.out) (k := k) (by omega)
      have hpl := HP.out p (List.mem_of_getElem? HPK.out)
      have HN := Lib.hid (plens_take ps k p HPK.out)
      have hsz := ba_size p
      obtain ⟨x, hx⟩ : ∃ x, p.length = x := ⟨_, rfl⟩
      rw [hx] at hpl HN hsz
      have HOw := Lib.hid (hown.alloc (.cells #[.int .i64 (x : Int)] 3))
      have HLT := Lib.hid (fun j hj => (hown.lt j hj).1)
      clear hx hown
      go_wp2_with (first | (at_builtin; refine wpList_append_own _ rfl _ _ 30 rfl w.heap.size 3 i0 (.int .i64 0) 1 8 Tryd.underlying30 hi hz0 hz1 hz2 rfl (by decide) _ _ _ rfl HOw.out ⟨_, 0, none⟩ 1 1 [.int .i64 (x : Int)] rfl rfl (cell_one_new _ _ _) (fun x hx => by simp at hx; subst hx; rfl) (by unfold maxLen; omega) (by omega) (by simp; omega) ?_; intro v3 w3 hown3 hgrow3 _))
      have HB4 := Lib.hid (Below.grown (HB.out.alloc HB.out.size (.cells #[.int .i64 (x : Int)] 3)) hgrow3 (by simp; omega) HLT.out)
      have HO3 := Lib.hid (show w3.ownsRow w.heap.size 3 1 v3 (k + 1) (Li.nums (plens (ps.take (k + 1)))) by rw [HN.out, nums_snoc]; exact hown3)
      clear hown3 hgrow3
      go_roundw
      case rel => exact ⟨k + 1, _, rfl, by omega, by go_num, HO3.out, HB4.out⟩
      case measure => simp [intOf] <;> omega
    · have HK := Lib.hid (show ps.take k = ps by rw [List.take_of_length_le (by rw [HL.out]; omega)])
      have HKN := Lib.hid (show k = n by omega)
      have HOw := Lib.hid hown
      clear hown
      go_wp2
      go_ret
      exact ⟨_, rfl, by have := HOw.out; rw [HK.out, HKN.out] at this; exact this, HB.out⟩
/-- no part is longer than the text -/
theorem sp_parts (c : UInt8) (l : List UInt8) : ∀ p ∈ sp c l, p.length ≤ l.length := by
  induction l with
  | nil => intro p hp; simp [sp] at hp; subst hp; simp
  | cons b l ih =>
    intro p hp
    have h2 : ∀ q ∈ sp c l, q.length ≤ l.length := ih
    unfold sp at hp
    split at hp
    · rcases List.mem_cons.1 hp with rfl | hp
      · simp
      · have := ih p hp; simp; omega
    · rcases List.mem_cons.1 hp with rfl | hp
      · cases h3 : sp c l with
        | nil => exact absurd h3 (sp_ne c l)
        | cons q qs =>
          have := ih q (by rw [h3]; simp)
          simp
          omega
      · have := ih p (List.mem_of_mem_tail hp); simp; omega
def wtB (l : List UInt8) : Bool := txtB l && good (lens l)
def wtZ (l : List UInt8) : List Int := if wtB l = true then lens l else []
theorem wtZ_len (l : List UInt8) : (wtZ l).length ≤ 1048576 := by
  unfold wtZ
  split
  · next h =>
    unfold wtB at h
    rw [Bool.and_eq_true] at h
    have := ((good_iff _).1 h.2).2.1
    omega
  · simp
theorem txt_len {l : List UInt8} (h : txtB l = true) : 1 ≤ l.length ∧ l.length ≤ 200 ∧ ∀ k (hk : k < l.length), 32 ≤ (l[k]).toNat ∧ (l[k]).toNat ≤ 126 := by
  unfold txtB at h
  rw [Bool.and_eq_true] at h
  have := sgn_len h.1
  exact ⟨this.1, by omega, this.2.2⟩
set_option maxRecDepth 100000 in
set_option maxHeartbeats 1000000 in
theorem iWords (l : List UInt8) (hl : l.length ≤ 1048576) (w : World) :
    Calls Tryd.prog 14 #[.string ⟨l.toArray⟩] w (Gives (wtB l) (wtZ l) w) := by
  have C1 := Lib.hid (fun W => isText_any l hl W)
  obtain ⟨x, hx⟩ : ∃ x, txtB l = x := ⟨_, rfl⟩
  rw [hx] at C1
  cases x
  · rw [show wtB l = false by unfold wtB; rw [hx]; rfl, show wtZ l = [] by unfold wtZ wtB; rw [hx]; rfl]
    clear hx
    go_enter Tryd.func14, Tryd.ntmps14
    go_wp2_with fail
    refine (C1.out _).mono ?_
    rintro e w1 ⟨rfl, hb⟩
    go_wp2
    go_ret2
    exact ⟨_, rfl, World.ownsRow_nil _ _ _ _, hb⟩
  · have ht := txt_len hx
    have C2 := Lib.hid (fun W => wordLengths_any l ht.2.1 (fun k hk => by have := ht.2.2 k hk; omega) W)
    have hll := lens_len l
    obtain ⟨y, hy⟩ : ∃ y, good (lens l) = y := ⟨_, rfl⟩
    have HGY := Lib.hid hy
    have hwb : wtB l = y := by unfold wtB; rw [hx, hy]; rfl
    have hwz : wtZ l = if y = true then lens l else [] := by unfold wtZ; rw [hwb]
    have hl0 : 1 ≤ (lens l).length := by cases h : lens l with
      | nil => exact absurd h (lens_ne l)
      | cons a r => simp
    have HLL := Lib.hid (show (lens l).length ≤ 1048576 by omega)
    rw [hwb, hwz]
    obtain ⟨L, hL⟩ : ∃ L, lens l = L := ⟨_, rfl⟩
    rw [hL] at C2 HGY HLL hl0 ⊢
    have hL0 := hl0
    obtain ⟨os, hos⟩ : ∃ os, (if y = true then L else []) = os := ⟨_, rfl⟩
    rw [hos]
    have HOS := Lib.hid hos
    clear hos
    clear hx ht hll hy hwb hwz hL hl0
    go_enter Tryd.func14, Tryd.ntmps14
    go_wp2_with fail
    refine (C1.out _).mono ?_
    rintro e w1 ⟨rfl, hb⟩
    go_wp2_with fail
    refine (C2.out _).mono ?_
    rintro e w2 ⟨v, rfl, ho, hb2⟩
    obtain ⟨gq, cp, rfl⟩ := own_pos ho hL0
    have HB2 := Lib.hid (hb.trans (below_le hb2 hb.size))
    have HO := Lib.hid (Li.own_le ho hb.size)
    have C3 := Lib.hid (iAreWords ho HLL.out y HGY.out)
    clear ho hb hb2
    go_wp2_with fail
    refine C3.out.mono ?_
    rintro e w' ⟨rfl, rfl⟩
    cases y
    · go_wp2
      go_ret2
      exact ⟨_, rfl, by rw [show os = [] from HOS.out.symm]; exact World.ownsRow_nil _ _ _ _, HB2.out⟩
    · go_wp2
      go_ret2
      exact ⟨_, rfl, by rw [show os = L from HOS.out.symm]; exact HO.out, HB2.out⟩
theorem mk_self (b : ByteArray) : (⟨b.data.toList.toArray⟩ : ByteArray) = b := by
  apply ByteArray.ext
  simp
theorem mk_len (b : ByteArray) : b.data.toList.length = b.size := by rw [Array.length_toList]; rfl
end Ln
end Go.Proofs.YtbebojahjfnkiaaDoor
