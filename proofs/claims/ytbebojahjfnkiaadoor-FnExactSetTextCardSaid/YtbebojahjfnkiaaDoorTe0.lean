/- When there is a text, and the lengths of its words: both sides. -/
import Derived.Test.YtbebojahjfnkiaaDoorTd0
namespace Go.Proofs.YtbebojahjfnkiaaDoor
open Go.RowKit Go.Joins Go.Deep Go.ChangeShapes Go.WideShapes Go.Lib
set_option linter.unusedVariables false
set_option linter.unusedSimpArgs false
namespace Ln
/-- a word without signs lies somewhere on, if a blank came before or not -/
def zz : Bool → List UInt8 → Bool
  | pb, [] => pb
  | pb, b :: l => if b = 32 then (if pb = true then true else zz true l) else zz false l
theorem lens_nn (l : List UInt8) : ∀ x ∈ lens l, 0 ≤ x := by
  unfold lens
  intro x hx
  obtain ⟨p, _, rfl⟩ := List.mem_map.1 hx
  omega
theorem lens_hd (l : List UInt8) : 0 ≤ (lens l).headD 0 := by
  cases h : lens l with
  | nil => exact Int.le_refl 0
  | cons x xs => exact lens_nn l x (by rw [h]; simp)
theorem zz_lens : ∀ l : List UInt8, (zz true l = true ↔ (0 : Int) ∈ lens l) ∧ (zz false l = true ↔ (0 : Int) ∈ (lens l).tail) := by
  intro l
  induction l with
  | nil => simp [zz, lens_nil]
  | cons b l ih =>
    by_cases h : b = 32
    · subst h
      rw [lens_hit]
      constructor
      · simp [zz]
      · simp only [List.tail_cons]
        rw [← ih.1]
        simp [zz]
    · rw [lens_miss b l h]
      have h1 := lens_hd l
      constructor
      · rw [List.mem_cons, ← ih.2]
        simp only [zz, if_neg h]
        constructor
        · intro h2; exact _root_.Or.inr h2
        · rintro (h2 | h2)
          · omega
          · exact h2
      · simp only [List.tail_cons]
        rw [← ih.2]
        simp only [zz, if_neg h]
theorem zz_last : ∀ (l : List UInt8) (pb : Bool) (h : 0 < l.length), l[l.length - 1]'(by omega) = 32 → zz pb l = true := by
  intro l
  induction l with
  | nil => intro pb h; simp at h
  | cons b l ih =>
    intro pb h hl
    cases l with
    | nil =>
      have hb : b = 32 := by simpa using hl
      subst hb
      cases pb <;> simp [zz]
    | cons c r =>
      have h2 : (c :: r)[(c :: r).length - 1]'(by simp) = 32 := by simpa using hl
      have q := fun pb => ih pb (by simp) h2
      unfold zz
      split
      · split
        · rfl
        · exact q true
      · exact q false
theorem zz_at (pb : Bool) (l : List UInt8) (k : Nat) (h : k < l.length) : zz pb (l.drop k) = if l[k] = 32 then (if pb = true then true else zz true (l.drop (k + 1))) else zz false (l.drop (k + 1)) := by
  rw [List.drop_eq_getElem_cons h, zz]
def txtB (l : List UInt8) : Bool := sgn l 200 && !(zz true l)
theorem txt_lens (l : List UInt8) : txtB l = (sgn l 200 && !((lens l).contains 0)) := by
  unfold txtB
  congr 2
  rw [Bool.eq_iff_iff, (zz_lens l).1, List.contains_iff_mem]
theorem sgn_len {l : List UInt8} {M : Int} (h : sgn l M = true) : 1 ≤ l.length ∧ (l.length : Int) ≤ M ∧ ∀ k (hk : k < l.length), 32 ≤ (l[k]).toNat ∧ (l[k]).toNat ≤ 126 := by
  unfold sgn at h
  simp only [Bool.and_eq_true, decide_eq_true_eq] at h
  exact ⟨by omega, h.1.2, (asc_iff l).1 h.2⟩
/-! the program -/
set_option maxRecDepth 100000 in
set_option maxHeartbeats 1000000 in
theorem index_any {base n : Nat} {v : Value} {zs : List Int} {x : Int} {w : World} (h : w.ownsRow base 3 1 v n (Li.nums zs)) (hl : n ≤ 1048576) (y : Bool) (hy : zs.contains x = y) :
    Calls Tryd.prog 46 #[v, .int .i64 x] w fun e w' => (∃ r : Int, e = .returned (.int .i64 r) ∧ (0 ≤ r ↔ y = true)) ∧ w = w' := by
  have hz : zs.length = n := by have := h.1; simpa [Li.nums] using this
  have HY := Lib.hid hy
  have HZ := Lib.hid hz
  rcases Li.own_forms h with ⟨rfl, rfl⟩ | ⟨g, cap, rfl⟩
  · have hy2 : y = false := by rw [← HY.out, List.eq_nil_of_length_eq_zero hz]; rfl
    subst hy2
    clear h hy hz
    go_enter Tryd.func46, Tryd.ntmps46
    go_wp2
    refine wp_loop_rounds 1 ?_
    rw [rounds_succ]
    go_wp2
    go_ret
    exact ⟨⟨_, rfl, by simp⟩, rfl⟩
  · have HO := Lib.hid h
    clear h hy hz
    go_enter Tryd.func46, Tryd.ntmps46
    go_wp2
    go_loop [8] (fun i => ∃ k : Nat, k ≤ n ∧ i = .int .i64 (k : Int) ∧ Hid (∀ j, j < k → zs.getD j 0 ≠ x)) (fun i => ((n : Int) - intOf i).toNat)
    case atStart => exact ⟨0, by omega, rfl, Lib.hid (fun j hj => by omega)⟩
    case round =>
      obtain ⟨k, hk, rfl, HA⟩ := hrel
      by_cases hlt : (k : Int) < n
      · obtain ⟨z, HZK, hc⟩ := ow_at HO.out (k := k) (by omega)
        by_cases he : x = z
        · have tq : (x == z) = true := by rw [beq_iff_eq]; exact he
          have HYT := Lib.hid (show y = true by
            rw [← HY.out, List.contains_iff_mem, he, ← HZK.out]
            have hkl : k < zs.length := by rw [HZ.out]; omega
            rw [show zs.getD k 0 = zs[k] by simp [List.getD, List.getElem?_eq_getElem hkl]]
            exact List.getElem_mem hkl)
          clear he
          go_wp2
          go_ret
          exact ⟨⟨_, rfl, by rw [HYT.out]; simp⟩, rfl⟩
        · have tq : (x == z) = false := by rw [beq_eq_false_iff_ne]; exact he
          have HA2 := Lib.hid (show ∀ j, j < k + 1 → zs.getD j 0 ≠ x from fun j hj => by
            by_cases e : j = k
            · subst e; rw [HZK.out]; exact fun e => he e.symm
            · exact HA.out j (by omega))
          clear he
          go_wp2
          go_round
          case rel => exact ⟨k + 1, by omega, by go_num, HA2⟩
          case measure => simp [intOf] <;> omega
      · have HYF := Lib.hid (show y = false by
          rw [← HY.out]
          cases h2 : zs.contains x with
          | false => rfl
          | true =>
            rw [List.contains_iff_mem] at h2
            obtain ⟨j, hj, e⟩ := List.getElem_of_mem h2
            exact absurd (show zs.getD j 0 = x by simp [List.getD, List.getElem?_eq_getElem hj, e]) (HA.out j (by rw [HZ.out] at hj; omega)))
        go_wp2
        go_ret
        exact ⟨⟨_, rfl, by rw [HYF.out]; simp⟩, rfl⟩
theorem contains_any {base n : Nat} {v : Value} {zs : List Int} {x : Int} {w : World} (h : w.ownsRow base 3 1 v n (Li.nums zs)) (hl : n ≤ 1048576) (y : Bool) (hy : zs.contains x = y) :
    Calls Tryd.prog 36 #[v, .int .i64 x] w fun e w' => e = .returned (.bool y) ∧ w = w' := by
  have C := Lib.hid (index_any h hl y hy)
  clear h hy
  go_enter Tryd.func36, Tryd.ntmps36
  go_wp2_with fail
  refine C.out.mono ?_
  rintro e w' ⟨⟨r, rfl, hr⟩, rfl⟩
  have t : decide (0 ≤ r) = y := by
    cases y
    · simp at hr; simp; omega
    · simp at hr; simp; omega
  clear hr
  go_wp2
  go_ret
  exact ⟨rb rfl (by first | rfl | (rw [t]; rfl)), rfl⟩
set_option maxRecDepth 100000 in
set_option maxHeartbeats 1000000 in
theorem isText_any (l : List UInt8) (hl : l.length ≤ 1048576) (w : World) :
    Calls Tryd.prog 26 #[.string ⟨l.toArray⟩] w (Ret (.bool (txtB l)) w) := by
  have C1 := Lib.hid (fun W => hasSigns_any l 200 hl W)
  obtain ⟨x, hx⟩ : ∃ x, sgn l 200 = x := ⟨_, rfl⟩
  rw [hx] at C1
  cases x
  · have E := Lib.hid (show txtB l = false by unfold txtB; rw [hx]; rfl)
    clear hx
    go_enter Tryd.func26, Tryd.ntmps26
    go_wp2_with fail
    refine (C1.out _).mono ?_
    rintro e w1 ⟨rfl, hb⟩
    go_wp2
    go_ret
    exact ⟨rb E.out rfl, hb⟩
  · have hs := sgn_len hx
    obtain ⟨y, hy⟩ : ∃ y, (lens l).contains 0 = y := ⟨_, rfl⟩
    have E := Lib.hid (show txtB l = !y by rw [txt_lens, hx, hy]; rfl)
    have C2 := Lib.hid (fun W => wordLengths_any l (by omega) (fun k hk => by have := hs.2.2 k hk; omega) W)
    have hll := lens_len l
    have HY := Lib.hid hy
    have HL := Lib.hid (show (lens l).length ≤ 1048576 by omega)
    clear hx hs hy hll
    go_enter Tryd.func26, Tryd.ntmps26
    go_wp2_with fail
    refine (C1.out _).mono ?_
    rintro e w1 ⟨rfl, hb⟩
    go_wp2_with fail
    refine (C2.out _).mono ?_
    rintro e w2 ⟨v, rfl, ho, hb2⟩
    have HB2 := Lib.hid (hb.trans (below_le hb2 hb.size))
    have C3 := Lib.hid (contains_any ho HL.out y HY.out)
    clear ho hb hb2
    go_wp2_with fail
    refine C3.out.mono ?_
    rintro e w' ⟨rfl, rfl⟩
    cases y
    · go_wp2
      go_ret
      exact ⟨rb E.out rfl, HB2.out⟩
    · go_wp2
      go_ret
      exact ⟨rb E.out rfl, HB2.out⟩
end Ln
end Go.Proofs.YtbebojahjfnkiaaDoor
