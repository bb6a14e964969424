/- Lines of words, and what each needs: the program. -/
import Derived.Test.YtdpblijmagcgiaaAr
namespace Go.Proofs.Ytdpblijmagcgiaa
open Go.RowKit Go.Joins Go.Deep Go.ChangeShapes Go.WideShapes
set_option linter.unusedVariables false
set_option linter.unusedSimpArgs false
namespace Ln
/-- the first k lines have a word at least, and are not more than n words -/
def alB (n : Nat) (ls : List Int) : Nat → Bool
  | 0 => true
  | k + 1 => alB n ls k && (decide (1 ≤ ls.getD k 0) && decide (psum ls (k + 1) ≤ (n : Int)))
theorem alB_step (n : Nat) (ls : List Int) (k : Nat) : alB n ls (k + 1) = (alB n ls k && (decide (1 ≤ ls.getD k 0) && decide (psum ls (k + 1) ≤ (n : Int)))) := rfl
theorem alB_iff (n : Nat) (ls : List Int) (k : Nat) : alB n ls k = true ↔ ∀ j, j < k → 1 ≤ ls.getD j 0 ∧ psum ls (j + 1) ≤ (n : Int) := by
  induction k with
  | zero => simp [alB]
  | succ k ih =>
    rw [alB_step, Bool.and_eq_true, Bool.and_eq_true, ih, decide_eq_true_eq, decide_eq_true_eq]
    constructor
    · rintro ⟨a, b⟩ j hj
      by_cases e : j = k
      · subst e; exact b
      · exact a j (by omega)
    · intro h
      exact ⟨fun j hj => h j (by omega), h k (by omega)⟩
theorem alB_psum {n : Nat} {ls : List Int} : ∀ k, (∀ j, j < k → 1 ≤ ls.getD j 0 ∧ psum ls (j + 1) ≤ (n : Int)) → (k : Int) ≤ psum ls k ∧ psum ls k ≤ (n : Int) := by
  intro k
  induction k with
  | zero => intro _; simp [psum]
  | succ k ih =>
    intro h
    have h1 := ih (fun j hj => h j (by omega))
    have h2 := h k (by omega)
    refine ⟨?_, h2.2⟩
    rw [psum_step]
    omega
theorem lines_al (zs ls : List Int) : lines zs ls = (good zs && (alB zs.length ls ls.length && (psum ls ls.length == (zs.length : Int)))) := by
  by_cases hg : good zs = true
  · rw [hg, Bool.true_and]
    cases h : (alB zs.length ls ls.length && (psum ls ls.length == (zs.length : Int))) with
    | true =>
      simp only [Bool.and_eq_true, beq_iff_eq, alB_iff] at h
      have hp := alB_psum _ h.1
      unfold lines
      simp only [Bool.and_eq_true, decide_eq_true_eq, beq_iff_eq, allB_iff, hg, true_and]
      refine ⟨⟨by omega, fun k hk => ?_⟩, h.2⟩
      have h1 := h.1 k hk
      have h2 := alB_psum k (fun j hj => h.1 j (by omega))
      have h3 := h1.2
      rw [psum_step] at h3
      omega
    | false =>
      cases h2 : lines zs ls with
      | false => rfl
      | true =>
        have hp := part_sum h2
        have ho := lines_ok h2
        have : (alB zs.length ls ls.length && (psum ls ls.length == (zs.length : Int))) = true := by
          simp only [Bool.and_eq_true, beq_iff_eq, alB_iff]
          refine ⟨fun j hj => ⟨(ho.2.2.1 j hj).1, ?_⟩, ho.2.2.2⟩
          have := (hp (j + 1) (by omega)).2
          omega
        rw [this] at h
        cases h
  · have hg2 : good zs = false := by simpa using hg
    unfold lines
    rw [hg2]
    rfl
set_option maxRecDepth 100000 in
set_option maxHeartbeats 2000000 in
theorem areLinesOf_any {b2 g' n cap len' cap' : Nat} {a : Option Addr} {ls : List Int} {w : World} (h : Ow w b2 g' len' cap' ls) (hl : len' ≤ 1048576) (hn : n ≤ 30) (v : Bool) (hv : (alB n ls len' && (psum ls len' == (n : Int))) = v) :
    Calls Try.prog 59 #[.slice a n cap, .slice (some ⟨g', 0, none⟩) len' cap'] w fun e w' => e = .returned (.bool v) ∧ w = w' := by
  have HO := Lib.hid h
  have HV := Lib.hid hv
  clear h hv
  go_enter Try.func59, Try.ntmps59
  go_wp2
  go_loop [5, 12] (fun s i => ∃ (k : Nat) (S : Int), k ≤ len' ∧ i = .int .i64 (k : Int) ∧ s = .int .i64 S ∧ Hid (S = (n : Int) - psum ls k) ∧ Hid (alB n ls k = true)) (fun _ i => ((len' : Int) - intOf i).toNat)
  case atStart => exact ⟨0, (n : Int), by omega, rfl, rfl, Lib.hid (by simp [psum]), Lib.hid rfl⟩
  case round =>
    obtain ⟨k, S, hk, rfl, rfl, HS, HA⟩ := hrel
    have b := alB_psum k ((alB_iff n ls k).1 HA.out)
    have e := HS.out
    have s1 : 0 ≤ S := by omega
    have s2 : S ≤ 30 := by omega
    clear b e
    by_cases hlt : (k : Int) < len'
    · obtain ⟨z, HZ, hc⟩ := ow_at HO.out (k := k) (by omega)
      have HNo := Lib.hid (fun (hq : ¬ (1 ≤ z ∧ z ≤ S)) => show v = false by
        rw [← HV.out]
        cases h2 : alB n ls len' with
        | false => rfl
        | true =>
          have h3 := (alB_iff n ls len').1 h2 k (by omega)
          rw [psum_step, HZ.out] at h3
          have := HS.out
          omega)
      by_cases d1 : z < 1
      · have E := Lib.hid (HNo.out (by omega))
        go_wp2
        go_ret
        exact ⟨rb E.out rfl, rfl⟩
      · by_cases d2 : S < z
        · have E := Lib.hid (HNo.out (by omega))
          go_wp2
          go_ret
          exact ⟨rb E.out rfl, rfl⟩
        · have HS2 := Lib.hid (show S - z = (n : Int) - psum ls (k + 1) by rw [psum_step, HZ.out, HS.out]; omega)
          have HA2 := Lib.hid (show alB n ls (k + 1) = true by
            rw [alB_step, HA.out, Bool.true_and, Bool.and_eq_true, decide_eq_true_eq, decide_eq_true_eq, HZ.out]
            have := HS2.out
            omega)
          go_wp2
          go_round
          case rel => exact ⟨k + 1, S - z, by omega, by go_num, by first | rfl | go_num, HS2, HA2⟩
          case measure => simp [intOf]; omega
    · have ek : k = len' := by omega
      have E := Lib.hid (show v = (S == 0) by
        rw [← HV.out, ← ek, HA.out, Bool.true_and]
        have := HS.out
        by_cases c : S = 0
        · rw [show (S == 0) = true by simp [c], beq_iff_eq]; omega
        · rw [show (S == 0) = false by simp [c], beq_eq_false_iff_ne]; omega)
      clear ek
      go_wp2
      go_ret
      exact ⟨rb E.out rfl, rfl⟩
theorem info22 : (Try.prog.info? 22).map (fun i => (i.zero, i.size, i.bytes)) = some (some (.slice none 0 0), 1, 24) := by kernel_rfl
/-- the words of line j -/
def subV (g cap : Nat) (ls : List Int) (j : Nat) : Value := .slice (some ⟨g, (psum ls j).toNat, none⟩) (ls.getD j 0).toNat (cap - (psum ls j).toNat)
def subs (g cap : Nat) (ls : List Int) (k : Nat) : List Value := (List.range k).map (subV g cap ls)
theorem subs_len (g cap : Nat) (ls : List Int) (k : Nat) : (subs g cap ls k).length = k := by simp [subs]
theorem subs_next (g cap : Nat) (ls : List Int) (k : Nat) : subs g cap ls (k + 1) = subs g cap ls k ++ [subV g cap ls k] := by simp [subs, List.range_succ]
theorem subs_at (g cap : Nat) (ls : List Int) (k j : Nat) (h : j < k) : (subs g cap ls k)[j]? = some (subV g cap ls j) := by simp [subs, h]
set_option maxRecDepth 100000 in
set_option maxHeartbeats 4000000 in
theorem inLines_any {b1 b2 g g' len len' cap cap' : Nat} {zs ls : List Int} {w : World} (h : Ow w b1 g len cap zs) (h' : Ow w b2 g' len' cap' ls) (hg : lines zs ls = true) :
    Calls Try.prog 60 #[.slice (some ⟨g, 0, none⟩) len cap, .slice (some ⟨g', 0, none⟩) len' cap'] w fun e w' => ∃ v, e = .returned v ∧ w'.ownsRow w.heap.size 22 1 v len' (subs g cap ls len') ∧ Below w.heap.size w w' := by
  have HO' := Lib.hid h'
  have hz := ow_len h
  have hz' := ow_len h'
  have HP := Lib.hid (fun k (hk : k ≤ len') => part_sum hg k (by rw [hz']; exact hk))
  rw [hz, hz'] at HP
  have HA := Lib.hid (lines_ok hg).2.2.1
  rw [hz, hz'] at HA
  have h30 : len ≤ 30 := by have := (lines_ok hg).1.2.1; omega
  have h30' : len' ≤ 30 := by have := (lines_ok hg).2.1; omega
  have hcap := (ow_cap h).1
  have hcm : cap ≤ 9223372036854775807 := by have := (ow_cap h).2; unfold maxLen at this; omega
  obtain ⟨i0, hi, hz0, hz1, hz2⟩ := info_parts info22
  clear h h' hg hz hz'
  go_enter Try.func60, Try.ntmps60
  go_wp2
  go_loopw [0, 5, 10] (fun s v i wr => ∃ (k A o : Nat), k ≤ len' ∧ A ≤ len ∧ (o = A ∨ len - A = 0) ∧ i = .int .i64 (k : Int) ∧ s = .slice (some ⟨g, o, none⟩) (len - A) (cap - A) ∧ Hid ((A : Int) = psum ls k) ∧ wr.ownsRow w.heap.size 22 1 v k (subs g cap ls k) ∧ Below w.heap.size w wr) (fun _ _ i _ => ((len' : Int) - intOf i).toNat)
  case atStart => exact ⟨0, 0, 0, by omega, by omega, _root_.Or.inl rfl, rfl, by simp, Lib.hid rfl, World.ownsRow_nil _ _ _ _, Below.refl _ _⟩
  case round =>
    obtain ⟨k, A, o, hk, hA, hoA, rfl, rfl, HS, hown, hb⟩ := hrel
    have HB := Lib.hid hb
    have hsw := hb.size
    clear hb
    by_cases hlt : (k : Int) < len'
    · obtain ⟨z, HZK, hc⟩ := ow_at (Li.own_on HO'.out HB.out) (k := k) (by omega)
      have hza := HA.out k (by omega)
      rw [HZK.out] at hza
      obtain ⟨m, rfl⟩ := Int.eq_ofNat_of_zero_le (show 0 ≤ z by omega)
      have hp := (HP.out (k + 1) (by omega)).2
      rw [psum_step, ← HS.out, HZK.out] at hp
      have hAm : A + m ≤ len := by omega
      have hm1 : 1 ≤ m := by omega
      obtain rfl : o = A := by omega
      have HS2 := Lib.hid (show ((o + m : Nat) : Int) = psum ls (k + 1) by rw [psum_step, ← HS.out, HZK.out]; simp)
      have HSV := Lib.hid (show subV g cap ls k = .slice (some ⟨g, o, none⟩) m (cap - o) by unfold subV; rw [← HS.out, HZK.out, Int.toNat_natCast, Int.toNat_natCast])
      have r1 := to_run g o (len - o) (cap - o) m (by omega)
      obtain ⟨o2, r7, ho2⟩ := cut_run g o (len - o) (cap - o) m (m : Int) rfl (by omega) (by omega)
      have HOw := Lib.hid (hown.alloc (.cells #[.slice (some ⟨g, o, none⟩) m (cap - o)] 22))
      have HLT := Lib.hid (fun j hj => (hown.lt j hj).1)
      clear hza hp hown hoA
      go_wp2_with (first | (at_builtin; refine wpList_append_own _ rfl _ _ 45 rfl w.heap.size 22 i0 (.slice none 0 0) 1 24 Try.underlying45 hi hz0 hz1 hz2 rfl (by decide) _ _ _ rfl HOw.out ⟨_, 0, none⟩ 1 1 [.slice (some ⟨g, o, none⟩) m (cap - o)] rfl rfl (cell_one_new _ _ _) (fun x hx => by simp at hx; subst hx; rfl) (by unfold maxLen; omega) (by omega) (by simp; omega) ?_; intro v3 w3 hown3 hgrow3 _))
      have HB4 := Lib.hid (Below.grown (HB.out.alloc HB.out.size (.cells #[.slice (some ⟨g, o, none⟩) m (cap - o)] 22)) hgrow3 (by simp; omega) HLT.out)
      have HO3 := Lib.hid (show w3.ownsRow w.heap.size 22 1 v3 (k + 1) (subs g cap ls (k + 1)) by rw [subs_next, HSV.out]; exact hown3)
      clear hown3 hgrow3
      go_roundw
      case rel => exact ⟨k + 1, o + m, o2, by omega, by omega, by omega, by go_num, by first | (congr 1 <;> omega) | trace_state, HS2, HO3.out, HB4.out⟩
      case measure => simp [intOf]; omega
    · have HE := Lib.hid (show k = len' by omega)
      have HOw := Lib.hid hown
      clear hown
      go_wp2
      go_ret
      exact ⟨_, rfl, by rw [← HE.out]; exact HOw.out, HB.out⟩
end Ln
end Go.Proofs.Ytdpblijmagcgiaa
