/- The filled lines of a text as texts: mathematics, and the program. -/
import Derived.Test.YtbebojahjfnkiaaDoorTl0
import Derived.Test.YtbebojahjfnkiaaDoorShelf
import Derived.Test.YtbebojahjfnkiaaDoorPd0
import Derived.Lib.Split
import Derived.Lib.SplitLaws
import Derived.Lib.CountLaws
import Derived.Lib.IndexMore
namespace Go.Proofs.YtbebojahjfnkiaaDoor
open Go.RowKit Go.Joins Go.Deep Go.ChangeShapes Go.WideShapes Go.Lib
set_option linter.unusedVariables false
set_option linter.unusedSimpArgs false
namespace Ln
/-! filled lines are lines -/
theorem psum_cons (c : Int) (L : List Int) : ∀ k, psum (c :: L) (k + 1) = c + psum L k := by
  intro k
  induction k with
  | zero => simp [psum]
  | succ k ih => rw [psum_step, ih, psum_step]; simp only [List.getD_cons_succ]; omega
theorem fillA_fit (zs : List Int) (wide : Int) : ∀ d a, zs.length - a ≤ d → a ≤ zs.length → (∀ j, j < (fillA zs wide a).length → 1 ≤ (fillA zs wide a).getD j 0 ∧ (a : Int) + psum (fillA zs wide a) (j + 1) ≤ (zs.length : Int)) ∧ (a : Int) + psum (fillA zs wide a) (fillA zs wide a).length = (zs.length : Int) := by
  intro d
  induction d with
  | zero =>
    intro a h1 h2
    rw [fillA_end zs wide a (by omega)]
    exact ⟨fun j hj => by simp at hj, by simp [psum]; omega⟩
  | succ d ih =>
    intro a h1 h2
    by_cases h : a < zs.length
    · have hb := cnt_bd zs wide a h
      obtain ⟨p, q⟩ := ih (a + cnt zs wide a) (by omega) (by omega)
      rw [fillA_step zs wide a h]
      refine ⟨fun j hj => ?_, ?_⟩
      · cases j with
        | zero => rw [psum_cons]; simp [psum]; omega
        | succ j =>
          rw [psum_cons]
          simp only [List.length_cons] at hj
          have := p j (by omega)
          simp only [List.getD_cons_succ]
          refine ⟨this.1, ?_⟩
          have h3 := this.2
          omega
      · rw [List.length_cons, psum_cons]
        omega
    · rw [fillA_end zs wide a h]
      exact ⟨fun j hj => by simp at hj, by simp [psum]; omega⟩
theorem fillA_lines {zs : List Int} (wide : Int) (ho : Ok zs) : lines zs (fillA zs wide 0) = true := by
  rw [lines_al, (good_iff zs).2 ho, Bool.true_and, Bool.and_eq_true, beq_iff_eq, alB_iff]
  obtain ⟨p, q⟩ := fillA_fit zs wide _ 0 (Nat.le_refl _) (by omega)
  exact ⟨fun j hj => ⟨(p j hj).1, by have := (p j hj).2; omega⟩, by omega⟩
/-! texts of lines -/
def lnT (ps : List (List UInt8)) (ls : List Int) (j : Nat) : List UInt8 := Lib.join ((ps.drop (psum ls j).toNat).take (ls.getD j 0).toNat) [32]
def setL (ps : List (List UInt8)) (ls : List Int) (k : Nat) : List (List UInt8) := (List.range k).map (lnT ps ls)
theorem setL_len (ps : List (List UInt8)) (ls : List Int) (k : Nat) : (setL ps ls k).length = k := by simp [setL]
theorem setL_next (ps : List (List UInt8)) (ls : List Int) (k : Nat) : setL ps ls (k + 1) = setL ps ls k ++ [lnT ps ls k] := by simp [setL, List.range_succ]
def seB (l : List UInt8) (wide : Int) : Bool := txtB l && fits (lens l) wide
def seZ (l : List UInt8) (wide : Int) : List (List UInt8) := if seB l wide = true then setL (sp 32 l) (fillA (lens l) wide 0) (fillA (lens l) wide 0).length else []
theorem seZ_len (l : List UInt8) (wide : Int) : (seZ l wide).length ≤ 90 := by
  unfold seZ
  split
  · next h =>
    unfold seB at h
    rw [Bool.and_eq_true] at h
    have := (fits_ok h.2).2.1
    have := fillA_sum (lens l) wide _ 0 (Nat.le_refl _)
    rw [setL_len]
    omega
  · simp
theorem joinTail_len : ∀ (r : List (List UInt8)), (∀ p ∈ r, p.length ≤ 200) → (Lib.joinTail [32] r).length ≤ 201 * r.length := by
  intro r
  induction r with
  | nil => intro _; simp [Lib.joinTail]
  | cons p r ih =>
    intro h
    have h1 := h p (by simp)
    have h2 := ih (fun q hq => h q (by simp [hq]))
    simp only [Lib.joinTail, List.map_cons, List.flatten_cons, List.length_append, List.length_cons, List.length_nil] at h2 ⊢
    omega
theorem join_len (r : List (List UInt8)) (h : ∀ p ∈ r, p.length ≤ 200) : (Lib.join r [32]).length ≤ 201 * r.length := by
  cases r with
  | nil => simp [Lib.join_nil]
  | cons p r =>
    rw [Lib.join_cons, List.length_append]
    have h1 := h p (by simp)
    have h2 := joinTail_len r (fun q hq => h q (by simp [hq]))
    simp only [List.length_cons]
    omega
/-- a list of texts and a bool are returned -/
def GivesS (ok : Bool) (ps : List (List UInt8)) (W : World) (e : Ending) (w' : World) : Prop :=
  ∃ v, e = .returned (.tuple #[v, .bool ok]) ∧ w'.ownsRow W.heap.size 9 1 v ps.length (strs ps) ∧ Below W.heap.size W w'
theorem GivesS.none {W w' : World} (hb : Below W.heap.size W w') : GivesS false [] W (.returned (.tuple #[.slice none 0 0, .bool false])) w' := ⟨_, rfl, World.ownsRow_nil _ _ _ _, hb⟩
theorem infoSS : (Tryd.prog.info? 22).map (fun i => (i.zero, i.size, i.bytes)) = some (some (.slice none 0 0), 1, 24) := by kernel_rfl
theorem scut_run (go o k cp a : Nat) (ai : Int) (hai : ai = (a : Int)) (ha : a ≤ k) (hc : k ≤ cp) : ∃ o' : Nat, (∀ W, (Instr.slice 22 (.slice (some ⟨go, o, none⟩) k cp) (some (.int .i64 ai)) none none).run Tryd.prog W = .ok (.slice (some ⟨go, o', none⟩) (k - a) (cp - a)) W) ∧ (o' = o + a ∨ k - a = 0) := by
  subst hai
  refine ⟨if cp = a then o else o + a, fun W => ?_, ?_⟩
  · rw [run_slice_l W 22 (some ⟨go, o, none⟩) k cp (by kernel_rfl) .i64 (a : Int) (by omega) (by omega)]
    have e : (sizeOf (Tryd.prog.elem 22)).run Tryd.prog W = .ok 1 W := by kernel_rfl
    rw [e]
    simp only [Result.andThen, sliced, Int.toNat_natCast, Nat.mul_one]
    by_cases h : cp = a
    · simp [h]
    · simp [h, Addr.add]
  · by_cases h : cp = a
    · exact _root_.Or.inr (by omega)
    · exact _root_.Or.inl (by rw [if_neg h])
theorem sto_run (go o k cp a : Nat) (ha : a ≤ cp) (W : World) : (Instr.slice 22 (.slice (some ⟨go, o, none⟩) k cp) none (some (.int .i64 (a : Int))) none).run Tryd.prog W = .ok (.slice (some ⟨go, o, none⟩) a cp) W := by
  rw [run_slice_h W 22 (some ⟨go, o, none⟩) k cp (by kernel_rfl) .i64 (a : Int) (by omega) (by omega)]
  have e : (sizeOf (Tryd.prog.elem 22)).run Tryd.prog W = .ok 1 W := by kernel_rfl
  rw [e]
  simp [Result.andThen, sliced]
  intro _
  simp [Addr.add]
theorem slh_run (go o k cp a b : Nat) (ai bi : Int) (hai : ai = (a : Int)) (hbi : bi = (b : Int)) (hab : a ≤ b) (hc : b ≤ cp) : ∃ o' : Nat, (∀ W, (Instr.slice 22 (.slice (some ⟨go, o, none⟩) k cp) (some (.int .i64 ai)) (some (.int .i64 bi)) none).run Tryd.prog W = .ok (.slice (some ⟨go, o', none⟩) (b - a) (cp - a)) W) ∧ (o' = o + a ∨ b - a = 0) := by
  subst hai hbi
  refine ⟨if cp = a then o else o + a, fun W => ?_, ?_⟩
  · rw [run_slice_lh W 22 (some ⟨go, o, none⟩) k cp (by kernel_rfl) .i64 .i64 (a : Int) (b : Int) (by omega) (by omega) (by omega)]
    have e : (sizeOf (Tryd.prog.elem 22)).run Tryd.prog W = .ok 1 W := by kernel_rfl
    rw [e]
    simp only [Result.andThen, sliced, Int.toNat_natCast, Nat.mul_one]
    by_cases h : cp = a
    · simp [h]
    · simp [h, Addr.add]
  · by_cases h : cp = a
    · exact _root_.Or.inr (by omega)
    · exact _root_.Or.inl (by rw [if_neg h])
set_option maxRecDepth 100000 in
set_option maxHeartbeats 4000000 in
theorem inLinesS_any {b2 g g' len len' cap cap' : Nat} {zs ls : List Int} {w : World} (hz : zs.length = len) (hcap : len ≤ cap) (hcm : cap ≤ 9223372036854775807) (h' : Ow w b2 g' len' cap' ls) (hg : lines zs ls = true) :
    Calls Tryd.prog 16 #[.slice (some ⟨g, 0, none⟩) len cap, .slice (some ⟨g', 0, none⟩) len' cap'] w fun e w' => ∃ v, e = .returned v ∧ w'.ownsRow w.heap.size 22 1 v len' (subs g cap ls len') ∧ Below w.heap.size w w' := by
  have HO' := Lib.hid h'
  have hz' := ow_len h'
  have HP := Lib.hid (fun k (hk : k ≤ len') => part_sum hg k (by rw [hz']; exact hk))
  rw [hz, hz'] at HP
  have HA := Lib.hid (lines_ok hg).2.2.1
  rw [hz, hz'] at HA
  have h30 : len ≤ 30 := by have := (lines_ok hg).1.2.1; omega
  have h30' : len' ≤ 30 := by have := (lines_ok hg).2.1; omega
  obtain ⟨i0, hi, hz0, hz1, hz2⟩ := info_parts infoSS
  clear h' hg hz hz'
  go_enter Tryd.func16, Tryd.ntmps16
  go_wp2
  go_loopw [0, 5, 10] (fun s v i wr => ∃ (k A o : Nat), k ≤ len' ∧ A ≤ len ∧ (o = A ∨ len - A = 0) ∧ i = .int .i64 (k : Int) ∧ s = .slice (some ⟨g, o, none⟩) (len - A) (cap - A) ∧ Hid ((A : Int) = psum ls k) ∧ wr.ownsRow w.heap.size 22 1 v k (subs g cap ls k) ∧ Below w.heap.size w wr) (fun _ _ i _ => ((len' : Int) - RowKit.intOf i).toNat)
  case atStart => exact ⟨0, 0, 0, by omega, by omega, _root_.Or.inl rfl, rfl, by simp, Lib.hid rfl, World.ownsRow_nil _ _ _ _, Below.refl _ _⟩
  case round =>
    obtain ⟨k, A, o, hk, hA, hoA, rfl, rfl, HS, hown, hb⟩ := hrel
    have HB := Lib.hid hb
    have hsw := hb.size
    clear hb
    by_cases hlt : (k : Int) < len'
    · obtain ⟨z, HZK, hc⟩ := ow_at (Li.own_on HO'.out HB.out) (k := k) (by omega)
      have hza := HA.out k (by omega)
      rw [HZK.out] at hza
      obtain ⟨m, rfl⟩ := Int.eq_ofNat_of_zero_le (show 0 ≤ z by omega)
      have hp := (HP.out (k + 1) (by omega)).2
      rw [psum_step, ← HS.out, HZK.out] at hp
      have hAm : A + m ≤ len := by omega
      have hm1 : 1 ≤ m := by omega
      obtain rfl : o = A := by omega
      have HS2 := Lib.hid (show ((o + m : Nat) : Int) = psum ls (k + 1) by rw [psum_step, ← HS.out, HZK.out]; simp)
      have HSV := Lib.hid (show subV g cap ls k = .slice (some ⟨g, o, none⟩) m (cap - o) by unfold subV; rw [← HS.out, HZK.out, Int.toNat_natCast, Int.toNat_natCast])
      have r1 := sto_run g o (len - o) (cap - o) m (by omega)
      obtain ⟨o2, r7, ho2⟩ := scut_run g o (len - o) (cap - o) m (m : Int) rfl (by omega) (by omega)
      have HOw := Lib.hid (hown.alloc (.cells #[.slice (some ⟨g, o, none⟩) m (cap - o)] 22))
      have HLT := Lib.hid (fun j hj => (hown.lt j hj).1)
      clear hza hp hown hoA
      go_wp2_with (first | (at_builtin; refine wpList_append_own _ rfl _ _ 37 rfl w.heap.size 22 i0 (.slice none 0 0) 1 24 Tryd.underlying37 hi hz0 hz1 hz2 rfl (by decide) _ _ _ rfl HOw.out ⟨_, 0, none⟩ 1 1 [.slice (some ⟨g, o, none⟩) m (cap - o)] rfl rfl (cell_one_new _ _ _) (fun x hx => by simp at hx; subst hx; rfl) (by unfold maxLen; omega) (by omega) (by simp; omega) ?_; intro v3 w3 hown3 hgrow3 _))
      have HB4 := Lib.hid (Below.grown (HB.out.alloc HB.out.size (.cells #[.slice (some ⟨g, o, none⟩) m (cap - o)] 22)) hgrow3 (by simp; omega) HLT.out)
      have HO3 := Lib.hid (show w3.ownsRow w.heap.size 22 1 v3 (k + 1) (subs g cap ls (k + 1)) by rw [subs_next, HSV.out]; exact hown3)
      clear hown3 hgrow3
      go_roundw
      case rel => exact ⟨k + 1, o + m, o2, by omega, by omega, by omega, by go_num, by first | (congr 1 <;> omega) | trace_state, HS2, HO3.out, HB4.out⟩
      case measure => simp [RowKit.intOf] <;> omega
    · have HE := Lib.hid (show k = len' by omega)
      have HOw := Lib.hid hown
      clear hown
      go_wp2
      go_ret
      exact ⟨_, rfl, by rw [← HE.out]; exact HOw.out, HB.out⟩
end Ln
end Go.Proofs.YtbebojahjfnkiaaDoor
