/- An open book, by the program. -/
import Derived.Test.YtabnjoohojojnaaCb
namespace Go.Proofs.Ytabnjoohojojnaa
open Go.RowKit Go.Joins Go.Deep Go.ChangeShapes Go.WideShapes
set_option linter.unusedVariables false
set_option linter.unusedSimpArgs false
namespace Ln
theorem from_lt (go k cp a m c : Nat) (ai : Int) (hai : ai = (a : Int)) (ha : a ≤ k) (hk : k ≤ cp) (hlt : a < cp) (hm : k - a = m) (hc : cp - a = c) (W : World) : (Instr.slice 22 (.slice (some ⟨go, 0, none⟩) k cp) (some (.int .i64 ai)) none none).run Try.prog W = .ok (.slice (some ⟨go, a, none⟩) m c) W := by
  subst hai hm hc
  rw [run_slice_l W 22 (some ⟨go, 0, none⟩) k cp (by kernel_rfl) .i64 (a : Int) (by omega) (by omega)]
  have e : (sizeOf (Try.prog.elem 22)).run Try.prog W = .ok 1 W := by kernel_rfl
  rw [e]
  simp only [Result.andThen, sliced, Int.toNat_natCast, Nat.mul_one]
  rw [if_neg (by omega)]
  by_cases h : a = 0
  · subst h; simp [Addr.add]
  · simp [Addr.add, h]
set_option maxRecDepth 100000 in
set_option maxHeartbeats 2000000 in
theorem iOpen_no {b1 g len cap : Nat} {zs : List Int} {p : Int} {w : World} (h : Ow w b1 g len cap zs) (hl : len ≤ 1048576) (hv : opB zs p = false) :
    Calls Try.prog 42 #[.slice (some ⟨g, 0, none⟩) len cap, .int .i64 p] w (Ret (.tuple #[.int .i64 0, .int .i64 0, .bool false]) w) := by
  have C := Lib.hid (iPagesRead h hl)
  have hz := ow_len h
  cases hb : bnd zs
  · rw [hb] at C
    rw [show rdZ zs = [] by unfold rdZ; rw [hb]; rfl] at C
    clear h hv hb hz
    go_enter Try.func42, Try.ntmps42
    go_wp2_with fail
    refine C.out.mono ?_
    rintro e w1 ⟨v, rfl, ho, hb⟩
    have HO := Lib.hid ho
    clear ho
    go_wp2
    go_ret3
    exact ⟨rfl, hb⟩
  · rw [hb] at C
    have C2 := Lib.hid (fun W => hasPlace_any g len cap p false (by
      unfold opB at hv
      rw [hb, hz, Bool.true_and, Bool.and_eq_false_iff, decide_eq_false_iff_not, decide_eq_false_iff_not] at hv
      rw [Bool.and_eq_false_iff, decide_eq_false_iff_not, decide_eq_false_iff_not]
      omega) W)
    clear h hv hb hz
    go_enter Try.func42, Try.ntmps42
    go_wp2_with fail
    refine C.out.mono ?_
    rintro e w1 ⟨v, rfl, ho, hb⟩
    have HO := Lib.hid ho
    clear ho
    go_wp2_with fail
    refine (C2.out _).mono ?_
    rintro e w' ⟨rfl, rfl⟩
    go_wp2
    go_ret3
    exact ⟨rfl, hb⟩
set_option maxRecDepth 100000 in
set_option maxHeartbeats 2000000 in
theorem iOpen_yes {b1 g len cap P : Nat} {zs : List Int} {w : World} (h : Ow w b1 g len cap zs) (hl : len ≤ 1048576) (hv : opB zs (P : Int) = true) :
    Calls Try.prog 42 #[.slice (some ⟨g, 0, none⟩) len cap, .int .i64 (P : Int)] w (Ret (.tuple #[.int .i64 (opL zs (P : Int)), .int .i64 (opR zs (P : Int)), .bool true]) w) := by
  have C := Lib.hid (iPagesRead h hl)
  have hz := ow_len h
  obtain ⟨B, P', hP', hPl⟩ := opB_ok hv
  have hb := (bnd_iff zs).2 B
  have hPP : P' = P := by omega
  subst hPP
  rw [hz] at hPl
  have h8 : len ≤ 8 := by have := B.2.1; omega
  rw [hb, show rdZ zs = rdL zs len by unfold rdZ; rw [hb, hz]; rfl] at C
  have C2 := Lib.hid (fun W => hasPlace_any g len cap (P' : Int) true (by simp; omega) W)
  have HL := Lib.hid (rdL_len zs len)
  obtain ⟨A0, hA0⟩ : ∃ A0, 2 * P' + 1 = A0 := ⟨_, rfl⟩
  have hA1 : A0 < 2 * len + 1 := by omega
  obtain ⟨m, hm⟩ : ∃ m, 2 * len + 1 - A0 = m := ⟨_, rfl⟩
  have hm2 : 2 ≤ m := by omega
  have HL1 := Lib.hid (show (rdL zs len ++ [0]).getD A0 0 = opL zs (P' : Int) by
    rw [← hA0]
    have e := (rdL_at zs len P' hPl).2
    unfold opL
    rw [if_pos hv, Int.toNat_natCast, ← e]
    simp [List.getD, List.getElem?_append_left (show 2 * P' + 1 < (rdL zs len).length by rw [rdL_len]; omega)])
  have HL2 := Lib.hid (show (rdL zs len ++ [0]).getD (A0 + 1) 0 = opR zs (P' : Int) by
    rw [← hA0]
    unfold opR
    rw [if_pos hv, hz, Int.toNat_natCast]
    by_cases e : P' + 1 = len
    · rw [if_pos (by omega)]
      simp [List.getD, List.getElem?_append_right (show (rdL zs len).length ≤ 2 * P' + 1 + 1 by rw [rdL_len]; omega), rdL_len, show 2 * P' + 1 + 1 - 2 * len = 0 by omega]
    · rw [if_neg (by omega), ← (rdL_at zs len (P' + 1) (by omega)).1]
      rw [show 2 * P' + 1 + 1 = 2 * (P' + 1) by omega]
      simp [List.getD, List.getElem?_append_left (show 2 * (P' + 1) < (rdL zs len).length by rw [rdL_len]; omega)])
  obtain ⟨i0, hi, hz0, hz1, hz2⟩ := info_parts Li.info3
  have HA0 := Lib.hid hA0
  have HM := Lib.hid hm
  obtain ⟨rl, hrl⟩ : ∃ x, opL zs (P' : Int) = x := ⟨_, rfl⟩
  obtain ⟨rr, hrr⟩ : ∃ x, opR zs (P' : Int) = x := ⟨_, rfl⟩
  rw [hrl] at HL1 ⊢
  rw [hrr] at HL2 ⊢
  clear h hv hz B hb hP' hA0 hm hrl hrr
  go_enter Try.func42, Try.ntmps42
  go_wp2_with fail
  refine C.out.mono ?_
  rintro e w1 ⟨v, rfl, ho, hb⟩
  rw [HL.out] at ho
  have HO := Lib.hid ho
  have HB := Lib.hid hb
  have hsw := hb.size
  have HOw := Lib.hid (ho.alloc (.cells #[.int .i64 0] 3))
  have HLT := Lib.hid (fun j hj => (ho.lt j hj).1)
  clear ho hb
  go_wp2_with fail
  refine (C2.out _).mono ?_
  rintro e w' ⟨rfl, rfl⟩
  go_wp2_with (first | (at_builtin; refine wpList_append_own _ rfl _ _ 22 rfl w.heap.size 3 i0 (.int .i64 0) 1 8 Try.underlying22 hi hz0 hz1 hz2 rfl (by decide) _ _ _ rfl HOw.out ⟨_, 0, none⟩ 1 1 [.int .i64 0] rfl rfl (cell_one_b _ _ _ _ (by simp)) (fun x hx => by simp at hx; subst hx; rfl) (by unfold maxLen; omega) (by omega) (by simp; omega) ?_; intro v3 w3 hown3 hgrow3 _; obtain ⟨a, cp, rfl⟩ := own_pos hown3 (by omega); have O3 : Ow w3 w.heap.size a (2 * len + 1) cp (rdL zs len ++ [0]) := (by unfold Ow; rw [nums_snoc]; exact hown3); have hcp := (ow_cap O3).1; have hcp2 := (ow_cap O3).2; unfold maxLen at hcp2; have hf := fun W => from_lt a (2 * len + 1) cp A0 m (cp - A0) (2 * (P' : Int) + 1) (by have := HA0.out; omega) (by omega) hcp (by omega) HM.out rfl W; have q0 := ow_cell O3 (k := A0) (by omega); have q1 := ow_cell O3 (k := A0 + 1) (by have := HM.out; omega); rw [HL1.out] at q0; rw [HL2.out] at q1))
  have HB4 := Lib.hid (Below.grown (HB.out.alloc HB.out.size (.cells #[.int .i64 0] 3)) hgrow3 (by simp; omega) HLT.out)
  clear hown3 hgrow3 hf O3
  go_quiet (fail)
  go_wp2_with fail
  go_ret3
  exact ⟨rfl, Li.below_draws HB4.out _⟩
theorem iOpenAt {b1 g len cap : Nat} {zs : List Int} {p : Int} {w : World} (h : Ow w b1 g len cap zs) (hl : len ≤ 1048576) :
    Calls Try.prog 42 #[.slice (some ⟨g, 0, none⟩) len cap, .int .i64 p] w (Ret (.tuple #[.int .i64 (opL zs p), .int .i64 (opR zs p), .bool (opB zs p)]) w) := by
  cases hv : opB zs p
  · rw [show opL zs p = 0 by unfold opL; rw [hv]; rfl, show opR zs p = 0 by unfold opR; rw [hv]; rfl]
    exact iOpen_no h hl hv
  · obtain ⟨_, P, rfl, _⟩ := opB_ok hv
    exact iOpen_yes h hl hv
end Ln
end Go.Proofs.Ytabnjoohojojnaa
