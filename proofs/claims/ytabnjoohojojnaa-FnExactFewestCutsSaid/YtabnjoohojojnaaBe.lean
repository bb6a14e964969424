/- When there is a part, and it turned, by the model. -/
import Derived.Test.YtabnjoohojojnaaBd
namespace Go.Proofs.Ytabnjoohojojnaa
open Go.RowKit Go.Joins Go.Deep Go.ChangeShapes Go.WideShapes
set_option linter.unusedVariables false
set_option linter.unusedSimpArgs false
namespace Ln
def prt (zs : List Int) (f t : Int) : Bool := (bnd zs && (decide (0 ≤ f) && decide (f ≤ (zs.length : Int) - 1))) && (decide (f ≤ t) && decide (t ≤ (zs.length : Int) - 1))
theorem prt_ok {zs : List Int} {f t : Int} (h : prt zs f t = true) : Bnd zs ∧ 0 ≤ f ∧ f ≤ t ∧ t < (zs.length : Int) := by
  unfold prt at h
  simp only [Bool.and_eq_true, decide_eq_true_eq] at h
  exact ⟨(bnd_iff zs).1 h.1.1, h.1.2.1, h.2.1, by omega⟩
set_option maxRecDepth 100000 in
set_option maxHeartbeats 2000000 in
theorem biPart_any {b1 g len cap : Nat} {zs : List Int} {w : World} (h : Ow w b1 g len cap zs) (hl : len ≤ 1048576) (f t : Int) (v : Bool) (hv : prt zs f t = v) :
    Calls Try.prog 56 #[.slice (some ⟨g, 0, none⟩) len cap, .int .i64 f, .int .i64 t] w fun e w' => e = .returned (.bool v) ∧ w = w' := by
  have hz := ow_len h
  obtain ⟨x1, hx1⟩ : ∃ x, bnd zs = x := ⟨_, rfl⟩
  obtain ⟨x2, hx2⟩ : ∃ x, (decide (0 ≤ f) && decide (f ≤ (len : Int) - 1)) = x := ⟨_, rfl⟩
  obtain ⟨x3, hx3⟩ : ∃ x, (decide (f ≤ t) && decide (t ≤ (len : Int) - 1)) = x := ⟨_, rfl⟩
  have e : v = ((x1 && x2) && x3) := by rw [← hv]; unfold prt; rw [hx1, hz, hx2, hx3]
  have C1 := Lib.hid (biGood_any h hl x1 hx1)
  have C2 := Lib.hid (fun w => l1In_any f 0 ((len : Int) - 1) x2 hx2 w)
  have C3 := Lib.hid (fun w => l1In_any t f ((len : Int) - 1) x3 hx3 w)
  have HE := Lib.hid e
  clear hv e h hx1 hx2 hx3
  cases x1
  · have HV := Lib.hid (show v = false by rw [HE.out]; rfl)
    go_enter Try.func56, Try.ntmps56
    go_wp2_with fail
    refine C1.out.mono ?_
    rintro e w' ⟨rfl, rfl⟩
    go_wp2
    go_ret
    exact ⟨rb HV.out rfl, rfl⟩
  · cases x2
    · have HV := Lib.hid (show v = false by rw [HE.out]; rfl)
      go_enter Try.func56, Try.ntmps56
      go_wp2_with fail
      refine C1.out.mono ?_
      rintro e w' ⟨rfl, rfl⟩
      go_wp2_with fail
      refine (C2.out _).mono ?_
      rintro e w' ⟨rfl, rfl⟩
      go_wp2
      go_ret
      exact ⟨rb HV.out rfl, rfl⟩
    · have HV := Lib.hid (show v = x3 by rw [HE.out]; rfl)
      go_enter Try.func56, Try.ntmps56
      go_wp2_with fail
      refine C1.out.mono ?_
      rintro e w' ⟨rfl, rfl⟩
      go_wp2_with fail
      refine (C2.out _).mono ?_
      rintro e w' ⟨rfl, rfl⟩
      go_wp2_with fail
      refine (C3.out _).mono ?_
      rintro e w' ⟨rfl, rfl⟩
      go_wp2
      go_ret
      exact ⟨rb HV.out rfl, rfl⟩
def tpZ (zs : List Int) (f t : Int) : List Int := if prt zs f t = true then tL zs f.toNat t.toNat else []
theorem tpZ_len (zs : List Int) (f t : Int) : (tpZ zs f t).length ≤ 1048576 := by
  unfold tpZ
  by_cases c : prt zs f t = true
  · rw [if_pos c]; unfold tL; rw [tS_len]; have := (prt_ok c).1.2.1; omega
  · rw [if_neg c]; simp
theorem bnd_8 {zs : List Int} (h : Bnd zs) : ∀ k, k < zs.length → -8 ≤ zs.getD k 0 ∧ zs.getD k 0 ≤ 8 := fun k hk => by
  have h1 := h.2.2.1 k hk
  have h2 := h.2.1
  omega
set_option maxRecDepth 100000 in
set_option maxHeartbeats 2000000 in
theorem sTurnPart {b1 g len cap : Nat} {zs : List Int} {f t : Int} {w : World} (h : Ow w b1 g len cap zs) (hl : len ≤ 1048576) :
    Calls Try.prog 29 #[.slice (some ⟨g, 0, none⟩) len cap, .int .i64 f, .int .i64 t] w (Gives (prt zs f t) (tpZ zs f t) w) := by
  obtain ⟨v, hv⟩ : ∃ v, prt zs f t = v := ⟨_, rfl⟩
  have C1 := Lib.hid (biPart_any h hl f t v hv)
  rw [hv]
  cases v
  · rw [show tpZ zs f t = [] by unfold tpZ; rw [hv]; rfl]
    clear h hv
    go_enter Try.func29, Try.ntmps29
    go_wp2_with fail
    refine C1.out.mono ?_
    rintro e w' ⟨rfl, rfl⟩
    go_wp2
    go_ret2
    exact ⟨_, rfl, World.ownsRow_nil _ _ _ _, Below.refl _ _⟩
  · have hz := ow_len h
    obtain ⟨B, p1, p2, p3⟩ := prt_ok hv
    rw [hz] at p3
    obtain ⟨F, rfl⟩ := Int.eq_ofNat_of_zero_le p1
    obtain ⟨T, rfl⟩ := Int.eq_ofNat_of_zero_le (show 0 ≤ t by omega)
    rw [show tpZ zs (F : Int) (T : Int) = tL zs F T by unfold tpZ; rw [if_pos hv]; simp]
    have b8 := bnd_8 B
    rw [hz] at b8
    have C2 := Lib.hid (biTurn_any h (by have := B.2.1; omega) b8 F T (by omega) (by omega))
    have HL := Lib.hid (show (tL zs F T).length = len by unfold tL; rw [tS_len, hz])
    clear h hv B b8
    go_enter Try.func29, Try.ntmps29
    go_wp2_with fail
    refine C1.out.mono ?_
    rintro e w' ⟨rfl, rfl⟩
    go_wp2_with fail
    refine C2.out.mono ?_
    rintro e w1 ⟨v, rfl, ho, hb⟩
    have HO := Lib.hid ho
    clear ho
    go_wp2
    go_ret2
    exact ⟨_, rfl, by rw [HL.out]; exact HO.out, hb⟩
end Ln
end Go.Proofs.Ytabnjoohojojnaa
