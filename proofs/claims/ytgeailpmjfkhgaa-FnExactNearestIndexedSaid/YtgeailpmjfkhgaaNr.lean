/- The nearest page, by the model. -/
import Derived.Test.YtgeailpmjfkhgaaHi
import Derived.Test.YtgeailpmjfkhgaaNm
namespace Go.Proofs.Ytgeailpmjfkhgaa
open Go.RowKit Go.Joins Go.Deep Go.ChangeShapes Go.WideShapes
set_option linter.unusedVariables false
set_option linter.unusedSimpArgs false
namespace Gw
open Rg Gm
theorem l1Abs_any (z : Int) (h1 : -4000 ≤ z) (h2 : z ≤ 4000) (w : World) : Calls Try.prog 47 #[.int .i64 z] w fun e w' => e = .returned (.int .i64 (ab z)) ∧ w = w' := by
  have x1 : wrap64 (-z) = -z := IntWalk.wrap64_in _ (by omega)
  by_cases c : 0 < z
  · have e : ab z = z := by unfold ab; rw [if_pos (by omega)]
    rw [e]
    have t1 : decide (-z < z) = true := by simp; omega
    clear e
    go_enter Try.func47, Try.ntmps47
    go_wp2_with go_in
    go_ret
    exact ⟨rfl, rfl⟩
  · have e : ab z = -z := by unfold ab; split <;> omega
    rw [e]
    have t1 : decide (-z < z) = false := by simp; omega
    clear e
    go_enter Try.func47, Try.ntmps47
    go_wp2_with go_in
    go_ret
    exact ⟨rfl, rfl⟩
/-- the answer -/
def nrOk (zs : List Int) (n : Nat) (p : Int) : Bool := (good zs n && isP p) && !decide (n = 0)
def nrV (zs : List Int) (n : Nat) (p : Int) : Int := if nrOk zs n p = true then nr p (pg (prs zs)) (zs.getD 0 0) else 0
set_option maxRecDepth 100000 in
set_option maxHeartbeats 1000000 in
theorem sNear {b1 g len cap : Nat} {zs : List Int} {w : World} (h : Own w b1 (.slice (some ⟨g, 0, none⟩) len cap) len zs) (hl : len ≤ 1048576) (p : Int) :
    Calls Try.prog 31 #[.slice (some ⟨g, 0, none⟩) len cap, .int .i64 p] w (Ret (.tuple #[.int .i64 (nrV zs len p), .bool (nrOk zs len p)]) w) := by
  obtain ⟨v, hv⟩ : ∃ v, (good zs len && isP p) = v := ⟨_, rfl⟩
  have C := Lib.hid (ixPage_any h hl p v hv)
  have HO := Lib.hid h
  have HZ := Lib.hid (own_size h)
  have HV := Lib.hid hv
  clear h hv
  cases v
  · have e1 : nrOk zs len p = false := by unfold nrOk; rw [HV.out]; rfl
    have e2 : nrV zs len p = 0 := by unfold nrV; rw [if_neg (by rw [e1]; simp)]
    rw [e1, e2]
    clear e1 e2
    go_enter Try.func31, Try.ntmps31
    go_wp2_with fail
    refine C.out.mono ?_
    rintro e w' ⟨rfl, hb⟩
    go_wp2
    go_ret2
    exact ⟨rfl, hb⟩
  · by_cases h0 : len = 0
    · subst h0
      have e1 : nrOk zs 0 p = false := by unfold nrOk; rw [HV.out]; rfl
      have e2 : nrV zs 0 p = 0 := by unfold nrV; rw [if_neg (by rw [e1]; simp)]
      rw [e1, e2]
      clear e1 e2
      go_enter Try.func31, Try.ntmps31
      go_wp2_with fail
      refine C.out.mono ?_
      rintro e w' ⟨rfl, hb⟩
      go_wp2
      go_ret2
      exact ⟨rfl, hb⟩
    · have e1 : nrOk zs len p = true := by unfold nrOk; rw [HV.out, decide_eq_false h0]; rfl
      have e2 : nrV zs len p = nr p (pg (prs zs)) (zs.getD 0 0) := by unfold nrV; rw [if_pos e1]
      have hg : good zs len = true := by have := HV.out; simp only [Bool.and_eq_true] at this; exact this.1
      have hp : isP p = true := by have := HV.out; simp only [Bool.and_eq_true] at this; exact this.2
      rw [isP_iff] at hp
      have hA := all_rng hg
      have hok := (good_ok zs len HZ.out).1 hg
      have EP := Lib.hid (mkd_pg (N := 2002) hok.2.1 (fun q hq => by have := hok.2.2 q hq; omega))
      rw [e1, e2, ← EP.out]
      have p1 := hp.1
      have p2 := hp.2
      have h20 := hA.1
      have hpos : 0 < len := by omega
      have t0 : ((len : Int) == 0) = false := by simp; omega
      have hp2 : (0 : Int) < (len : Int) := by omega
      have D := Lib.hid (fun (W : World) (hb : Below w.heap.size w W) => ixMarks_some (Li.own_on HO.out hb) (by omega) hA.2)
      have hf0 := (rng_iff _ _).1 (hA.2 0 hpos)
      rw [Nat.zero_mul] at hf0
      have f1 := hf0.1
      have f2 : zs.getD 0 0 ≤ 2000 := by omega
      obtain ⟨f, hf⟩ : ∃ f, zs.getD 0 0 = f := ⟨_, rfl⟩
      rw [hf] at f1 f2 ⊢
      have HF := Lib.hid hf
      clear hf
      obtain ⟨m, hm⟩ : ∃ m : Nat → Bool, m = fun q : Nat => has (prs zs) (q : Int) := ⟨_, rfl⟩
      have HMM := Lib.hid hm
      rw [← hm]
      clear hm EP
      clear e1 e2 hg hp hA hok hf0
      go_enter Try.func31, Try.ntmps31
      go_wp2_with fail
      refine C.out.mono ?_
      rintro e w1 ⟨rfl, hb⟩
      have HB := Lib.hid hb
      obtain ⟨q0, -⟩ := cells2 (Li.own_on HO.out hb) (k := 0) hpos
      rw [Nat.zero_mul] at q0
      rw [HF.out] at q0
      clear hb
      go_wp2_with fail
      refine (D.out _ HB.out).mono ?_
      rintro e w2 ⟨g2, rfl, hM, hb2⟩
      have HE := Lib.hid (below_t HB.out hb2)
      rw [← HMM.out] at hM
      have HM := Lib.hid hM
      clear hM hb2 q0
      go_wp2
      go_loop [6, 25] (fun b i => ∃ k : Nat, k ≤ 2002 ∧ i = .int .i64 (k : Int) ∧ b = .int .i64 (nr p (mkd m k) f)) (fun _ i => ((2002 : Int) - intOf i).toNat)
      case atStart => exact ⟨0, by omega, rfl, rfl⟩
      case round =>
        obtain ⟨k, hk, rfl, rfl⟩ := hrel
        have hbd := nr_mkd (m := m) (p := p) ⟨f1, f2⟩ hk
        have ES := Lib.hid (nr_step (m := m) p f k)
        obtain ⟨b, hbv⟩ : ∃ b, nr p (mkd m k) f = b := ⟨_, rfl⟩
        have HBV := Lib.hid hbv
        rw [hbv] at hbd ES ⊢
        clear hbv
        have b1 := hbd.1
        have b2 := hbd.2
        clear hbd
        by_cases hlt : (k : Int) < 2002
        · have hc := marks_cell HM.out (k := k) (by omega)
          obtain ⟨x, hx⟩ : ∃ x, m k = x := ⟨_, rfl⟩
          rw [hx] at hc ES
          clear hx
          have x1 : wrap64 ((k : Int) - p) = (k : Int) - p := IntWalk.wrap64_in _ (by omega)
          have x2 : wrap64 (b - p) = b - p := IntWalk.wrap64_in _ (by omega)
          cases x
          · go_wp2
            go_round
            case rel => exact ⟨k + 1, by omega, by go_num, by rw [ES.out, if_neg (by simp)]⟩
            case measure => simp [intOf]; omega
          · have C1 := Lib.hid (fun W => l1Abs_any ((k : Int) - p) (by omega) (by omega) W)
            have C2 := Lib.hid (fun W => l1Abs_any (b - p) (by omega) (by omega) W)
            by_cases hd : ab ((k : Int) - p) < ab (b - p)
            · have EN := Lib.hid (show nr p (mkd m (k + 1)) f = (k : Int) by rw [ES.out, if_pos rfl]; unfold nr1; rw [if_pos hd])
              generalize ab ((k : Int) - p) = X at *
              generalize ab (b - p) = Y at *
              go_wp2_with fail
              refine (C1.out _).mono ?_
              rintro e w' ⟨rfl, rfl⟩
              go_wp2_with fail
              refine (C2.out _).mono ?_
              rintro e w' ⟨rfl, rfl⟩
              go_wp2
              go_round
              case rel => exact ⟨k + 1, by omega, by go_num, by rw [EN.out]⟩
              case measure => simp [intOf]; omega
            · have EN := Lib.hid (show nr p (mkd m (k + 1)) f = b by rw [ES.out, if_pos rfl]; unfold nr1; rw [if_neg hd])
              generalize ab ((k : Int) - p) = X at *
              generalize ab (b - p) = Y at *
              go_wp2_with fail
              refine (C1.out _).mono ?_
              rintro e w' ⟨rfl, rfl⟩
              go_wp2_with fail
              refine (C2.out _).mono ?_
              rintro e w' ⟨rfl, rfl⟩
              go_wp2
              go_round
              case rel => exact ⟨k + 1, by omega, by go_num, by rw [EN.out]⟩
              case measure => simp [intOf]; omega
        · have EK := Lib.hid (show nr p (mkd m 2002) f = b by rw [← HBV.out, show k = 2002 by omega])
          go_wp2
          go_ret2
          exact ⟨by rw [EK.out]; rfl, HE.out⟩
end Gw
end Go.Proofs.Ytgeailpmjfkhgaa
