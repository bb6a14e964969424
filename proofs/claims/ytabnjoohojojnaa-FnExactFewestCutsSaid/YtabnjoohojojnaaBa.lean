/- Bindings: when a list is one, by the model. -/
import Derived.Test.YtabnjoohojojnaaLnb
namespace Go.Proofs.Ytabnjoohojojnaa
open Go.RowKit Go.Joins Go.Deep Go.ChangeShapes Go.WideShapes
set_option linter.unusedVariables false
set_option linter.unusedSimpArgs false
namespace Ln
/-- a slice of the first k numbers of a list -/
def hasTo (zs : List Int) (x : Int) (k : Nat) : Bool := (List.range k).any fun j => decide (zs.getD j 0 = x)
theorem hasTo_iff (zs : List Int) (x : Int) (k : Nat) : hasTo zs x k = true ↔ ∃ j, j < k ∧ zs.getD j 0 = x := by
  unfold hasTo
  simp only [List.any_eq_true, List.mem_range, decide_eq_true_eq]
set_option maxRecDepth 100000 in
set_option maxHeartbeats 1000000 in
theorem l1Has_any {b1 g len cap cp : Nat} {zs : List Int} {w : World} (x : Int) (h : Ow w b1 g len cap zs) (hl : len ≤ 1048576) (n : Nat) (hn : n ≤ len) (v : Bool) (hv : hasTo zs x n = v) :
    Calls Try.prog 73 #[.slice (some ⟨g, 0, none⟩) n cp, .int .i64 x] w fun e w' => e = .returned (.bool v) ∧ w = w' := by
  have HO := Lib.hid h
  have HV := Lib.hid hv
  clear h hv
  go_enter Try.func73, Try.ntmps73
  go_wp2
  go_loop [9] (fun i => ∃ k : Nat, k ≤ n ∧ i = .int .i64 (k : Int) ∧ ∀ j, j < k → zs.getD j 0 ≠ x) (fun i => ((n : Int) - intOf i).toNat)
  case atStart => exact ⟨0, by omega, rfl, fun j hj => by omega⟩
  case round =>
    obtain ⟨k, hk, rfl, hall⟩ := hrel
    have HA := Lib.hid hall
    clear hall
    by_cases hlt : (k : Int) < n
    · obtain ⟨z, HZK, hc⟩ := ow_at HO.out (k := k) (by omega)
      by_cases c : z = x
      · have E := Lib.hid (show v = true by rw [← HV.out]; exact (hasTo_iff zs x n).2 ⟨k, by omega, HZK.out.trans c⟩)
        have t1 : (z == x) = true := by simpa using c
        clear c
        go_wp2
        go_ret
        exact ⟨rb E.out rfl, rfl⟩
      · have HS := Lib.hid (show zs.getD k 0 ≠ x by rw [HZK.out]; exact c)
        have t1 : (z == x) = false := by simpa using c
        clear c
        go_wp2
        go_round
        case rel => exact ⟨k + 1, by omega, by go_num, fun j hj => by
          by_cases e : j = k
          · subst e; exact HS.out
          · exact HA.out j (by omega)⟩
        case measure => simp [intOf]; omega
    · have E := Lib.hid (show v = false by
        cases h2 : v with
        | false => rfl
        | true =>
          obtain ⟨j, hj, e⟩ := (hasTo_iff zs x n).1 (HV.out.trans h2)
          exact absurd e (HA.out j (by omega)))
      go_wp2
      go_ret
      exact ⟨rb E.out rfl, rfl⟩
/-- a leaf that there is, not there before -/
def fresh (zs : List Int) (k : Nat) : Bool := !(decide (zs.getD k 0 = 0)) && (!(hasTo zs (zs.getD k 0) k) && !(hasTo zs (-zs.getD k 0) k))
def freshTo (zs : List Int) : Nat → Bool
  | 0 => true
  | k + 1 => freshTo zs k && fresh zs k
theorem freshTo_step (zs : List Int) (k : Nat) : freshTo zs (k + 1) = (freshTo zs k && fresh zs k) := rfl
theorem freshTo_le (zs : List Int) {j k : Nat} (hjk : j ≤ k) (h : freshTo zs j = false) : freshTo zs k = false := by
  induction k with
  | zero => rw [show j = 0 by omega] at h; exact h
  | succ k ih =>
    by_cases e : j = k + 1
    · rw [← e]; exact h
    · rw [freshTo_step, ih (by omega)]; rfl
theorem freshTo_iff (zs : List Int) (n : Nat) : freshTo zs n = true ↔ ∀ k, k < n → zs.getD k 0 ≠ 0 ∧ ∀ j, j < k → zs.getD j 0 ≠ zs.getD k 0 ∧ zs.getD j 0 ≠ -zs.getD k 0 := by
  induction n with
  | zero => simp [freshTo]
  | succ n ih =>
    rw [freshTo_step, Bool.and_eq_true, ih]
    have hf : fresh zs n = true ↔ zs.getD n 0 ≠ 0 ∧ ∀ j, j < n → zs.getD j 0 ≠ zs.getD n 0 ∧ zs.getD j 0 ≠ -zs.getD n 0 := by
      unfold fresh
      simp only [Bool.and_eq_true, Bool.not_eq_true', decide_eq_false_iff_not, ← Bool.not_eq_true, hasTo_iff]
      constructor
      · rintro ⟨a, b, c⟩; exact ⟨fun e => a (decide_eq_true e), fun j hj => ⟨fun e => b ⟨j, hj, e⟩, fun e => c ⟨j, hj, e⟩⟩⟩
      · rintro ⟨a, b⟩; exact ⟨fun e => a (of_decide_eq_true e), fun ⟨j, hj, e⟩ => (b j hj).1 e, fun ⟨j, hj, e⟩ => (b j hj).2 e⟩
    rw [hf]
    constructor
    · rintro ⟨a, b⟩ k hk
      by_cases e : k = n
      · subst e; exact b
      · exact a k (by omega)
    · intro h
      exact ⟨fun k hk => h k (by omega), h n (by omega)⟩
/-- there is a binding -/
def bnd (zs : List Int) : Bool := (decide (1 ≤ (zs.length : Int)) && decide ((zs.length : Int) ≤ 8)) && (allB zs (-(zs.length : Int)) (zs.length : Int) && freshTo zs zs.length)
def Bnd (zs : List Int) : Prop := 1 ≤ zs.length ∧ zs.length ≤ 8 ∧ (∀ k, k < zs.length → -(zs.length : Int) ≤ zs.getD k 0 ∧ zs.getD k 0 ≤ (zs.length : Int)) ∧ ∀ k, k < zs.length → zs.getD k 0 ≠ 0 ∧ ∀ j, j < k → zs.getD j 0 ≠ zs.getD k 0 ∧ zs.getD j 0 ≠ -zs.getD k 0
theorem bnd_iff (zs : List Int) : bnd zs = true ↔ Bnd zs := by
  unfold bnd Bnd
  rw [Bool.and_eq_true, Bool.and_eq_true, Bool.and_eq_true, allB_iff, freshTo_iff, decide_eq_true_eq, decide_eq_true_eq]
  constructor
  · rintro ⟨⟨a, b⟩, c, d⟩; exact ⟨by omega, by omega, c, d⟩
  · rintro ⟨a, b, c, d⟩; exact ⟨⟨by omega, by omega⟩, c, d⟩
set_option maxRecDepth 100000 in
set_option maxHeartbeats 2000000 in
theorem biGood_any {b1 g len cap : Nat} {zs : List Int} {w : World} (h : Ow w b1 g len cap zs) (hl : len ≤ 1048576) (v : Bool) (hv : bnd zs = v) :
    Calls Try.prog 43 #[.slice (some ⟨g, 0, none⟩) len cap] w fun e w' => e = .returned (.bool v) ∧ w = w' := by
  have hz := ow_len h
  have hcap := (ow_cap h).1
  have hcap2 := (ow_cap h).2
  unfold maxLen at hcap2
  have HO := Lib.hid h
  have HZ := Lib.hid hz
  obtain ⟨x1, hx1⟩ : ∃ x, (decide ((1 : Int) ≤ (len : Int)) && decide ((len : Int) ≤ 8)) = x := ⟨_, rfl⟩
  obtain ⟨x2, hx2⟩ : ∃ x, allB zs (-(len : Int)) (len : Int) = x := ⟨_, rfl⟩
  have e : v = (x1 && (x2 && freshTo zs len)) := by rw [← hv]; unfold bnd; rw [hz, hx1, hx2]
  have HE := Lib.hid e
  have HX1 := Lib.hid hx1
  have HX2 := Lib.hid hx2
  have C2 := Lib.hid (l1All_any (w := w) (-(len : Int)) (len : Int) h hl x2 hx2)
  clear h hv hz e hx1 hx2
  cases x1
  · have E := Lib.hid (show v = false by rw [HE.out]; rfl)
    go_enter Try.func43, Try.ntmps43
    go_wp2_with (first | (go_at_call 50; refine (l1In_any _ _ _ false HX1.out _).mono ?_; rintro e w' ⟨rfl, rfl⟩))
    go_ret
    exact ⟨rb E.out rfl, rfl⟩
  · have hb : 1 ≤ len ∧ len ≤ 8 := by have := HX1.out; simp only [Bool.and_eq_true, decide_eq_true_eq] at this; omega
    have h18 := hb.1
    have h28 := hb.2
    clear hb
    cases x2
    · have E := Lib.hid (show v = false by rw [HE.out]; rfl)
      go_enter Try.func43, Try.ntmps43
      go_wp2_with (first | (go_at_call 50; refine (l1In_any _ _ _ true HX1.out _).mono ?_; rintro e w' ⟨rfl, rfl⟩) | (go_at_call 72; refine C2.out.mono ?_; rintro e w' ⟨rfl, rfl⟩))
      go_ret
      exact ⟨rb E.out rfl, rfl⟩
    · have GE := Lib.hid (show v = freshTo zs len by rw [HE.out]; rfl)
      go_enter Try.func43, Try.ntmps43
      go_wp2_with (first | (go_at_call 50; refine (l1In_any _ _ _ true HX1.out _).mono ?_; rintro e w' ⟨rfl, rfl⟩) | (go_at_call 72; refine C2.out.mono ?_; rintro e w' ⟨rfl, rfl⟩))
      go_loop [21] (fun i => ∃ k : Nat, k ≤ len ∧ i = .int .i64 (k : Int) ∧ freshTo zs k = true) (fun i => ((len : Int) - intOf i).toNat)
      case atStart => exact ⟨0, by omega, rfl, rfl⟩
      case round =>
        obtain ⟨k, hk, rfl, hall⟩ := hrel
        have HA := Lib.hid hall
        clear hall
        by_cases hlt : (k : Int) < len
        · obtain ⟨z, HZK, hc⟩ := ow_at HO.out (k := k) (by omega)
          obtain ⟨x3, hx3⟩ : ∃ x, hasTo zs z k = x := ⟨_, rfl⟩
          obtain ⟨x4, hx4⟩ : ∃ x, hasTo zs (-z) k = x := ⟨_, rfl⟩
          have ES := freshTo_step zs k
          unfold fresh at ES
          rw [HA.out, HZK.out, Bool.true_and, hx3, hx4] at ES
          have HES := Lib.hid ES
          have C3 := Lib.hid (l1Has_any (w := w) (cp := cap) z HO.out hl k (by omega) x3 hx3)
          have C4 := Lib.hid (l1Has_any (w := w) (cp := cap) (-z) HO.out hl k (by omega) x4 hx4)
          have hkc : k ≤ cap := by omega
          have hzb : Hid (-(len : Int) ≤ z ∧ z ≤ len) := Lib.hid (by
            have := (allB_iff zs (-(len : Int)) (len : Int)).1 HX2.out k (by rw [HZ.out]; omega)
            rw [HZK.out] at this
            exact this)
          have z1 := hzb.out.1
          have z2 := hzb.out.2
          clear ES hx3 hx4
          by_cases c0 : z = 0
          · have E := Lib.hid (show v = false by
              rw [GE.out]
              refine freshTo_le zs (j := k + 1) (by omega) ?_
              rw [HES.out]
              simp [c0])
            have t0 : (z == 0) = true := by simpa using c0
            clear c0
            go_wp2
            go_ret
            exact ⟨rb E.out rfl, rfl⟩
          · have HES2 := Lib.hid (show freshTo zs (k + 1) = (!x3 && !x4) by rw [HES.out]; simp [c0])
            have t0 : (z == 0) = false := by simpa using c0
            clear c0
            cases x3
            · cases x4
              · go_wp2_with fail
                refine C3.out.mono ?_
                rintro e w' ⟨rfl, rfl⟩
                go_wp2_with fail
                refine C4.out.mono ?_
                rintro e w' ⟨rfl, rfl⟩
                go_wp2
                go_round
                case rel => exact ⟨k + 1, by omega, by go_num, HES2.out⟩
                case measure => simp [intOf]; omega
              · have E := Lib.hid (show v = false by rw [GE.out]; exact freshTo_le zs (j := k + 1) (by omega) (by rw [HES2.out]; rfl))
                go_wp2_with fail
                refine C3.out.mono ?_
                rintro e w' ⟨rfl, rfl⟩
                go_wp2_with fail
                refine C4.out.mono ?_
                rintro e w' ⟨rfl, rfl⟩
                go_wp2
                go_ret
                exact ⟨rb E.out rfl, rfl⟩
            · have E := Lib.hid (show v = false by rw [GE.out]; exact freshTo_le zs (j := k + 1) (by omega) (by rw [HES2.out]; rfl))
              go_wp2_with fail
              refine C3.out.mono ?_
              rintro e w' ⟨rfl, rfl⟩
              go_wp2
              go_ret
              exact ⟨rb E.out rfl, rfl⟩
        · have E := Lib.hid (show v = true by rw [GE.out, show len = k by omega]; exact HA.out)
          go_wp2
          go_ret
          exact ⟨rb E.out rfl, rfl⟩
end Ln
end Go.Proofs.Ytabnjoohojojnaa
