/- When there are words, a width, and all fit: the program. -/
import Derived.Test.YtbebojahjfnkiaaDoorLz
namespace Go.Proofs.YtbebojahjfnkiaaDoor
open Go.RowKit Go.Joins Go.Deep Go.ChangeShapes Go.WideShapes
set_option linter.unusedVariables false
set_option linter.unusedSimpArgs false
namespace Ln
def numsB (zs : List Int) (many most : Int) : Bool := (decide (1 ≤ (zs.length : Int)) && decide ((zs.length : Int) ≤ many)) && allB zs 1 most
set_option maxRecDepth 100000 in
set_option maxHeartbeats 1000000 in
theorem areNumbers_any {b1 g len cap : Nat} {zs : List Int} {w : World} (many most : Int) (h : Ow w b1 g len cap zs) (hl : len ≤ 1048576) (v : Bool) (hv : numsB zs many most = v) :
    Calls Tryd.prog 37 #[.slice (some ⟨g, 0, none⟩) len cap, .int .i64 many, .int .i64 most] w fun e w' => e = .returned (.bool v) ∧ w = w' := by
  have hz := ow_len h
  have HO := Lib.hid h
  have HZ := Lib.hid hz
  have HV := Lib.hid hv
  by_cases c1 : (len : Int) < 1
  · have e : v = false := by rw [← HV.out]; unfold numsB; rw [hz]; simp; omega
    subst e
    clear h hv hz
    go_enter Tryd.func37, Tryd.ntmps37
    go_wp2
    go_ret
    exact ⟨rfl, rfl⟩
  · by_cases c2 : many < (len : Int)
    · have e : v = false := by rw [← HV.out]; unfold numsB; rw [hz, show decide ((len : Int) ≤ many) = false by simp; omega]; simp
      subst e
      have t1 : decide ((len : Int) < 1) = false := by simp; omega
      clear h hv hz
      go_enter Tryd.func37, Tryd.ntmps37
      go_wp2
      go_ret
      exact ⟨rfl, rfl⟩
    · have t1 : decide ((len : Int) < 1) = false := by simp; omega
      have t2 : decide (many < (len : Int)) = false := by simp; omega
      have HA := Lib.hid (show allB zs 1 most = v by rw [← HV.out]; unfold numsB; rw [hz, show decide ((1 : Int) ≤ (len : Int)) = true by simp; omega, show decide ((len : Int) ≤ many) = true by simp; omega]; simp)
      clear h hv hz c1 c2
      go_enter Tryd.func37, Tryd.ntmps37
      go_wp2
      go_loop [20] (fun i => ∃ k : Nat, k ≤ len ∧ i = .int .i64 (k : Int) ∧ ∀ j, j < k → 1 ≤ zs.getD j 0 ∧ zs.getD j 0 ≤ most) (fun i => ((len : Int) - intOf i).toNat)
      case atStart => exact ⟨0, by omega, rfl, fun j hj => by omega⟩
      case round =>
        obtain ⟨k, hk, rfl, hall⟩ := hrel
        have HAll := Lib.hid hall
        clear hall
        by_cases hlt : (k : Int) < len
        · obtain ⟨z, HZK, hc⟩ := ow_at HO.out (k := k) (by omega)
          by_cases d1 : z < 1
          · have E := Lib.hid (show v = false by
              rw [← HA.out]
              cases h2 : allB zs 1 most with
              | false => rfl
              | true =>
                have h3 := (allB_iff zs 1 most).1 h2 k (by rw [HZ.out]; omega)
                rw [HZK.out] at h3
                omega)
            go_wp2
            go_ret
            exact ⟨rb E.out rfl, rfl⟩
          · by_cases d2 : most < z
            · have E := Lib.hid (show v = false by
                rw [← HA.out]
                cases h2 : allB zs 1 most with
                | false => rfl
                | true =>
                  have h3 := (allB_iff zs 1 most).1 h2 k (by rw [HZ.out]; omega)
                  rw [HZK.out] at h3
                  omega)
              go_wp2
              go_ret
              exact ⟨rb E.out rfl, rfl⟩
            · have HS := Lib.hid (show 1 ≤ zs.getD k 0 ∧ zs.getD k 0 ≤ most by rw [HZK.out]; omega)
              go_wp2
              go_round
              case rel => exact ⟨k + 1, by omega, by go_num, fun j hj => by
                by_cases e : j = k
                · subst e; exact HS.out
                · exact HAll.out j (by omega)⟩
              case measure => simp [intOf]; omega
        · have E := Lib.hid (show v = true by
            rw [← HA.out]
            exact (allB_iff zs 1 most).2 fun j hj => HAll.out j (by rw [HZ.out] at hj; omega))
          go_wp2
          go_ret
          exact ⟨rb E.out rfl, rfl⟩
theorem isWide_any (wide : Int) (v : Bool) (hv : wideB wide = v) (w : World) :
    Calls Tryd.prog 38 #[.int .i64 wide] w fun e w' => e = .returned (.bool v) ∧ w = w' := by
  unfold wideB at hv
  by_cases c1 : 1 ≤ wide
  · by_cases c2 : wide ≤ 80
    · have e : v = true := by rw [← hv]; simp [c1, c2]
      subst e
      clear hv
      go_enter Tryd.func38, Tryd.ntmps38
      go_wp2
      go_ret
      exact ⟨rfl, rfl⟩
    · have e : v = false := by rw [← hv]; simp [c2]
      subst e
      have t2 : decide (wide ≤ 80) = false := by simpa using c2
      clear hv c2
      go_enter Tryd.func38, Tryd.ntmps38
      go_wp2
      go_ret
      exact ⟨rfl, rfl⟩
  · have e : v = false := by rw [← hv]; simp [c1]
    subst e
    have t2 : decide (1 ≤ wide) = false := by simpa using c1
    clear hv c1
    go_enter Tryd.func38, Tryd.ntmps38
    go_wp2
    go_ret
    exact ⟨rfl, rfl⟩
theorem iAreWords {b1 g len cap : Nat} {zs : List Int} {w : World} (h : Ow w b1 g len cap zs) (hl : len ≤ 1048576) (v : Bool) (hv : good zs = v) :
    Calls Tryd.prog 28 #[.slice (some ⟨g, 0, none⟩) len cap] w fun e w' => e = .returned (.bool v) ∧ w = w' := by
  have C := Lib.hid (areNumbers_any 30 80 h hl v (by rw [← hv]; rfl))
  clear h hv
  go_enter Tryd.func28, Tryd.ntmps28
  go_wp2_with fail
  refine C.out.mono ?_
  rintro e w' ⟨rfl, rfl⟩
  go_wp2
  go_ret
  exact ⟨rfl, rfl⟩
/-- the greatest of a list that is not empty -/
def Greatest (zs : List Int) (n : Nat) (m : Int) : Prop := (∃ k, k < n ∧ zs.getD k 0 = m) ∧ ∀ k, k < n → zs.getD k 0 ≤ m
theorem greatest_one (zs : List Int) : Greatest zs 1 (zs.getD 0 0) := ⟨⟨0, by omega, rfl⟩, fun k hk => by rw [show k = 0 by omega]; exact Int.le_refl _⟩
theorem greatest_more {zs : List Int} {n : Nat} {m z : Int} (h : Greatest zs n m) (hz : zs.getD n 0 = z) : Greatest zs (n + 1) (max m z) := by
  obtain ⟨⟨k, hk, he⟩, ha⟩ := h
  constructor
  · by_cases c : m ≤ z
    · exact ⟨n, by omega, by omega⟩
    · exact ⟨k, by omega, by omega⟩
  · intro j hj
    by_cases c : j = n
    · subst c; omega
    · have := ha j (by omega); omega
set_option maxRecDepth 100000 in
set_option maxHeartbeats 1000000 in
theorem max_any {b1 g len cap : Nat} {zs : List Int} {w : World} (h : Ow w b1 g len cap zs) (hl : len ≤ 1048576) (h1 : 1 ≤ len) :
    Calls Tryd.prog 39 #[.slice (some ⟨g, 0, none⟩) len cap] w fun e w' => (∃ m, e = .returned (.int .i64 m) ∧ Greatest zs len m) ∧ w = w' := by
  have HO := Lib.hid h
  obtain ⟨z0, HZ0, hc0⟩ := ow_at HO.out (k := 0) (by omega)
  have HG := Lib.hid (show Greatest zs 1 z0 by have := greatest_one zs; rwa [HZ0.out] at this)
  have t1 : decide ((len : Int) < 1) = false := by simp; omega
  clear h
  go_enter Tryd.func39, Tryd.ntmps39
  go_wp2
  go_loop [3, 4] (fun m i => ∃ (k : Nat) (M : Int), 1 ≤ k ∧ k ≤ len ∧ i = .int .i64 (k : Int) ∧ m = .int .i64 M ∧ Hid (Greatest zs k M)) (fun _ i => ((len : Int) - intOf i).toNat)
  case atStart => exact ⟨1, z0, by omega, by omega, rfl, rfl, HG⟩
  case round =>
    obtain ⟨k, M, hk1, hk, rfl, rfl, HM⟩ := hrel
    by_cases hlt : (k : Int) < len
    · obtain ⟨z, HZK, hc⟩ := ow_at HO.out (k := k) (by omega)
      have HN := Lib.hid (greatest_more HM.out HZK.out)
      obtain ⟨X, hX⟩ : ∃ X, max M z = X := ⟨_, rfl⟩
      rw [hX] at HN
      have hif : (if M < z then z else M) = X := by rw [← hX]; split <;> omega
      have hif2 : (if z < M then M else z) = X := by rw [← hX]; split <;> omega
      clear hX
      go_wp2
      go_round
      case rel => exact ⟨k + 1, X, by omega, by omega, by go_num, by first | rfl | (rw [hif]) | (rw [hif2]) | trace_state, HN⟩
      case measure => simp [intOf]; omega
    · have E := Lib.hid (show k = len by omega)
      go_wp2
      go_ret
      exact ⟨⟨M, rfl, by rw [← E.out]; exact HM.out⟩, rfl⟩
/-- all words fit: the greatest does -/
theorem fits_max {zs : List Int} {wide m : Int} (hg : good zs = true) (hw : wideB wide = true) (hm : Greatest zs zs.length m) : fits zs wide = decide (m ≤ wide) := by
  have ho := (good_iff zs).1 hg
  unfold fits
  rw [hg, hw]
  simp only [Bool.and_self, Bool.true_and]
  by_cases c : m ≤ wide
  · rw [decide_eq_true c]
    exact (allB_iff zs 1 wide).2 fun k hk => ⟨(ho.2.2 k hk).1, by have := hm.2 k hk; omega⟩
  · rw [decide_eq_false c]
    cases h : allB zs 1 wide with
    | false => rfl
    | true =>
      obtain ⟨k, hk, he⟩ := hm.1
      have := ((allB_iff zs 1 wide).1 h k hk).2
      omega
set_option maxRecDepth 100000 in
set_option maxHeartbeats 1000000 in
theorem canBeSet_any {b1 g len cap : Nat} {zs : List Int} {wide : Int} {w : World} (h : Ow w b1 g len cap zs) (hl : len ≤ 1048576) (v : Bool) (hv : fits zs wide = v) :
    Calls Tryd.prog 29 #[.slice (some ⟨g, 0, none⟩) len cap, .int .i64 wide] w fun e w' => e = .returned (.bool v) ∧ w = w' := by
  obtain ⟨x1, hx1⟩ : ∃ x, good zs = x := ⟨_, rfl⟩
  obtain ⟨x2, hx2⟩ : ∃ x, wideB wide = x := ⟨_, rfl⟩
  have C1 := Lib.hid (iAreWords h hl x1 hx1)
  have C2 := Lib.hid (fun W => isWide_any wide x2 hx2 W)
  cases x1
  · have e : v = false := by rw [← hv]; unfold fits; rw [hx1]; rfl
    subst e
    clear h hv hx1 hx2
    go_enter Tryd.func29, Tryd.ntmps29
    go_wp2_with fail
    refine C1.out.mono ?_
    rintro e w' ⟨rfl, rfl⟩
    go_wp2
    go_ret
    exact ⟨rfl, rfl⟩
  · cases x2
    · have e : v = false := by rw [← hv]; unfold fits; rw [hx1, hx2]; rfl
      subst e
      clear h hv hx1 hx2
      go_enter Tryd.func29, Tryd.ntmps29
      go_wp2_with fail
      refine C1.out.mono ?_
      rintro e w' ⟨rfl, rfl⟩
      go_wp2_with fail
      refine (C2.out _).mono ?_
      rintro e w' ⟨rfl, rfl⟩
      go_wp2
      go_ret
      exact ⟨rfl, rfl⟩
    · have hz := ow_len h
      have C3 := Lib.hid (max_any h hl (by have := ((good_iff zs).1 hx1).1; omega))
      have HF := Lib.hid (fun m (hm : Greatest zs len m) => (fits_max hx1 hx2 (by rw [hz]; exact hm)).symm.trans hv)
      clear h hv hx1 hx2 hz
      go_enter Tryd.func29, Tryd.ntmps29
      go_wp2_with fail
      refine C1.out.mono ?_
      rintro e w' ⟨rfl, rfl⟩
      go_wp2_with fail
      refine (C2.out _).mono ?_
      rintro e w' ⟨rfl, rfl⟩
      go_wp2_with fail
      refine C3.out.mono ?_
      rintro e w' ⟨⟨m, rfl, hm⟩, rfl⟩
      have t := HF.out m hm
      cases v
      · go_wp2
        go_ret
        exact ⟨rfl, rfl⟩
      · go_wp2
        go_ret
        exact ⟨rfl, rfl⟩
end Ln
end Go.Proofs.YtbebojahjfnkiaaDoor
