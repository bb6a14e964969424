/- When a list is a binding, by the program. -/
import Derived.Test.YtabnjoohojojnaaBw
namespace Go.Proofs.Ytabnjoohojojnaa
open Go.RowKit Go.Joins Go.Deep Go.ChangeShapes Go.WideShapes
set_option linter.unusedVariables false
set_option linter.unusedSimpArgs false
namespace Ln
theorem surj : ∀ (n : Nat) (g : Nat → Nat), (∀ k, k < n → g k < n) → (∀ j k, j < n → k < n → g j = g k → j = k) → ∀ y, y < n → ∃ x, x < n ∧ g x = y := by
  intro n
  induction n with
  | zero => intro g _ _ y hy; omega
  | succ n ih =>
    intro g hg hinj y hy
    by_cases e : g n = y
    · exact ⟨n, by omega, e⟩
    · obtain ⟨x, hx, hxy⟩ := ih (fun k => if g k = n then g n else g k) (fun k hk => by
        show (if g k = n then g n else g k) < n
        have h1 := hg k (by omega)
        have h2 := hg n (by omega)
        split
        · rename_i e1
          have : g n ≠ n := fun e2 => by have := hinj k n (by omega) (by omega) (by rw [e1, e2]); omega
          omega
        · omega) (fun j k hj hk ejk => by
        have ejk : (if g j = n then g n else g j) = (if g k = n then g n else g k) := ejk
        split at ejk <;> split at ejk
        · rename_i e1 e2; exact hinj j k (by omega) (by omega) (by rw [e1, e2])
        · have := hinj n k (by omega) (by omega) ejk; omega
        · have := hinj j n (by omega) (by omega) ejk; omega
        · exact hinj j k (by omega) (by omega) ejk) (if y = n then g n else y) (by
          have h2 := hg n (by omega)
          split
          · rename_i e1; subst e1; omega
          · omega)
      have hxy : (if g x = n then g n else g x) = (if y = n then g n else y) := hxy
      refine ⟨x, by omega, ?_⟩
      split at hxy <;> split at hxy
      · rename_i e1 e2; rw [e1, e2]
      · exact absurd hxy e
      · have := hinj x n (by omega) (by omega) hxy; omega
      · exact hxy
/-- each leaf is there -/
def here (zs : List Int) (i : Nat) : Bool := hasTo zs ((i : Int) + 1) zs.length || hasTo zs (-((i : Int) + 1)) zs.length
theorem here_iff (zs : List Int) (i : Nat) : here zs i = true ↔ ∃ p, p < zs.length ∧ (zs.getD p 0).natAbs = i + 1 := by
  unfold here
  rw [Bool.or_eq_true, hasTo_iff, hasTo_iff]
  constructor
  · rintro (⟨j, hj, e⟩ | ⟨j, hj, e⟩)
    · exact ⟨j, hj, by omega⟩
    · exact ⟨j, hj, by omega⟩
  · rintro ⟨p, hp, e⟩
    rcases Int.natAbs_eq (zs.getD p 0) with h | h
    · exact _root_.Or.inl ⟨p, hp, by omega⟩
    · exact _root_.Or.inr ⟨p, hp, by omega⟩
theorem bnd_here (zs : List Int) : Bnd zs ↔ 1 ≤ zs.length ∧ zs.length ≤ 8 ∧ ∀ i, i < zs.length → here zs i = true := by
  constructor
  · intro h
    exact ⟨h.1, h.2.1, fun i hi => (here_iff zs i).2 (leaf_at h i hi)⟩
  · rintro ⟨h1, h8, H⟩
    have H2 : ∀ i, ∃ p, i < zs.length → p < zs.length ∧ (zs.getD p 0).natAbs = i + 1 := fun i => by
      by_cases c : i < zs.length
      · obtain ⟨p, hp⟩ := (here_iff zs i).1 (H i c)
        exact ⟨p, fun _ => hp⟩
      · exact ⟨0, fun h => absurd h c⟩
    have ⟨p, hp⟩ := Classical.axiomOfChoice H2
    have S := surj zs.length p (fun k hk => (hp k hk).1) (fun j k hj hk e => by
      have a := (hp j hj).2
      have b := (hp k hk).2
      rw [e] at a
      omega)
    rw [bnd_abs]
    refine ⟨h1, h8, fun k hk => ?_, fun j k hj hk e => ?_⟩
    · obtain ⟨i, hi, rfl⟩ := S k hk
      have := (hp i hi).2
      omega
    · obtain ⟨i, hi, rfl⟩ := S k hk
      obtain ⟨i', hi', rfl⟩ := S j hj
      have a := (hp i hi).2
      have b := (hp i' hi').2
      rw [show i' = i by omega]
/-- where a number lies first -/
def ix (zs : List Int) (x : Int) : Int := if hasTo zs x zs.length = true then (zs.findIdx fun z => decide (z = x) : Int) else -1
theorem ix_at {zs : List Int} {x : Int} {k : Nat} (hk : k < zs.length) (h : zs.getD k 0 = x) (h2 : ∀ j, j < k → zs.getD j 0 ≠ x) : ix zs x = k := by
  unfold ix
  rw [if_pos ((hasTo_iff zs x zs.length).2 ⟨k, hk, h⟩)]
  congr 1
  rw [List.findIdx_eq hk]
  constructor
  · simpa [List.getD, List.getElem?_eq_getElem hk] using h
  · intro j hj
    have := h2 j hj
    simpa [List.getD, List.getElem?_eq_getElem (show j < zs.length by omega)] using this
set_option maxRecDepth 100000 in
set_option maxHeartbeats 1000000 in
theorem index_any {b1 g len cap : Nat} {zs : List Int} {w : World} (x : Int) (h : Ow w b1 g len cap zs) (hl : len ≤ 1048576) :
    Calls Try.prog 74 #[.slice (some ⟨g, 0, none⟩) len cap, .int .i64 x] w fun e w' => e = .returned (.int .i64 (ix zs x)) ∧ w = w' := by
  have HO := Lib.hid h
  have HL := Lib.hid (ow_len h)
  obtain ⟨R, hR⟩ : ∃ R, ix zs x = R := ⟨_, rfl⟩
  have HR := Lib.hid hR
  rw [hR]
  clear h hR
  go_enter Try.func74, Try.ntmps74
  go_wp2
  go_loop [8] (fun i => ∃ k : Nat, k ≤ len ∧ i = .int .i64 (k : Int) ∧ Hid (∀ j, j < k → zs.getD j 0 ≠ x)) (fun i => ((len : Int) - intOf i).toNat)
  case atStart => exact ⟨0, by omega, rfl, Lib.hid fun j hj => by omega⟩
  case round =>
    obtain ⟨k, hk, rfl, HA⟩ := hrel
    by_cases hlt : (k : Int) < len
    · obtain ⟨z, HZK, hc⟩ := ow_at HO.out (k := k) (by omega)
      by_cases c : x = z
      · have HE := Lib.hid (show (k : Int) = R by rw [← HR.out]; exact (ix_at (by rw [HL.out]; omega) (by rw [HZK.out, c]) HA.out).symm)
        have t0 : (x == z) = true := by simpa using c
        clear c
        go_wp2
        go_ret
        exact ⟨by rw [HE.out] <;> rfl, rfl⟩
      · have HS := Lib.hid (show zs.getD k 0 ≠ x by rw [HZK.out]; exact fun e => c e.symm)
        have t0 : (x == z) = false := by simpa using c
        clear c
        go_wp2
        go_round
        case rel => exact ⟨k + 1, by omega, by go_num, Lib.hid fun j hj => by
          by_cases e : j = k
          · subst e; exact HS.out
          · exact HA.out j (by omega)⟩
        case measure => simp [intOf]; omega
    · have HE := Lib.hid (show -1 = R by
        rw [← HR.out]
        unfold ix
        rw [if_neg]
        intro hh
        obtain ⟨j, hj, e⟩ := (hasTo_iff _ _ _).1 hh
        exact HA.out j (by rw [HL.out] at hj; omega) e)
      go_wp2
      go_ret
      exact ⟨by rw [HE.out] <;> rfl, rfl⟩
theorem ix_nn (zs : List Int) (x : Int) : decide (ix zs x ≥ 0) = hasTo zs x zs.length := by
  unfold ix
  cases hasTo zs x zs.length
  · rfl
  · simp
set_option maxRecDepth 100000 in
theorem contains_any {b1 g len cap : Nat} {zs : List Int} {w : World} (x : Int) (h : Ow w b1 g len cap zs) (hl : len ≤ 1048576) (v : Bool) (hv : hasTo zs x zs.length = v) :
    Calls Try.prog 44 #[.slice (some ⟨g, 0, none⟩) len cap, .int .i64 x] w fun e w' => e = .returned (.bool v) ∧ w = w' := by
  have C := Lib.hid (index_any x h hl)
  have hi := ix_nn zs x
  rw [hv] at hi
  obtain ⟨R, hR⟩ : ∃ R, ix zs x = R := ⟨_, rfl⟩
  rw [hR] at C hi
  clear h hR hv
  cases v
  · have t0 : ¬ R ≥ 0 := by simpa using hi
    clear hi
    go_enter Try.func44, Try.ntmps44
    go_wp2_with fail
    refine C.out.mono ?_
    rintro e w' ⟨rfl, rfl⟩
    go_wp2
    go_ret
    exact ⟨by first | (simp; done) | (simp; omega), rfl⟩
  · have t0 : 0 ≤ R := by simpa using hi
    clear hi
    go_enter Try.func44, Try.ntmps44
    go_wp2_with fail
    refine C.out.mono ?_
    rintro e w' ⟨rfl, rfl⟩
    go_wp2
    go_ret
    exact ⟨by first | (simp; done) | (simp; omega), rfl⟩
set_option maxRecDepth 100000 in
set_option maxHeartbeats 2000000 in
theorem iBinding_any {b1 g len cap : Nat} {zs : List Int} {w : World} (h : Ow w b1 g len cap zs) (hl : len ≤ 1048576) (v : Bool) (hv : bnd zs = v) :
    Calls Try.prog 17 #[.slice (some ⟨g, 0, none⟩) len cap] w fun e w' => e = .returned (.bool v) ∧ w = w' := by
  have hz := ow_len h
  have HO := Lib.hid h
  have HZ := Lib.hid hz
  have HV := Lib.hid hv
  clear h hv hz
  by_cases c1 : len < 1
  · have E := Lib.hid (show v = false by
      rw [← HV.out, Bool.eq_false_iff]
      intro hh
      have := ((bnd_iff zs).1 hh).1
      have := HZ.out
      omega)
    go_enter Try.func17, Try.ntmps17
    go_wp2
    go_ret
    exact ⟨rb E.out rfl, rfl⟩
  · by_cases c2 : 8 < len
    · have E := Lib.hid (show v = false by
        rw [← HV.out, Bool.eq_false_iff]
        intro hh
        have := ((bnd_iff zs).1 hh).2.1
        have := HZ.out
        omega)
      go_enter Try.func17, Try.ntmps17
      go_wp2
      go_ret
      exact ⟨rb E.out rfl, rfl⟩
    · have h1 : 1 ≤ len := by omega
      have h8 : len ≤ 8 := by omega
      clear c1 c2
      go_enter Try.func17, Try.ntmps17
      go_wp2
      go_loop [3] (fun i => ∃ k : Nat, 1 ≤ k ∧ k ≤ len + 1 ∧ i = .int .i64 (k : Int) ∧ Hid (∀ i, i + 1 < k → here zs i = true)) (fun i => ((len : Int) + 1 - intOf i).toNat)
      case atStart => exact ⟨1, by omega, by omega, rfl, Lib.hid fun i hi => by omega⟩
      case round =>
        obtain ⟨k, hk1, hk2, rfl, HA⟩ := hrel
        by_cases hlt : (k : Int) ≤ len
        · obtain ⟨x3, hx3⟩ : ∃ x, hasTo zs (k : Int) zs.length = x := ⟨_, rfl⟩
          obtain ⟨x4, hx4⟩ : ∃ x, hasTo zs (-(k : Int)) zs.length = x := ⟨_, rfl⟩
          have C3 := Lib.hid (contains_any (k : Int) HO.out (by omega) x3 hx3)
          have C4 := Lib.hid (contains_any (-(k : Int)) HO.out (by omega) x4 hx4)
          have HH := Lib.hid (show here zs (k - 1) = (x3 || x4) by
            unfold here
            rw [show ((k - 1 : Nat) : Int) + 1 = (k : Int) by omega, hx3, hx4])
          clear hx3 hx4
          have hk8 : (k : Int) ≤ 8 := by omega
          cases x3
          · cases x4
            · have E := Lib.hid (show v = false by
                rw [← HV.out, Bool.eq_false_iff]
                intro hh
                have h3 := ((bnd_here zs).1 ((bnd_iff zs).1 hh)).2.2 (k - 1) (by rw [HZ.out]; omega)
                rw [HH.out] at h3
                cases h3)
              go_wp2_with fail
              refine C3.out.mono ?_
              rintro e w' ⟨rfl, rfl⟩
              go_wp2_with fail
              refine C4.out.mono ?_
              rintro e w' ⟨rfl, rfl⟩
              go_wp2
              go_ret
              exact ⟨rb E.out rfl, rfl⟩
            · go_wp2_with fail
              refine C3.out.mono ?_
              rintro e w' ⟨rfl, rfl⟩
              go_wp2_with fail
              refine C4.out.mono ?_
              rintro e w' ⟨rfl, rfl⟩
              go_wp2
              go_round
              case rel => exact ⟨k + 1, by omega, by omega, by go_num, Lib.hid fun i hi => by
                by_cases e : i = k - 1
                · rw [e, HH.out]; rfl
                · exact HA.out i (by omega)⟩
              case measure => simp [intOf]; omega
          · go_wp2_with fail
            refine C3.out.mono ?_
            rintro e w' ⟨rfl, rfl⟩
            go_wp2
            go_round
            case rel => exact ⟨k + 1, by omega, by omega, by go_num, Lib.hid fun i hi => by
              by_cases e : i = k - 1
              · rw [e, HH.out]; rfl
              · exact HA.out i (by omega)⟩
            case measure => simp [intOf]; omega
        · have E := Lib.hid (show v = true by
            rw [← HV.out, bnd_iff, bnd_here]
            refine ⟨by rw [HZ.out]; exact h1, by rw [HZ.out]; exact h8, fun i hi => HA.out i (by rw [HZ.out] at hi; omega)⟩)
          go_wp2
          go_ret
          exact ⟨rb E.out rfl, rfl⟩
theorem iIsBinding {b1 g len cap : Nat} {zs : List Int} {w : World} (h : Ow w b1 g len cap zs) (hl : len ≤ 1048576) :
    Calls Try.prog 17 #[.slice (some ⟨g, 0, none⟩) len cap] w (Ret (.bool (bnd zs)) w) :=
  (iBinding_any h hl _ rfl).mono fun e w' ⟨a, b⟩ => ⟨a, b ▸ Below.refl _ _⟩
set_option maxRecDepth 100000 in
theorem sIsBinding {b1 g len cap : Nat} {zs : List Int} {w : World} (h : Ow w b1 g len cap zs) (hl : len ≤ 1048576) :
    Calls Try.prog 15 #[.slice (some ⟨g, 0, none⟩) len cap] w (Ret (.bool (bnd zs)) w) := by
  have C := Lib.hid (biGood_any h hl _ rfl)
  obtain ⟨v, hv⟩ : ∃ v, bnd zs = v := ⟨_, rfl⟩
  rw [hv] at C ⊢
  clear h hv
  go_enter Try.func15, Try.ntmps15
  go_wp2_with fail
  refine C.out.mono ?_
  rintro e w' ⟨rfl, rfl⟩
  go_wp2
  go_ret
  exact ⟨rfl, Below.refl _ _⟩
end Ln
end Go.Proofs.Ytabnjoohojojnaa
