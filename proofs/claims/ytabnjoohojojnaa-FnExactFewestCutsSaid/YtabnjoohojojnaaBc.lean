/- Leaves turned, places of leaves, an open book, by the model. -/
import Derived.Test.YtabnjoohojojnaaBb
namespace Go.Proofs.Ytabnjoohojojnaa
open Go.RowKit Go.Joins Go.Deep Go.ChangeShapes Go.WideShapes
set_option linter.unusedVariables false
set_option linter.unusedSimpArgs false
namespace Ln
/-- how many of the first k are turned -/
def trn (zs : List Int) : Nat → Int
  | 0 => 0
  | k + 1 => trn zs k + (if zs.getD k 0 < 0 then 1 else 0)
theorem trn_step (zs : List Int) (k : Nat) : trn zs (k + 1) = trn zs k + (if zs.getD k 0 < 0 then 1 else 0) := rfl
theorem trn_bd (zs : List Int) : ∀ k, 0 ≤ trn zs k ∧ trn zs k ≤ k
  | 0 => by simp [trn]
  | k + 1 => by have := trn_bd zs k; rw [trn_step]; split <;> omega
def ctN (zs : List Int) : Int := if bnd zs = true then trn zs zs.length else 0
set_option maxRecDepth 100000 in
set_option maxHeartbeats 2000000 in
theorem sCountTurned {b1 g len cap : Nat} {zs : List Int} {w : World} (h : Ow w b1 g len cap zs) (hl : len ≤ 1048576) :
    Calls Try.prog 23 #[.slice (some ⟨g, 0, none⟩) len cap] w (Ret (.tuple #[.int .i64 (ctN zs), .bool (bnd zs)]) w) := by
  obtain ⟨v, hv⟩ : ∃ v, bnd zs = v := ⟨_, rfl⟩
  have C1 := Lib.hid (biGood_any h hl v hv)
  rw [hv]
  cases v
  · rw [show ctN zs = 0 by unfold ctN; rw [hv]; rfl]
    clear h hv
    go_enter Try.func23, Try.ntmps23
    go_wp2_with fail
    refine C1.out.mono ?_
    rintro e w' ⟨rfl, rfl⟩
    go_wp2
    go_ret2
    exact ⟨rfl, Below.refl _ _⟩
  · have hz := ow_len h
    have HV := Lib.hid (show ctN zs = trn zs len by unfold ctN; rw [hv, hz]; rfl)
    have HO := Lib.hid h
    have HB8 := Lib.hid ((bnd_iff zs).1 hv)
    have h8 : len ≤ 8 := by have := HB8.out.2.1; omega
    clear h hv hz
    obtain ⟨R, hR⟩ : ∃ R, ctN zs = R := ⟨_, rfl⟩
    have HR := Lib.hid hR
    rw [hR]
    clear hR
    go_enter Try.func23, Try.ntmps23
    go_wp2_with fail
    refine C1.out.mono ?_
    rintro e w' ⟨rfl, rfl⟩
    go_wp2
    go_loop [4, 12] (fun n i => ∃ (k : Nat) (S : Int), k ≤ len ∧ i = .int .i64 (k : Int) ∧ n = .int .i64 S ∧ Hid (S = trn zs k)) (fun _ i => ((len : Int) - intOf i).toNat)
    case atStart => exact ⟨0, 0, by omega, rfl, rfl, Lib.hid rfl⟩
    case round =>
      obtain ⟨k, S, hk, rfl, rfl, HS⟩ := hrel
      have hb := trn_bd zs k
      rw [← HS.out] at hb
      have s1 := hb.1
      have s2 : S ≤ 8 := by omega
      clear hb
      by_cases hlt : (k : Int) < len
      · obtain ⟨z, HZK, hc⟩ := ow_at HO.out (k := k) (by omega)
        by_cases c : z < 0
        · have HN := Lib.hid (show S + 1 = trn zs (k + 1) by rw [trn_step, HZK.out, if_pos c, HS.out])
          go_wp2
          go_round
          case rel => exact ⟨k + 1, S + 1, by omega, by go_num, by first | rfl | go_num, HN⟩
          case measure => simp [intOf]; omega
        · have HN := Lib.hid (show S = trn zs (k + 1) by rw [trn_step, HZK.out, if_neg c, HS.out]; omega)
          go_wp2
          go_round
          case rel => exact ⟨k + 1, S, by omega, by go_num, by first | rfl | go_num, HN⟩
          case measure => simp [intOf]; omega
      · have ek : k = len := by omega
        have HE := Lib.hid (show S = R by rw [HS.out, ek, ← HV.out, HR.out])
        clear ek
        go_wp2
        go_ret2
        exact ⟨by rw [HE.out] <;> rfl, Below.refl _ _⟩
/-- the size of a number -/
def ab (z : Int) : Int := if 0 ≤ z then z else -z
theorem l1Abs_any (z : Int) (h1 : -4000 ≤ z) (h2 : z ≤ 4000) (w : World) : Calls Try.prog 51 #[.int .i64 z] w fun e w' => e = .returned (.int .i64 (ab z)) ∧ w = w' := by
  have x1 : wrap64 (-z) = -z := IntWalk.wrap64_in _ (by omega)
  by_cases c : 0 < z
  · have e : ab z = z := by unfold ab; rw [if_pos (by omega)]
    rw [e]
    have t1 : decide (-z < z) = true := by simp; omega
    clear e
    go_enter Try.func51, Try.ntmps51
    go_wp2_with go_in
    go_ret
    exact ⟨rfl, rfl⟩
  · have e : ab z = -z := by unfold ab; split <;> omega
    rw [e]
    have t1 : decide (-z < z) = false := by simp; omega
    clear e
    go_enter Try.func51, Try.ntmps51
    go_wp2_with go_in
    go_ret
    exact ⟨rfl, rfl⟩
/-- where a leaf lies -/
def at1 (zs : List Int) (a : Int) : Nat := zs.findIdx fun z => decide (ab z = a)
theorem at1_eq {zs : List Int} {a : Int} {k : Nat} (hk : k < zs.length) (h : ab (zs.getD k 0) = a) (h2 : ∀ j, j < k → ab (zs.getD j 0) ≠ a) : at1 zs a = k := by
  unfold at1
  rw [List.findIdx_eq hk]
  constructor
  · simpa [List.getD, List.getElem?_eq_getElem hk] using h
  · intro j hj
    have := h2 j hj
    simpa [List.getD, List.getElem?_eq_getElem (show j < zs.length by omega)] using this
theorem at1_none {zs : List Int} {a : Int} (h2 : ∀ j, j < zs.length → ab (zs.getD j 0) ≠ a) : at1 zs a = zs.length := by
  unfold at1
  rw [List.findIdx_eq_length]
  intro z hz
  obtain ⟨j, hj, rfl⟩ := List.getElem_of_mem hz
  have := h2 j hj
  simpa [List.getD, List.getElem?_eq_getElem hj] using this
def plOk (zs : List Int) (a : Int) : Bool := (bnd zs && (decide (1 ≤ a) && decide (a ≤ (zs.length : Int)))) && decide (at1 zs a < zs.length)
def plN (zs : List Int) (a : Int) : Int := if plOk zs a = true then (at1 zs a : Int) else 0
def plT (zs : List Int) (a : Int) : Bool := plOk zs a && decide (zs.getD (at1 zs a) 0 < 0)
end Ln
end Go.Proofs.Ytabnjoohojojnaa
