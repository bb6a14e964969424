/- Breaks of a binding, by the model. -/
import Derived.Test.YtabnjoohojojnaaBe
import Derived.Maps.AppendAt
namespace Go.Proofs.Ytabnjoohojojnaa
open Go.RowKit Go.Joins Go.Deep Go.ChangeShapes Go.WideShapes
set_option linter.unusedVariables false
set_option linter.unusedSimpArgs false
namespace Ln
theorem nums_snoc (zs : List Int) (v : Int) : Li.nums (zs ++ [v]) = Li.nums zs ++ [.int .i64 v] := by simp [Li.nums]
theorem own_pos {w : World} {base size n : Nat} {e : TypeId} {v : Value} {xs : List Value} (h : w.ownsRow base e size v n xs) (hn : 0 < n) : ∃ g cap, v = .slice (some ⟨g, 0, none⟩) n cap := by
  rcases Li.own_forms h with ⟨_, h0⟩ | h
  · omega
  · exact h
/-- the one ahead -/
def lst (zs : List Int) : Nat → Int
  | 0 => 0
  | k + 1 => zs.getD k 0
def brk (zs : List Int) : Nat → Int
  | 0 => 0
  | k + 1 => brk zs k + (if zs.getD k 0 = lst zs k + 1 then 0 else 1)
theorem brk_step (zs : List Int) (k : Nat) : brk zs (k + 1) = brk zs k + (if zs.getD k 0 = lst zs k + 1 then 0 else 1) := rfl
theorem brk_bd (zs : List Int) : ∀ k, 0 ≤ brk zs k ∧ brk zs k ≤ k
  | 0 => by simp [brk]
  | k + 1 => by have := brk_bd zs k; rw [brk_step]; split <;> omega
def brN (zs : List Int) : Int := if bnd zs = true then brk (zs ++ [(zs.length : Int) + 1]) (zs.length + 1) else 0
theorem lst_8 {zs : List Int} {n : Nat} (h : ∀ k, k < n → -9 ≤ zs.getD k 0 ∧ zs.getD k 0 ≤ 9) : ∀ k, k ≤ n → -9 ≤ lst zs k ∧ lst zs k ≤ 9
  | 0, _ => by simp [lst]
  | k + 1, hk => h k (by omega)
set_option maxRecDepth 100000 in
set_option maxHeartbeats 4000000 in
theorem sBreaksOf {b1 g len cap : Nat} {zs : List Int} {w : World} (h : Ow w b1 g len cap zs) (hl : len ≤ 1048576) :
    Calls Try.prog 27 #[.slice (some ⟨g, 0, none⟩) len cap] w (Ret (.tuple #[.int .i64 (brN zs), .bool (bnd zs)]) w) := by
  obtain ⟨v, hv⟩ : ∃ v, bnd zs = v := ⟨_, rfl⟩
  have C1 := Lib.hid (biGood_any h hl v hv)
  rw [hv]
  cases v
  · rw [show brN zs = 0 by unfold brN; rw [hv]; rfl]
    clear h hv
    go_enter Try.func27, Try.ntmps27
    go_wp2_with fail
    refine C1.out.mono ?_
    rintro e w' ⟨rfl, rfl⟩
    go_wp2
    go_ret2
    exact ⟨rfl, Below.refl _ _⟩
  · have hz := ow_len h
    obtain ⟨ys, hys⟩ : ∃ ys, zs ++ [(len : Int) + 1] = ys := ⟨_, rfl⟩
    obtain ⟨R, hR⟩ : ∃ R, brN zs = R := ⟨_, rfl⟩
    have HR := Lib.hid (show R = brk ys (len + 1) by rw [← hR, ← hys]; unfold brN; rw [if_pos hv, hz])
    have b8 := bnd_8 ((bnd_iff zs).1 hv)
    have h8 : len ≤ 8 := by have := ((bnd_iff zs).1 hv).2.1; omega
    have HK := Lib.hid (show ∀ k, k < len + 1 → -9 ≤ ys.getD k 0 ∧ ys.getD k 0 ≤ 9 from fun k hk => by
      rw [← hys]
      by_cases e : k < len
      · have := b8 k (by omega)
        rw [show (zs ++ [(len : Int) + 1]).getD k 0 = zs.getD k 0 by simp [List.getD, List.getElem?_append_left (show k < zs.length by omega)]]
        omega
      · rw [show (zs ++ [(len : Int) + 1]).getD k 0 = (len : Int) + 1 by simp [List.getD, show k = zs.length by omega]]
        omega)
    have HKL := Lib.hid (lst_8 HK.out)
    have HY := Lib.hid (show Li.nums ys = Li.nums zs ++ [.int .i64 ((len : Int) + 1)] by rw [← hys, nums_snoc])
    have C2 := Lib.hid (l1Own_any h (by omega))
    obtain ⟨i0, hi, hz0, hz1, hz2⟩ := info_parts Li.info3
    rw [hR]
    clear h hv hz hys hR b8
    go_enter Try.func27, Try.ntmps27
    go_wp2_with fail
    refine C1.out.mono ?_
    rintro e w' ⟨rfl, rfl⟩
    go_wp2_with fail
    refine C2.out.mono ?_
    rintro e w1 ⟨v, rfl, ho, hb⟩
    have HB0 := Lib.hid hb
    have hsz := hb.size
    have HOw := Lib.hid (ho.alloc (.cells #[.int .i64 ((len : Int) + 1)] 3))
    have HLT := Lib.hid (fun j hj => (ho.lt j hj).1)
    clear ho hb
    go_wp2_with (first | (at_builtin; refine wpList_append_own _ rfl _ _ 22 rfl w.heap.size 3 i0 (.int .i64 0) 1 8 Try.underlying22 hi hz0 hz1 hz2 rfl (by decide) _ _ _ rfl HOw.out ⟨_, 0, none⟩ 1 1 [.int .i64 ((len : Int) + 1)] rfl rfl (cell_one_new _ _ _) (fun x hx => by simp at hx; subst hx; rfl) (by unfold maxLen; omega) (by omega) (by simp; omega) ?_; intro v3 w3 hown3 hgrow3 _; obtain ⟨a, cp, rfl⟩ := own_pos hown3 (by omega)))
    have HB4 := Lib.hid (Below.grown (HB0.out.alloc HB0.out.size (.cells #[.int .i64 ((len : Int) + 1)] 3)) hgrow3 (by simp; omega) HLT.out)
    have HO3 := Lib.hid (show w3.ownsRow w.heap.size 3 1 (.slice (some ⟨a, 0, none⟩) (len + 1) cp) (len + 1) (Li.nums ys) by rw [HY.out]; exact hown3)
    clear hown3 hgrow3
    go_loop [4, 5, 19] (fun n l i => ∃ (k : Nat) (S : Int), k ≤ len + 1 ∧ i = .int .i64 (k : Int) ∧ l = .int .i64 (lst ys k) ∧ n = .int .i64 S ∧ Hid (S = brk ys k)) (fun _ _ i => ((len : Int) + 1 - intOf i).toNat)
    case atStart => exact ⟨0, 0, by omega, rfl, rfl, rfl, Lib.hid rfl⟩
    case round =>
      obtain ⟨k, S, hk, rfl, rfl, rfl, HS⟩ := hrel
      have hb := brk_bd ys k
      rw [← HS.out] at hb
      have s1 := hb.1
      have s2 : S ≤ 9 := by omega
      have hll := HKL.out k hk
      have HST := Lib.hid (brk_step ys k)
      obtain ⟨L, hL⟩ : ∃ L, lst ys k = L := ⟨_, rfl⟩
      rw [hL] at hll HST ⊢
      have l1 := hll.1
      have l2 := hll.2
      clear hb hll hL
      by_cases hlt : (k : Int) < ((len + 1 : Nat) : Int)
      · obtain ⟨z, HZK, hc⟩ := ow_at HO3.out (k := k) (by omega)
        have HLN := Lib.hid (show z = lst ys (k + 1) by rw [← HZK.out]; rfl)
        by_cases c : z = L + 1
        · have HN := Lib.hid (show S = brk ys (k + 1) by rw [HST.out, HZK.out, if_pos c, HS.out]; omega)
          have t1 : (z == L + 1) = true := by simpa using c
          clear c
          go_wp2
          go_round
          case rel => exact ⟨k + 1, S, by omega, by go_num, by rw [← HLN.out], rfl, HN⟩
          case measure => simp [intOf]; omega
        · have HN := Lib.hid (show S + 1 = brk ys (k + 1) by rw [HST.out, HZK.out, if_neg c, HS.out])
          have t1 : (z == L + 1) = false := by simpa using c
          clear c
          go_wp2
          go_round
          case rel => exact ⟨k + 1, S + 1, by omega, by go_num, by rw [← HLN.out], by first | rfl | go_num, HN⟩
          case measure => simp [intOf]; omega
      · have ek : k = len + 1 := by omega
        have HE := Lib.hid (show S = R by rw [HS.out, ek, HR.out])
        clear ek
        go_wp2
        go_ret2
        exact ⟨by rw [HE.out] <;> rfl, HB4.out⟩
end Ln
end Go.Proofs.Ytabnjoohojojnaa
