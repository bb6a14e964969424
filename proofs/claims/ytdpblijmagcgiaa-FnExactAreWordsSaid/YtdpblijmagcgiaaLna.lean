/- The breaks that are allowed, by the model. -/
import Derived.Test.YtdpblijmagcgiaaLnu
namespace Go.Proofs.Ytdpblijmagcgiaa
open Go.RowKit Go.Joins Go.Deep Go.ChangeShapes Go.WideShapes
set_option linter.unusedVariables false
set_option linter.unusedSimpArgs false
namespace Ln
/-- behind line j + 1 of n no break is allowed -/
def skp (n : Int) (last : Bool) (j : Nat) : Bool := (decide ((j : Int) + 1 < n) && (decide (j = 0) || decide ((j : Int) + 1 = n - 1))) || (decide ((j : Int) + 1 = n) && last)
/-- the breaks behind the first j lines of a paragraph of n, P lines before it -/
def al1 (P n : Int) (last : Bool) : Nat → List Int
  | 0 => []
  | j + 1 => al1 P n last j ++ (if skp n last j = true then [] else [P + ((j : Int) + 1)])
theorem al1_step (P n : Int) (last : Bool) (j : Nat) : al1 P n last (j + 1) = al1 P n last j ++ (if skp n last j = true then [] else [P + ((j : Int) + 1)]) := rfl
theorem al1_len (P n : Int) (last : Bool) (j : Nat) : (al1 P n last j).length ≤ j := by
  induction j with
  | zero => simp [al1]
  | succ j ih =>
    rw [al1_step, List.length_append]
    split <;> simp <;> omega
/-- the breaks behind lines of the first k paragraphs -/
def alA (zs : List Int) : Nat → List Int
  | 0 => []
  | k + 1 => alA zs k ++ al1 (psum zs k) (zs.getD k 0) (decide (k + 1 = zs.length)) (zs.getD k 0).toNat
theorem alA_step (zs : List Int) (k : Nat) : alA zs (k + 1) = alA zs k ++ al1 (psum zs k) (zs.getD k 0) (decide (k + 1 = zs.length)) (zs.getD k 0).toNat := rfl
def Okp (zs : List Int) : Prop := 1 ≤ zs.length ∧ zs.length ≤ 12 ∧ ∀ k, k < zs.length → 1 ≤ zs.getD k 0 ∧ zs.getD k 0 ≤ 60
theorem alA_len {zs : List Int} (h : Okp zs) (k : Nat) (hk : k ≤ zs.length) : (alA zs k).length ≤ 60 * k := by
  induction k with
  | zero => simp [alA]
  | succ k ih =>
    have h1 := ih (by omega)
    have h2 := h.2.2 k (by omega)
    have h3 := al1_len (psum zs k) (zs.getD k 0) (decide (k + 1 = zs.length)) (zs.getD k 0).toNat
    rw [alA_step, List.length_append]
    omega
set_option maxRecDepth 100000 in
set_option maxHeartbeats 4000000 in
theorem lnAllowed_any {b1 g len cap : Nat} {zs : List Int} {w : World} (h : Ow w b1 g len cap zs) (ho : Okp zs) :
    Calls Try.prog 68 #[.slice (some ⟨g, 0, none⟩) len cap] w fun e w' => ∃ v, e = .returned v ∧ w'.ownsRow w.heap.size 3 1 v (alA zs len).length (Li.nums (alA zs len)) ∧ Below w.heap.size w w' := by
  have HO := Lib.hid h
  have HZ := Lib.hid (ow_len h)
  have h12 : len ≤ 12 := by have := ho.2.1; have := ow_len h; omega
  have HA := Lib.hid (fun k (hk : k < len) => ho.2.2 k (by have := ow_len h; omega))
  have HL := Lib.hid (fun k (hk : k ≤ len) => alA_len ho k (by have := ow_len h; omega))
  have HP := Lib.hid (fun k (hk : k ≤ len) => by have := psum_bd ho.2.2 0 k (by have := ow_len h; omega); rw [Nat.zero_add] at this; exact this)
  obtain ⟨i0, hi, hz0, hz1, hz2⟩ := info_parts Li.info3
  clear h ho
  go_enter Try.func68, Try.ntmps68
  go_wp2
  go_loopw [3, 4, 10] (fun v s i wr => ∃ (k : Nat) (P : Int) (vv : Value), vv = v ∧ k ≤ len ∧ i = .int .i64 (k : Int) ∧ s = .int .i64 P ∧ Hid (P = psum zs k) ∧ wr.ownsRow w.heap.size 3 1 vv (alA zs k).length (Li.nums (alA zs k)) ∧ Below w.heap.size w wr) (fun _ _ i _ => ((len : Int) - intOf i).toNat)
  case atStart => exact ⟨0, 0, _, rfl, by omega, rfl, rfl, Lib.hid rfl, World.ownsRow_nil _ _ _ _, Below.refl _ _⟩
  case round =>
    obtain ⟨k, P, vv, rfl, hk, rfl, rfl, HS, hown, hb⟩ := hrel
    have HB := Lib.hid hb
    clear hb
    have hp := HP.out k hk
    rw [show psum zs 0 = 0 from rfl, ← HS.out] at hp
    have p1 : 0 ≤ P := by omega
    have p2 : P ≤ 720 := by omega
    clear hp
    by_cases hlt : (k : Int) < len
    · obtain ⟨z, HZK, hc⟩ := ow_at (Li.own_on HO.out HB.out) (k := k) (by omega)
      have hza := HA.out k (by omega)
      rw [HZK.out] at hza
      obtain ⟨n, rfl⟩ := Int.eq_ofNat_of_zero_le (show 0 ≤ z by omega)
      have hn1 : 1 ≤ n := by omega
      have hn2 : n ≤ 60 := by omega
      have HN := Lib.hid (alA_step zs k)
      rw [HZK.out, HZ.out, ← HS.out, Int.toNat_natCast] at HN
      have HS2 := Lib.hid (show P + (n : Int) = psum zs (k + 1) by rw [psum_step, ← HS.out, HZK.out])
      obtain ⟨last, hlast⟩ : ∃ b, decide (k + 1 = len) = b := ⟨_, rfl⟩
      rw [hlast] at HN
      have HLA := Lib.hid hlast
      have hM := HL.out k (by omega)
      obtain ⟨M, hMe⟩ : ∃ M, alA zs k = M := ⟨_, rfl⟩
      rw [hMe] at hown HN hM
      have hown0 : wr.ownsRow w.heap.size 3 1 vv (M ++ al1 P (n : Int) last 0).length (Li.nums (M ++ al1 P (n : Int) last 0)) := by rw [show al1 P (n : Int) last 0 = [] from rfl, List.append_nil]; exact hown
      clear hza hMe hlast hown
      go_wp2
      go_loopw [3, 7] (fun v i wr => ∃ (j : Nat) (vv : Value), vv = v ∧ j ≤ n ∧ i = .int .i64 ((j : Int) + 1) ∧ wr.ownsRow w.heap.size 3 1 vv (M ++ al1 P (n : Int) last j).length (Li.nums (M ++ al1 P (n : Int) last j)) ∧ Below w.heap.size w wr) (fun _ i _ => ((n : Int) + 1 - intOf i).toNat)
      case atStart => exact ⟨0, _, rfl, by omega, rfl, hown0, HB.out⟩
      case round =>
        obtain ⟨j, vv, rfl, hj, rfl, hown, hbi⟩ := hrel
        by_cases hle : j < n
        · have hle2 : (j : Int) + 1 ≤ (n : Int) := by omega
          by_cases c1 : (j : Int) + 1 < (n : Int)
          · by_cases c2 : j = 0
            · subst c2
              have t1 : (((0 : Nat) : Int) + 1 == 1) = true := by simp
              have HS := Lib.hid (show al1 P (n : Int) last (0 + 1) = al1 P (n : Int) last 0 by rw [al1_step, if_pos (by simp [skp] <;> omega), List.append_nil])
              rw [← HS.out] at hown
              clear HS
              have HOw := Lib.hid hown
              clear hown
              go_wp2
              go_roundw
              case rel => exact ⟨0 + 1, _, rfl, by omega, by go_num, HOw.out, hbi⟩
              case measure => simp [intOf]; omega
            · have t1 : ((j : Int) + 1 == 1) = false := by rw [beq_eq_false_iff_ne]; omega
              by_cases c3 : (j : Int) + 1 = (n : Int) - 1
              · have t2 : ((j : Int) + 1 == (n : Int) - 1) = true := by rw [beq_iff_eq]; exact c3
                have HS := Lib.hid (show al1 P (n : Int) last (j + 1) = al1 P (n : Int) last j by rw [al1_step, if_pos (by simp [skp] <;> omega), List.append_nil])
                rw [← HS.out] at hown
                clear HS
                have HOw := Lib.hid hown
                clear hown
                go_wp2
                go_roundw
                case rel => exact ⟨j + 1, _, rfl, by omega, by go_num, HOw.out, hbi⟩
                case measure => simp [intOf]; omega
              · have t2 : ((j : Int) + 1 == (n : Int) - 1) = false := by rw [beq_eq_false_iff_ne]; exact c3
                have t3 : ((j : Int) + 1 == (n : Int)) = false := by rw [beq_eq_false_iff_ne]; omega
                have HS := Lib.hid (show al1 P (n : Int) last (j + 1) = al1 P (n : Int) last j ++ [P + ((j : Int) + 1)] by rw [al1_step, if_neg (by simp [skp] <;> omega)])
                have hLn := al1_len P (n : Int) last j
                have HSQ0 := Lib.hid (show M ++ al1 P (n : Int) last (j + 1) = (M ++ al1 P (n : Int) last j) ++ [P + ((j : Int) + 1)] by rw [HS.out, ← List.append_assoc])
                have hq0 : (M ++ al1 P (n : Int) last j).length ≤ 800 := by rw [List.length_append]; omega
                obtain ⟨Q, hQ⟩ : ∃ Q, M ++ al1 P (n : Int) last j = Q := ⟨_, rfl⟩
                rw [hQ] at hown HSQ0 hq0
                clear hQ hLn HS
                have HOw := Lib.hid (hown.alloc (.cells #[.int .i64 (P + ((j : Int) + 1))] 3))
                have HLT := Lib.hid (fun i hj => (hown.lt i hj).1)
                have hsi := hbi.size
                have HBi := Lib.hid hbi
                clear hown hbi
                go_wp2_with (first | (at_builtin; refine wpList_append_own _ rfl _ _ 22 rfl w.heap.size 3 i0 (.int .i64 0) 1 8 Try.underlying22 hi hz0 hz1 hz2 rfl (by decide) _ _ _ rfl HOw.out ⟨_, 0, none⟩ 1 1 [.int .i64 (P + ((j : Int) + 1))] rfl rfl (cell_one_new _ _ _) (fun x hx => by simp at hx; subst hx; rfl) (by unfold maxLen; omega) (by omega) (by simp; omega) ?_; intro v3 w3 hown3 hgrow3 _))
                have HB4 := Lib.hid (Below.grown (HBi.out.alloc HBi.out.size (.cells #[.int .i64 (P + ((j : Int) + 1))] 3)) hgrow3 (by simp; omega) HLT.out)
                have HO3 := Lib.hid (show w3.ownsRow w.heap.size 3 1 v3 (M ++ al1 P (n : Int) last (j + 1)).length (Li.nums (M ++ al1 P (n : Int) last (j + 1))) by rw [HSQ0.out, nums_snoc, List.length_append]; exact hown3)
                clear hown3 hgrow3
                go_roundw
                case rel => exact ⟨j + 1, _, rfl, by omega, by go_num, HO3.out, HB4.out⟩
                case measure => simp [intOf]; omega
          · have t3 : ((j : Int) + 1 == (n : Int)) = true := by rw [beq_iff_eq]; omega
            cases last
            · have t4 : ((k : Int) == (len : Int) - 1) = false := by rw [beq_eq_false_iff_ne]; have := of_decide_eq_false HLA.out; omega
              have HS := Lib.hid (show al1 P (n : Int) false (j + 1) = al1 P (n : Int) false j ++ [P + ((j : Int) + 1)] by rw [al1_step, if_neg (by simp [skp] <;> omega)])
              have hLn := al1_len P (n : Int) false j
              have HSQ0 := Lib.hid (show M ++ al1 P (n : Int) false (j + 1) = (M ++ al1 P (n : Int) false j) ++ [P + ((j : Int) + 1)] by rw [HS.out, ← List.append_assoc])
              have hq0 : (M ++ al1 P (n : Int) false j).length ≤ 800 := by rw [List.length_append]; omega
              obtain ⟨Q, hQ⟩ : ∃ Q, M ++ al1 P (n : Int) false j = Q := ⟨_, rfl⟩
              rw [hQ] at hown HSQ0 hq0
              clear hQ hLn HS
              have HOw := Lib.hid (hown.alloc (.cells #[.int .i64 (P + ((j : Int) + 1))] 3))
              have HLT := Lib.hid (fun i hj => (hown.lt i hj).1)
              have hsi := hbi.size
              have HBi := Lib.hid hbi
              clear hown hbi
              go_wp2_with (first | (at_builtin; refine wpList_append_own _ rfl _ _ 22 rfl w.heap.size 3 i0 (.int .i64 0) 1 8 Try.underlying22 hi hz0 hz1 hz2 rfl (by decide) _ _ _ rfl HOw.out ⟨_, 0, none⟩ 1 1 [.int .i64 (P + ((j : Int) + 1))] rfl rfl (cell_one_new _ _ _) (fun x hx => by simp at hx; subst hx; rfl) (by unfold maxLen; omega) (by omega) (by simp; omega) ?_; intro v3 w3 hown3 hgrow3 _))
              have HB4 := Lib.hid (Below.grown (HBi.out.alloc HBi.out.size (.cells #[.int .i64 (P + ((j : Int) + 1))] 3)) hgrow3 (by simp; omega) HLT.out)
              have HO3 := Lib.hid (show w3.ownsRow w.heap.size 3 1 v3 (M ++ al1 P (n : Int) false (j + 1)).length (Li.nums (M ++ al1 P (n : Int) false (j + 1))) by rw [HSQ0.out, nums_snoc, List.length_append]; exact hown3)
              clear hown3 hgrow3
              go_roundw
              case rel => exact ⟨j + 1, _, rfl, by omega, by go_num, HO3.out, HB4.out⟩
              case measure => simp [intOf]; omega
            · have t4 : ((k : Int) == (len : Int) - 1) = true := by rw [beq_iff_eq]; have := of_decide_eq_true HLA.out; omega
              have HS := Lib.hid (show al1 P (n : Int) true (j + 1) = al1 P (n : Int) true j by rw [al1_step, if_pos (by simp [skp] <;> omega), List.append_nil])
              rw [← HS.out] at hown
              clear HS
              have HOw := Lib.hid hown
              clear hown
              go_wp2
              go_roundw
              case rel => exact ⟨j + 1, _, rfl, by omega, by go_num, HOw.out, hbi⟩
              case measure => simp [intOf]; omega
        · have ej : j = n := by omega
          subst ej
          have HO3 := Lib.hid (show wr.ownsRow w.heap.size 3 1 vv (alA zs (k + 1)).length (Li.nums (alA zs (k + 1))) by rw [HN.out]; exact hown)
          have HBi := Lib.hid hbi
          clear hown hbi
          go_wp2
          go_roundw
          case rel => exact ⟨k + 1, P + (j : Int), _, rfl, by omega, by go_num, by first | rfl | go_num, HS2, HO3.out, HBi.out⟩
          case measure => simp [intOf]; omega
    · have HE := Lib.hid (show k = len by omega)
      have HOw := Lib.hid hown
      clear hown
      go_wp2
      go_ret
      exact ⟨_, rfl, by rw [← HE.out]; exact HOw.out, HB.out⟩
end Ln
end Go.Proofs.Ytdpblijmagcgiaa
