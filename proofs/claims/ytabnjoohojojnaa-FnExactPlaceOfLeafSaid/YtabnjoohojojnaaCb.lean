/- Places of leaves, and an open book, by the program. -/
import Derived.Test.YtabnjoohojojnaaCa
import Derived.Test.YtabnjoohojojnaaBq
namespace Go.Proofs.Ytabnjoohojojnaa
open Go.RowKit Go.Joins Go.Deep Go.ChangeShapes Go.WideShapes
set_option linter.unusedVariables false
set_option linter.unusedSimpArgs false
namespace Ln
theorem ab_abs (z : Int) : ab z = (z.natAbs : Int) := by unfold ab; split <;> omega
set_option maxRecDepth 100000 in
set_option maxHeartbeats 2000000 in
theorem iPlace_no {b1 g len cap : Nat} {zs : List Int} {a : Int} {w : World} (h : Ow w b1 g len cap zs) (hl : len ≤ 1048576) (hv : bnd zs = false) :
    Calls Try.prog 26 #[.slice (some ⟨g, 0, none⟩) len cap, .int .i64 a] w (Ret (.tuple #[.int .i64 0, .bool false, .bool false]) w) := by
  have C := Lib.hid (bookOf_no h hl hv)
  clear h hv
  go_enter Try.func26, Try.ntmps26
  go_wp2_with fail
  refine C.out.mono ?_
  rintro e w1 ⟨rfl, hb⟩
  have HB := Lib.hid hb
  clear hb
  go_wp2_with (first | (with_reducible refine wpList_store_new rfl (.tmp 7) (.tmp 14) rfl (nb []) (tb []) ((0 : Nat) : Int) rfl w1.heap.size rfl rfl rfl ?_) | (with_reducible refine wpList_load17 rfl (.tmp 7) rfl w1.heap.size rfl (Arr.new _ _ _) ?_))
  refine (leaves_any 0 (by omega) [] _).mono ?_
  rintro e w' ⟨rfl, rfl⟩
  have HB2 := Lib.hid ((HB.out.alloc HB.out.size (.cells (bkA 0 []) 54)).alloc (by have := HB.out.size; simp; omega) (.cells (bkA 0 []) 54))
  go_wp2
  refine wp_loop_rounds 1 ?_
  rw [rounds_succ]
  go_wp2
  go_ret3
  exact ⟨rfl, HB2.out⟩
set_option maxRecDepth 100000 in
set_option maxHeartbeats 2000000 in
theorem iPlace_yes {b1 g len cap : Nat} {zs : List Int} {a : Int} {w : World} (h : Ow w b1 g len cap zs) (hl : len ≤ 1048576) (hv : bnd zs = true) :
    Calls Try.prog 26 #[.slice (some ⟨g, 0, none⟩) len cap, .int .i64 a] w (Ret (.tuple #[.int .i64 (plN zs a), .bool (plT zs a), .bool (plOk zs a)]) w) := by
  have C := Lib.hid (bookOf_yes h hl hv)
  have hz := ow_len h
  have B := (bnd_iff zs).1 hv
  have HAB := Lib.hid ((bnd_abs zs).1 B)
  have h8 : len ≤ 8 := by have := B.2.1; omega
  have HL := Lib.hid hz
  have HOK := Lib.hid (show ∀ k, k < len → ab (zs.getD k 0) = a → (∀ j, j < k → ab (zs.getD j 0) ≠ a) → plN zs a = (k : Int) ∧ plT zs a = decide (zs.getD k 0 < 0) ∧ plOk zs a = true from fun k hk e h2 => by
    have e1 : at1 zs a = k := at1_eq (by omega) e h2
    have h3 := HAB.out.2.2.1 k (by omega)
    rw [ab_abs] at e
    have e2 : plOk zs a = true := by unfold plOk; rw [hv, e1]; simp; omega
    refine ⟨by unfold plN; rw [if_pos e2, e1], by unfold plT; rw [e2, e1]; rfl, e2⟩)
  have HNO := Lib.hid (show (∀ j, j < len → ab (zs.getD j 0) ≠ a) → plN zs a = 0 ∧ plT zs a = false ∧ plOk zs a = false from fun h2 => by
    have e1 : at1 zs a = zs.length := at1_none fun j hj => h2 j (by omega)
    have e2 : plOk zs a = false := by unfold plOk; rw [e1]; simp
    exact ⟨by unfold plN; rw [e2]; rfl, by unfold plT; rw [e2]; rfl, e2⟩)
  obtain ⟨rN, hrN⟩ : ∃ x, plN zs a = x := ⟨_, rfl⟩
  obtain ⟨rT, hrT⟩ : ∃ x, plT zs a = x := ⟨_, rfl⟩
  obtain ⟨rO, hrO⟩ : ∃ x, plOk zs a = x := ⟨_, rfl⟩
  rw [hrN, hrT, hrO] at HOK HNO ⊢
  clear h hv hz B hrN hrT hrO
  go_enter Try.func26, Try.ntmps26
  go_wp2_with fail
  refine C.out.mono ?_
  rintro e w1 ⟨rfl, hb⟩
  have HB := Lib.hid hb
  clear hb
  go_wp2_with (first | (with_reducible refine wpList_store_new rfl (.tmp 7) (.tmp 14) rfl (nb zs) (tb zs) (len : Int) rfl w1.heap.size rfl rfl rfl ?_) | (with_reducible refine wpList_load17 rfl (.tmp 7) rfl w1.heap.size rfl (Arr.new _ _ _) ?_))
  refine (leaves_any len h8 zs _).mono ?_
  rintro e w' ⟨rfl, rfl⟩
  have HB2 := Lib.hid ((HB.out.alloc HB.out.size (.cells (bkA len zs) 54)).alloc (by have := HB.out.size; simp; omega) (.cells (bkA len zs) 54))
  go_wp2
  go_loopw [19] (fun i wr => ∃ k : Nat, k ≤ len ∧ i = .int .i64 (k : Int) ∧ Hid (∀ j, j < k → ab (zs.getD j 0) ≠ a) ∧ Hid (Arr wr (w1.heap.size + 1) 54 (bkA len zs)) ∧ Hid (Below w.heap.size w wr)) (fun i _ => ((len : Int) - intOf i).toNat)
  case atStart => exact ⟨0, by omega, rfl, Lib.hid fun j hj => by omega, Lib.hid (arr_new _ _ _ (by simp)), HB2⟩
  case round =>
    clear HB2 HB
    obtain ⟨k, hk, rfl, HN, HA, HB⟩ := hrel
    by_cases hlt : (k : Int) < len
    · obtain ⟨q0, q1⟩ := lf_cells HA.out (k := k) (by omega)
      have HO1 := Lib.hid (HOK.out k (by omega))
      have HN1 := Lib.hid (show ab (zs.getD k 0) ≠ a → ∀ j, j < k + 1 → ab (zs.getD j 0) ≠ a from fun hne j hj => by
        by_cases e : j = k
        · subst e; exact hne
        · exact HN.out j (by omega))
      obtain ⟨z, hzz⟩ : ∃ z, zs.getD k 0 = z := ⟨_, rfl⟩
      obtain ⟨y, hy⟩ : ∃ y, ab z = y := ⟨_, rfl⟩
      obtain ⟨t, ht⟩ : ∃ t, decide (z < 0) = t := ⟨_, rfl⟩
      rw [hzz, hy, ht] at HO1
      rw [hzz, hy] at HN1 q0
      rw [hzz, ht] at q1
      have HA2 := Lib.hid (fun x => HA.out.on (below_alloc1 wr x))
      have HB2 := Lib.hid (fun x => HB.out.alloc HB.out.size x)
      clear hzz hy ht
      by_cases c : y = a
      · have HE := Lib.hid (HO1.out c HN.out)
        have t0 : (y == a) = true := by simpa using c
        clear c
        go_wp2_with fail
        go_quiet (fail)
        go_wp2_with fail
        go_ret3
        exact ⟨by rw [HE.out.1, HE.out.2.1, HE.out.2.2] <;> rfl, Li.below_draws (HB2.out _) _⟩
      · have HE := Lib.hid (HN1.out c)
        have t0 : (y == a) = false := by simpa using c
        clear c
        go_wp2
        go_roundw
        case rel => exact ⟨k + 1, by omega, by go_num, HE, Lib.hid (HA2.out _), Lib.hid (HB2.out _)⟩
        case measure => simp [intOf]; omega
    · have HE := Lib.hid (HNO.out (fun j hj => HN.out j (by omega)))
      go_wp2
      go_ret3
      exact ⟨by rw [HE.out.1, HE.out.2.1, HE.out.2.2] <;> rfl, HB.out⟩
theorem iPlaceOfLeaf {b1 g len cap : Nat} {zs : List Int} {a : Int} {w : World} (h : Ow w b1 g len cap zs) (hl : len ≤ 1048576) :
    Calls Try.prog 26 #[.slice (some ⟨g, 0, none⟩) len cap, .int .i64 a] w (Ret (.tuple #[.int .i64 (plN zs a), .bool (plT zs a), .bool (plOk zs a)]) w) := by
  cases hv : bnd zs
  · have e2 : plOk zs a = false := by unfold plOk; rw [hv]; rfl
    rw [e2, show plN zs a = 0 by unfold plN; rw [e2]; rfl, show plT zs a = false by unfold plT; rw [e2]; rfl]
    exact iPlace_no h hl hv
  · exact iPlace_yes h hl hv
set_option maxRecDepth 100000 in
theorem hasPlace_any (g len cap : Nat) (p : Int) (v : Bool) (hv : (decide (0 ≤ p) && decide (p < (len : Int))) = v) (w : World) :
    Calls Try.prog 71 #[.slice (some ⟨g, 0, none⟩) len cap, .int .i64 p] w fun e w' => e = .returned (.bool v) ∧ w = w' := by
  by_cases h1 : 0 ≤ p
  · by_cases h2 : p < (len : Int)
    · have e : v = true := by rw [← hv]; simp [h1, h2]
      subst e
      clear hv
      go_enter Try.func71, Try.ntmps71
      go_wp2
      go_ret
      exact ⟨rfl, rfl⟩
    · have e : v = false := by rw [← hv]; simp [h2]
      subst e
      have t : decide (p < (len : Int)) = false := by simpa using h2
      clear hv h2
      go_enter Try.func71, Try.ntmps71
      go_wp2
      go_ret
      exact ⟨rfl, rfl⟩
  · have e : v = false := by rw [← hv]; simp [h1]
    subst e
    clear hv
    go_enter Try.func71, Try.ntmps71
    go_wp2
    go_ret
    exact ⟨rfl, rfl⟩
theorem rdL_at (zs : List Int) : ∀ n k, k < n → (rdL zs n).getD (2 * k) 0 = p1 (zs.getD k 0) ∧ (rdL zs n).getD (2 * k + 1) 0 = p2 (zs.getD k 0) := by
  intro n
  induction n with
  | zero => intro k hk; omega
  | succ n ih =>
    intro k hk
    rw [rdL_step]
    have hl := rdL_len zs n
    by_cases e : k = n
    · subst e
      constructor
      · simp [List.getD, hl]
      · simp [List.getD, List.getElem?_append_right (show (rdL zs k).length ≤ 2 * k + 1 by omega), hl]
    · have := ih k (by omega)
      constructor
      · rw [← this.1]; simp [List.getD, List.getElem?_append_left (show 2 * k < (rdL zs n).length by omega)]
      · rw [← this.2]; simp [List.getD, List.getElem?_append_left (show 2 * k + 1 < (rdL zs n).length by omega)]
end Ln
end Go.Proofs.Ytabnjoohojojnaa
