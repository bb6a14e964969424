/- The least width of so many shelves: searched from both sides. -/
import Derived.Test.YtogkebbgkeffcabIw
import Derived.Deep.LoopGhost
namespace Go.Proofs.Ytogkebbgkeffcab
open Go.RowKit Go.Joins Go.Deep Go.ChangeShapes Go.WideShapes
set_option linter.unusedVariables false
set_option linter.unusedSimpArgs false
namespace Sh
/-- so many shelves are enough, that wide -/
def enough (zs : List Int) (c m : Int) (k : Nat) : Bool := fit zs c (k : Int) && decide (sfn zs c (k : Int) ≤ m)
def lst (p : Nat → Bool) : Nat → Nat → Nat
  | 0, k => k
  | f + 1, k => if p k = true then k else lst p f (k + 1)
theorem lst_is {p : Nat → Bool} {K : Nat} (hK : p K = true) : ∀ (f k : Nat), k ≤ K → K < k + f → (∀ u, k ≤ u → u < K → p u = false) → lst p f k = K := by
  intro f
  induction f with
  | zero => intro k h1 h2; omega
  | succ f ih =>
    intro k h1 h2 h
    unfold lst
    by_cases e : k = K
    · subst e; rw [if_pos hK]
    · rw [if_neg (by rw [h k (Nat.le_refl _) (by omega)]; simp)]
      exact ih (k + 1) (by omega) (by omega) (fun u u1 u2 => h u (by omega) u2)
def lok (zs : List Int) (c m : Int) : Bool := good zs c && (decide (1 ≤ m) && decide (m ≤ 8))
def lsv (zs : List Int) (c m : Int) : Int := if lok zs c m = true then (lst (enough zs c m) 2001 0 : Int) else 0
theorem enough_zero (zs : List Int) (c m : Int) : enough zs c m 0 = false := by
  unfold enough
  rw [fit_wide (by simp), Bool.false_and]
theorem enough_mono {zs : List Int} {c m : Int} {j k : Nat} (hjk : j ≤ k) (hk : k ≤ 2000) (h : enough zs c m j = true) : enough zs c m k = true := by
  unfold enough at h ⊢
  rw [Bool.and_eq_true, decide_eq_true_eq] at h
  obtain ⟨h1, h2⟩ := h
  obtain ⟨g1, g2, g3⟩ := fit_good h1
  have ho := (good_iff zs c).1 g1
  have hf := (fitB_iff zs c _).1 g3
  have hw : 1 ≤ (j : Int) ∧ (j : Int) ≤ 2000 := by simpa using g2
  have f2 : fitB zs c (k : Int) = true := (fitB_iff zs c _).2 fun u hu => by have := hf u hu; omega
  have f1 : fit zs c (k : Int) = true := by rw [fit_in g1 (by simp only [Bool.and_eq_true, decide_eq_true_eq]; omega)]; exact f2
  have e1 : sfn zs c (k : Int) = (Sf.st zs c (k : Int) zs.length).1 + 1 := by unfold sfn; rw [if_pos f1]
  have e2 : sfn zs c (j : Int) = (Sf.st zs c (j : Int) zs.length).1 + 1 := by unfold sfn; rw [if_pos h1]
  have := Sf.wider zs c (j : Int) (k : Int) (by omega) zs.length (fun u hu => by have := own_in ho u hu; omega)
  rw [f1, Bool.true_and, decide_eq_true_eq]
  omega
theorem lf_in2 {zs : List Int} {c : Int} (h : Ok zs c) (k : Nat) (hk : k ≤ zs.length) : 0 ≤ lf c zs k ∧ lf c zs k ≤ lf c zs zs.length := by
  refine ⟨(lf_big h k hk).1, ?_⟩
  have := lf_mono h hk (Nat.le_refl _)
  omega
/-- on a shelf as wide as all volumes all of them stand -/
theorem st_all {zs : List Int} {c : Int} (h : Ok zs c) (k : Nat) (hk : k ≤ zs.length) : Sf.st zs c (lf c zs zs.length) k = (0, lf c zs zs.length - lf c zs k) := by
  induction k with
  | zero => show ((0 : Int), lf c zs zs.length) = _; rw [show lf c zs 0 = 0 from rfl]; simp
  | succ k ih =>
    have e := ih (by omega)
    have e3 : lf c zs (k + 1) = lf c zs k + (zs.getD k 0 + 2 * c) := rfl
    have := lf_in2 h (k + 1) hk
    have eo : Sf.own zs c k = zs.getD k 0 + 2 * c := rfl
    show (if (Sf.st zs c (lf c zs zs.length) k).2 < Sf.own zs c k then ((Sf.st zs c (lf c zs zs.length) k).1 + 1, lf c zs zs.length - Sf.own zs c k) else ((Sf.st zs c (lf c zs zs.length) k).1, (Sf.st zs c (lf c zs zs.length) k).2 - Sf.own zs c k)) = _
    rw [e]
    simp only []
    rw [if_neg (by omega)]
    congr 1
    omega
theorem enough_all {zs : List Int} {c m : Int} (h : Ok zs c) (hm : 1 ≤ m) : ∃ T : Nat, (T : Int) = lf c zs zs.length ∧ 1 ≤ T ∧ T ≤ 960 ∧ enough zs c m T = true := by
  have hb := lf_big h zs.length (Nat.le_refl _)
  have hp := lf_mono h (j := 0) (k := zs.length) (by omega) (Nat.le_refl _)
  have h1 := h.1
  have z0 : lf c zs 0 = 0 := rfl
  obtain ⟨T, hT⟩ := Int.eq_ofNat_of_zero_le hb.1
  refine ⟨T, hT.symm, by omega, by omega, ?_⟩
  have gg := (good_iff zs c).2 h
  have ff : fitB zs c (T : Int) = true := (fitB_iff zs c _).2 fun u hu => by
    have e3 : lf c zs (u + 1) = lf c zs u + (zs.getD u 0 + 2 * c) := rfl
    have eo : Sf.own zs c u = zs.getD u 0 + 2 * c := rfl
    have := lf_in2 h (u + 1) (by omega)
    have := lf_in2 h u (by omega)
    omega
  have f1 : fit zs c (T : Int) = true := by rw [fit_in gg (by simp only [Bool.and_eq_true, decide_eq_true_eq]; omega)]; exact ff
  unfold enough
  rw [f1, Bool.true_and, decide_eq_true_eq]
  unfold sfn
  rw [if_pos f1, ← hT, st_all h _ (Nat.le_refl _)]
  exact hm
theorem lsv_is {zs : List Int} {c m : Int} (hg : lok zs c m = true) {K : Nat} (hK : enough zs c m K = true) (hl : ∀ u, u < K → enough zs c m u = false) (hb : K ≤ 2000) : lsv zs c m = (K : Int) := by
  unfold lsv
  rw [if_pos hg, lst_is hK 2001 0 (by omega) (by omega) (fun u _ hu => hl u hu)]
/-- the closure's question -/
def Asks (zs : List Int) (c m : Int) (bs bn g len cap : Nat) (b1 : Nat) (W : World) : Prop := B2 W bs (.slice (some ⟨g, 0, none⟩) len cap) (.int .i64 c) ∧ W.cell? ⟨bn, 0, none⟩ = some (.int .i64 m) ∧ bn < W.heap.size ∧ Ow W b1 g len cap zs
theorem Asks.on {zs : List Int} {c m : Int} {bs bn g len cap b1 : Nat} {W W' : World} (h : Asks zs c m bs bn g len cap b1 W) (hb : Below W.heap.size W W') : Asks zs c m bs bn g len cap b1 W' :=
  ⟨h.1.on hb, (hb.cell (p := ⟨bn, 0, none⟩) h.2.2.1).trans h.2.1, Nat.lt_of_lt_of_le h.2.2.1 hb.size, Li.own_on h.2.2.2 hb⟩
set_option maxRecDepth 100000 in
theorem ask_any {zs : List Int} {c m : Int} {bs bn g len cap b1 : Nat} {w : World} (h : Asks zs c m bs bn g len cap b1 w) (hl : len ≤ 1048576) (k : Nat) :
    Calls Try.prog 45 #[.int .i64 (k : Int), .pointer (some ⟨bs, 0, none⟩), .pointer (some ⟨bn, 0, none⟩)] w (Ret (.bool (enough zs c m k)) w) := by
  have HA := Lib.hid h
  obtain ⟨-, q0, q1⟩ := h.1
  have C := iFor (c := c) h.2.2.2 hl (k : Int)
  unfold enough
  cases hf : fit zs c (k : Int) with
  | false =>
    rw [hf] at C
    have HC := Lib.hid C
    have E := Lib.hid (sfn_no hf)
    clear h C hf
    go_enter Try.func45, Try.ntmps45
    go_wp2_with fail
    refine HC.out.mono ?_
    rintro e w2 ⟨rfl, hb⟩
    have HB := Lib.hid hb
    have qn := (HA.out.on hb).2.1
    clear hb q0 q1
    go_wp2
    go_ret
    exact ⟨rfl, HB.out⟩
  | true =>
    rw [hf] at C
    have HC := Lib.hid C
    obtain ⟨s, hs⟩ : ∃ s, sfn zs c (k : Int) = s := ⟨_, rfl⟩
    rw [hs] at HC ⊢
    clear h C hf hs
    go_enter Try.func45, Try.ntmps45
    go_wp2_with fail
    refine HC.out.mono ?_
    rintro e w2 ⟨rfl, hb⟩
    have HB := Lib.hid hb
    have qn := (HA.out.on hb).2.1
    clear hb q0 q1
    go_wp2
    go_ret
    exact ⟨by simp, HB.out⟩
def SPost (zs : List Int) (c m : Int) (T : Nat) (w : World) (e : Ending) (w' : World) : Prop := ∃ K : Nat, e = .returned (.int .i64 (K : Int)) ∧ K ≤ T ∧ (∀ u, u < K → enough zs c m u = false) ∧ (K < T → enough zs c m K = true) ∧ Below w.heap.size w w'
set_option maxRecDepth 100000 in
set_option maxHeartbeats 1000000 in
theorem search_any {zs : List Int} {c m : Int} {bs bn g len cap b1 : Nat} {w : World} (h : Asks zs c m bs bn g len cap b1 w) (hl : len ≤ 1048576) (T : Nat) (hT : T ≤ 2000) :
    Calls Try.prog 44 #[.int .i64 (T : Int), .func (.func 45) #[] #[.pointer (some ⟨bs, 0, none⟩), .pointer (some ⟨bn, 0, none⟩)]] w (SPost zs c m T w) := by
  have HA := Lib.hid h
  have eg : ∀ args w, (callFunc 45 args).run Try.prog w = .ok (.enter 45 args) w := enters_of Try.func45 (by kernel_rfl) rfl
  clear h
  go_enter Try.func44, Try.ntmps44
  go_wp2
  go_loopg [5, 6] T (fun gk x y wr => ∃ i j : Nat, gk = j - i ∧ i ≤ j ∧ j ≤ T ∧ x = .int .i64 (i : Int) ∧ y = .int .i64 (j : Int) ∧ (∀ u, u < i → enough zs c m u = false) ∧ (j < T → enough zs c m j = true) ∧ Below w.heap.size w wr)
  case atStart => exact ⟨0, T, rfl, Nat.zero_le _, Nat.le_refl _, rfl, rfl, fun u hu => by omega, fun hh => by omega, Below.refl _ _⟩
  case round =>
    obtain ⟨i, j, hgk, hij, hjT, rfl, rfl, h1, h2, hb⟩ := hrel
    have GK := Lib.hid hgk
    have H1 := Lib.hid h1
    have H2 := Lib.hid h2
    have HB := Lib.hid hb
    clear hgk h1 h2 hb
    by_cases hlt : i < j
    · obtain ⟨k, hk⟩ : ∃ k : Nat, ((i : Int) + (j : Int)) / 2 = (k : Int) := ⟨(i + j) / 2, by omega⟩
      have k1 : i ≤ k := by omega
      have k2 : k < j := by omega
      have C := ask_any (HA.out.on HB.out) hl k
      cases hp : enough zs c m k with
      | false =>
        rw [hp] at C
        have HC := Lib.hid C
        have N := Lib.hid (show ∀ u, u < k + 1 → enough zs c m u = false from fun u hu => by
          cases h3 : enough zs c m u with
          | false => rfl
          | true =>
            have := enough_mono (zs := zs) (c := c) (m := m) (j := u) (k := k) (by omega) (by omega) h3
            rw [hp] at this
            cases this)
        clear C hp
        go_wp2_with fail
        refine HC.out.mono ?_
        rintro e w2 ⟨rfl, hb⟩
        have HB2 := Lib.hid (HB.out.trans (below_le hb HB.out.size))
        clear hb
        go_wp2
        go_roundg (j - (k + 1))
        case measure => have := GK.out; omega
        case rel => exact ⟨k + 1, j, rfl, by omega, hjT, by go_num, rfl, N.out, H2.out, HB2.out⟩
      | true =>
        rw [hp] at C
        have HC := Lib.hid C
        have HP := Lib.hid hp
        clear C hp
        go_wp2_with fail
        refine HC.out.mono ?_
        rintro e w2 ⟨rfl, hb⟩
        have HB2 := Lib.hid (HB.out.trans (below_le hb HB.out.size))
        clear hb
        go_wp2
        go_roundg (k - i)
        case measure => have := GK.out; omega
        case rel => exact ⟨i, k, rfl, k1, by omega, rfl, rfl, H1.out, fun _ => HP.out, HB2.out⟩
    · have e : i = j := by omega
      subst e
      go_wp2
      go_ret
      exact ⟨i, rfl, hjT, H1.out, H2.out, HB.out⟩
set_option maxRecDepth 100000 in
set_option maxHeartbeats 1000000 in
theorem iLeast {b1 g len cap : Nat} {zs : List Int} {c : Int} {w : World} (h : Ow w b1 g len cap zs) (hl : len ≤ 1048576) (m : Int) :
    Calls Try.prog 28 #[V g len cap c, .int .i64 m] w (Ret (.tuple #[.int .i64 (lsv zs c m), .bool (lok zs c m)]) w) := by
  have hn0 := Lib.hid (show ((bx w g len cap c).alloc (.cells #[.int .i64 m] 3)).cell? ⟨w.heap.size + 1, 0, none⟩ = some (.int .i64 m) by simp [go_sem])
  have HO := Lib.hid ((bx_ow h c).alloc (.cells #[.int .i64 m] 3))
  have HB0 := Lib.hid ((bx_below w g len cap c).alloc (by simp) (.cells #[.int .i64 m] 3))
  have B := (bx_b2 w g len cap c).on (below_alloc1 _ (.cells #[.int .i64 m] 3))
  obtain ⟨-, q0, q1⟩ := id B
  have C := iWidth (c := c) HO.out hl
  have eg : ∀ args w, (callFunc 45 args).run Try.prog w = .ok (.enter 45 args) w := enters_of Try.func45 (by kernel_rfl) rfl
  have HBX := Lib.hid B
  have SZ := Lib.hid (show w.heap.size + 1 < ((bx w g len cap c).alloc (.cells #[.int .i64 m] 3)).heap.size by simp)
  cases hg : good zs c with
  | false =>
    rw [hg] at C
    have HC := Lib.hid C
    have E := Lib.hid (show lok zs c m = false by unfold lok; rw [hg]; rfl)
    have E2 := Lib.hid (show lsv zs c m = 0 by unfold lsv; rw [E.out]; rfl)
    rw [E.out, E2.out]
    clear h C hg
    go_enter Try.func28, Try.ntmps28
    go_wp2_with fail
    refine HC.out.mono ?_
    rintro e w1 ⟨rfl, hb⟩
    have HB := Lib.hid (HB0.out.trans (below_le hb HB0.out.size))
    clear hb B q0 q1
    go_wp2
    go_ret2
    exact ⟨rfl, HB.out⟩
  | true =>
    rw [hg] at C
    have HC := Lib.hid C
    have ho := (good_iff zs c).1 hg
    by_cases m1 : m < 1
    · have E := Lib.hid (show lok zs c m = false by unfold lok; rw [show decide (1 ≤ m) = false by simp; omega, Bool.false_and, Bool.and_false])
      have E2 := Lib.hid (show lsv zs c m = 0 by unfold lsv; rw [E.out]; rfl)
      rw [E.out, E2.out]
      clear h C hg ho
      go_enter Try.func28, Try.ntmps28
      go_wp2_with fail
      refine HC.out.mono ?_
      rintro e w1 ⟨rfl, hb⟩
      have HB := Lib.hid (HB0.out.trans (below_le hb HB0.out.size))
      have qn := (hb.cell (p := ⟨w.heap.size + 1, 0, none⟩) SZ.out).trans hn0.out
      clear hb B q0 q1
      go_wp2
      go_ret2
      exact ⟨rfl, HB.out⟩
    · have tm1 : decide (m < 1) = false := by simpa using m1
      by_cases m2 : 8 < m
      · have E := Lib.hid (show lok zs c m = false by unfold lok; rw [show decide (m ≤ 8) = false by simp; omega, Bool.and_false, Bool.and_false])
        have E2 := Lib.hid (show lsv zs c m = 0 by unfold lsv; rw [E.out]; rfl)
        rw [E.out, E2.out]
        clear h C hg ho m1
        go_enter Try.func28, Try.ntmps28
        go_wp2_with fail
        refine HC.out.mono ?_
        rintro e w1 ⟨rfl, hb⟩
        have HB := Lib.hid (HB0.out.trans (below_le hb HB0.out.size))
        have qn := (hb.cell (p := ⟨w.heap.size + 1, 0, none⟩) SZ.out).trans hn0.out
        clear hb B q0 q1
        go_wp2
        go_ret2
        exact ⟨rfl, HB.out⟩
      · have tm2 : decide (8 < m) = false := by simpa using m2
        have L := Lib.hid (show lok zs c m = true by unfold lok; rw [hg]; simp; omega)
        obtain ⟨T, hT, hT1, hT2, hTe⟩ := enough_all (c := c) (m := m) ho (by omega)
        have E1 := Lib.hid (show wd zs c = (T : Int) by unfold wd; rw [if_pos hg, hT])
        have HTE := Lib.hid hTe
        have hT3 : T ≤ 2000 := by omega
        rw [E1.out] at HC
        have AS := Lib.hid (show Asks zs c m w.heap.size (w.heap.size + 1) g len cap b1 ((bx w g len cap c).alloc (.cells #[.int .i64 m] 3)) from ⟨HBX.out, hn0.out, SZ.out, HO.out⟩)
        rw [L.out]
        clear h C hg ho m1 m2 hT hTe hT1 hT2
        go_enter Try.func28, Try.ntmps28
        go_wp2_with fail
        refine HC.out.mono ?_
        rintro e w1 ⟨rfl, hb⟩
        have HB := Lib.hid (HB0.out.trans (below_le hb HB0.out.size))
        have qn := (hb.cell (p := ⟨w.heap.size + 1, 0, none⟩) SZ.out).trans hn0.out
        have AS1 := Lib.hid (AS.out.on hb)
        clear hb B q0 q1
        go_wp2_with fail
        refine (search_any AS1.out hl T hT3).mono ?_
        rintro e w2 ⟨K, rfl, k1, k2, k3, hb⟩
        have HB2 := Lib.hid (HB.out.trans (below_le hb HB.out.size))
        have EK := Lib.hid (show lsv zs c m = (K : Int) from lsv_is L.out (by
          by_cases e : K < T
          · exact k3 e
          · rw [show K = T by omega]; exact HTE.out) k2 (by omega))
        clear hb k2 k3 qn
        go_wp2
        go_ret2
        exact ⟨by rw [EK.out]; rfl, HB2.out⟩
set_option maxRecDepth 100000 in
set_option maxHeartbeats 1000000 in
theorem sLeast {b1 g len cap : Nat} {zs : List Int} {c : Int} {w : World} (h : Ow w b1 g len cap zs) (hl : len ≤ 1048576) (m : Int) :
    Calls Try.prog 27 #[V g len cap c, .int .i64 m] w (Ret (.tuple #[.int .i64 (lsv zs c m), .bool (lok zs c m)]) w) := by
  have HO := Lib.hid (bx_ow h c)
  have HB0 := Lib.hid (bx_below w g len cap c)
  have B := bx_b2 w g len cap c
  obtain ⟨-, q0, q1⟩ := id B
  cases hg : good zs c with
  | false =>
    have HG := Lib.hid hg
    have E := Lib.hid (show lok zs c m = false by unfold lok; rw [hg]; rfl)
    have E2 := Lib.hid (show lsv zs c m = 0 by unfold lsv; rw [E.out]; rfl)
    rw [E.out, E2.out]
    clear h hg
    go_enter Try.func27, Try.ntmps27
    go_wp2_with fail
    refine (sGood_any HO.out hl false HG.out).mono ?_
    rintro e w1 ⟨rfl, hb⟩
    have HB := Lib.hid (HB0.out.trans (below_le hb HB0.out.size))
    clear hb B q0 q1
    go_wp2
    go_ret2
    exact ⟨rfl, HB.out⟩
  | true =>
    have HG := Lib.hid hg
    cases hw : (decide (1 ≤ m) && decide (m ≤ 8)) with
    | false =>
      have HW := Lib.hid hw
      have E := Lib.hid (show lok zs c m = false by unfold lok; rw [hw, Bool.and_false])
      have E2 := Lib.hid (show lsv zs c m = 0 by unfold lsv; rw [E.out]; rfl)
      rw [E.out, E2.out]
      clear h hg hw
      go_enter Try.func27, Try.ntmps27
      go_wp2_with fail
      refine (sGood_any HO.out hl true HG.out).mono ?_
      rintro e w1 ⟨rfl, hb⟩
      have HB := Lib.hid (HB0.out.trans (below_le hb HB0.out.size))
      clear hb B q0 q1
      go_wp2_with fail
      refine (l1In_any _ _ _ false HW.out _).mono ?_
      rintro e w' ⟨rfl, rfl⟩
      go_wp2
      go_ret2
      exact ⟨rfl, HB.out⟩
    | true =>
      have HW := Lib.hid hw
      have ho := (good_iff zs c).1 hg
      have L := Lib.hid (show lok zs c m = true by unfold lok; rw [hg, hw]; rfl)
      have m1 : 1 ≤ m := by have : 1 ≤ m ∧ m ≤ 8 := by simpa using hw
                            omega
      obtain ⟨T, -, hT1, hT2, hTe⟩ := enough_all (c := c) (m := m) ho m1
      have HTE := Lib.hid hTe
      rw [L.out]
      clear h hg hw ho m1 hTe
      go_enter Try.func27, Try.ntmps27
      go_wp2_with fail
      refine (sGood_any HO.out hl true HG.out).mono ?_
      rintro e w1 ⟨rfl, hb⟩
      have HB := Lib.hid (HB0.out.trans (below_le hb HB0.out.size))
      have HO1 := Lib.hid (Li.own_on HO.out hb)
      have HBX := Lib.hid (B.on hb)
      clear hb q0 q1 B
      go_wp2_with fail
      refine (l1In_any _ _ _ true HW.out _).mono ?_
      rintro e w' ⟨rfl, rfl⟩
      go_wp2
      go_loopw [6] (fun x wr => ∃ k : Nat, 1 ≤ k ∧ k ≤ T ∧ x = .int .i64 (k : Int) ∧ (∀ u, u < k → enough zs c m u = false) ∧ Below w1.heap.size w1 wr) (fun x _ => ((T : Int) - intOf x).toNat)
      case atStart => exact ⟨1, by omega, hT1, rfl, fun u hu => by rw [show u = 0 by omega]; exact enough_zero zs c m, Below.refl _ _⟩
      case round =>
        obtain ⟨k, hk1, hk2, rfl, hall, hb⟩ := hrel
        have HA := Lib.hid hall
        have HBW := Lib.hid hb
        obtain ⟨-, q0, q1⟩ := HBX.out.on hb
        have C := sFor (c := c) (Li.own_on HO1.out hb) hl (k : Int)
        have hk3 : (k : Int) ≤ 2000 := by omega
        clear hall hb
        cases hf : fit zs c (k : Int) with
        | false =>
          rw [hf, sfn_no hf] at C
          have HC := Lib.hid C
          have N' : enough zs c m k = false := by unfold enough; rw [hf]; rfl
          have N := Lib.hid (show ∀ u, u < k + 1 → enough zs c m u = false from fun u hu => by
            by_cases e : u = k
            · subst e; exact N'
            · exact HA.out u (by omega))
          have NT := Lib.hid (show k ≠ T from fun e => by subst e; rw [HTE.out] at N'; cases N')
          clear C hf N'
          go_wp2_with fail
          refine HC.out.mono ?_
          rintro e w2 ⟨rfl, hb⟩
          have HB2 := Lib.hid (HBW.out.trans (below_le hb HBW.out.size))
          clear hb q0 q1
          go_wp2
          go_roundw
          case rel => exact ⟨k + 1, by omega, by have := NT.out; omega, by go_num, N.out, HB2.out⟩
          case measure => have := NT.out; simp [intOf]; omega
        | true =>
          obtain ⟨s, hs⟩ : ∃ s, sfn zs c (k : Int) = s := ⟨_, rfl⟩
          rw [hf, hs] at C
          have HC := Lib.hid C
          by_cases hsm : s ≤ m
          · have EK := Lib.hid (show lsv zs c m = (k : Int) from lsv_is L.out (by unfold enough; rw [hf, hs]; simp [hsm]) HA.out (by omega))
            rw [EK.out]
            clear C hf hs
            go_wp2_with fail
            refine HC.out.mono ?_
            rintro e w2 ⟨rfl, hb⟩
            have HB2 := Lib.hid (HB.out.trans (below_le (HBW.out.trans (below_le hb HBW.out.size)) HB.out.size))
            clear hb q0 q1
            go_wp2
            go_ret2
            exact ⟨rfl, HB2.out⟩
          · have N' : enough zs c m k = false := by unfold enough; rw [hf, hs]; simp; omega
            have N := Lib.hid (show ∀ u, u < k + 1 → enough zs c m u = false from fun u hu => by
              by_cases e : u = k
              · subst e; exact N'
              · exact HA.out u (by omega))
            have NT := Lib.hid (show k ≠ T from fun e => by subst e; rw [HTE.out] at N'; cases N')
            have ts : decide (s ≤ m) = false := by simpa using hsm
            clear C hf N' hs hsm
            go_wp2_with fail
            refine HC.out.mono ?_
            rintro e w2 ⟨rfl, hb⟩
            have HB2 := Lib.hid (HBW.out.trans (below_le hb HBW.out.size))
            clear hb q0 q1
            go_wp2
            go_roundw
            case rel => exact ⟨k + 1, by omega, by have := NT.out; omega, by go_num, N.out, HB2.out⟩
            case measure => have := NT.out; simp [intOf]; omega
end Sh
end Go.Proofs.Ytogkebbgkeffcab
