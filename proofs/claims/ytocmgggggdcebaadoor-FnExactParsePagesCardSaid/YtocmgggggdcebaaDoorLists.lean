/- What spec.bpList and impl.isPageList answer: whether a slice of at most 1048576 integers is an increasing list of 1 to 20 pages; and what impl.runLength answers of such a list's end. -/
import Derived.Test.YtocmgggggdcebaaDoorInts
import Derived.Test.YtocmgggggdcebaaDoorText
import Derived.Outline
namespace Go.Proofs.YtocmgggggdcebaaDoor
open Go.RowKit
def Good (zs : List Int) (i : Nat) : Prop := 1 ≤ T.at_ zs i ∧ T.at_ zs i ≤ 2000 ∧ (0 < i → T.at_ zs (i - 1) < T.at_ zs i)
def Rises (zs : List Int) : Prop := ∀ i, i < zs.length → Good zs i
def Pages (zs : List Int) : Prop := 1 ≤ zs.length ∧ zs.length ≤ 20 ∧ Rises zs
theorem l1In_yes (n lo hi : Int) (h1 : lo ≤ n) (h2 : n ≤ hi) (w : World) :
    Calls Tryd.prog 22 #[.int .i64 n, .int .i64 lo, .int .i64 hi] w fun e w' => e = .returned (.bool true) ∧ w = w' := by
  go_enter Tryd.func22, Tryd.ntmps22
  go_wp2
  go_ret
  exact ⟨rfl, rfl⟩
theorem l1In_no (n lo hi : Int) (h : ¬ (lo ≤ n ∧ n ≤ hi)) (w : World) :
    Calls Tryd.prog 22 #[.int .i64 n, .int .i64 lo, .int .i64 hi] w fun e w' => e = .returned (.bool false) ∧ w = w' := by
  by_cases c : lo ≤ n
  · have c2 : ¬ n ≤ hi := by omega
    clear h
    go_enter Tryd.func22, Tryd.ntmps22
    go_wp2
    go_ret
    exact ⟨rfl, rfl⟩
  · clear h
    go_enter Tryd.func22, Tryd.ntmps22
    go_wp2
    go_ret
    exact ⟨rfl, rfl⟩
theorem ret_b {a b : Bool} (h : a = b) : Ending.returned (.bool a) = .returned (.bool b) := by rw [h]
theorem ret_i {a b : Int} (h : a = b) : Ending.returned (.int .i64 a) = .returned (.int .i64 b) := by rw [h]
def RisesTo (zs : List Int) (k : Nat) : Prop := ∀ i, i < k → Good zs i
theorem risesTo_next {zs : List Int} {k : Nat} (h : RisesTo zs k) (g : Good zs k) : RisesTo zs (k + 1) := fun i hi => by
  by_cases e : i = k
  · rw [e]; exact g
  · exact h i (by omega)
open Classical in
set_option maxRecDepth 100000 in
set_option maxHeartbeats 1000000 in
theorem rising_any (b off len cap : Nat) (zs : List Int) (w : World) (h : RowAt w b off len zs) :
    Calls Tryd.prog 26 #[.slice (some ⟨b, off, none⟩) len cap, .int .i64 1, .int .i64 2000] w fun e w' => e = .returned (.bool (decide (Rises zs))) ∧ Below w.heap.size w w' := by
  have HC := Lib.hid h
  have hm := h.2.1
  have HL := Lib.hid h.1
  clear h
  go_enter Tryd.func26, Tryd.ntmps26
  go_wp2_with fail
  go_loopw [6, 11] (fun a i wr => a = .bool false ∧ ∃ k : Nat, k ≤ len ∧ i = .int .i64 (k : Int) ∧ RisesTo zs k ∧ Below w.heap.size w wr) (fun _ i _ => ((len : Int) - intOf i).toNat)
  case atStart => exact ⟨rfl, 0, by omega, rfl, fun i hi => by omega, Below.refl _ _⟩
  case round =>
    obtain ⟨rfl, k, hk, rfl, hr, hb⟩ := hrel
    by_cases hlt : k < len
    · have hc := (HC.out.on hb).2.2.2 k hlt
      have hlen : k < zs.length := by rw [HL.out]; exact hlt
      obtain ⟨x, hx⟩ : ∃ x, x = T.at_ zs k := ⟨_, rfl⟩
      rw [show zs.getD k 0 = x from hx.symm] at hc
      have HX := Lib.hid hx
      clear hx
      by_cases hin : 1 ≤ x ∧ x ≤ 2000
      · by_cases hk0 : k = 0
        · subst hk0
          have HN : Hid (RisesTo zs (0 + 1)) := Lib.hid (risesTo_next hr ⟨by rw [← HX.out]; exact hin.1, by rw [← HX.out]; exact hin.2, fun h => by omega⟩)
          have I := Lib.hid (fun w => l1In_yes x 1 2000 hin.1 hin.2 w)
          clear hin hr hlen
          rw [Nat.add_zero] at hc
          go_wp2_with fail
          refine (I.out _).mono ?_
          rintro e w' ⟨rfl, rfl⟩
          go_wp2_with fail
          go_roundw
          case rel => exact ⟨rfl, 1, by omega, rfl, HN.out, hb⟩
          case measure => simp [intOf]; omega
        · obtain ⟨j, rfl⟩ : ∃ j, k = j + 1 := ⟨k - 1, by omega⟩
          have hcj := (HC.out.on hb).2.2.2 j (by omega)
          obtain ⟨y, hy⟩ : ∃ y, y = T.at_ zs j := ⟨_, rfl⟩
          rw [show zs.getD j 0 = y from hy.symm] at hcj
          have HY := Lib.hid hy
          have I := Lib.hid (fun w => l1In_yes x 1 2000 hin.1 hin.2 w)
          clear hy hk0
          by_cases hyx : y < x
          · have HN : Hid (RisesTo zs (j + 1 + 1)) := Lib.hid (risesTo_next hr ⟨by rw [← HX.out]; exact hin.1, by rw [← HX.out]; exact hin.2, fun _ => by show T.at_ zs j < _; rw [← HX.out, ← HY.out]; exact hyx⟩)
            clear hin hr hlen
            go_wp2_with fail
            refine (I.out _).mono ?_
            rintro e w' ⟨rfl, rfl⟩
            go_wp2_with fail
            go_roundw
            case rel => exact ⟨rfl, j + 1 + 1, by omega, by go_num, HN.out, hb⟩
            case measure => simp [intOf]; omega
          · have HF : Hid (decide (Rises zs) = false) := Lib.hid (decide_eq_false (fun g => hyx (by have := (g (j + 1) hlen).2.2 (by omega); rw [← HX.out] at this; have h2 : T.at_ zs j < x := this; rw [← HY.out] at h2; exact h2)))
            clear hin hr hlen
            go_wp2_with fail
            refine (I.out _).mono ?_
            rintro e w' ⟨rfl, rfl⟩
            go_wp2_with fail
            go_ret
            exact ⟨ret_b HF.out.symm, hb⟩
      · have HF : Hid (decide (Rises zs) = false) := Lib.hid (decide_eq_false (fun g => hin (by have := g k hlen; rw [HX.out]; exact ⟨this.1, this.2.1⟩)))
        have I := Lib.hid (fun w => l1In_no x 1 2000 hin w)
        clear hin hr hlen
        go_wp2_with fail
        refine (I.out _).mono ?_
        rintro e w' ⟨rfl, rfl⟩
        go_wp2_with fail
        go_ret
        exact ⟨ret_b HF.out.symm, hb⟩
    · have HF : Hid (decide (Rises zs) = true) := Lib.hid (decide_eq_true (fun i hi => hr i (by rw [HL.out] at hi; omega)))
      clear hr
      go_wp2_with fail
      go_ret
      exact ⟨ret_b HF.out.symm, hb⟩
open Classical in
set_option maxRecDepth 100000 in
theorem bpList_any (g n cap : Nat) (zs : List Int) (w : World) (h : RowAt w g 0 n zs) :
    Calls Tryd.prog 13 #[.slice (some ⟨g, 0, none⟩) n cap] w fun e w' => e = .returned (.bool (decide (Pages zs))) ∧ Below w.heap.size w w' := by
  have hm := h.2.1
  have hl := h.1
  by_cases hn : 1 ≤ (n : Int) ∧ (n : Int) ≤ 20
  · have I := Lib.hid (fun w => l1In_yes n 1 20 hn.1 hn.2 w)
    have R := Lib.hid (fun w h => rising_any g 0 n cap zs w h)
    have HC := Lib.hid h
    have HE : Hid (decide (Rises zs) = decide (Pages zs)) := Lib.hid (by
      have : Rises zs ↔ Pages zs := ⟨fun x => ⟨by omega, by omega, x⟩, fun x => x.2.2⟩
      simp [this])
    clear h hl
    go_enter Tryd.func13, Tryd.ntmps13
    go_wp2_with fail
    refine (I.out _).mono ?_
    rintro e w' ⟨rfl, rfl⟩
    go_wp2_with fail
    refine (R.out _ HC.out).mono ?_
    rintro e w' ⟨rfl, hb⟩
    go_wp2_with fail
    go_ret
    exact ⟨ret_b HE.out, hb⟩
  · have I := Lib.hid (fun w => l1In_no n 1 20 hn w)
    have HE : Hid (decide (Pages zs) = false) := Lib.hid (decide_eq_false (fun x => hn ⟨by have := x.1; omega, by have := x.2.1; omega⟩))
    clear h hl hn
    go_enter Tryd.func13, Tryd.ntmps13
    go_wp2_with fail
    refine (I.out _).mono ?_
    rintro e w' ⟨rfl, rfl⟩
    go_wp2_with fail
    go_ret
    exact ⟨ret_b HE.out.symm, Below.refl _ _⟩
def Before (zs : List Int) (k : Nat) (y : Int) : Prop := 0 ≤ y ∧ ((k = 0 ∧ y = 0) ∨ (0 < k ∧ y = T.at_ zs (k - 1)))
theorem good_iff {zs : List Int} {k : Nat} {y : Int} (h : Before zs k y) : Good zs k ↔ y < T.at_ zs k ∧ T.at_ zs k ≤ 2000 := by
  obtain ⟨h0, ⟨h1, h2⟩ | ⟨h1, h2⟩⟩ := h
  · exact ⟨fun g => ⟨by have := g.1; omega, g.2.1⟩, fun g => ⟨by omega, g.2, fun hk => by omega⟩⟩
  · exact ⟨fun g => ⟨by rw [h2]; exact g.2.2 h1, g.2.1⟩, fun g => ⟨by omega, g.2, fun _ => by rw [← h2]; exact g.1⟩⟩
open Classical in
set_option maxRecDepth 100000 in
set_option maxHeartbeats 1000000 in
theorem areInc_any (g n cap : Nat) (zs : List Int) (w : World) (h : RowAt w g 0 n zs) :
    Calls Tryd.prog 28 #[.slice (some ⟨g, 0, none⟩) n cap, .int .i64 2000] w fun e w' => e = .returned (.bool (decide (∀ i, i < zs.length → Good zs i))) ∧ Below w.heap.size w w' := by
  have HC := Lib.hid h
  have hm := h.2.1
  have HL := Lib.hid h.1
  clear h
  go_enter Tryd.func28, Tryd.ntmps28
  go_wp2_with fail
  go_loopw [4, 5, 10] (fun a b i wr => a = .bool false ∧ ∃ (k : Nat) (y : Int), k ≤ n ∧ i = .int .i64 (k : Int) ∧ b = .int .i64 y ∧ Before zs k y ∧ RisesTo zs k ∧ Below w.heap.size w wr) (fun _ _ i _ => ((n : Int) - intOf i).toNat)
  case atStart => exact ⟨rfl, 0, 0, by omega, rfl, rfl, ⟨by omega, Or.inl ⟨rfl, rfl⟩⟩, fun i hi => by omega, Below.refl _ _⟩
  case round =>
    obtain ⟨rfl, k, y, hk, rfl, rfl, hbf, hr, hb⟩ := hrel
    by_cases hlt : k < n
    · have hc := (HC.out.on hb).2.2.2 k hlt
      have hlen : k < zs.length := by rw [HL.out]; exact hlt
      rw [Nat.zero_add] at hc
      obtain ⟨x, hx⟩ : ∃ x, x = T.at_ zs k := ⟨_, rfl⟩
      rw [show zs.getD k 0 = x from hx.symm] at hc
      have HX := Lib.hid hx
      have hgi := good_iff hbf
      have hy0 := hbf.1
      rw [← hx] at hgi
      clear hx
      by_cases hyx : y < x
      · by_cases hx2 : x ≤ 2000
        · have HN : Hid (RisesTo zs (k + 1)) := Lib.hid (risesTo_next hr (hgi.2 ⟨hyx, hx2⟩))
          have HB : Hid (Before zs (k + 1) x) := Lib.hid ⟨by omega, Or.inr ⟨by omega, HX.out⟩⟩
          clear hgi hbf hr hlen
          go_wp2_with fail
          go_roundw
          case rel => exact ⟨rfl, k + 1, x, by omega, by go_num, rfl, HB.out, HN.out, hb⟩
          case measure => simp [intOf]; omega
        · have HF : Hid (decide (∀ i, i < zs.length → Good zs i) = false) := Lib.hid (decide_eq_false (fun q => by have := hgi.1 (q k hlen); omega))
          clear hgi hbf hr hlen
          go_wp2_with fail
          go_ret
          exact ⟨ret_b HF.out.symm, hb⟩
      · have HF : Hid (decide (∀ i, i < zs.length → Good zs i) = false) := Lib.hid (decide_eq_false (fun q => by have := hgi.1 (q k hlen); omega))
        clear hgi hbf hr hlen
        go_wp2_with fail
        go_ret
        exact ⟨ret_b HF.out.symm, hb⟩
    · have HF : Hid (decide (∀ i, i < zs.length → Good zs i) = true) := Lib.hid (decide_eq_true (fun i hi => hr i (by rw [HL.out] at hi; omega)))
      clear hr hbf
      go_wp2_with fail
      go_ret
      exact ⟨ret_b HF.out.symm, hb⟩
open Classical in
set_option maxRecDepth 100000 in
set_option maxHeartbeats 1000000 in
theorem isPageList_any (g n cap : Nat) (zs : List Int) (w : World) (h : RowAt w g 0 n zs) :
    Calls Tryd.prog 15 #[.slice (some ⟨g, 0, none⟩) n cap] w fun e w' => e = .returned (.bool (decide (Pages zs))) ∧ Below w.heap.size w w' := by
  have HC := Lib.hid (fun w => areInc_any g n cap zs w)
  have HA := Lib.hid h
  have hm := h.2.1
  have HL := Lib.hid h.1
  clear h
  by_cases c1 : (n : Int) < 1
  · have HF : Hid (decide (Pages zs) = false) := Lib.hid (decide_eq_false (fun x => by have := x.1; rw [HL.out] at this; omega))
    go_enter Tryd.func15, Tryd.ntmps15
    go_wp2_with fail
    go_ret
    exact ⟨ret_b HF.out.symm, Below.refl _ _⟩
  · by_cases c2 : 20 < (n : Int)
    · have HF : Hid (decide (Pages zs) = false) := Lib.hid (decide_eq_false (fun x => by have := x.2.1; rw [HL.out] at this; omega))
      go_enter Tryd.func15, Tryd.ntmps15
      go_wp2_with fail
      go_ret
      exact ⟨ret_b HF.out.symm, Below.refl _ _⟩
    · have HF : Hid (decide (∀ i, i < zs.length → Good zs i) = decide (Pages zs)) := Lib.hid (decide_eq_decide.mpr ⟨fun x => ⟨by rw [HL.out]; omega, by rw [HL.out]; omega, x⟩, fun x => x.2.2⟩)
      go_enter Tryd.func15, Tryd.ntmps15
      go_wp2_with fail
      refine (HC.out _ HA.out).mono ?_
      rintro e w' ⟨rfl, hb⟩
      go_wp2_with fail
      go_ret
      exact ⟨ret_b HF.out, hb⟩
set_option maxRecDepth 100000 in
set_option maxHeartbeats 1000000 in
theorem runLength_any (g n cap i : Nat) (zs : List Int) (w : World) (h : RowAt w g 0 n zs) (hp : Pages zs) (hi : i < n) :
    Calls Tryd.prog 16 #[.slice (some ⟨g, i, none⟩) (n - i : Nat) cap] w fun e w' => e = .returned (.int .i64 (T.rl zs i : Int)) ∧ Below w.heap.size w w' := by
  have hl := h.1
  have HC := Lib.hid h
  have hn20 : n ≤ 20 := by rw [← hl]; exact hp.2.1
  have HP := Lib.hid hp
  have HL := Lib.hid hl
  have HR : Hid (T.Run zs i 1) := Lib.hid (T.run_first (by omega))
  clear h hp hl
  obtain ⟨m, hm⟩ : ∃ m, m = n - i := ⟨_, rfl⟩
  rw [← hm]
  have HM : Hid (i + m = n) := Lib.hid (by omega)
  have hm1 : 1 ≤ m := by omega
  have hm2 : m ≤ 20 := by omega
  clear hm
  go_enter Tryd.func16, Tryd.ntmps16
  go_wp2_with fail
  go_loopw [3] (fun q wr => ∃ r : Nat, r ≤ m ∧ q = .int .i64 (r : Int) ∧ T.Run zs i r ∧ Below w.heap.size w wr) (fun q _ => ((m : Int) - intOf q).toNat)
  case atStart => exact ⟨1, hm1, rfl, HR.out, Below.refl _ _⟩
  case round =>
    obtain ⟨r, hr, rfl, hrun, hb⟩ := hrel
    have hrow := HC.out.on hb
    have g0 := HP.out.2.2 i (by rw [HL.out]; exact hi)
    obtain ⟨x, hx⟩ : ∃ x, x = T.at_ zs i := ⟨_, rfl⟩
    have hc0 := hrow.2.2.2 i hi
    rw [Nat.zero_add, show zs.getD i 0 = x from hx.symm] at hc0
    have hx1 : 1 ≤ x := by rw [hx]; exact g0.1
    have hx2 : x ≤ 2000 := by rw [hx]; exact g0.2.1
    have HX := Lib.hid hx
    clear g0 hx
    by_cases hlt : (r : Int) < (m : Int)
    · have hir : i + r < n := by have := HM.out; omega
      have hcr := hrow.2.2.2 (i + r) hir
      have gr := HP.out.2.2 (i + r) (by rw [HL.out]; exact hir)
      obtain ⟨y, hy⟩ : ∃ y, y = T.at_ zs (i + r) := ⟨_, rfl⟩
      rw [Nat.zero_add, show zs.getD (i + r) 0 = y from hy.symm] at hcr
      have hy1 : 1 ≤ y := by rw [hy]; exact gr.1
      have hy2 : y ≤ 2000 := by rw [hy]; exact gr.2.1
      have HY := Lib.hid hy
      clear gr hy hrow
      by_cases hq : y = x + r
      · have HN : Hid (T.Run zs i (r + 1)) := Lib.hid (T.run_next hrun (by rw [HL.out]; exact hir) (by rw [← HY.out, ← HX.out]; exact hq))
        have hqb : (y == x + (r : Int)) = true := by simp; exact hq
        clear hq hrun
        go_wp2_with fail
        go_quiet (fail)
        go_wp2_with fail
        go_roundw
        case rel => exact ⟨r + 1, by omega, by go_num, HN.out, below_draws hb _⟩
        case measure => simp [intOf]; omega
      · have HE : Hid (r = T.rl zs i) := Lib.hid (T.rl_is ⟨hrun, fun _ he => hq (by rw [HX.out, HY.out]; exact he)⟩)
        have hqb : (y == x + (r : Int)) = false := by simp; exact hq
        clear hq hrun
        go_wp2_with fail
        go_quiet (fail)
        go_wp2_with fail
        go_ret
        exact ⟨ret_i (by rw [← HE.out]), below_draws hb _⟩
    · have HE : Hid (r = T.rl zs i) := Lib.hid (T.rl_is ⟨hrun, fun hh => by have := HM.out; rw [HL.out] at hh; omega⟩)
      have hd : decide (r < m) = false := by simpa using hlt
      clear hrow hrun hlt
      go_wp2_with fail
      go_quiet (fail)
      go_wp2_with fail
      go_ret
      exact ⟨ret_i (by rw [← HE.out]), below_draws hb _⟩
end Go.Proofs.YtocmgggggdcebaaDoor
