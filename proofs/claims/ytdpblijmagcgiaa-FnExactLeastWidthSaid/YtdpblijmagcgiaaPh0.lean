/- The least width: both sides. -/
import Derived.Test.YtdpblijmagcgiaaAr
namespace Go.Proofs.Ytdpblijmagcgiaa
open Go.RowKit Go.Joins Go.Deep Go.ChangeShapes Go.WideShapes
set_option linter.unusedVariables false
set_option linter.unusedSimpArgs false
namespace Ln
/-- the least width from wide on, of d more -/
def lwF (zs : List Int) (ls : Int) : Nat → Int → Int × Bool
  | 0, _ => (0, false)
  | d + 1, x => if (fits zs x && decide (clN zs x ≤ ls)) = true then (x, true) else lwF zs ls d (x + 1)
def lw (zs : List Int) (ls : Int) : Int × Bool := if (decide (1 ≤ ls) && decide (ls ≤ 30)) = true then lwF zs ls 80 1 else (0, false)
theorem lw_yes {zs : List Int} {ls x : Int} {d : Nat} (h1 : fits zs x = true) (h2 : clN zs x ≤ ls) : lwF zs ls (d + 1) x = (x, true) := by
  show (if _ then _ else _) = _
  rw [h1, decide_eq_true h2]
  rfl
theorem lw_no {zs : List Int} {ls x : Int} {d : Nat} (h : fits zs x = false ∨ ¬ clN zs x ≤ ls) : lwF zs ls (d + 1) x = lwF zs ls d (x + 1) := by
  show (if _ then _ else _) = _
  rcases h with h | h
  · rw [h]; rfl
  · rw [decide_eq_false h, Bool.and_false]; rfl
theorem lw_bad {zs : List Int} {ls : Int} (h : good zs = false) : ∀ d x, lwF zs ls d x = (0, false) := by
  intro d
  induction d with
  | zero => intro _; rfl
  | succ d ih =>
    intro x
    rw [lw_no (_root_.Or.inl (by unfold fits; rw [h]; rfl))]
    exact ih _
theorem rpair {p : Int × Bool} {a : Int} {b : Bool} (h : p = (a, b)) : Ending.returned (.tuple #[.int .i64 a, .bool b]) = .returned (.tuple #[.int .i64 p.1, .bool p.2]) := by rw [h]
theorem clN_bd {zs : List Int} (h : zs.length ≤ 1048576) (x : Int) : 0 ≤ clN zs x ∧ clN zs x ≤ 1048576 := by
  have := flZ_len zs x h
  unfold clN
  omega
set_option maxRecDepth 100000 in
set_option maxHeartbeats 4000000 in
theorem iLeastW {b1 g len cap : Nat} {zs : List Int} {ls : Int} {w : World} (h : Ow w b1 g len cap zs) (hl : len ≤ 1048576) :
    Calls Try.prog 28 #[.slice (some ⟨g, 0, none⟩) len cap, .int .i64 ls] w (Ret (.tuple #[.int .i64 (lw zs ls).1, .bool (lw zs ls).2]) w) := by
  have HO := Lib.hid h
  have HC := Lib.hid (fun x => clN_bd (zs := zs) (by have := ow_len h; omega) x)
  by_cases c1 : ls < 1
  · have HE := Lib.hid (show lw zs ls = (0, false) by unfold lw; rw [show decide (1 ≤ ls) = false by simp; omega]; rfl)
    clear h
    go_enter Try.func28, Try.ntmps28
    go_wp2
    go_ret2
    exact ⟨rpair HE.out, Below.refl _ _⟩
  · by_cases c2 : 30 < ls
    · have HE := Lib.hid (show lw zs ls = (0, false) by unfold lw; rw [show decide (ls ≤ 30) = false by simp; omega, Bool.and_false]; rfl)
      have t1 : decide (ls < 1) = false := decide_eq_false c1
      clear h
      go_enter Try.func28, Try.ntmps28
      go_wp2
      go_ret2
      exact ⟨rpair HE.out, Below.refl _ _⟩
    · have HE := Lib.hid (show lw zs ls = lwF zs ls 80 1 by unfold lw; rw [show decide (1 ≤ ls) = true by simp; omega, show decide (ls ≤ 30) = true by simp; omega]; rfl)
      have t1 : decide (ls < 1) = false := decide_eq_false c1
      have t2 : decide (30 < ls) = false := decide_eq_false c2
      clear h
      go_enter Try.func28, Try.ntmps28
      go_wp2
      go_loopw [6] (fun x wr => ∃ (d : Nat) (X : Int), x = .int .i64 X ∧ X = 81 - (d : Int) ∧ d ≤ 80 ∧ Hid (lw zs ls = lwF zs ls d X) ∧ Below w.heap.size w wr) (fun x _ => (81 - intOf x).toNat)
      case atStart => exact ⟨80, 1, rfl, by omega, by omega, HE, Below.refl _ _⟩
      case round =>
        obtain ⟨d, X, rfl, hX, hd, HF, hb⟩ := hrel
        have HB := Lib.hid hb
        have HX := Lib.hid hX
        have x0 : 1 ≤ X := by omega
        have x1 : X ≤ 81 := by omega
        clear hb
        by_cases hle : X ≤ 80
        · obtain ⟨d', rfl⟩ : ∃ d', d = d' + 1 := ⟨d - 1, by omega⟩
          have HX2 := Lib.hid (show X + 1 = 81 - (d' : Int) by omega)
          clear hX HX
          have C := Lib.hid (iCount (wide := X) (Li.own_on HO.out HB.out) hl)
          have hc := HC.out X
          obtain ⟨f, hf⟩ : ∃ f, fits zs X = f := ⟨_, rfl⟩
          obtain ⟨n, hn⟩ : ∃ n, clN zs X = n := ⟨_, rfl⟩
          rw [hf, hn] at C
          rw [hn] at hc
          cases f
          · have HF2 := Lib.hid (show lw zs ls = lwF zs ls d' (X + 1) by rw [HF.out, lw_no (_root_.Or.inl hf)])
            clear hf hn
            go_wp2_with fail
            refine C.out.mono ?_
            rintro e w1 ⟨rfl, hb1⟩
            have HB1 := Lib.hid (HB.out.trans (below_le hb1 HB.out.size))
            clear hb1
            go_wp2
            go_roundw
            case rel => exact ⟨d', X + 1, by first | rfl | go_num, HX2.out, by omega, HF2, HB1.out⟩
            case measure => simp [intOf]; omega
          · by_cases c3 : n ≤ ls
            · have HF2 := Lib.hid (show lw zs ls = (X, true) by rw [HF.out, lw_yes hf (by rw [hn]; exact c3)])
              clear hf hn
              go_wp2_with fail
              refine C.out.mono ?_
              rintro e w1 ⟨rfl, hb1⟩
              have HB1 := Lib.hid (HB.out.trans (below_le hb1 HB.out.size))
              clear hb1
              go_wp2
              go_ret2
              exact ⟨rpair HF2.out, HB1.out⟩
            · have HF2 := Lib.hid (show lw zs ls = lwF zs ls d' (X + 1) by rw [HF.out, lw_no (_root_.Or.inr (by rw [hn]; exact c3))])
              have t3 : decide (n ≤ ls) = false := decide_eq_false c3
              clear hf hn
              go_wp2_with fail
              refine C.out.mono ?_
              rintro e w1 ⟨rfl, hb1⟩
              have HB1 := Lib.hid (HB.out.trans (below_le hb1 HB.out.size))
              clear hb1
              go_wp2
              go_roundw
              case rel => exact ⟨d', X + 1, by first | rfl | go_num, HX2.out, by omega, HF2, HB1.out⟩
              case measure => simp [intOf]; omega
        · have HF2 := Lib.hid (show lw zs ls = (0, false) by rw [HF.out, show d = 0 by omega]; rfl)
          clear hX
          go_wp2
          go_ret2
          exact ⟨rpair HF2.out, HB.out⟩
set_option maxRecDepth 100000 in
set_option maxHeartbeats 4000000 in
theorem sLeastW {b1 g len cap : Nat} {zs : List Int} {ls : Int} {w : World} (h : Ow w b1 g len cap zs) (hl : len ≤ 1048576) :
    Calls Try.prog 27 #[.slice (some ⟨g, 0, none⟩) len cap, .int .i64 ls] w (Ret (.tuple #[.int .i64 (lw zs ls).1, .bool (lw zs ls).2]) w) := by
  have HO := Lib.hid h
  have HC := Lib.hid (fun x => clN_bd (zs := zs) (by have := ow_len h; omega) x)
  obtain ⟨x1, hx1⟩ : ∃ x, good zs = x := ⟨_, rfl⟩
  obtain ⟨x2, hx2⟩ : ∃ x, (decide (1 ≤ ls) && decide (ls ≤ 30)) = x := ⟨_, rfl⟩
  have C1 := Lib.hid (sGood_any h hl x1 hx1)
  have C2 := Lib.hid (fun W => l1In_any ls 1 30 x2 hx2 W)
  cases x1
  · have HE := Lib.hid (show lw zs ls = (0, false) by unfold lw; split <;> first | exact lw_bad hx1 _ _ | rfl)
    clear h
    go_enter Try.func27, Try.ntmps27
    go_wp2_with fail
    refine C1.out.mono ?_
    rintro e w' ⟨rfl, rfl⟩
    go_wp2
    go_ret2
    exact ⟨rpair HE.out, Below.refl _ _⟩
  · cases x2
    · have HE := Lib.hid (show lw zs ls = (0, false) by unfold lw; rw [hx2]; rfl)
      clear h
      go_enter Try.func27, Try.ntmps27
      go_wp2_with fail
      refine C1.out.mono ?_
      rintro e w' ⟨rfl, rfl⟩
      go_wp2_with fail
      refine (C2.out _).mono ?_
      rintro e w' ⟨rfl, rfl⟩
      go_wp2
      go_ret2
      exact ⟨rpair HE.out, Below.refl _ _⟩
    · have HE := Lib.hid (show lw zs ls = lwF zs ls 80 1 by unfold lw; rw [hx2]; rfl)
      clear h
      go_enter Try.func27, Try.ntmps27
      go_wp2_with fail
      refine C1.out.mono ?_
      rintro e w' ⟨rfl, rfl⟩
      go_wp2_with fail
      refine (C2.out _).mono ?_
      rintro e w' ⟨rfl, rfl⟩
      go_wp2
      go_loopw [6] (fun x wr => ∃ (d : Nat) (X : Int), x = .int .i64 X ∧ X = 81 - (d : Int) ∧ d ≤ 80 ∧ Hid (lw zs ls = lwF zs ls d X) ∧ Below w.heap.size w wr) (fun x _ => (81 - intOf x).toNat)
      case atStart => exact ⟨80, 1, rfl, by omega, by omega, HE, Below.refl _ _⟩
      case round =>
        obtain ⟨d, X, rfl, hX, hd, HF, hb⟩ := hrel
        have HB := Lib.hid hb
        have HX := Lib.hid hX
        have x0 : 1 ≤ X := by omega
        have x1 : X ≤ 81 := by omega
        clear hb
        by_cases hle : X ≤ 80
        · obtain ⟨d', rfl⟩ : ∃ d', d = d' + 1 := ⟨d - 1, by omega⟩
          have HX2 := Lib.hid (show X + 1 = 81 - (d' : Int) by omega)
          clear hX HX
          have hc := HC.out X
          obtain ⟨f, hf⟩ : ∃ f, fits zs X = f := ⟨_, rfl⟩
          have C := Lib.hid (lnFits_any (Li.own_on HO.out HB.out) hl f hf)
          cases f
          · have HF2 := Lib.hid (show lw zs ls = lwF zs ls d' (X + 1) by rw [HF.out, lw_no (_root_.Or.inl hf)])
            clear hf hc
            go_wp2_with fail
            refine C.out.mono ?_
            rintro e w1 ⟨rfl, rfl⟩
            go_wp2
            go_roundw
            case rel => exact ⟨d', X + 1, by first | rfl | go_num, HX2.out, by omega, HF2, HB.out⟩
            case measure => simp [intOf]; omega
          · have CF := Lib.hid (lnFill_any (wide := X) (Li.own_on HO.out HB.out) (fits_ok hf))
            have e1 : (fillA zs X 0).length = (flZ zs X).length := by unfold flZ; rw [hf]; rfl
            obtain ⟨n, hn⟩ : ∃ n, (fillA zs X 0).length = n := ⟨_, rfl⟩
            have hcn : clN zs X = (n : Int) := by unfold clN; rw [← e1, hn]
            rw [hn] at CF
            rw [hcn] at hc
            have hn2 : n ≤ 1048576 := by omega
            by_cases c3 : (n : Int) ≤ ls
            · have HF2 := Lib.hid (show lw zs ls = (X, true) by rw [HF.out, lw_yes hf (by rw [hcn]; exact c3)])
              clear hf hn hcn e1 hc
              go_wp2_with fail
              refine C.out.mono ?_
              rintro e w1 ⟨rfl, rfl⟩
              go_wp2_with fail
              refine CF.out.mono ?_
              rintro e w1 ⟨v, rfl, ho1, hb1⟩
              have HB1 := Lib.hid (HB.out.trans (below_le hb1 HB.out.size))
              obtain ⟨a, cp, rfl⟩ := own_val ho1
              clear hb1 ho1
              go_wp2
              go_ret2
              exact ⟨rpair HF2.out, HB1.out⟩
            · have HF2 := Lib.hid (show lw zs ls = lwF zs ls d' (X + 1) by rw [HF.out, lw_no (_root_.Or.inr (by rw [hcn]; exact c3))])
              have t3 : decide ((n : Int) ≤ ls) = false := decide_eq_false c3
              clear hf hn hcn e1 hc
              go_wp2_with fail
              refine C.out.mono ?_
              rintro e w1 ⟨rfl, rfl⟩
              go_wp2_with fail
              refine CF.out.mono ?_
              rintro e w1 ⟨v, rfl, ho1, hb1⟩
              have HB1 := Lib.hid (HB.out.trans (below_le hb1 HB.out.size))
              obtain ⟨a, cp, rfl⟩ := own_val ho1
              clear hb1 ho1
              go_wp2
              go_roundw
              case rel => exact ⟨d', X + 1, by first | rfl | go_num, HX2.out, by omega, HF2, HB1.out⟩
              case measure => simp [intOf]; omega
        · have HF2 := Lib.hid (show lw zs ls = (0, false) by rw [HF.out, show d = 0 by omega]; rfl)
          clear hX
          go_wp2
          go_ret2
          exact ⟨rpair HF2.out, HB.out⟩
end Ln
end Go.Proofs.Ytdpblijmagcgiaa
