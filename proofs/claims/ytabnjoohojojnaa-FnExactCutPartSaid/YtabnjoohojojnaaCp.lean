/- A part cut out and put in, by the program: the function. -/
import Derived.Test.YtabnjoohojojnaaCn
namespace Go.Proofs.Ytabnjoohojojnaa
open Go.RowKit Go.Joins Go.Deep Go.ChangeShapes Go.WideShapes
set_option linter.unusedVariables false
set_option linter.unusedSimpArgs false
namespace Ln
theorem wpList_load17g {ops : Array Oper} {rest : List Oper} {op : Oper} {a : Act} {w : World} {Q : Exit → Act → World → Prop} (x : Operand) (ho : op.op = .load 54 x)
    (b : Nat) (hx : a.eval x = .pointer (some ⟨b, 0, none⟩)) {f : Nat → Int} {g : Nat → Bool} {m : Int} (hA : Arr w b 54 (A17 f g m)) (hw : Region.wanted op (yielded ops a.tmps) = true)
    (h : wpList Try.prog ops Q rest (a.put op.dst (.agg (A17 f g m))) w) : wpList Try.prog ops Q (op :: rest) a w := by
  show if Region.wanted op (yielded ops a.tmps) = true then _ else _
  rw [if_pos hw]
  exact _root_.Or.inl (wp_load_mid 54 x ho b 0 hx (A17 f g m).toList _ (arr_range hA) Try.underlying54 rfl (by kernel_rfl) h)
set_option maxRecDepth 100000 in
set_option maxHeartbeats 4000000 in
theorem iCut_no {b1 g len cap : Nat} {zs : List Int} {f t a : Int} {w : World} (h : Ow w b1 g len cap zs) (hl : len ≤ 1048576) (hv : cuB zs f t a = false) :
    Calls Try.prog 32 #[.slice (some ⟨g, 0, none⟩) len cap, .int .i64 f, .int .i64 t, .int .i64 a] w (Ret (.tuple #[.slice none 0 0, .bool false]) w) := by
  have hz := ow_len h
  cases hb : bnd zs
  · have C := Lib.hid (bookOf_no h hl hb)
    clear h hv hb hz
    go_enter Try.func32, Try.ntmps32
    go_wp2_with fail
    refine C.out.mono ?_
    rintro e w1 ⟨rfl, hb⟩
    have HB := Lib.hid hb
    clear hb
    go_wp2_with (first | (with_reducible refine wpList_store_new rfl (.tmp 10) (.tmp 15) rfl (nb []) (tb []) ((0 : Nat) : Int) rfl w1.heap.size rfl rfl rfl ?_))
    go_ret2
    exact ⟨rfl, HB.out.alloc HB.out.size _⟩
  · have C := Lib.hid (bookOf_yes h hl hb)
    obtain ⟨u, hu⟩ : ∃ u, (decide (0 ≤ f) && (decide (f ≤ t) && decide (t < (len : Int)))) = u := ⟨_, rfl⟩
    have CP := Lib.hid (fun W => hasPart_any len zs f t u hu W)
    have h8 : len ≤ 8 := by have := ((bnd_iff zs).1 hb).2.1; omega
    cases u
    · clear h hv hb hz hu
      go_enter Try.func32, Try.ntmps32
      go_wp2_with fail
      refine C.out.mono ?_
      rintro e w1 ⟨rfl, hb⟩
      have HB := Lib.hid hb
      clear hb
      go_wp2_with (first | (with_reducible refine wpList_store_new rfl (.tmp 10) (.tmp 15) rfl (nb zs) (tb zs) (len : Int) rfl w1.heap.size rfl rfl rfl ?_) | ((with_reducible refine wpList_load17g (.tmp 10) rfl w1.heap.size rfl (Arr.new _ _ _) ?c1 ?_); (case c1 => kernel_rfl)))
      refine (CP.out _).mono ?_
      rintro e w2 ⟨rfl, rfl⟩
      go_wp2
      go_ret2
      exact ⟨rfl, (HB.out.alloc HB.out.size _).alloc (by have := HB.out.size; simp; omega) _⟩
    · have hft : 0 ≤ f ∧ f ≤ t ∧ t < (len : Int) := by simpa using hu
      have hpr : prt zs f t = true := by unfold prt; rw [hb, hz]; simp; omega
      have hf : a < 0 ∨ (len : Int) - 1 - (t - f) < a := by
        unfold cuB at hv
        rw [hpr, hz, Bool.true_and, Bool.and_eq_false_iff, decide_eq_false_iff_not, decide_eq_false_iff_not] at hv
        omega
      have f1 := hft.1
      have f2 := hft.2.1
      have f3 := hft.2.2
      clear h hv hb hz hu hft hpr
      by_cases c : a < 0
      · clear hf
        go_enter Try.func32, Try.ntmps32
        go_wp2_with fail
        refine C.out.mono ?_
        rintro e w1 ⟨rfl, hb⟩
        have HB := Lib.hid hb
        clear hb
        go_wp2_with (first | (with_reducible refine wpList_store_new rfl (.tmp 10) (.tmp 15) rfl (nb zs) (tb zs) (len : Int) rfl w1.heap.size rfl rfl rfl ?_) | ((with_reducible refine wpList_load17g (.tmp 10) rfl w1.heap.size rfl (Arr.new _ _ _) ?c1 ?_); (case c1 => kernel_rfl)))
        refine (CP.out _).mono ?_
        rintro e w2 ⟨rfl, rfl⟩
        go_wp2
        go_ret2
        exact ⟨rfl, (HB.out.alloc HB.out.size _).alloc (by have := HB.out.size; simp; omega) _⟩
      · have t1 : (len : Int) - 1 - (t - f) < a := by omega
        have t2 : decide ((len : Int) - 1 - (t - f) < a) = true := by simpa using t1
        clear hf
        go_enter Try.func32, Try.ntmps32
        go_wp2_with fail
        refine C.out.mono ?_
        rintro e w1 ⟨rfl, hb⟩
        have HB := Lib.hid hb
        clear hb
        go_wp2_with (first | (with_reducible refine wpList_store_new rfl (.tmp 10) (.tmp 15) rfl (nb zs) (tb zs) (len : Int) rfl w1.heap.size rfl rfl rfl ?_) | ((with_reducible refine wpList_load17g (.tmp 10) rfl w1.heap.size rfl (Arr.new _ _ _) ?c1 ?_); (case c1 => kernel_rfl)))
        refine (CP.out _).mono ?_
        rintro e w2 ⟨rfl, rfl⟩
        go_wp2
        go_ret2
        exact ⟨rfl, (HB.out.alloc HB.out.size _).alloc (by have := HB.out.size; simp; omega) _⟩
set_option maxRecDepth 100000 in
set_option maxHeartbeats 4000000 in
theorem iCut_yes {b1 g len cap f t i : Nat} {zs : List Int} {w : World} (h : Ow w b1 g len cap zs) (hl : len ≤ 1048576) (hb : bnd zs = true) (hft : f ≤ t) (ht : t < len) (hi : i + (t + 1 - f) ≤ len) :
    Calls Try.prog 32 #[.slice (some ⟨g, 0, none⟩) len cap, .int .i64 (f : Int), .int .i64 (t : Int), .int .i64 (i : Int)] w (Gives true (cutL zs f (t + 1 - f) i) w) := by
  have hz := ow_len h
  have C := Lib.hid (bookOf_yes h hl hb)
  have CP := Lib.hid (fun W => hasPart_any len zs (f : Int) (t : Int) true (by simp; omega) W)
  have h8 : len ≤ 8 := by have := ((bnd_iff zs).1 hb).2.1; omega
  have CM := Lib.hid (fun W (hW : Below w.heap.size w W) => movePart_any (Li.own_on h hW) h8 hft ht hi)
  have HL := Lib.hid (show (cutL zs f (t + 1 - f) i).length = len by rw [cutL_len zs i (by omega), hz])
  obtain ⟨os, hos⟩ : ∃ os, cutL zs f (t + 1 - f) i = os := ⟨_, rfl⟩
  rw [hos] at CM HL ⊢
  have t1 : ¬ (len : Int) - 1 - ((t : Int) - (f : Int)) < (i : Int) := by omega
  have t2 : decide ((len : Int) - 1 - ((t : Int) - (f : Int)) < (i : Int)) = false := by simpa using t1
  clear h hb hz hos
  go_enter Try.func32, Try.ntmps32
  go_wp2_with fail
  refine C.out.mono ?_
  rintro e w1 ⟨rfl, hb⟩
  have HB := Lib.hid hb
  have HB2 := Lib.hid ((hb.alloc hb.size (.cells (bkA len zs) 54)).alloc (by have := hb.size; simp; omega) (.cells (bkA len zs) 54))
  clear hb
  go_wp2_with (first | (with_reducible refine wpList_store_new rfl (.tmp 10) (.tmp 15) rfl (nb zs) (tb zs) (len : Int) rfl w1.heap.size rfl rfl rfl ?_) | ((with_reducible refine wpList_load17g (.tmp 10) rfl w1.heap.size rfl (Arr.new _ _ _) ?c1 ?_); (case c1 => kernel_rfl)))
  refine (CP.out _).mono ?_
  rintro e w2 ⟨rfl, rfl⟩
  go_wp2_with fail
  refine (CM.out _ HB2.out).mono ?_
  rintro e w3 ⟨v, rfl, ho, hb⟩
  have HO := Lib.hid (Li.own_le ho HB2.out.size)
  have HB3 := Lib.hid (HB2.out.trans (hb.mono HB2.out.size))
  clear ho hb
  go_wp2
  go_ret2
  exact ⟨_, rfl, by rw [HL.out]; exact HO.out, HB3.out⟩
theorem iCutPart {b1 g len cap : Nat} {zs : List Int} {f t a : Int} {w : World} (h : Ow w b1 g len cap zs) (hl : len ≤ 1048576) :
    Calls Try.prog 32 #[.slice (some ⟨g, 0, none⟩) len cap, .int .i64 f, .int .i64 t, .int .i64 a] w (Gives (cuB zs f t a) (cuZ zs f t a) w) := by
  have hz := ow_len h
  cases hv : cuB zs f t a
  · rw [show cuZ zs f t a = [] by unfold cuZ; rw [hv]; rfl]
    exact (iCut_no h hl hv).mono fun e w' h => ⟨_, h.1, World.ownsRow_nil _ _ _ _, h.2⟩
  · obtain ⟨hp, B, F, T, A, rfl, rfl, rfl, h1, h2, h3⟩ := cuB_ok hv
    rw [show cuZ zs (F : Int) (T : Int) (A : Int) = cutL zs F (T + 1 - F) A by unfold cuZ; rw [if_pos hv]; simp]
    exact iCut_yes h hl ((bnd_iff zs).2 B) h1 (by omega) (by omega)
end Ln
end Go.Proofs.Ytabnjoohojojnaa
