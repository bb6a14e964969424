/- FnExactLongRange's walk: both answer the one range that has the text, or none. -/
import Derived.Test.YtlghonnakokioaaDoorLri
namespace Go.Proofs.YtlghonnakokioaaDoor
open Go.RowKit Go.Joins Go.Deep Go.ChangeShapes Go.WideShapes
set_option linter.unusedVariables false
set_option linter.unusedSimpArgs false
namespace Lr
open Rg Gm Sr
open P hiding idx_at sl_from
set_option maxRecDepth 100000 in
set_option maxHeartbeats 1000000 in
theorem sLong_any (l : List UInt8) (hl : l.length ≤ 1048576) (w : World) :
    Calls Tryd.prog 12 #[.string ⟨l.toArray⟩] w (Ret (.tuple #[.agg #[.int .i64 (lF l), .int .i64 (lT l)], .bool (lok l)]) w) := by
  have PR0 := Pr2.new w 0 0
  have HB0 := below_alloc1 w (.cells #[.int .i64 0, .int .i64 0] 26)
  have C := Lib.hid (fun W => ixLong_any l hl W)
  obtain ⟨f, hf⟩ : ∃ f, lF l = f := ⟨_, rfl⟩
  obtain ⟨t, ht⟩ : ∃ t, lT l = t := ⟨_, rfl⟩
  obtain ⟨v, hv⟩ : ∃ v, lok l = v := ⟨_, rfl⟩
  rw [hf, ht, hv] at C ⊢
  clear hf ht hv
  go_enter Tryd.func12, Tryd.ntmps12
  go_wp2_with fail
  refine (C.out _).mono ?_
  rintro e w1 ⟨rfl, hb1⟩
  have R8 := PR0.on hb1
  have HB7 := Lib.hid (below_next HB0 hb1)
  have k0 := R8.c0
  have k1 := R8.c1
  have fr0 := R8.fr 0
  have fr1 := R8.fr 1
  have Z0 := Lib.hid (R8.set f t).c0
  have Z1 := Lib.hid (R8.set f t).c1
  clear hb1 PR0 HB0 R8
  go_wp2
  exact bodyPost_ret (v := .tuple #[.agg #[.int .i64 f, .int .i64 t], .bool v]) (by simp [results, Tryd.results12, go_sem, Z0.out, Z1.out]) rfl ⟨rfl, (HB7.out.setCell (p := ⟨w.heap.size, 0, none⟩) (Nat.le_refl _) _).setCell (p := ⟨w.heap.size, 1, none⟩) (Nat.le_refl _) _⟩
set_option maxRecDepth 100000 in
set_option maxHeartbeats 1000000 in
theorem law_core (l : List UInt8) (hl : l.length ≤ 1048576) (w : World) (hE : P.Env w) (hT : TabOn w) :
    Calls Tryd.prog 4 #[.string ⟨l.toArray⟩] w fun e w' => e = .returned (.bool true) ∧ Below w.heap.size w w' := by
  have C1 := Lib.hid (fun W => sLong_any l hl W)
  have C2 := Lib.hid (fun W h1 h2 => iLong_any l hl W h1 h2)
  have HE := Lib.hid hE
  have HT := Lib.hid hT
  obtain ⟨f, hf⟩ : ∃ f, lF l = f := ⟨_, rfl⟩
  obtain ⟨t, ht⟩ : ∃ t, lT l = t := ⟨_, rfl⟩
  obtain ⟨v, hv⟩ : ∃ v, lok l = v := ⟨_, rfl⟩
  rw [hf, ht, hv] at C1 C2
  clear hf ht hv hE hT
  have CE := Lib.hid (fun W => eqRange_same f t W)
  have hln : (l.length : Int) ≤ 1048576 := by omega
  go_enter Tryd.func4, Tryd.ntmps4
  go_wp2_with fail
  refine (C1.out _).mono ?_
  rintro e w1 ⟨rfl, hb1⟩
  have X1 := B2.new w1 (.int .i64 f) (.int .i64 t) 26
  have B1 := hb1.alloc hb1.size (.cells #[.int .i64 f, .int .i64 t] 26)
  clear hb1
  go_wp2_with fail
  refine (C2.out _ (HE.out.on B1) (tabOn_next HT.out B1)).mono ?_
  rintro e w2 ⟨rfl, hb2⟩
  have Y1 := (X1.on hb2).alloc (.cells #[.int .i64 f, .int .i64 t] 26)
  have X2 := B2.new w2 (.int .i64 f) (.int .i64 t) 26
  have B2' := below_next B1 hb2
  have B3 := B2'.alloc B2'.size (.cells #[.int .i64 f, .int .i64 t] 26)
  obtain ⟨-, y0, y1⟩ := id Y1
  obtain ⟨-, x0, x1⟩ := id X2
  clear X1 B1 hb2 Y1 X2 B2'
  go_wp2_with fail
  refine (CE.out _).mono ?_
  rintro e w3 ⟨rfl, hb3⟩
  have B4 := Lib.hid (below_next B3 hb3)
  clear hb3 B3 y0 y1 x0 x1
  go_wp2
  go_ret
  exact ⟨rfl, B4.out⟩
theorem law_long (l : List UInt8) (hl : ¬ l.length ≤ 1048576) (w : World) :
    Calls Tryd.prog 4 #[.string ⟨l.toArray⟩] w fun e w' => e = .returned (.bool true) ∧ Below w.heap.size w w' := by
  have t1 : (1048576 : Int) < (l.length : Int) := by omega
  clear hl
  go_enter Tryd.func4, Tryd.ntmps4
  go_wp2
  go_ret
  exact ⟨rfl, Below.refl _ _⟩
end Lr
namespace P
theorem law_string (s : ByteArray) (w : World) (hE : Env w) (hT : TabOn w) :
    Calls Tryd.prog 4 #[.string s] w fun e w' => e = .returned (.bool true) ∧ Below w.heap.size w w' := by
  obtain ⟨l, hl⟩ : ∃ l : List UInt8, s = ⟨l.toArray⟩ := ⟨s.data.toList, by simp⟩
  subst hl
  by_cases c1 : l.length ≤ 1048576
  · exact Lr.law_core l c1 w hE hT
  · exact Lr.law_long l c1 w
end P
end Go.Proofs.YtlghonnakokioaaDoor
