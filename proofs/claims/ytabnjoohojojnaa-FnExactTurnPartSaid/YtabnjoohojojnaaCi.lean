/- One part turned over, by the program. -/
import Derived.Test.YtabnjoohojojnaaCh
import Derived.Test.YtabnjoohojojnaaBe
namespace Go.Proofs.Ytabnjoohojojnaa
open Go.RowKit Go.Joins Go.Deep Go.ChangeShapes Go.WideShapes
set_option linter.unusedVariables false
set_option linter.unusedSimpArgs false
namespace Ln
theorem ret_gives {W w' : World} {e : Ending} (h : Ret (.tuple #[.slice none 0 0, .bool false]) W e w') : Gives false [] W e w' := ⟨_, h.1, World.ownsRow_nil _ _ _ _, h.2⟩
theorem iTurns_any {b1 g len cap tbl c : Nat} {zs : List Int} {ts : List (List Int)} {w : World} (h : Ow w b1 g len cap zs) (hl : len ≤ 1048576) (hT : Tns w tbl ts) (hts : ts.length ≤ 1048576) :
    Calls Try.prog 58 #[.slice (some ⟨g, 0, none⟩) len cap, .slice (some ⟨tbl, 0, none⟩) ts.length c] w (Gives (tpB zs ts) (tpsZ zs ts) w) := by
  have hz := ow_len h
  cases hv : bnd zs
  · have e : tpB zs ts = false := by unfold tpB; rw [hv]; rfl
    rw [e, show tpsZ zs ts = [] by unfold tpsZ; rw [e]; rfl]
    exact (iTurns_no h hl hv).mono fun e w' h => ret_gives h
  · by_cases c40 : ts.length ≤ 40
    · have e : tpB zs ts = tpOk len ts ts.length := by unfold tpB; rw [hv, hz]; simp [c40]
      unfold tpsZ
      rw [e]
      exact iTurns_yes h hl hv c40 hT
    · have e : tpB zs ts = false := by unfold tpB; rw [show decide (ts.length ≤ 40) = false by simpa using c40]; simp
      rw [e, show tpsZ zs ts = [] by unfold tpsZ; rw [e]; rfl]
      exact (iTurns_many h hl hv (by omega) hts).mono fun e w' h => ret_gives h
theorem tpsZ_len (zs : List Int) (ts : List (List Int)) : (tpsZ zs ts).length ≤ 1048576 := by
  unfold tpsZ
  by_cases c : tpB zs ts = true
  · rw [if_pos c, tpL_len]
    unfold tpB at c
    simp only [Bool.and_eq_true] at c
    have := ((bnd_iff zs).1 c.1.1).2.1
    omega
  · rw [if_neg c]; simp
theorem tp_one (zs : List Int) (f t : Int) : tpB zs [[f, t]] = prt zs f t ∧ tpsZ zs [[f, t]] = tpZ zs f t := by
  have e : tpB zs [[f, t]] = prt zs f t := by
    unfold tpB prt
    cases bnd zs
    · rfl
    · have e2 : tpOk zs.length [[f, t]] [[f, t]].length = (decide (0 ≤ f) && (decide (f ≤ t) && decide (t < (zs.length : Int)))) := by
        show (true && tOk zs.length [f, t]) = _
        rfl
      rw [e2, Bool.eq_iff_iff]
      simp only [Bool.true_and, Bool.and_eq_true, decide_eq_true_eq, List.length_cons, List.length_nil]
      omega
  refine ⟨e, ?_⟩
  unfold tpsZ tpZ
  rw [e]
  rfl
set_option maxRecDepth 100000 in
set_option maxHeartbeats 1000000 in
theorem iTurnPart {b1 g len cap : Nat} {zs : List Int} {f t : Int} {w : World} (h : Ow w b1 g len cap zs) (hl : len ≤ 1048576) :
    Calls Try.prog 30 #[.slice (some ⟨g, 0, none⟩) len cap, .int .i64 f, .int .i64 t] w (Gives (prt zs f t) (tpZ zs f t) w) := by
  have hb : Below w.heap.size w ((w.alloc (.cells #[.int .i64 f, .int .i64 t] 3)).alloc (.cells #[.slice (some ⟨w.heap.size, 0, none⟩) 2 2] 22)) := (below_alloc1 _ _).alloc (by simp) _
  have hT : Tns ((w.alloc (.cells #[.int .i64 f, .int .i64 t] 3)).alloc (.cells #[.slice (some ⟨w.heap.size, 0, none⟩) 2 2] 22)) (w.heap.size + 1) [[f, t]] := by
    have A1 := (Arr.new w #[.int .i64 f, .int .i64 t] 3).on (below_alloc1 _ (.cells #[.slice (some ⟨w.heap.size, 0, none⟩) 2 2] 22))
    have A2 := arr_new (w.alloc (.cells #[.int .i64 f, .int .i64 t] 3)) #[.slice (some ⟨w.heap.size, 0, none⟩) 2 2] 22 (b := w.heap.size + 1) (by simp)
    refine ⟨A2.lt, fun k hk => ?_⟩
    have ek : k = 0 := by simp at hk; omega
    subst ek
    refine ⟨_, A2.cell (j := 0) rfl, _root_.Or.inr ⟨by simp, w.heap.size, 2, rfl, A1.lt, fun j hj => ?_⟩, _, _, _, rfl⟩
    have hj2 : j = 0 ∨ j = 1 := by simp at hj; omega
    rcases hj2 with rfl | rfl
    · exact A1.cell rfl
    · exact A1.cell rfl
  have C := Lib.hid (iTurns_any (c := 1) (Li.own_on h hb) hl hT (by simp))
  rw [(tp_one zs f t).1, (tp_one zs f t).2] at C
  have HB := Lib.hid hb
  clear h hb hT
  go_enter Try.func30, Try.ntmps30
  go_wp2_with fail
  refine C.out.mono ?_
  rintro e w1 ⟨v, rfl, ho, hb⟩
  have HO := Lib.hid (Li.own_le ho HB.out.size)
  have HB2 := Lib.hid (HB.out.trans (hb.mono HB.out.size))
  clear ho hb
  go_wp2_with fail
  go_ret2
  exact ⟨_, rfl, HO.out, HB2.out⟩
end Ln
end Go.Proofs.Ytabnjoohojojnaa
