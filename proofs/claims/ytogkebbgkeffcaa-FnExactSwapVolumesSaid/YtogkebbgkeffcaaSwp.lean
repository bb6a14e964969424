/- SwapVolumes from both sides: two volumes have changed places in a list of the call's own. -/
import Derived.Test.YtogkebbgkeffcaaOwn
import Derived.Test.YtogkebbgkeffcaaSw2
import Derived.Deep.RegionWith
import Derived.OneCell
namespace Go.Proofs.Ytogkebbgkeffcaa
open Go.RowKit Go.Joins Go.Deep Go.ChangeShapes Go.WideShapes
set_option linter.unusedVariables false
set_option linter.unusedSimpArgs false
namespace Swp
open Sh So
/-- two numbers have changed places -/
def swp (zs : List Int) (a b : Nat) : List Int := (zs.set a (zs.getD b 0)).set b (zs.getD a 0)
theorem swp_length (zs : List Int) (a b : Nat) : (swp zs a b).length = zs.length := by simp [swp]
/-- a shelf and whether there is one -/
def Gv (ok : Bool) (os : List Int) (c : Int) (W : World) (e : Ending) (w' : World) : Prop :=
  ∃ v, e = .returned (.tuple #[.agg #[v, .int .i64 c], .bool ok]) ∧ w'.ownsRow W.heap.size 3 1 v os.length (Li.nums os) ∧ Below W.heap.size W w'
theorem Gv.none {W w' : World} (hb : Below W.heap.size W w') : Gv false [] 0 W (.returned (.tuple #[.agg #[.slice none 0 0, .int .i64 0], .bool false])) w' :=
  ⟨_, rfl, World.ownsRow_nil _ _ _ _, hb⟩
theorem nums_set (zs : List Int) (k : Nat) (x : Int) : (Li.nums zs).set k (.int .i64 x) = Li.nums (zs.set k x) := by simp [Li.nums, List.map_set]
theorem arr_other {W : World} {b b' : Nat} {T : TypeId} {cur : Array Value} (h : Arr W b T cur) (hne : b ≠ b') (j : Nat) (v : Value) : Arr (W.setCell ⟨b', j, none⟩ v) b T cur := (Below.heap_setCell W ⟨b', j, none⟩ v b hne).trans h
theorem arr_alloc {W : World} {b : Nat} {T : TypeId} {cur : Array Value} (h : Arr W b T cur) (x : Obj) : Arr (W.alloc x) b T cur := h.on (below_alloc1 W x)
theorem arr2 {W : World} {b : Nat} {T : TypeId} {x y : Value} (h : Arr W b T #[x, y]) (u v : Value) : ((W.setCell ⟨b, 0, none⟩ u).setCell ⟨b, 1, none⟩ v).cell? ⟨b, 0, none⟩ = some u ∧ ((W.setCell ⟨b, 0, none⟩ u).setCell ⟨b, 1, none⟩ v).cell? ⟨b, 1, none⟩ = some v :=
  ⟨((h.set 0 u).set 1 v).cell (j := 0) rfl, ((h.set 0 u).set 1 v).cell (j := 1) rfl⟩
theorem own_some {w : World} {base n : Nat} {v : Value} {zs : List Int} (h : w.ownsRow base 3 1 v zs.length (Li.nums zs)) (hn : zs.length = n) (h1 : 1 ≤ n) : ∃ g cap, v = .slice (some ⟨g, 0, none⟩) n cap ∧ Ow w base g n cap zs ∧ base ≤ g := by
  subst hn
  rcases Li.own_forms h with ⟨_, h0⟩ | ⟨g, cap, rfl⟩
  · omega
  · exact ⟨g, cap, rfl, h, (h.lt g rfl).1⟩
theorem below_via {w2 w3 : World} (h : Below w2.drew.heap.size w2.drew w3) : Below w2.heap.size w2 w3 := (Below.refl w2.heap.size w2).drew.trans (Sh.below_le h (Nat.le_refl _))
theorem below_via2 {w2 w3 : World} {x : Obj} (h : Below (w2.drew.alloc x).heap.size (w2.drew.alloc x) w3) : Below w2.heap.size w2 w3 := ((Below.refl w2.heap.size w2).drew.alloc (Nat.le_refl _) x).trans (Sh.below_le h (by simp))
set_option maxRecDepth 100000 in
set_option maxHeartbeats 4000000 in
theorem sNo {b1 g len cap : Nat} {zs : List Int} {c a b : Int} {w : World} (h : Ow w b1 g len cap zs) (hl : len ≤ 1048576) (hx : (both zs c a && both zs c b) = false) :
    Calls Try.prog 38 #[V g len cap c, .int .i64 a, .int .i64 b] w (Gv false [] 0 w) := by
  have hA0 : Arr ((bx w g len cap c).alloc (.cells #[.slice none 0 0, .int .i64 0] 27)) w.heap.size 27 #[.slice (some ⟨g, 0, none⟩) len cap, .int .i64 c] := arr_alloc (Arr.new w _ _) _
  have hR0 : Arr ((bx w g len cap c).alloc (.cells #[.slice none 0 0, .int .i64 0] 27)) (w.heap.size + 1) 27 #[.slice none 0 0, .int .i64 0] := by
    have := Arr.new (bx w g len cap c) #[.slice none 0 0, .int .i64 0] 27
    have e : (bx w g len cap c).heap.size = w.heap.size + 1 := by simp
    rwa [e] at this
  have hB0 : Below w.heap.size w ((bx w g len cap c).alloc (.cells #[.slice none 0 0, .int .i64 0] 27)) := (below_alloc1 w _).alloc (by simp) _
  have HO := Lib.hid (Li.own_on h hB0)
  have HA := Lib.hid hA0
  have HR := Lib.hid hR0
  have HB := Lib.hid hB0
  have qa0 := hA0.cell (j := 0) rfl
  have qa1 := hA0.cell (j := 1) rfl
  obtain ⟨x, hxa⟩ : ∃ x, both zs c a = x := ⟨_, rfl⟩
  have CA := Lib.hid (sBoth_any a HO.out hl x hxa)
  clear h hA0 hR0 hB0
  cases x with
  | false =>
    clear hx
    go_enter Try.func38, Try.ntmps38
    go_wp2_with fail
    refine CA.out.mono ?_
    rintro e w1 ⟨rfl, hb⟩
    have HR1 := Lib.hid (HR.out.on hb)
    have HB1 := Lib.hid (HB.out.trans (Sh.below_le hb HB.out.size))
    have hf0 := HR1.out.frozen 0
    have hf1 := HR1.out.frozen 1
    have hr0 := HR1.out.cell (j := 0) rfl
    have hr1 := HR1.out.cell (j := 1) rfl
    clear hb qa0 qa1
    go_wp2_with fail
    have HX := arr2 HR1.out (.slice none 0 0) (.int .i64 0)
    have hB := (HB1.out.setCell (p := ⟨w.heap.size + 1, 0, none⟩) (by simp) (.slice none 0 0)).setCell (p := ⟨w.heap.size + 1, 1, none⟩) (by simp) (.int .i64 0)
    revert HX hB
    generalize ((w1.setCell ⟨w.heap.size + 1, 0, none⟩ (.slice none 0 0)).setCell ⟨w.heap.size + 1, 1, none⟩ (.int .i64 0)) = W8
    intro ⟨z0, z1⟩ hB
    exact bodyPost_ret (v := .tuple #[.agg #[.slice none 0 0, .int .i64 0], .bool false]) (by simp [results, Try.results38, go_sem, z0, z1]) rfl (Gv.none hB)
  | true =>
    have hxb : both zs c b = false := by rw [hxa] at hx; simpa using hx
    clear hx
    go_enter Try.func38, Try.ntmps38
    go_wp2_with fail
    refine CA.out.mono ?_
    rintro e w0 ⟨rfl, hb⟩
    have HA1 := Lib.hid (HA.out.on hb)
    have CB := Lib.hid (sBoth_any b (Li.own_on HO.out hb) hl false hxb)
    have HR0 := Lib.hid (HR.out.on hb)
    have HB0 := Lib.hid (HB.out.trans (Sh.below_le hb HB.out.size))
    have qb0 := HA1.out.cell (j := 0) rfl
    have qb1 := HA1.out.cell (j := 1) rfl
    clear hb qa0 qa1
    go_wp2_with fail
    refine CB.out.mono ?_
    rintro e w1 ⟨rfl, hb⟩
    have HR1 := Lib.hid (HR0.out.on hb)
    have HB1 := Lib.hid (HB0.out.trans (Sh.below_le hb HB0.out.size))
    have hf0 := HR1.out.frozen 0
    have hf1 := HR1.out.frozen 1
    have hr0 := HR1.out.cell (j := 0) rfl
    have hr1 := HR1.out.cell (j := 1) rfl
    clear hb qb0 qb1
    go_wp2_with fail
    have HX := arr2 HR1.out (.slice none 0 0) (.int .i64 0)
    have hB := (HB1.out.setCell (p := ⟨w.heap.size + 1, 0, none⟩) (by simp) (.slice none 0 0)).setCell (p := ⟨w.heap.size + 1, 1, none⟩) (by simp) (.int .i64 0)
    revert HX hB
    generalize ((w1.setCell ⟨w.heap.size + 1, 0, none⟩ (.slice none 0 0)).setCell ⟨w.heap.size + 1, 1, none⟩ (.int .i64 0)) = W8
    intro ⟨z0, z1⟩ hB
    exact bodyPost_ret (v := .tuple #[.agg #[.slice none 0 0, .int .i64 0], .bool false]) (by simp [results, Try.results38, go_sem, z0, z1]) rfl (Gv.none hB)
set_option maxRecDepth 100000 in
set_option maxHeartbeats 4000000 in
theorem iNo {b1 g len cap : Nat} {zs : List Int} {c a b : Int} {w : World} (h : Ow w b1 g len cap zs) (hl : len ≤ 1048576) (hx : (both zs c a && both zs c b) = false) :
    Calls Try.prog 39 #[V g len cap c, .int .i64 a, .int .i64 b] w (Gv false [] 0 w) := by
  have hA0 : Arr ((bx w g len cap c).alloc (.cells #[.slice none 0 0, .int .i64 0] 27)) w.heap.size 27 #[.slice (some ⟨g, 0, none⟩) len cap, .int .i64 c] := arr_alloc (Arr.new w _ _) _
  have hR0 : Arr ((bx w g len cap c).alloc (.cells #[.slice none 0 0, .int .i64 0] 27)) (w.heap.size + 1) 27 #[.slice none 0 0, .int .i64 0] := by
    have := Arr.new (bx w g len cap c) #[.slice none 0 0, .int .i64 0] 27
    have e : (bx w g len cap c).heap.size = w.heap.size + 1 := by simp
    rwa [e] at this
  have hB0 : Below w.heap.size w ((bx w g len cap c).alloc (.cells #[.slice none 0 0, .int .i64 0] 27)) := (below_alloc1 w _).alloc (by simp) _
  have HO := Lib.hid (Li.own_on h hB0)
  have HA := Lib.hid hA0
  have HR := Lib.hid hR0
  have HB := Lib.hid hB0
  have qa0 := hA0.cell (j := 0) rfl
  have qa1 := hA0.cell (j := 1) rfl
  obtain ⟨x, hxa⟩ : ∃ x, both zs c a = x := ⟨_, rfl⟩
  have CA := Lib.hid (iBoth_any a HO.out hl x hxa)
  clear h hA0 hR0 hB0
  cases x with
  | false =>
    clear hx
    go_enter Try.func39, Try.ntmps39
    go_wp2_with fail
    refine CA.out.mono ?_
    rintro e w1 ⟨rfl, hb⟩
    have HR1 := Lib.hid (HR.out.on hb)
    have HB1 := Lib.hid (HB.out.trans (Sh.below_le hb HB.out.size))
    have hf0 := HR1.out.frozen 0
    have hf1 := HR1.out.frozen 1
    have hr0 := HR1.out.cell (j := 0) rfl
    have hr1 := HR1.out.cell (j := 1) rfl
    clear hb qa0 qa1
    go_wp2_with fail
    have HX := arr2 HR1.out (.slice none 0 0) (.int .i64 0)
    have hB := (HB1.out.setCell (p := ⟨w.heap.size + 1, 0, none⟩) (by simp) (.slice none 0 0)).setCell (p := ⟨w.heap.size + 1, 1, none⟩) (by simp) (.int .i64 0)
    revert HX hB
    generalize ((w1.setCell ⟨w.heap.size + 1, 0, none⟩ (.slice none 0 0)).setCell ⟨w.heap.size + 1, 1, none⟩ (.int .i64 0)) = W8
    intro ⟨z0, z1⟩ hB
    exact bodyPost_ret (v := .tuple #[.agg #[.slice none 0 0, .int .i64 0], .bool false]) (by simp [results, Try.results39, go_sem, z0, z1]) rfl (Gv.none hB)
  | true =>
    have hxb : both zs c b = false := by rw [hxa] at hx; simpa using hx
    clear hx
    go_enter Try.func39, Try.ntmps39
    go_wp2_with fail
    refine CA.out.mono ?_
    rintro e w0 ⟨rfl, hb⟩
    have HA1 := Lib.hid (HA.out.on hb)
    have CB := Lib.hid (iBoth_any b (Li.own_on HO.out hb) hl false hxb)
    have HR0 := Lib.hid (HR.out.on hb)
    have HB0 := Lib.hid (HB.out.trans (Sh.below_le hb HB.out.size))
    have qb0 := HA1.out.cell (j := 0) rfl
    have qb1 := HA1.out.cell (j := 1) rfl
    clear hb qa0 qa1
    go_wp2_with fail
    refine CB.out.mono ?_
    rintro e w1 ⟨rfl, hb⟩
    have HR1 := Lib.hid (HR0.out.on hb)
    have HB1 := Lib.hid (HB0.out.trans (Sh.below_le hb HB0.out.size))
    have hf0 := HR1.out.frozen 0
    have hf1 := HR1.out.frozen 1
    have hr0 := HR1.out.cell (j := 0) rfl
    have hr1 := HR1.out.cell (j := 1) rfl
    clear hb qb0 qb1
    go_wp2_with fail
    have HX := arr2 HR1.out (.slice none 0 0) (.int .i64 0)
    have hB := (HB1.out.setCell (p := ⟨w.heap.size + 1, 0, none⟩) (by simp) (.slice none 0 0)).setCell (p := ⟨w.heap.size + 1, 1, none⟩) (by simp) (.int .i64 0)
    revert HX hB
    generalize ((w1.setCell ⟨w.heap.size + 1, 0, none⟩ (.slice none 0 0)).setCell ⟨w.heap.size + 1, 1, none⟩ (.int .i64 0)) = W8
    intro ⟨z0, z1⟩ hB
    exact bodyPost_ret (v := .tuple #[.agg #[.slice none 0 0, .int .i64 0], .bool false]) (by simp [results, Try.results39, go_sem, z0, z1]) rfl (Gv.none hB)
end Swp
end Go.Proofs.Ytogkebbgkeffcaa
