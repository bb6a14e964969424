/- Breaks of a binding, by the program. -/
import Derived.Test.YtabnjoohojojnaaCq
import Derived.Deep.CutBlock
import Derived.Deep.CutRange
namespace Go.Proofs.Ytabnjoohojojnaa
open Go.RowKit Go.Joins Go.Deep Go.ChangeShapes Go.WideShapes
set_option linter.unusedVariables false
set_option linter.unusedSimpArgs false
namespace Ln
theorem info50 : (Try.prog.info? 50).map (fun i => (i.zero, i.size, i.bytes)) = some (some (.agg #[.int .i64 0, .bool false]), 2, 16) := by kernel_rfl
theorem src2 (W : World) (be : Nat) (x y : Value) (hx : W.cell? ⟨be, 0, none⟩ = some x) (hy : W.cell? ⟨be, 1, none⟩ = some y) (h1 : x.oneCell' = true) (h2 : y.oneCell' = true) : Src Try.prog 2 62 (.slice (some ⟨be, 0, none⟩) 1 1) 1 [x, y] W :=
  Src.ofSlice W Try.underlying62 ⟨be, 0, none⟩ 1 1 [x, y] rfl (fun j u hu => by
    rcases j with _ | _ | j
    · simp at hu; subst hu; simpa [Addr.add] using hx
    · simp at hu; subst hu; simpa [Addr.add] using hy
    · simp at hu) (fun u hu => by simp at hu; rcases hu with rfl | rfl <;> assumption)
/-- leaves lie at a block's head -/
def LA (W : World) (g m : Nat) (ys : List Int) : Prop := g < W.heap.size ∧ ∀ k, k < m → W.cell? ⟨g, k * 2, none⟩ = some (.int .i64 (ab (ys.getD k 0))) ∧ W.cell? ⟨g, k * 2 + 1, none⟩ = some (.bool (decide (ys.getD k 0 < 0)))
theorem LA.on {W W' : World} {g m : Nat} {ys : List Int} (h : LA W g m ys) (hb : Below W.heap.size W W') : LA W' g m ys :=
  ⟨Nat.lt_of_lt_of_le h.1 hb.size, fun k hk => ⟨(hb.cell (p := ⟨g, k * 2, none⟩) h.1).trans (h.2 k hk).1, (hb.cell (p := ⟨g, k * 2 + 1, none⟩) h.1).trans (h.2 k hk).2⟩⟩
theorem la_of {W : World} {g m c : Nat} {f : Nat → Int} {q : Nat → Bool} {M : Int} {T : TypeId} {ys : List Int} (h : Arr W g T (A17 f q M)) (hm : m ≤ 8) (hf : ∀ k, k < m → f k = ab (ys.getD k 0) ∧ q k = decide (ys.getD k 0 < 0)) : LA W g m ys :=
  ⟨h.lt, fun k hk => by rw [← (hf k hk).1, ← (hf k hk).2]; exact ⟨h.cell (A17_num f q M k (by omega)), h.cell (A17_mark f q M k (by omega))⟩⟩
/-- a leaf appended to a book's leaves: what is returned, and where it lies -/
def AL (b n : Nat) (ys : List Int) (W : World) (v : Value) (w' : World) : Prop := ∃ g c, v = .slice (some ⟨g, 0, none⟩) (n + 1) c ∧ n + 1 ≤ c ∧ b ≤ g ∧ LA w' g (n + 1) ys ∧ Below b W w'
theorem app_leaf {W : World} {b n be : Nat} {zs : List Int} {x : Int} (hA : Arr W b 54 (bkA n zs)) (hl : zs.length = n) (hn : n ≤ 8) (hx0 : 0 ≤ x) (h0 : W.cell? ⟨be, 0, none⟩ = some (.int .i64 x)) (h1 : W.cell? ⟨be, 1, none⟩ = some (.bool false)) (ty : TypeId) :
    ∃ v' w', (Builtin.append_ #[62, 62] ty #[.slice (some ⟨b, 0, none⟩) n 8, .slice (some ⟨be, 0, none⟩) 1 1]).run Try.prog W = .ok v' w' ∧ AL b n (zs ++ [x]) W v' w' := by
  obtain ⟨i0, hi, hz0, hz1, hz2⟩ := info_parts info50
  have hs := src2 W be _ _ h0 h1 rfl rfl
  have hys : ∀ k, k < n → (zs ++ [x]).getD k 0 = zs.getD k 0 := fun k hk => by simp [List.getD, List.getElem?_append_left (show k < zs.length by omega)]
  have hyn : (zs ++ [x]).getD n 0 = x := by rw [← hl]; simp [List.getD]
  by_cases c : n < 8
  · have r := run_append_room_src (P := Try.prog) W 62 62 ty 50 i0 Try.underlying62 hi b 0 n 8 _ 1 _ (by rw [hz1]; exact hs) (by omega) (fun j hj => by
      rw [hz1]
      have hj2 : j < 2 := hj
      rw [hA.cell (j := 0 + n * 2 + j) (v := (bkA n zs)[0 + n * 2 + j]'(by simp; omega)) (by rw [Array.getElem?_eq_getElem])]
      rfl) (fun j hj => hA.frozen _)
    rw [hz1, Nat.zero_add] at r
    have a1 := hA.set (n * 2) (.int .i64 x)
    rw [A17_setN _ _ _ _ n c] at a1
    have a2 := a1.set (n * 2 + 1) (.bool false)
    rw [A17_setM _ _ _ _ n c] at a2
    refine ⟨_, _, r, b, 8, rfl, by omega, Nat.le_refl _, la_of (c := 8) a2 (by omega) (fun k hk => ?_), ?_⟩
    · by_cases e : k = n
      · subst e
        rw [if_pos rfl, if_pos rfl, hyn]
        exact ⟨(ab_pos (by omega)).symm, by symm; simp; omega⟩
      · rw [if_neg e, if_neg e, hys k (by omega)]
        exact ⟨rfl, rfl⟩
    · exact ((Below.refl b W).setCell (p := ⟨b, n * 2, none⟩) (Nat.le_refl _) (.int .i64 x)).setCell (p := ⟨b, n * 2 + 1, none⟩) (Nat.le_refl _) (.bool false)
  · have e8 : n = 8 := by omega
    subst e8
    have hc := book_came hA hn
    have hold : (Builtin.firstCells i0.size 8 (.slice (some ⟨b, 0, none⟩) 8 8)).run Try.prog W.drew = .ok (lfs zs 8).toArray W.drew := by
      refine run_firstCells_some (P := Try.prog) W.drew i0.size 8 ⟨b, 0, none⟩ 8 8 (lfs zs 8) (by rw [hz1]; exact lfs_len zs 8) (fun j v hv => ?_)
      have e2 : (⟨b, 0, none⟩ : Addr).add j = ⟨b, j, none⟩ := by simp [Addr.add]; intro h; exact h.symm
      rw [e2]
      have := hc.olds j v hv
      rwa [Nat.zero_add] at this
    have r := run_append_grow_src (P := Try.prog) W 62 62 ty 50 i0 (.agg #[.int .i64 0, .bool false]) Try.underlying62 hi hz0 (some ⟨b, 0, none⟩) 8 8 (lfs zs 8) hold _ 1 _ (by rw [hz1]; exact hs) (by omega) (by omega) (by rw [hz2]; decide)
    have hge := grownCap_ge W (8 + 1) 8 50
    have AA := Arr.new W.drew ((lfs zs 8 ++ [Value.int .i64 x, Value.bool false]).toArray ++ Builtin.zeroCells (Value.agg #[.int .i64 0, .bool false]).cells (grownCap W (8 + 1) 8 50 - (8 + 1))) 50
    refine ⟨_, _, r, W.heap.size, _, rfl, hge, Nat.le_of_lt hA.lt, ⟨AA.lt, fun k hk => ?_⟩, (Below.refl b W).drew.alloc (Nat.le_of_lt hA.lt) _⟩
    have hl8 := lfs_len zs 8
    have key : ∀ j, j < 18 → ((lfs zs 8 ++ [Value.int .i64 x, .bool false]).toArray ++ Builtin.zeroCells (Value.agg #[.int .i64 0, .bool false]).cells (grownCap W (8 + 1) 8 50 - (8 + 1)))[j]? = (lfs zs 8 ++ [Value.int .i64 x, .bool false])[j]? := fun j hj => by
      rw [Array.getElem?_append_left (by simp [hl8]; omega), List.getElem?_toArray]
    by_cases e : k = 8
    · subst e
      rw [hyn]
      refine ⟨AA.cell ?_, AA.cell ?_⟩
      · rw [key _ (by omega), List.getElem?_append_right (by omega), hl8, ab_pos (by omega)] <;> rfl
      · rw [key _ (by omega), List.getElem?_append_right (by omega), hl8, show decide (x < 0) = false by simp; omega] <;> rfl
    · rw [hys k (by omega)]
      obtain ⟨l0, l1⟩ := lfs_at zs 8 k (by omega)
      refine ⟨AA.cell ?_, AA.cell ?_⟩
      · rw [key _ (by omega), List.getElem?_append_left (by omega)]; exact l0
      · rw [key _ (by omega), List.getElem?_append_left (by omega)]; exact l1
theorem step_app_leaf {ops : Array Oper} {o : Oper} {a : Act} {w : World} {K : Act → World → Prop} {Q : Exit → Act → World → Prop} {E : Prop}
    (hg : o.guard = none) (s x : Operand) (ho : o.op = .call { callee := .builtin .append, args := #[s, x], argTypes := #[62, 62] })
    {b n be : Nat} {ys : List Int} (hs : a.eval s = .slice (some ⟨b, 0, none⟩) n 8) (hx : a.eval x = .slice (some ⟨be, 0, none⟩) 1 1)
    (H : ∀ ty, ∃ v' w', (Builtin.append_ #[62, 62] ty #[.slice (some ⟨b, 0, none⟩) n 8, .slice (some ⟨be, 0, none⟩) 1 1]).run Try.prog w = .ok v' w' ∧ AL b n ys w v' w')
    (hK : ∀ v' w', AL b n ys w v' w' → K (a.put o.dst v') w') :
    if Region.wanted o (yielded ops a.tmps) = true then Oper.wp Try.prog o a w K Q else E := by
  have hw : Region.wanted o (yielded ops a.tmps) = true := by simp [Region.wanted, hg]
  rw [if_pos hw]
  obtain ⟨v', w', hrun, r'⟩ := H o.type
  unfold Oper.wp
  simp [execOp, ho, resolve, invoke, builtin, hs, hx, hrun, Result.andThen]
  exact hK v' w' r'
def BRel (W2 : World) (n : Nat) (ys : List Int) (x y z : Value) (wx : World) : Prop := ∃ g cp, x = .slice (some ⟨g, 0, none⟩) (n + 1) cp ∧ y = .int .i64 ((n : Int) + 1) ∧ z = .int .i64 0 ∧ n + 1 ≤ cp ∧ W2.heap.size ≤ g ∧ LA wx g (n + 1) ys ∧ Below W2.heap.size W2 wx
theorem brel_of {W2 W w5 : World} {n g5 c5 b : Nat} {ys : List Int} (hc : n + 1 ≤ c5) (hg : W2.heap.size ≤ g5) (hla : LA w5 g5 (n + 1) ys) (hb : Below W2.heap.size W2 W) (hb5 : Below b W w5) (hbb : W2.heap.size ≤ b) : BRel W2 n ys (.slice (some ⟨g5, 0, none⟩) (n + 1) c5) (.int .i64 ((n : Int) + 1)) (.int .i64 0) w5 :=
  ⟨g5, c5, rfl, rfl, rfl, hc, hg, hla, hb.trans (hb5.mono hbb)⟩
theorem LA.drew {W : World} {g m : Nat} {ys : List Int} (h : LA W g m ys) : LA W.drew g m ys := h
theorem la_set {W : World} {g m b : Nat} {ys : List Int} (h : LA W g m ys) (hne : g ≠ b) (j : Nat) (v : Value) : LA (W.setCell ⟨b, j, none⟩ v) g m ys :=
  ⟨by have e : (W.setCell ⟨b, j, none⟩ v).heap.size = W.heap.size := by simp [World.setCell]
      rw [e]; exact h.1, fun k hk => ⟨cell_other (h.2 k hk).1 hne, cell_other (h.2 k hk).2 hne⟩⟩
def S4 (W : World) (a0 a1 a2 a3 : Addr) (v0 v1 v2 v3 : Value) : Prop := W.cell? a0 = some v0 ∧ W.cell? a1 = some v1 ∧ W.cell? a2 = some v2 ∧ W.cell? a3 = some v3
theorem S4.on {W W' w' : World} {a0 a1 a2 a3 : Addr} {v0 v1 v2 v3 : Value} (h : S4 W a0 a1 a2 a3 v0 v1 v2 v3) (hb : Below W'.heap.size W' w') (e : W'.heap = W.heap) : S4 w' a0 a1 a2 a3 v0 v1 v2 v3 := by
  have key : ∀ {a : Addr} {v : Value}, W.cell? a = some v → w'.cell? a = some v := fun {a v} hc => by
    have hlt := World.block_lt_of_cell? _ _ hc
    have h1 : w'.heap[a.block]? = W.heap[a.block]? := by rw [hb.block a.block (by rw [e]; exact hlt), e]
    rw [World.cell?_of_block (w := W) h1]
    exact hc
  exact ⟨key h.1, key h.2.1, key h.2.2.1, key h.2.2.2⟩
set_option maxRecDepth 100000 in
set_option maxHeartbeats 8000000 in
theorem breaks_any (n : Nat) (zs : List Int) (hl : zs.length = n) (hn : n ≤ 8) (hB : Bnd zs) (w : World) :
    Calls Try.prog 55 #[.agg (bkA n zs)] w (Ret (.int .i64 (brk (zs ++ [(n : Int) + 1]) (n + 1))) w) := by
  obtain ⟨i0, hi, hz0, hz1, hz2⟩ := info_parts info50
  have CLV := Lib.hid (fun W => leaves_any n hn zs W)
  obtain ⟨W2, hW2⟩ : ∃ W2, (w.alloc (.cells (bkA n zs) 54)).alloc (.cells #[.int .i64 0, .bool false] 50) = W2 := ⟨_, rfl⟩
  have HW2 := Lib.hid hW2
  have hA2 : Arr W2 w.heap.size 54 (bkA n zs) := hW2 ▸ (Arr.new w _ _).on (below_alloc1 _ _)
  have HA2 := Lib.hid hA2
  clear hA2
  have HF2 := Lib.hid (show Arr W2 (w.heap.size + 1) 50 #[.int .i64 0, .bool false] from hW2 ▸ arr_new _ _ _ (by simp))
  have HB2 := Lib.hid (show Below w.heap.size w W2 from hW2 ▸ (below_alloc1 _ _).alloc (by simp) _)
  have hs2 : W2.heap.size = w.heap.size + 2 := by rw [← hW2]; simp
  have HS2 := Lib.hid hs2
  have hlt2 : w.heap.size < W2.heap.size := by omega
  have hnI : (n : Int) ≤ 8 := by omega
  have e12 : IntKind.i64.wrap ((n : Int) + 1) = (n : Int) + 1 := IntWalk.i64_in _ (by omega)
  have HAA := Lib.hid (fun ty => app_leaf (W := ((W2.alloc (.cells (bkA n zs) 54)).alloc (.cells #[.int .i64 ((n : Int) + 1), .bool false] 50)).drew) (b := W2.heap.size) (be := W2.heap.size + 1) (x := (n : Int) + 1) ((Arr.new W2 _ _).on (below_alloc1 _ _)).drew hl hn (by omega) ((arr_new _ _ _ (by simp)).drew.cell (j := 0) rfl) ((arr_new _ _ _ (by simp)).drew.cell (j := 1) rfl) ty)
  have HAB := Lib.hid (fun ty => app_leaf (W := ((W2.alloc (.cells #[.int .i64 ((n : Int) + 1), .bool false] 50)).alloc (.cells (bkA n zs) 54)).drew) (b := W2.heap.size + 1) (be := W2.heap.size) (x := (n : Int) + 1) (arr_new _ _ _ (by simp)).drew hl hn (by omega) (((Arr.new W2 _ _).on (below_alloc1 _ _)).drew.cell (j := 0) rfl) (((Arr.new W2 _ _).on (below_alloc1 _ _)).drew.cell (j := 1) rfl) ty)
  obtain ⟨ys, hys⟩ : ∃ ys, zs ++ [(n : Int) + 1] = ys := ⟨_, rfl⟩
  have b8 := bnd_8 hB
  have HK := Lib.hid (show ∀ k, k < n + 1 → -9 ≤ ys.getD k 0 ∧ ys.getD k 0 ≤ 9 ∧ ys.getD k 0 ≠ 0 from fun k hk => by
    rw [← hys]
    by_cases e : k < n
    · have := b8 k (by omega)
      have h0 := (hB.2.2.2 k (by omega)).1
      rw [show (zs ++ [(n : Int) + 1]).getD k 0 = zs.getD k 0 by simp [List.getD, List.getElem?_append_left (show k < zs.length by omega)]]
      omega
    · rw [show (zs ++ [(n : Int) + 1]).getD k 0 = (n : Int) + 1 by simp [List.getD, show k = zs.length by omega]]
      omega)
  have HKL := Lib.hid (show ∀ k, k ≤ n + 1 → -9 ≤ lst ys k ∧ lst ys k ≤ 9 from lst_8 (fun k hk => ⟨(HK.out k hk).1, (HK.out k hk).2.1⟩))
  obtain ⟨R, hR⟩ : ∃ R, brk ys (n + 1) = R := ⟨_, rfl⟩
  have HR := Lib.hid hR
  rw [hys] at HAA HAB ⊢
  rw [hR]
  clear hys hR b8 hB hl
  clear hW2 hs2
  go_enter Try.func55, Try.ntmps55
  go_wp2_with fail
  rw [HW2.out]
  go_upto_region 3 with fail
  go_cut [15, 16, 17] from 8 to 17 (fun x y z wx => BRel W2 n ys x y z wx)
  case first =>
    obtain ⟨q0, q1, q2, q3, q4, q5, q6, q7, q8, q9, q10, q11, q12, q13, q14, q15, q16⟩ := c17 HA2.out
    go_region_law (first
      | (go_simp; go_at_call 53; refine (CLV.out _).mono ?_; rintro e w' ⟨rfl, rfl⟩; go_wp2_with fail)
      | (refine step_app_leaf rfl (.tmp 9) (.tmp 14) rfl (by simp [Act.eval, Act.put]) (by simp [Act.eval, Act.put]) HAA.out ?_; intro v5 w5 hu5; obtain ⟨g5, c5, rfl, hc5, hg5, hla5, hb5⟩ := hu5; have hbb := brel_of hc5 (Nat.le_trans (Nat.le_refl _) hg5) hla5 (((Below.refl W2.heap.size W2).alloc (Nat.le_refl _) (.cells (bkA n zs) 54)).alloc (by simp) (.cells #[.int .i64 ((n : Int) + 1), .bool false] 50)).drew hb5 (Nat.le_refl _))
      | (refine step_app_leaf rfl (.tmp 9) (.tmp 14) rfl (by simp [Act.eval, Act.put]) (by simp [Act.eval, Act.put]) HAB.out ?_; intro v5 w5 hu5; obtain ⟨g5, c5, rfl, hc5, hg5, hla5, hb5⟩ := hu5; have hbb := brel_of hc5 (Nat.le_trans (Nat.le_succ _) hg5) hla5 (((Below.refl W2.heap.size W2).alloc (Nat.le_refl _) (.cells #[.int .i64 ((n : Int) + 1), .bool false] 50)).alloc (by simp) (.cells (bkA n zs) 54)).drew hb5 (Nat.le_succ _)))
    all_goals
      go_wp2_with fail
      go_meet
      exact hbb
  case rest =>
    obtain ⟨g, cp, rfl, rfl, rfl, hcp, hg, hla, hbx⟩ := hcut
    have HLA := Lib.hid hla
    have HBX := Lib.hid (HB2.out.trans (hbx.mono HB2.out.size))
    have HFX := Lib.hid (HF2.out.on hbx)
    have hgw : w.heap.size + 1 < g := by have := HS2.out; omega
    clear hla hbx HAA HAB CLV
    go_wp2_with fail
    go_loopw [3, 17] (fun s i wr => ∃ (k : Nat) (S : Int), k ≤ n + 1 ∧ i = .int .i64 (k : Int) ∧ s = .int .i64 S ∧ (0 ≤ S ∧ S ≤ 9) ∧ Hid (S = brk ys k) ∧ Hid (LA wr g (n + 1) ys) ∧ Hid (Arr wr (w.heap.size + 1) 50 #[.int .i64 (ab (lst ys k)), .bool (decide (lst ys k < 0))]) ∧ Hid (Below w.heap.size w wr)) (fun _ i _ => ((n : Int) + 1 - intOf i).toNat)
    case atStart => exact ⟨0, 0, by omega, rfl, rfl, ⟨by omega, by omega⟩, Lib.hid rfl, HLA, HFX, HBX⟩
    case round =>
      clear HLA HFX HBX
      obtain ⟨k, S, hk, rfl, rfl, ⟨s1, s2⟩, HS, HA, HF, HB⟩ := hrel
      by_cases hlt : (k : Int) < (n : Int) + 1
      · have hkn : k < n + 1 := by omega
        have hlt2 : (k : Int) < ((n + 1 : Nat) : Int) := by omega
        obtain ⟨q0, q1⟩ := HA.out.2 k hkn
        have r0 := HF.out.cell (j := 0) rfl
        have r1 := HF.out.cell (j := 1) rfl
        have HST := Lib.hid (brk_step ys k)
        have HBD := Lib.hid (brk_bd ys (k + 1))
        have HKk := Lib.hid (HK.out k hkn)
        have hll := HKL.out k hk
        obtain ⟨y, hy⟩ : ∃ y, lst ys k = y := ⟨_, rfl⟩
        obtain ⟨z, hz⟩ : ∃ z, ys.getD k 0 = z := ⟨_, rfl⟩
        have HLN := Lib.hid (show lst ys (k + 1) = z from hz)
        rw [hy] at r0 r1 HST hll HF
        rw [hz] at q0 q1 HST HKk
        have CF := Lib.hid (fun W => follow_any y hll.1 hll.2 W)
        have HSM := Lib.hid (brk_same (z := z) (y := y) HKk.out.2.2)
        obtain ⟨a, ha⟩ : ∃ a, ab z = a := ⟨_, rfl⟩
        obtain ⟨t, ht⟩ : ∃ t, decide (z < 0) = t := ⟨_, rfl⟩
        obtain ⟨b, hb⟩ : ∃ a, ab y = a := ⟨_, rfl⟩
        obtain ⟨u, hu⟩ : ∃ t, decide (y < 0) = t := ⟨_, rfl⟩
        obtain ⟨f, hf⟩ : ∃ f, fwN y = f := ⟨_, rfl⟩
        have HZ := Lib.hid (show ab z = a ∧ decide (z < 0) = t from ⟨ha, ht⟩)
        rw [ha] at q0 HSM
        rw [ht] at q1 HSM
        rw [hb] at r0 CF
        rw [hu] at r1 CF HSM
        rw [hf] at CF HSM
        have HY := Lib.hid (show ab y = b ∧ decide (y < 0) = u from ⟨hb, hu⟩)
        clear ha ht hb hu hf hy hz hll
        have HB1 := Lib.hid (HB.out.alloc HB.out.size (.cells #[.int .i64 a, .bool t] 50))
        have HA1 := Lib.hid (HA.out.on (below_alloc1 wr (.cells #[.int .i64 a, .bool t] 50)))
        have HF1 := Lib.hid (HF.out.on (below_alloc1 wr (.cells #[.int .i64 a, .bool t] 50)))
        have hg4 := HA.out.1
        have HS4 := Lib.hid (show S4 (wr.alloc (.cells #[.int .i64 a, .bool t] 50)) ⟨wr.heap.size, 0, none⟩ ⟨wr.heap.size, 1, none⟩ ⟨w.heap.size + 1, 0, none⟩ ⟨w.heap.size + 1, 1, none⟩ (.int .i64 a) (.bool t) (.int .i64 b) (.bool u) from ⟨(Arr.new wr _ _).cell rfl, (Arr.new wr _ _).cell rfl, cell_alloc r0 _, cell_alloc r1 _⟩)
        obtain ⟨p, hp⟩ : ∃ p, (a == f) = p := ⟨_, rfl⟩
        obtain ⟨q, hq⟩ : ∃ q, (t == u) = q := ⟨_, rfl⟩
        have hws : w.heap.size + 1 < wr.heap.size := HF.out.lt
        cases p
        · cases q
          · have p0 : (a == f) = false := hp
            have p1 : (t == u) = false := hq
            have p2 : (a != f) = true := by simp only [bne, p0]; rfl
            have p3 : (t != u) = true := by simp only [bne, p1]; rfl
            have HEQ := Lib.hid (show ¬ z = y + 1 by have := HSM.out; rw [hp, hq] at this; simpa using this.symm)
            have HN := Lib.hid (show S + 1 = brk ys (k + 1) by rw [HST.out, if_neg HEQ.out, HS.out])
            have HN9 := Lib.hid (show S + 1 ≤ 9 by have := HBD.out; have := HN.out; omega)
            clear hp hq
            go_wp2_with fail
            go_region_held3 (fun w' => w'.cell? ⟨wr.heap.size, 0, none⟩ = some (.int .i64 a) ∧ w'.cell? ⟨wr.heap.size, 1, none⟩ = some (.bool t) ∧ w'.cell? ⟨w.heap.size + 1, 0, none⟩ = some (.int .i64 b) ∧ w'.cell? ⟨w.heap.size + 1, 1, none⟩ = some (.bool u))
              (first | exact HS4.out | exact hs5 | go_keep)
              (first
                | (go_at_call 76; refine (CF.out _).mono ?_; rintro e w5 ⟨rfl, hb5⟩; have hs5 := HS4.out.on hb5 rfl))
            have HE5 := Lib.hid (HB1.out.drew.trans (hb5.mono HB1.out.size))
            have HA5 := Lib.hid ((LA.drew HA1.out).on hb5)
            have HF5 := Lib.hid ((HF1.out.drew).on hb5)
            have HC5 := Lib.hid (show w5.cell? ⟨wr.heap.size, 0, none⟩ = some (.int .i64 a) ∧ w5.cell? ⟨wr.heap.size, 1, none⟩ = some (.bool t) from ⟨hs5.1, hs5.2.1⟩)
            clear hb5 hs5 p0 p1 p2 p3
            have c0 := HC5.out.1
            have c1 := HC5.out.2
            have d0 := HF5.out.cell (j := 0) rfl
            have d1 := HF5.out.cell (j := 1) rfl
            have hfz := fun j => HF5.out.frozen j
            have A1 := HF5.out.set 0 (.int .i64 a)
            have d2 := A1.cell (j := 1) (v := .bool (decide (y < 0))) rfl
            have hfz1 := A1.frozen 1
            have c2 : (w5.setCell ⟨w.heap.size + 1, 0, none⟩ (.int .i64 a)).cell? ⟨wr.heap.size, 1, none⟩ = some (.bool t) := cell_other c1 (by omega)
            have HFN := Lib.hid (show Arr ((w5.setCell ⟨w.heap.size + 1, 0, none⟩ (.int .i64 a)).setCell ⟨w.heap.size + 1, 1, none⟩ (.bool t)) (w.heap.size + 1) 50 #[.int .i64 (ab (lst ys (k + 1))), .bool (decide (lst ys (k + 1) < 0))] by
              rw [HLN.out, HZ.out.1, HZ.out.2]
              exact A1.set 1 (.bool t))
            have HAN := Lib.hid (la_set (la_set HA5.out (b := w.heap.size + 1) (by omega) 0 (.int .i64 a)) (b := w.heap.size + 1) (by omega) 1 (.bool t))
            have HBN := Lib.hid ((HE5.out.setCell (p := ⟨w.heap.size + 1, 0, none⟩) (by simp) (.int .i64 a)).setCell (p := ⟨w.heap.size + 1, 1, none⟩) (by simp) (.bool t))
            clear A1
            go_wp2_with fail
            go_roundw
            case rel => exact ⟨k + 1, S + 1, by omega, by go_num, by first | rfl | go_num, ⟨by omega, HN9.out⟩, HN, HAN, HFN, HBN⟩
            case measure => simp [intOf]; omega
          · have p0 : (a == f) = false := hp
            have p1 : (t == u) = true := hq
            have p2 : (a != f) = true := by simp only [bne, p0]; rfl
            have p3 : (t != u) = false := by simp only [bne, p1]; rfl
            have HEQ := Lib.hid (show ¬ z = y + 1 by have := HSM.out; rw [hp, hq] at this; simpa using this.symm)
            have HN := Lib.hid (show S + 1 = brk ys (k + 1) by rw [HST.out, if_neg HEQ.out, HS.out])
            have HN9 := Lib.hid (show S + 1 ≤ 9 by have := HBD.out; have := HN.out; omega)
            clear hp hq
            go_wp2_with fail
            go_region_held3 (fun w' => w'.cell? ⟨wr.heap.size, 0, none⟩ = some (.int .i64 a) ∧ w'.cell? ⟨wr.heap.size, 1, none⟩ = some (.bool t) ∧ w'.cell? ⟨w.heap.size + 1, 0, none⟩ = some (.int .i64 b) ∧ w'.cell? ⟨w.heap.size + 1, 1, none⟩ = some (.bool u))
              (first | exact HS4.out | exact hs5 | go_keep)
              (first
                | (go_at_call 76; refine (CF.out _).mono ?_; rintro e w5 ⟨rfl, hb5⟩; have hs5 := HS4.out.on hb5 rfl))
            have HE5 := Lib.hid (HB1.out.drew.trans (hb5.mono HB1.out.size))
            have HA5 := Lib.hid ((LA.drew HA1.out).on hb5)
            have HF5 := Lib.hid ((HF1.out.drew).on hb5)
            have HC5 := Lib.hid (show w5.cell? ⟨wr.heap.size, 0, none⟩ = some (.int .i64 a) ∧ w5.cell? ⟨wr.heap.size, 1, none⟩ = some (.bool t) from ⟨hs5.1, hs5.2.1⟩)
            clear hb5 hs5 p0 p1 p2 p3
            have c0 := HC5.out.1
            have c1 := HC5.out.2
            have d0 := HF5.out.cell (j := 0) rfl
            have d1 := HF5.out.cell (j := 1) rfl
            have hfz := fun j => HF5.out.frozen j
            have A1 := HF5.out.set 0 (.int .i64 a)
            have d2 := A1.cell (j := 1) (v := .bool (decide (y < 0))) rfl
            have hfz1 := A1.frozen 1
            have c2 : (w5.setCell ⟨w.heap.size + 1, 0, none⟩ (.int .i64 a)).cell? ⟨wr.heap.size, 1, none⟩ = some (.bool t) := cell_other c1 (by omega)
            have HFN := Lib.hid (show Arr ((w5.setCell ⟨w.heap.size + 1, 0, none⟩ (.int .i64 a)).setCell ⟨w.heap.size + 1, 1, none⟩ (.bool t)) (w.heap.size + 1) 50 #[.int .i64 (ab (lst ys (k + 1))), .bool (decide (lst ys (k + 1) < 0))] by
              rw [HLN.out, HZ.out.1, HZ.out.2]
              exact A1.set 1 (.bool t))
            have HAN := Lib.hid (la_set (la_set HA5.out (b := w.heap.size + 1) (by omega) 0 (.int .i64 a)) (b := w.heap.size + 1) (by omega) 1 (.bool t))
            have HBN := Lib.hid ((HE5.out.setCell (p := ⟨w.heap.size + 1, 0, none⟩) (by simp) (.int .i64 a)).setCell (p := ⟨w.heap.size + 1, 1, none⟩) (by simp) (.bool t))
            clear A1
            go_wp2_with fail
            go_roundw
            case rel => exact ⟨k + 1, S + 1, by omega, by go_num, by first | rfl | go_num, ⟨by omega, HN9.out⟩, HN, HAN, HFN, HBN⟩
            case measure => simp [intOf]; omega
        · cases q
          · have p0 : (a == f) = true := hp
            have p1 : (t == u) = false := hq
            have p2 : (a != f) = false := by simp only [bne, p0]; rfl
            have p3 : (t != u) = true := by simp only [bne, p1]; rfl
            have HEQ := Lib.hid (show ¬ z = y + 1 by have := HSM.out; rw [hp, hq] at this; simpa using this.symm)
            have HN := Lib.hid (show S + 1 = brk ys (k + 1) by rw [HST.out, if_neg HEQ.out, HS.out])
            have HN9 := Lib.hid (show S + 1 ≤ 9 by have := HBD.out; have := HN.out; omega)
            clear hp hq
            go_wp2_with fail
            go_region_held3 (fun w' => w'.cell? ⟨wr.heap.size, 0, none⟩ = some (.int .i64 a) ∧ w'.cell? ⟨wr.heap.size, 1, none⟩ = some (.bool t) ∧ w'.cell? ⟨w.heap.size + 1, 0, none⟩ = some (.int .i64 b) ∧ w'.cell? ⟨w.heap.size + 1, 1, none⟩ = some (.bool u))
              (first | exact HS4.out | exact hs5 | go_keep)
              (first
                | (go_at_call 76; refine (CF.out _).mono ?_; rintro e w5 ⟨rfl, hb5⟩; have hs5 := HS4.out.on hb5 rfl))
            have HE5 := Lib.hid (HB1.out.drew.trans (hb5.mono HB1.out.size))
            have HA5 := Lib.hid ((LA.drew HA1.out).on hb5)
            have HF5 := Lib.hid ((HF1.out.drew).on hb5)
            have HC5 := Lib.hid (show w5.cell? ⟨wr.heap.size, 0, none⟩ = some (.int .i64 a) ∧ w5.cell? ⟨wr.heap.size, 1, none⟩ = some (.bool t) from ⟨hs5.1, hs5.2.1⟩)
            clear hb5 hs5 p0 p1 p2 p3
            have c0 := HC5.out.1
            have c1 := HC5.out.2
            have d0 := HF5.out.cell (j := 0) rfl
            have d1 := HF5.out.cell (j := 1) rfl
            have hfz := fun j => HF5.out.frozen j
            have A1 := HF5.out.set 0 (.int .i64 a)
            have d2 := A1.cell (j := 1) (v := .bool (decide (y < 0))) rfl
            have hfz1 := A1.frozen 1
            have c2 : (w5.setCell ⟨w.heap.size + 1, 0, none⟩ (.int .i64 a)).cell? ⟨wr.heap.size, 1, none⟩ = some (.bool t) := cell_other c1 (by omega)
            have HFN := Lib.hid (show Arr ((w5.setCell ⟨w.heap.size + 1, 0, none⟩ (.int .i64 a)).setCell ⟨w.heap.size + 1, 1, none⟩ (.bool t)) (w.heap.size + 1) 50 #[.int .i64 (ab (lst ys (k + 1))), .bool (decide (lst ys (k + 1) < 0))] by
              rw [HLN.out, HZ.out.1, HZ.out.2]
              exact A1.set 1 (.bool t))
            have HAN := Lib.hid (la_set (la_set HA5.out (b := w.heap.size + 1) (by omega) 0 (.int .i64 a)) (b := w.heap.size + 1) (by omega) 1 (.bool t))
            have HBN := Lib.hid ((HE5.out.setCell (p := ⟨w.heap.size + 1, 0, none⟩) (by simp) (.int .i64 a)).setCell (p := ⟨w.heap.size + 1, 1, none⟩) (by simp) (.bool t))
            clear A1
            go_wp2_with fail
            go_roundw
            case rel => exact ⟨k + 1, S + 1, by omega, by go_num, by first | rfl | go_num, ⟨by omega, HN9.out⟩, HN, HAN, HFN, HBN⟩
            case measure => simp [intOf]; omega
          · have p0 : (a == f) = true := hp
            have p1 : (t == u) = true := hq
            have p2 : (a != f) = false := by simp only [bne, p0]; rfl
            have p3 : (t != u) = false := by simp only [bne, p1]; rfl
            have HEQ := Lib.hid (show z = y + 1 by have := HSM.out; rw [hp, hq] at this; simpa using this.symm)
            have HN := Lib.hid (show S = brk ys (k + 1) by rw [HST.out, if_pos HEQ.out, HS.out]; omega)
            have HN9 := Lib.hid (show S ≤ 9 by have := HBD.out; have := HN.out; omega)
            clear hp hq
            go_wp2_with fail
            go_region_held3 (fun w' => w'.cell? ⟨wr.heap.size, 0, none⟩ = some (.int .i64 a) ∧ w'.cell? ⟨wr.heap.size, 1, none⟩ = some (.bool t) ∧ w'.cell? ⟨w.heap.size + 1, 0, none⟩ = some (.int .i64 b) ∧ w'.cell? ⟨w.heap.size + 1, 1, none⟩ = some (.bool u))
              (first | exact HS4.out | exact hs5 | go_keep)
              (first
                | (go_at_call 76; refine (CF.out _).mono ?_; rintro e w5 ⟨rfl, hb5⟩; have hs5 := HS4.out.on hb5 rfl))
            have HE5 := Lib.hid (HB1.out.drew.trans (hb5.mono HB1.out.size))
            have HA5 := Lib.hid ((LA.drew HA1.out).on hb5)
            have HF5 := Lib.hid ((HF1.out.drew).on hb5)
            have HC5 := Lib.hid (show w5.cell? ⟨wr.heap.size, 0, none⟩ = some (.int .i64 a) ∧ w5.cell? ⟨wr.heap.size, 1, none⟩ = some (.bool t) from ⟨hs5.1, hs5.2.1⟩)
            clear hb5 hs5 p0 p1 p2 p3
            have c0 := HC5.out.1
            have c1 := HC5.out.2
            have d0 := HF5.out.cell (j := 0) rfl
            have d1 := HF5.out.cell (j := 1) rfl
            have hfz := fun j => HF5.out.frozen j
            have A1 := HF5.out.set 0 (.int .i64 a)
            have d2 := A1.cell (j := 1) (v := .bool (decide (y < 0))) rfl
            have hfz1 := A1.frozen 1
            have c2 : (w5.setCell ⟨w.heap.size + 1, 0, none⟩ (.int .i64 a)).cell? ⟨wr.heap.size, 1, none⟩ = some (.bool t) := cell_other c1 (by omega)
            have HFN := Lib.hid (show Arr ((w5.setCell ⟨w.heap.size + 1, 0, none⟩ (.int .i64 a)).setCell ⟨w.heap.size + 1, 1, none⟩ (.bool t)) (w.heap.size + 1) 50 #[.int .i64 (ab (lst ys (k + 1))), .bool (decide (lst ys (k + 1) < 0))] by
              rw [HLN.out, HZ.out.1, HZ.out.2]
              exact A1.set 1 (.bool t))
            have HAN := Lib.hid (la_set (la_set HA5.out (b := w.heap.size + 1) (by omega) 0 (.int .i64 a)) (b := w.heap.size + 1) (by omega) 1 (.bool t))
            have HBN := Lib.hid ((HE5.out.setCell (p := ⟨w.heap.size + 1, 0, none⟩) (by simp) (.int .i64 a)).setCell (p := ⟨w.heap.size + 1, 1, none⟩) (by simp) (.bool t))
            clear A1
            go_wp2_with fail
            go_roundw
            case rel => exact ⟨k + 1, S, by omega, by go_num, by first | rfl | go_num, ⟨by omega, HN9.out⟩, HN, HAN, HFN, HBN⟩
            case measure => simp [intOf]; omega
      · have HE := Lib.hid (show S = R by rw [HS.out, ← HR.out, show k = n + 1 by omega])
        go_wp2
        go_ret
        exact ⟨by rw [HE.out] <;> rfl, HB.out⟩
end Ln
end Go.Proofs.Ytabnjoohojojnaa
