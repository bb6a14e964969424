/- Lists of lists of integers: what can be read of them, and copies of them. -/
import Derived.Test.YtcaklokcajidiabInts
import Derived.Lib.SmallJoins
import Derived.BigRegion
import Derived.OwnWalk
import Derived.Laws.OwnMore
import Derived.Lib.Slices
namespace Go.Proofs.Ytcaklokcajidiab
open Go.RowKit Go.Joins Li
set_option linter.unusedVariables false
set_option linter.unusedSimpArgs false
namespace Ss
def Ret (v : Value) (W : World) (e : Ending) (w' : World) : Prop := e = .returned v ∧ Below W.heap.size W w'
/-- integers at an address -/
def At (lo : Nat) (W : World) (b off : Nat) (zs : List Int) : Prop := lo ≤ b ∧ b < W.heap.size ∧ ∀ j, j < zs.length → W.cell? ⟨b, off + j, none⟩ = some (.int .i64 (zs.getD j 0))
theorem At.on {lo : Nat} {W W' : World} {b off : Nat} {zs : List Int} (h : At lo W b off zs) (hb : Below W.heap.size W W') : At lo W' b off zs :=
  ⟨h.1, Nat.lt_of_lt_of_le h.2.1 hb.size, fun j hj => (hb.cell (p := ⟨b, off + j, none⟩) h.2.1).trans (h.2.2 j hj)⟩
theorem At.grown {lo : Nat} {W W' : World} {b off : Nat} {zs : List Int} {row : Option Nat} (h : At lo W b off zs) (hg : W.grownBy W' row) (hr : some b ≠ row) : At lo W' b off zs :=
  ⟨h.1, Nat.lt_of_lt_of_le h.2.1 hg.size, fun j hj => hg.cell (h.2.2 j hj) hr⟩
/-- a slice of integers that can be read -/
def Row (lo : Nat) (W : World) (v : Value) (zs : List Int) : Prop := ∃ a cap, v = .slice a zs.length cap ∧ zs.length ≤ maxLen ∧ (zs.length = 0 ∨ ∃ b off, a = some ⟨b, off, none⟩ ∧ At lo W b off zs)
theorem Row.on {lo : Nat} {W W' : World} {v : Value} {zs : List Int} (h : Row lo W v zs) (hb : Below W.heap.size W W') : Row lo W' v zs := by
  obtain ⟨a, cap, e, hl, h⟩ := h
  exact ⟨a, cap, e, hl, h.imp id fun ⟨b, off, e, h⟩ => ⟨b, off, e, h.on hb⟩⟩
theorem Row.grown {lo g : Nat} {W W' : World} {v : Value} {zs : List Int} (h : Row lo W v zs) (hg : W.grownBy W' (some g)) (hr : g < lo) : Row lo W' v zs := by
  obtain ⟨a, cap, e, hl, h⟩ := h
  refine ⟨a, cap, e, hl, h.imp id fun ⟨b, off, e, h⟩ => ⟨b, off, e, h.grown hg ?_⟩⟩
  have := h.1
  intro hh
  simp only [Option.some.injEq] at hh
  omega
theorem Row.le {lo lo' : Nat} {W : World} {v : Value} {zs : List Int} (h : Row lo W v zs) (hb : lo' ≤ lo) : Row lo' W v zs := by
  obtain ⟨a, cap, e, hl, h⟩ := h
  exact ⟨a, cap, e, hl, h.imp id fun ⟨b, off, e, h⟩ => ⟨b, off, e, Nat.le_trans hb h.1, h.2⟩⟩
theorem Row.own {lo : Nat} {W : World} {v : Value} {zs : List Int} (h : W.ownsRow lo 3 1 v zs.length (nums zs)) (hl : zs.length ≤ maxLen) : Row lo W v zs := by
  rcases h.2 with ⟨rfl, h0⟩ | ⟨g, cap, cur, rfl, hb, hg⟩
  · rw [show zs = [] from List.eq_nil_of_length_eq_zero h0]
    exact ⟨none, 0, rfl, by simp, Or.inl rfl⟩
  · refine ⟨_, cap, rfl, hl, Or.inr ⟨g, 0, rfl, hb, (h.lt g rfl).2, fun j hj => ?_⟩⟩
    have hc := h.cellAt j (by omega)
    rw [Nat.zero_add, hc]
    unfold nums
    simp [List.getD, List.getElem?_eq_getElem hj]
/-- slices at an address, each of integers that can be read -/
def Rows (lo : Nat) (W : World) (b off : Nat) (R : List (List Int)) : Prop := b < W.heap.size ∧ ∀ r, r < R.length → ∃ u, W.cell? ⟨b, off + r, none⟩ = some u ∧ Row lo W u (R.getD r [])
theorem Rows.on {lo : Nat} {W W' : World} {b off : Nat} {R : List (List Int)} (h : Rows lo W b off R) (hb : Below W.heap.size W W') : Rows lo W' b off R :=
  ⟨Nat.lt_of_lt_of_le h.1 hb.size, fun r hr => by
    obtain ⟨u, hu, hr⟩ := h.2 r hr
    exact ⟨u, (hb.cell (p := ⟨b, off + r, none⟩) h.1).trans hu, hr.on hb⟩⟩
/-- a slice of slices of integers that can be read -/
def Grid (lo : Nat) (W : World) (v : Value) (R : List (List Int)) : Prop := ∃ a cap, v = .slice a R.length cap ∧ R.length ≤ maxLen ∧ (R.length = 0 ∨ ∃ b off, a = some ⟨b, off, none⟩ ∧ Rows lo W b off R)
theorem Grid.on {lo : Nat} {W W' : World} {v : Value} {R : List (List Int)} (h : Grid lo W v R) (hb : Below W.heap.size W W') : Grid lo W' v R := by
  obtain ⟨a, cap, e, hl, h⟩ := h
  exact ⟨a, cap, e, hl, h.imp id fun ⟨b, off, e, h⟩ => ⟨b, off, e, h.on hb⟩⟩
/-- none too long -/
def Small (R : List (List Int)) : Prop := R.length ≤ 1048576 ∧ ∀ r, r < R.length → (R.getD r []).length ≤ 1048576
def copyOf (zs : List Int) (n k : Nat) : List Value := (zs.take k).map (Value.int .i64) ++ List.replicate (n - k) (.int .i64 0)
theorem copy_start (zs : List Int) (n : Nat) : copyOf zs n 0 = List.replicate n (.int .i64 0) := by simp [copyOf]
theorem copy_step (zs : List Int) (n k : Nat) (hk : k < n) (hn : zs.length = n) : (copyOf zs n k).set k (.int .i64 (zs.getD k 0)) = copyOf zs n (k + 1) := by
  subst hn
  unfold copyOf
  have e : zs.take (k + 1) = zs.take k ++ [zs.getD k 0] := by
    rw [List.take_succ_eq_append_getElem (by omega)]
    simp [List.getD, List.getElem?_eq_getElem hk]
  rw [e, List.set_append_right _ _ (by simp; omega)]
  have e2 : k - ((zs.take k).map (Value.int .i64)).length = 0 := by simp; omega
  rw [e2, show zs.length - k = (zs.length - (k + 1)) + 1 from by omega, List.replicate_succ]
  simp
theorem copy_end (zs : List Int) (n : Nat) (hn : zs.length = n) : copyOf zs n n = nums zs := by
  unfold copyOf nums
  rw [List.take_of_length_le (by omega)]
  simp
def Made (lo : Nat) (zs : List Int) (W : World) (e : Ending) (w' : World) : Prop := ∃ u, e = .returned u ∧ w'.ownsRow lo 3 1 u zs.length (nums zs) ∧ Row lo w' u zs ∧ Below W.heap.size W w'
set_option maxRecDepth 100000 in
set_option maxHeartbeats 1000000 in
theorem toIntS_some (b off len cap : Nat) (zs : List Int) (w : World) (h : At 0 w b off zs) (hz : zs.length = len) (hm : len ≤ 1048576) :
    Calls Try.prog 26 #[.slice (some ⟨b, off, none⟩) len cap] w fun e w' => e = .returned (.slice (some ⟨w.heap.size, 0, none⟩) len len) ∧ w'.ownsRow w.heap.size 3 1 (.slice (some ⟨w.heap.size, 0, none⟩) len len) len (nums zs) ∧ Below w.heap.size w w' := by
  obtain ⟨i0, hi, hz0, hz1, hz2⟩ := info_parts info3
  have HC := Lib.hid h
  have HZ := Lib.hid hz
  clear h hz
  go_enter Try.func26, Try.ntmps26
  go_wp2_with (first | (at_make; refine wpList_make_full _ rfl _ _ 24 rfl w.heap.size 3 i0 (.int .i64 0) 1 Try.underlying24 hi hz0 hz1 _ _ _ _ len rfl rfl rfl rfl (by rw [hz2]; omega) (by unfold maxLen; omega) (Nat.le_refl _) ?_; intro w1 hown hg1))
  have h0 : w1.ownsRow w.heap.size 3 1 (.slice (some ⟨w.heap.size, 0, none⟩) len len) len (copyOf zs len 0) := by
    rw [copy_start]
    have e : (madeCells (Value.int .i64 0).cells (len * 1)).toList = List.replicate len (.int .i64 0) := by rw [Nat.mul_one]; exact toList_madeCells_one _ _
    rw [← e]; exact hown
  have hb0 := below_of_grown hg1
  clear hown hg1
  go_loopw [4] (fun i wr => ∃ k : Nat, k ≤ len ∧ i = .int .i64 (k : Int) ∧ wr.ownsRow w.heap.size 3 1 (.slice (some ⟨w.heap.size, 0, none⟩) len len) len (copyOf zs len k) ∧ Below w.heap.size w wr) (fun i _ => ((len : Int) - intOf i).toNat)
  case atStart => exact ⟨0, by omega, rfl, h0, hb0⟩
  case round =>
    obtain ⟨k, hk, rfl, hown, hb⟩ := hrel
    have hr := HC.out.on hb
    have hl := HZ.out
    by_cases hlt : (k : Int) < len
    · have hc := hr.2.2 k (by omega)
      have hd : ∃ v, wr.cell? ⟨w.heap.size, k, none⟩ = some v := by
        rw [hown.cellAt k (by omega)]
        exact ⟨_, List.getElem?_eq_getElem (by rw [hown.1]; omega)⟩
      obtain ⟨v, hd⟩ := hd
      have hf := hown.frozenAt k
      have hst := hown.stored k (.int .i64 (zs.getD k 0))
      rw [copy_step zs len k (by omega) hl] at hst
      have HST := Lib.hid hst.1
      have hB := hb.setCell (p := ⟨w.heap.size, k, none⟩) (Nat.le_refl _) (.int .i64 (zs.getD k 0))
      have HB := Lib.hid hB
      clear hst hown hr hb hB hl
      go_wp2
      go_roundw
      case rel => exact ⟨k + 1, by omega, by go_num, HST.out, HB.out⟩
      case measure => simp [intOf]; omega
    · have e : k = len := by omega
      rw [e, copy_end zs len hl] at hown
      clear hr hl e
      go_wp2
      go_ret
      exact ⟨rfl, hown, hb⟩
set_option maxRecDepth 100000 in
theorem toIntS_none (a : Option Addr) (cap : Nat) (w : World) :
    Calls Try.prog 26 #[.slice a 0 cap] w fun e w' => e = .returned (.slice (some ⟨w.heap.size, 0, none⟩) 0 0) ∧ w'.ownsRow w.heap.size 3 1 (.slice (some ⟨w.heap.size, 0, none⟩) 0 0) 0 [] ∧ Below w.heap.size w w' := by
  obtain ⟨i0, hi, hz0, hz1, hz2⟩ := info_parts info3
  go_enter Try.func26, Try.ntmps26
  go_wp2_with (first | (at_make; refine wpList_make_full _ rfl _ _ 24 rfl w.heap.size 3 i0 (.int .i64 0) 1 Try.underlying24 hi hz0 hz1 _ _ _ _ 0 rfl rfl rfl rfl (by rw [hz2]; omega) (by unfold maxLen; omega) (Nat.le_refl _) ?_; intro w1 hown hg1))
  refine wp_loop_rounds 1 ?_
  rw [rounds_succ]
  go_wp2
  go_ret
  exact ⟨rfl, by simpa [madeCells] using hown, below_of_grown hg1⟩
theorem toIntS_any {v : Value} {zs : List Int} {w : World} (h : Row 0 w v zs) (hl : zs.length ≤ 1048576) : Calls Try.prog 26 #[v] w (Made w.heap.size zs w) := by
  obtain ⟨a, cap, rfl, hm, h⟩ := h
  by_cases h0 : zs.length = 0
  · have e : zs = [] := List.eq_nil_of_length_eq_zero h0
    subst e
    exact (toIntS_none a cap w).mono fun e w' ⟨he, ho, hb⟩ => ⟨_, he, ho, Row.own ho (by simp), hb⟩
  · obtain ⟨b, off, rfl, hr⟩ := h.resolve_left h0
    exact (toIntS_some b off zs.length cap zs w hr rfl hl).mono fun e w' ⟨he, ho, hb⟩ => ⟨_, he, ho, Row.own ho hm, hb⟩
theorem info24 : (Try.prog.info? 24).map (fun i => (i.zero, i.size, i.bytes)) = some (some (.slice none 0 0), 1, 24) := by kernel_rfl
def upd (g : Nat → Value) (k : Nat) (v : Value) (i : Nat) : Value := if i = k then v else g i
theorem upd_at (g : Nat → Value) (k : Nat) (v : Value) : upd g k v k = v := by simp [upd]
theorem upd_ne (g : Nat → Value) (k : Nat) (v : Value) (i : Nat) (h : i ≠ k) : upd g k v i = g i := by simp [upd, h]
/-- a made list of slices, the first k of them written -/
def cpOf (g : Nat → Value) (n k : Nat) : List Value := (List.range n).map fun i => if i < k then g i else .slice none 0 0
theorem cp_start (g : Nat → Value) (n : Nat) : cpOf g n 0 = List.replicate n (.slice none 0 0) := by
  apply List.ext_getElem?
  intro j
  by_cases hj : j < n <;> simp [cpOf, hj]
theorem cp_step (g : Nat → Value) (n k : Nat) (v : Value) : (cpOf g n k).set k v = cpOf (upd g k v) n (k + 1) := by
  apply List.ext_getElem?
  intro j
  by_cases hj : j < n
  · by_cases h1 : j = k
    · subst h1
      simp [cpOf, List.getElem?_set, hj, upd]
    · by_cases h2 : j < k
      · simp [cpOf, List.getElem?_set, hj, upd, h1, h2, show ¬ k = j by omega, show j < k + 1 by omega]
      · simp [cpOf, List.getElem?_set, hj, upd, h1, h2, show ¬ k = j by omega, show ¬ j < k + 1 by omega]
  · simp [cpOf, List.getElem?_set, hj]
theorem cp_at (g : Nat → Value) (n k j : Nat) (h : j < n) : (cpOf g n k)[j]? = some (if j < k then g j else .slice none 0 0) := by simp [cpOf, h]
def Made2 (R : List (List Int)) (W : World) (e : Ending) (w' : World) : Prop := ∃ u, e = .returned u ∧ Grid W.heap.size w' u R ∧ Below W.heap.size W w'
set_option maxRecDepth 100000 in
set_option maxHeartbeats 2000000 in
theorem toIntSS_some (b off len cap : Nat) (R : List (List Int)) (w : World) (h : Rows 0 w b off R) (hz : R.length = len) (hs : Small R) :
    Calls Try.prog 25 #[.slice (some ⟨b, off, none⟩) len cap] w (Made2 R w) := by
  obtain ⟨i0, hi, hz0, hz1, hz2⟩ := info_parts info24
  have HC := Lib.hid h
  have HZ := Lib.hid hz
  have HS := Lib.hid hs
  have hm : len ≤ 1048576 := hz ▸ hs.1
  clear h hz hs
  go_enter Try.func25, Try.ntmps25
  go_wp2_with (first | (at_make; refine wpList_make_full _ rfl _ _ 40 rfl w.heap.size 24 i0 (.slice none 0 0) 1 Try.underlying40 hi hz0 hz1 _ _ _ _ len rfl rfl rfl rfl (by rw [hz2]; omega) (by unfold maxLen; omega) (Nat.le_refl _) ?_; intro w1 hown hg1))
  have h0 : w1.ownsRow w.heap.size 24 1 (.slice (some ⟨w.heap.size, 0, none⟩) len len) len (cpOf (fun _ => .slice none 0 0) len 0) := by
    rw [cp_start]
    have e : (madeCells (Value.slice none 0 0).cells (len * 1)).toList = List.replicate len (.slice none 0 0) := by rw [Nat.mul_one]; exact toList_madeCells_one _ _
    rw [← e]; exact hown
  have hb0 := below_of_grown hg1
  clear hown hg1
  go_loopw [4] (fun i wr => ∃ (k : Nat) (g : Nat → Value), k ≤ len ∧ i = .int .i64 (k : Int) ∧ wr.ownsRow w.heap.size 24 1 (.slice (some ⟨w.heap.size, 0, none⟩) len len) len (cpOf g len k) ∧ (∀ r, r < k → Row (w.heap.size + 1) wr (g r) (R.getD r [])) ∧ Below w.heap.size w wr) (fun i _ => ((len : Int) - intOf i).toNat)
  case atStart => exact ⟨0, _, by omega, rfl, h0, fun r hr => by omega, hb0⟩
  case round =>
    obtain ⟨k, g, hk, rfl, hown, hrow, hb⟩ := hrel
    have hr := HC.out.on hb
    have hl := HZ.out
    by_cases hlt : (k : Int) < len
    · obtain ⟨u, hc, hu⟩ := hr.2 k (by omega)
      have hsz := HS.out.2 k (by omega)
      have HU := Lib.hid hu
      have HO := Lib.hid hown
      have HR := Lib.hid hrow
      have HB := Lib.hid hb
      clear hu hown hrow hb hr hl
      go_wp2_with fail
      refine (toIntS_any HU.out hsz).mono ?_
      rintro e w2 ⟨x, rfl, _, hx, hb2⟩
      have hown2 := own_on HO.out hb2
      have hrow2 : ∀ r, r < k → Row (w.heap.size + 1) w2 (g r) (R.getD r []) := fun r hr => (HR.out r hr).on hb2
      have hlt2 : w.heap.size < wr.heap.size := (HO.out.lt w.heap.size rfl).2
      have hx2 : Row (w.heap.size + 1) w2 x (R.getD k []) := hx.le (by omega)
      have hB := HB.out.trans (below_le hb2 HB.out.size)
      have hd : ∃ v, w2.cell? ⟨w.heap.size, k, none⟩ = some v := by
        rw [hown2.cellAt k (by omega)]
        exact ⟨_, List.getElem?_eq_getElem (by rw [hown2.1]; omega)⟩
      obtain ⟨v, hd⟩ := hd
      have hf := hown2.frozenAt k
      have hst := hown2.stored k x
      rw [cp_step g len k x] at hst
      have HO' := Lib.hid hst.1
      have HR' := Lib.hid (show ∀ r, r < k + 1 → Row (w.heap.size + 1) (w2.setCell ⟨w.heap.size, k, none⟩ x) (upd g k x r) (R.getD r []) from fun r hr => by
        by_cases e : r = k
        · rw [e, upd_at]
          exact hx2.grown hst.2 (by omega)
        · rw [upd_ne g k x r e]
          exact (hrow2 r (by omega)).grown hst.2 (by omega))
      have HB' := Lib.hid (hB.setCell (p := ⟨w.heap.size, k, none⟩) (Nat.le_refl _) x)
      clear hst hown2 hrow2 hB HO HR HB HU hx2 hc hb2 hlt2 hsz
      obtain ⟨xa, xc, rfl, _, _⟩ := hx
      go_wp2
      go_roundw
      case rel => exact ⟨k + 1, _, by omega, by go_num, HO'.out, HR'.out, HB'.out⟩
      case measure => simp [intOf]; omega
    · have e : k = len := by omega
      have HG := Lib.hid (show Grid w.heap.size wr (.slice (some ⟨w.heap.size, 0, none⟩) len len) R from by
        subst e
        refine ⟨_, _, by rw [hl], by rw [hl]; unfold maxLen; omega, Or.inr ⟨_, _, rfl, (hown.lt w.heap.size rfl).2, fun r hr => ⟨g r, ?_, (hrow r (by omega)).le (by omega)⟩⟩⟩
        rw [Nat.zero_add, hown.cellAt r (by omega), cp_at g k k r (by omega), if_pos (by omega)])
      clear hr hl e hown hrow
      go_wp2
      go_ret
      exact ⟨_, rfl, HG.out, hb⟩
set_option maxRecDepth 100000 in
theorem toIntSS_none (a : Option Addr) (cap : Nat) (w : World) :
    Calls Try.prog 25 #[.slice a 0 cap] w (Made2 [] w) := by
  obtain ⟨i0, hi, hz0, hz1, hz2⟩ := info_parts info24
  go_enter Try.func25, Try.ntmps25
  go_wp2_with (first | (at_make; refine wpList_make_full _ rfl _ _ 40 rfl w.heap.size 24 i0 (.slice none 0 0) 1 Try.underlying40 hi hz0 hz1 _ _ _ _ 0 rfl rfl rfl rfl (by rw [hz2]; omega) (by unfold maxLen; omega) (Nat.le_refl _) ?_; intro w1 hown hg1))
  have HB := Lib.hid (below_of_grown hg1)
  clear hown hg1
  refine wp_loop_rounds 1 ?_
  rw [rounds_succ]
  go_wp2
  go_ret
  exact ⟨_, rfl, ⟨_, _, rfl, by simp, Or.inl rfl⟩, HB.out⟩
theorem toIntSS_any {v : Value} {R : List (List Int)} {w : World} (h : Grid 0 w v R) (hs : Small R) : Calls Try.prog 25 #[v] w (Made2 R w) := by
  obtain ⟨a, cap, rfl, hm, h⟩ := h
  by_cases h0 : R.length = 0
  · have e : R = [] := List.eq_nil_of_length_eq_zero h0
    subst e
    exact toIntSS_none a cap w
  · obtain ⟨b, off, rfl, hr⟩ := h.resolve_left h0
    exact toIntSS_some b off R.length cap R w hr rfl hs
end Ss
end Go.Proofs.Ytcaklokcajidiab
