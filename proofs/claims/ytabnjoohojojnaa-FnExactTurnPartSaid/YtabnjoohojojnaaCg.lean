/- A part turned over, by the program: its leaves in the other order, each one turned. -/
import Derived.Test.YtabnjoohojojnaaCa
import Derived.Deep.RegionHeld3
namespace Go.Proofs.Ytabnjoohojojnaa
open Go.RowKit Go.Joins Go.Deep Go.ChangeShapes Go.WideShapes
set_option linter.unusedVariables false
set_option linter.unusedSimpArgs false
namespace Ln
/-- s exchanges from both ends of a part inward -/
def sw {α : Type} (f : Nat → α) (a t s j : Nat) : α := if (a ≤ j ∧ j < a + s) ∨ (t < j + s ∧ j ≤ t) then f (a + t - j) else f j
theorem sw_zero {α : Type} (f : Nat → α) (a t j : Nat) : sw f a t 0 j = f j := by
  unfold sw
  by_cases c : (a ≤ j ∧ j < a + 0) ∨ (t < j + 0 ∧ j ≤ t)
  · omega
  · rw [if_neg c]
/-- one exchange more -/
theorem sw_step {α : Type} (f : Nat → α) (a t s : Nat) (h : a + s < t - s) (j : Nat) : (if j = t - s then sw f a t s (a + s) else if j = a + s then sw f a t s (t - s) else sw f a t s j) = sw f a t (s + 1) j := by
  by_cases e1 : j = t - s
  · rw [if_pos e1, e1]
    unfold sw
    rw [if_neg (by omega), if_pos (by omega), show a + t - (t - s) = a + s by omega]
  · rw [if_neg e1]
    by_cases e2 : j = a + s
    · rw [if_pos e2, e2]
      unfold sw
      rw [if_neg (by omega), if_pos (by omega), show a + t - (a + s) = t - s by omega]
    · rw [if_neg e2]
      unfold sw
      by_cases c : (a ≤ j ∧ j < a + s) ∨ (t < j + s ∧ j ≤ t)
      · rw [if_pos c, if_pos (by omega)]
      · rw [if_neg c, if_neg (by omega)]
/-- all exchanged: the part is the other way round -/
def rv {α : Type} (f : Nat → α) (a t j : Nat) : α := if a ≤ j ∧ j ≤ t then f (a + t - j) else f j
theorem sw_end {α : Type} (f : Nat → α) (a t s : Nat) (h1 : t - s ≤ a + s) (h2 : s ≤ t) (h3 : a + s ≤ t - s + 1) (hat : a ≤ t) (j : Nat) : sw f a t s j = rv f a t j := by
  unfold sw rv
  by_cases c : a ≤ j ∧ j ≤ t
  · rw [if_pos c]
    by_cases c2 : (a ≤ j ∧ j < a + s) ∨ (t < j + s ∧ j ≤ t)
    · rw [if_pos c2]
    · rw [if_neg c2, show a + t - j = j by omega]
  · rw [if_neg c, if_neg (by omega)]
def T4 (W : World) (b o p : Nat) (x y : Int) (s t : Bool) : Prop := W.cell? ⟨b, o, none⟩ = some (.int .i64 x) ∧ W.cell? ⟨b, o + 1, none⟩ = some (.bool s) ∧ W.cell? ⟨b, p, none⟩ = some (.int .i64 y) ∧ W.cell? ⟨b, p + 1, none⟩ = some (.bool t)
/-- what lies in other blocks is as it was -/
def Apart (b : Nat) (w w' : World) : Prop := (∀ B w0, Below B w0 w → B ≤ b → Below B w0 w') ∧ ∀ b' T cur, b' ≠ b → Arr w b' T cur → Arr w' b' T cur
theorem Apart.refl (b : Nat) (w : World) : Apart b w w := ⟨fun _ _ h _ => h, fun _ _ _ _ h => h⟩
theorem Apart.set {b : Nat} {w w' : World} (h : Apart b w w') (j : Nat) (v : Value) : Apart b w (w'.setCell ⟨b, j, none⟩ v) :=
  ⟨fun B w0 hb hB => (h.1 B w0 hb hB).setCell (p := ⟨b, j, none⟩) hB v, fun b' T cur hne ha => arr_other (h.2 b' T cur hne ha) hne j v⟩
theorem Apart.drew {b : Nat} {w w' : World} (h : Apart b w w') (n : Nat) : Apart b w (w'.drewN n) := ⟨fun B w0 hb hB => Li.below_draws (h.1 B w0 hb hB) n, fun b' T cur hne ha => h.2 b' T cur hne ha⟩
theorem rev_step {wr : World} {b a t s Q : Nat} {T : TypeId} {F : Nat → Int} {G : Nat → Bool} {M X Y : Int} {X' Y' : Bool} (h : Arr wr b T (A17 (sw F a t s) (sw G a t s) M)) (hs : a + s < t - s) (hQ : a + Q = t - s) (ht : t < 8)
    (hX : sw F a t s (a + s) = X) (hX' : sw G a t s (a + s) = X') (hY : sw F a t s (a + Q) = Y) (hY' : sw G a t s (a + Q) = Y') :
    Arr ((((wr.setCell ⟨b, a * 2 + s * 2, none⟩ (.int .i64 Y)).setCell ⟨b, a * 2 + s * 2 + 1, none⟩ (.bool Y')).setCell ⟨b, a * 2 + Q * 2, none⟩ (.int .i64 X)).setCell ⟨b, a * 2 + Q * 2 + 1, none⟩ (.bool X')) b T (A17 (sw F a t (s + 1)) (sw G a t (s + 1)) M) := by
  have h1 := h.set ((a + s) * 2) (.int .i64 Y)
  rw [A17_setN _ _ _ _ (a + s) (by omega)] at h1
  have h2 := h1.set ((a + s) * 2 + 1) (.bool Y')
  rw [A17_setM _ _ _ _ (a + s) (by omega)] at h2
  have h3 := h2.set ((a + Q) * 2) (.int .i64 X)
  rw [A17_setN _ _ _ _ (a + Q) (by omega)] at h3
  have h4 := h3.set ((a + Q) * 2 + 1) (.bool X')
  rw [A17_setM _ _ _ _ (a + Q) (by omega)] at h4
  rw [show (a + s) * 2 = a * 2 + s * 2 by omega, show (a + Q) * 2 = a * 2 + Q * 2 by omega] at h4
  rw [A17_ext (f' := sw F a t (s + 1)) (g' := sw G a t (s + 1)) (fun j _ => by
    rw [← sw_step F a t s hs j, ← hQ, hX, hY]) (fun j _ => by
    rw [← sw_step G a t s hs j, ← hQ, hX', hY'])] at h4
  exact h4
set_option maxRecDepth 100000 in
set_option maxHeartbeats 4000000 in
theorem reverse_any {b a t m c : Nat} {F : Nat → Int} {G : Nat → Bool} {M : Int} {w : World} (hA : Arr w b 54 (A17 F G M)) (hat : a ≤ t) (ht : t < 8) (hm : m = t + 1 - a) (hc : m ≤ c) :
    Calls Try.prog 86 #[.slice (some ⟨b, a * 2, none⟩) m c] w fun e w' => e = .returned (.tuple #[]) ∧ Arr w' b 54 (A17 (rv F a t) (rv G a t) M) ∧ Apart b w w' := by
  have HA := Lib.hid hA
  have HM := Lib.hid hm
  have hm8 : m ≤ 8 := by omega
  have hm1 : 1 ≤ m := by omega
  clear hA hm
  go_enter Try.func86, Try.ntmps86
  go_wp2
  go_loopw [2, 3] (fun i j wr => ∃ (s : Nat) (q : Int), i = .int .i64 (s : Int) ∧ j = .int .i64 q ∧ (-8 ≤ q ∧ q ≤ 7 ∧ s ≤ 8) ∧ Hid (q = (m : Int) - 1 - (s : Int) ∧ (s : Int) ≤ q + 1) ∧ Hid (Arr wr b 54 (A17 (sw F a t s) (sw G a t s) M)) ∧ Hid (Apart b w wr)) (fun i _ _ => (8 - intOf i).toNat)
  case atStart => exact ⟨0, (m : Int) - 1, rfl, rfl, ⟨by omega, by omega, by omega⟩, Lib.hid ⟨by omega, by omega⟩, Lib.hid (by
    rw [A17_ext (f' := F) (g' := G) (fun j _ => sw_zero F a t j) (fun j _ => sw_zero G a t j)]
    exact HA.out), Lib.hid (Apart.refl _ _)⟩
  case round =>
    obtain ⟨s, q, rfl, rfl, ⟨q1, q2, s8⟩, HQ, HR, HP⟩ := hrel
    by_cases hlt : (s : Int) < q
    · obtain ⟨Q, rfl⟩ := Int.eq_ofNat_of_zero_le (show 0 ≤ q by omega)
      have hQ := HQ.out.1
      have hQ2 : Q = t - a - s := by have := HM.out; omega
      have hsQ : s < Q := by omega
      have hQm : Q < m := by omega
      have hse : a + s < t - s := by omega
      have haQ : a + Q = t - s := by omega
      have hlm : (Q : Int) < (m : Int) := by omega
      have hsm : (s : Int) < (m : Int) := by omega
      have x0 := HR.out.cell (A17_num (sw F a t s) (sw G a t s) M (a + s) (by omega))
      have x1 := HR.out.cell (A17_mark (sw F a t s) (sw G a t s) M (a + s) (by omega))
      have y0 := HR.out.cell (A17_num (sw F a t s) (sw G a t s) M (a + Q) (by omega))
      have y1 := HR.out.cell (A17_mark (sw F a t s) (sw G a t s) M (a + Q) (by omega))
      have fz := fun j => HR.out.frozen j
      obtain ⟨X, hX⟩ : ∃ X, sw F a t s (a + s) = X := ⟨_, rfl⟩
      obtain ⟨X', hX'⟩ : ∃ X, sw G a t s (a + s) = X := ⟨_, rfl⟩
      obtain ⟨Y, hY⟩ : ∃ X, sw F a t s (a + Q) = X := ⟨_, rfl⟩
      obtain ⟨Y', hY'⟩ : ∃ X, sw G a t s (a + Q) = X := ⟨_, rfl⟩
      rw [hX] at x0
      rw [hX'] at x1
      rw [hY] at y0
      rw [hY'] at y1
      rw [show (a + s) * 2 = a * 2 + s * 2 by omega] at x0 x1
      rw [show (a + Q) * 2 = a * 2 + Q * 2 by omega] at y0 y1
      have HH := Lib.hid (show T4 wr b (a * 2 + s * 2) (a * 2 + Q * 2) X Y X' Y' from ⟨x0, x1, y0, y1⟩)
      have HW := Lib.hid (rev_step HR.out hse haQ ht hX hX' hY hY')
      have HW2 := Lib.hid ((((HP.out.set (a * 2 + s * 2) (.int .i64 Y)).set (a * 2 + s * 2 + 1) (.bool Y')).set (a * 2 + Q * 2) (.int .i64 X)).set (a * 2 + Q * 2 + 1) (.bool X'))
      have HN := Lib.hid (show ((Q : Int) - 1 = (m : Int) - 1 - ((s + 1 : Nat) : Int) ∧ ((s + 1 : Nat) : Int) ≤ (Q : Int) - 1 + 1) by omega)
      clear hQ hQ2 hse haQ hX hX' hY hY'
      go_wp2_with fail
      go_region
      go_wp2_with fail
      go_roundw
      case rel => exact ⟨s + 1, (Q : Int) - 1, by go_num, rfl, ⟨by omega, by omega, by omega⟩, HN, Lib.hid HW.out, Lib.hid (HW2.out.drew _)⟩
      case measure => simp [intOf]; omega
    · have HE := Lib.hid (show Arr wr b 54 (A17 (rv F a t) (rv G a t) M) by
        have h1 := HQ.out
        have h2 := HM.out
        rw [← A17_ext (fun j _ => sw_end F a t s (by omega) (by omega) (by omega) hat j) (fun j _ => sw_end G a t s (by omega) (by omega) (by omega) hat j)]
        exact HR.out)
      go_wp2
      go_end0
      exact ⟨rfl, HE.out, HP.out⟩
def flp (g : Nat → Bool) (a k j : Nat) : Bool := if a ≤ j ∧ j < a + k then !(g j) else g j
theorem flp_step (g : Nat → Bool) (a k j : Nat) : (if j = a + k then !(flp g a k (a + k)) else flp g a k j) = flp g a (k + 1) j := by
  by_cases e : j = a + k
  · rw [if_pos e, e]
    unfold flp
    rw [if_neg (by omega), if_pos (by omega)]
  · rw [if_neg e]
    unfold flp
    by_cases c : a ≤ j ∧ j < a + k
    · rw [if_pos c, if_pos (by omega)]
    · rw [if_neg c, if_neg (by omega)]
theorem ab_sym (z : Int) : ab (-z) = ab z := by unfold ab; split <;> split <;> omega
theorem turned_book {n f t : Nat} {zs : List Int} (hl : zs.length = n) (hft : f ≤ t) (ht : t < n) (h0 : ∀ k, k < n → zs.getD k 0 ≠ 0) (m : Nat) (hm : m = t + 1 - f) : A17 (rv (nb zs) f t) (flp (rv (tb zs) f t) f m) (n : Int) = bkA n (tL zs f t) := by
  have far : ∀ j, n ≤ j → (tL zs f t).getD j 0 = zs.getD j 0 := fun j hj => by
    have e1 : zs.length ≤ j := by omega
    have e2 : (tL zs f t).length ≤ j := by rw [tL_len]; omega
    simp [List.getD, List.getElem?_eq_none e1, List.getElem?_eq_none e2]
  refine A17_ext (fun j hj => ?_) (fun j hj => ?_)
  · unfold nb rv
    by_cases c : f ≤ j ∧ j ≤ t
    · rw [if_pos c, tL_at zs f t j (by omega), if_pos (by omega)]
      unfold sg
      rw [if_pos (by omega), ab_sym]
    · rw [if_neg c]
      by_cases cj : j < n
      · rw [tL_at zs f t j (by omega), if_neg (by omega)]
        unfold sg
        rw [if_neg (by omega)]
      · rw [far j (by omega)]
  · unfold flp rv tb
    by_cases c : f ≤ j ∧ j ≤ t
    · rw [if_pos (by omega), if_pos c, tL_at zs f t j (by omega), if_pos (by omega)]
      unfold sg
      rw [if_pos (by omega)]
      have h := h0 (f + t - j) (by omega)
      obtain ⟨z, hz⟩ : ∃ z, zs.getD (f + t - j) 0 = z := ⟨_, rfl⟩
      rw [hz] at h ⊢
      by_cases c2 : z < 0
      · rw [show decide (z < 0) = true by simpa using c2, show decide (-z < 0) = false by simp; omega]; rfl
      · rw [show decide (z < 0) = false by simpa using c2, show decide (-z < 0) = true by simp; omega]; rfl
    · rw [if_neg (by omega), if_neg c]
      by_cases cj : j < n
      · rw [tL_at zs f t j (by omega), if_neg (by omega)]
        unfold sg
        rw [if_neg (by omega)]
      · rw [far j (by omega)]
set_option maxRecDepth 100000 in
set_option maxHeartbeats 4000000 in
theorem turned_any (n : Nat) (zs : List Int) (hl : zs.length = n) (hn : n ≤ 8) (h0 : ∀ k, k < n → zs.getD k 0 ≠ 0) (f t p cp : Nat) (hft : f ≤ t) (ht : t < n) (w : World)
    (hp0 : w.cell? ⟨p, 0, none⟩ = some (.int .i64 (f : Int))) (hp1 : w.cell? ⟨p, 1, none⟩ = some (.int .i64 (t : Int))) :
    Calls Try.prog 77 #[.agg (bkA n zs), .slice (some ⟨p, 0, none⟩) 2 cp] w fun e w' => e = .returned (.agg (bkA n (tL zs f t))) ∧ Below w.heap.size w w' := by
  obtain ⟨m, hm⟩ : ∃ m, t + 1 - f = m := ⟨_, rfl⟩
  obtain ⟨c, hc⟩ : ∃ c, 8 - f = c := ⟨_, rfl⟩
  have HT := Lib.hid (turned_book hl hft ht h0 m hm.symm)
  have HM := Lib.hid hm
  have hs := fun W => slice_lh w.heap.size f (t + 1) (by omega) (by omega) (by omega) (f : Int) ((t : Int) + 1) rfl (by omega) W
  rw [hm, hc] at hs
  have e1 : IntKind.i64.wrap ((t : Int) + 1) = (t : Int) + 1 := IntWalk.i64_in _ (by omega)
  have hmc : m ≤ c := by omega
  have hm8 : m ≤ 8 := by omega
  have ht8 : t < 8 := by omega
  have CR := Lib.hid (fun W (hA : Arr W w.heap.size 54 (A17 (nb zs) (tb zs) (n : Int))) => reverse_any hA hft ht8 hm.symm hmc)
  obtain ⟨W2, hW2⟩ : ∃ W2, (w.alloc (.cells (bkA n zs) 54)).alloc (.cells #[.int .i64 0, .bool false, .int .i64 0, .bool false, .int .i64 0, .bool false, .int .i64 0, .bool false, .int .i64 0, .bool false, .int .i64 0, .bool false, .int .i64 0, .bool false, .int .i64 0, .bool false, .int .i64 0] 54) = W2 := ⟨_, rfl⟩
  have p0 : W2.cell? ⟨p, 0, none⟩ = some (.int .i64 (f : Int)) := hW2 ▸ cell_alloc (cell_alloc hp0 _) _
  have p1 : W2.cell? ⟨p, 1, none⟩ = some (.int .i64 (t : Int)) := hW2 ▸ cell_alloc (cell_alloc hp1 _) _
  have HA0 := Lib.hid (show Arr W2 w.heap.size 54 (bkA n zs) from hW2 ▸ (Arr.new w _ _).on (below_alloc1 _ _))
  have HZ0 := Lib.hid (show Arr W2 (w.heap.size + 1) 54 (bkA 0 []) from hW2 ▸ arr_new _ _ _ (by simp))
  have HB0 := Lib.hid (show Below w.heap.size w W2 from hW2 ▸ (below_alloc1 _ _).alloc (by simp) _)
  have HW2 := Lib.hid hW2
  clear hl h0 hm hc hp0 hp1 hW2
  go_enter Try.func77, Try.ntmps77
  go_wp2_with fail
  rw [HW2.out]
  go_quiet (fail)
  go_wp2_with fail
  refine (CR.out (W2.drewN nq) HA0.out).mono ?_
  rintro e w3 ⟨rfl, hA3, hP3⟩
  have HZ3 := Lib.hid (hP3.2 (w.heap.size + 1) _ _ (by omega) HZ0.out)
  have HB3 := Lib.hid (hP3.1 w.heap.size w (Li.below_draws HB0.out nq) (Nat.le_refl _))
  have HA3 := Lib.hid hA3
  clear hA3 hP3 hs e1 p0 p1
  go_wp2_with fail
  go_loopw [20] (fun i wr => ∃ k : Nat, k ≤ m ∧ i = .int .i64 (k : Int) ∧ Hid (Arr wr w.heap.size 54 (A17 (rv (nb zs) f t) (flp (rv (tb zs) f t) f k) (n : Int))) ∧ Hid (Arr wr (w.heap.size + 1) 54 (bkA 0 [])) ∧ Hid (Below w.heap.size w wr)) (fun i _ => ((m : Int) - intOf i).toNat)
  case atStart => exact ⟨0, by omega, rfl, Lib.hid (by
    rw [A17_ext (f' := rv (nb zs) f t) (g' := rv (tb zs) f t) (fun j _ => rfl) (fun j _ => by unfold flp; rw [if_neg (by omega)])]
    exact HA3.out), HZ3, HB3⟩
  case round =>
    clear HZ3 HB3 HA3
    obtain ⟨k, hk, rfl, HA, HZ, HB⟩ := hrel
    by_cases hlt : (k : Int) < m
    · have hfk : f + k < 8 := by have := HM.out; omega
      have q1 := HA.out.cell (A17_mark _ _ (n : Int) (f + k) hfk)
      have fz := fun j => HA.out.frozen j
      obtain ⟨u, hu⟩ : ∃ u, flp (rv (tb zs) f t) f k (f + k) = u := ⟨_, rfl⟩
      rw [hu, show (f + k) * 2 = f * 2 + k * 2 by omega] at q1
      have A1 := HA.out.set ((f + k) * 2 + 1) (.bool (!u))
      rw [A17_setM _ _ _ _ (f + k) hfk, show (f + k) * 2 = f * 2 + k * 2 by omega] at A1
      have HA2 := Lib.hid (show Arr (wr.setCell ⟨w.heap.size, f * 2 + k * 2 + 1, none⟩ (.bool (!u))) w.heap.size 54 (A17 (rv (nb zs) f t) (flp (rv (tb zs) f t) f (k + 1)) (n : Int)) by
        rw [← A17_ext (fun j _ => rfl) (fun j _ => flp_step (rv (tb zs) f t) f k j), hu]
        exact A1)
      have HZ2 := Lib.hid (arr_other HZ.out (b' := w.heap.size) (by omega) (f * 2 + k * 2 + 1) (.bool (!u)))
      have HB2 := Lib.hid (HB.out.setCell (p := ⟨w.heap.size, f * 2 + k * 2 + 1, none⟩) (Nat.le_refl _) (.bool (!u)))
      clear A1 hu
      go_wp2
      go_roundw
      case rel => exact ⟨k + 1, by omega, by go_num, HA2, HZ2, HB2⟩
      case measure => simp [intOf]; omega
    · have HE := Lib.hid (show Arr wr w.heap.size 54 (bkA n (tL zs f t)) by rw [← HT.out, show m = k by omega]; exact HA.out)
      have W1 := Lib.hid (wr17_arr (nb (tL zs f t)) (tb (tL zs f t)) (n : Int) HZ.out)
      have W2 := Lib.hid (wr17_below HB.out (show w.heap.size ≤ w.heap.size + 1 by omega) (nb (tL zs f t)) (tb (tL zs f t)) (n : Int))
      go_wp2_with (first | (with_reducible refine wpList_load17 rfl (.tmp 2) rfl w.heap.size rfl HE.out ?_) | (with_reducible refine wpList_store17 rfl (.tmp 4) (.tmp 34) rfl (w.heap.size + 1) (nb (tL zs f t)) (tb (tL zs f t)) (n : Int) rfl rfl HZ.out ?_))
      exact ret_book1 rfl rfl W1.out rfl ⟨rfl, W2.out⟩
end Ln
end Go.Proofs.Ytabnjoohojojnaa
