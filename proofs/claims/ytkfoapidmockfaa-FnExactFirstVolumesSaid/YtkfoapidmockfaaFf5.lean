/- FirstFewestBlanks from both sides. -/
import Derived.Test.YtkfoapidmockfaaCo5
import Derived.Test.YtkfoapidmockfaaMv5
import Derived.Maps.AppendAt
namespace Go.Proofs.Ytkfoapidmockfaa
open Go.RowKit Go.Joins Go.Deep Go.ChangeShapes Go.WideShapes
set_option linter.unusedVariables false
set_option linter.ambiguousOpen false
set_option linter.unusedSimpArgs false
namespace Ch
open Sh
/-- the answer: all numbers but the last odd chapter's, and it behind them -/
def ff (zs : List Int) : List Int := if good zs = true then sk (lo zs zs.length) zs.length ++ [(lo zs zs.length : Int)] else []
theorem ff_no {zs : List Int} (h : good zs = false) : ff zs = [] := by unfold ff; rw [h]; rfl
theorem ff_yes {zs : List Int} (h : good zs = true) : ff zs = sk (lo zs zs.length) zs.length ++ [(lo zs zs.length : Int)] := by unfold ff; rw [if_pos h]
theorem ff_len (zs : List Int) (h : zs.length ≤ 1048575) : (ff zs).length ≤ 1048576 := by
  unfold ff
  split
  · have := sk_length (lo zs zs.length) zs.length
    simp
    omega
  · simp
theorem ff_len2 (zs : List Int) : (ff zs).length ≤ 1048576 := by
  cases hg : good zs with
  | false => rw [ff_no hg]; simp
  | true => exact ff_len zs (by have := ((good_iff zs).1 hg).2.1; omega)
theorem sk_mv {zs : List Int} (h1 : 1 ≤ zs.length) : sk (lo zs zs.length) zs.length ++ [(lo zs zs.length : Int)] = Mv.mv (ups zs.length) (lo zs zs.length) (zs.length - 1) := by
  have hl := lo_lt h1 zs.length (Nat.le_refl _)
  rw [sk_high hl]
  unfold Mv.mv
  have e : (Mv.rest (ups zs.length) (lo zs zs.length)).length = zs.length - 1 := by rw [Mv.rest_length _ _ (by rw [ups_length]; exact hl), ups_length]
  have e1 : (Mv.rest (ups zs.length) (lo zs zs.length)).take (zs.length - 1) = Mv.rest (ups zs.length) (lo zs zs.length) := List.take_of_length_le (by omega)
  have e2 : (Mv.rest (ups zs.length) (lo zs zs.length)).drop (zs.length - 1) = [] := List.drop_of_length_le (by omega)
  rw [e1, e2, ups_at _ _ hl, List.append_nil]
  rfl
theorem own_more {W : World} {base : Nat} {v : Value} {zs ys : List Int} {x : Int} (h : W.ownsRow base 3 1 v (zs.length + 1) (Li.nums zs ++ [.int .i64 x])) (e : ys = zs ++ [x]) : W.ownsRow base 3 1 v ys.length (Li.nums ys) := by
  subst e; simpa [Li.nums] using h
theorem own_eq {W : World} {base : Nat} {v : Value} {zs ys : List Int} (h : W.ownsRow base 3 1 v zs.length (Li.nums zs)) (e : ys = zs) : W.ownsRow base 3 1 v ys.length (Li.nums ys) := by
  subst e; exact h
/-- while the last odd one is looked for -/
def Look (zs : List Int) (m : Nat) : Prop := m < zs.length ∧ ((od zs zs.length = 0 ∧ m = zs.length - 1) ∨ (0 < od zs zs.length ∧ Back zs m))
theorem look_start {zs : List Int} (h : 1 ≤ zs.length) : Look zs (zs.length - 1) := by
  refine ⟨by omega, ?_⟩
  by_cases e : od zs zs.length = 0
  · exact _root_.Or.inl ⟨e, rfl⟩
  · exact _root_.Or.inr ⟨by omega, back_start h⟩
theorem look_next {zs : List Int} {m : Nat} (h : Look zs (m + 1)) (hp : 0 < od zs zs.length) (he : ¬ zs.getD (m + 1) 0 % 2 = 1) : Look zs m := by
  obtain ⟨h1, ⟨h2, _⟩ | ⟨h2, h3⟩⟩ := h
  · omega
  · exact ⟨by omega, _root_.Or.inr ⟨h2, back_next h3 he⟩⟩
theorem look_end {zs : List Int} {m : Nat} (h : Look zs m) (hx : m = 0 ∨ od zs zs.length = 0 ∨ zs.getD m 0 % 2 = 1) : lo zs zs.length = m := by
  obtain ⟨h1, ⟨h2, h3⟩ | ⟨h2, h3⟩⟩ := h
  · rw [lo_none _ h2, h3]
  · rcases hx with e | e | e
    · subst e; exact back_zero h3 h2
    · omega
    · exact back_odd h3 e
set_option maxRecDepth 100000 in
set_option maxHeartbeats 2000000 in
theorem sFirst {b1 g len cap : Nat} {zs : List Int} {w : World} (h : Ow w b1 g len cap zs) (hl : len ≤ 1048576) :
    Calls Try.prog 18 #[.slice (some ⟨g, 0, none⟩) len cap] w (Li.Gives (good zs) (ff zs) w) := by
  obtain ⟨i0, hi, hz0, hz1, hz2⟩ := info_parts Li.info3
  have HO := Lib.hid h
  have hz := ow_len h
  cases hg : good zs with
  | false =>
    have HG := Lib.hid hg
    have E := Lib.hid (ff_no hg)
    rw [E.out]
    clear h hz hg
    go_enter Try.func18, Try.ntmps18
    go_wp2_with fail
    refine (sGood_any HO.out hl false HG.out).mono ?_
    rintro e w' ⟨rfl, rfl⟩
    go_wp2
    go_ret2
    exact Li.Gives.none (Below.refl _ _)
  | true =>
    have HG := Lib.hid hg
    have ho := Lib.hid ((good_iff zs).1 hg)
    have hl12 : len ≤ 12 := by have := ho.out.2.1; omega
    have hl1 : 1 ≤ len := by have := ho.out.1; omega
    obtain ⟨U, hU⟩ : ∃ U, od zs len = U := ⟨_, rfl⟩
    have C := Lib.hid (caOdd_any h ho.out)
    rw [hU] at C
    have HU := Lib.hid hU
    have HZ := Lib.hid hz
    obtain ⟨l, hlq⟩ : ∃ l, lo zs len = l := ⟨_, rfl⟩
    have HLQ := Lib.hid hlq
    have hll : l < len := by have := lo_lt (zs := zs) (by omega) len (by omega); omega
    have E := Lib.hid (show ff zs = sk l len ++ [(l : Int)] by rw [ff_yes hg, hz, hlq])
    have ST := Lib.hid (show Look zs (len - 1) by rw [← hz]; exact look_start (by omega))
    have e12 : ((len : Int) - 1) = ((len - 1 : Nat) : Int) := by omega
    have E12 := Lib.hid e12
    clear h hz hg hU hlq e12
    go_enter Try.func18, Try.ntmps18
    go_wp2_with fail
    refine (sGood_any HO.out hl true HG.out).mono ?_
    rintro e w' ⟨rfl, rfl⟩
    go_wp2
    go_loop [4] (fun i => ∃ m : Nat, i = .int .i64 (m : Int) ∧ m < len ∧ Look zs m) (fun i => (intOf i).toNat)
    case atStart => exact ⟨len - 1, by rw [E12.out], by omega, ST.out⟩
    case round =>
      obtain ⟨m, rfl, hm, hlk⟩ := hrel
      have HLK := Lib.hid hlk
      obtain ⟨z, HZK, hc⟩ := ow_at HO.out hm
      have ht := ho.out.2.2 m (by rw [HZ.out]; omega)
      rw [HZK.out] at ht
      have ht1 := ht.1
      have ht2 := ht.2
      clear ht hlk
      by_cases hgo : 0 < m ∧ 0 < U ∧ z % 2 = 0
      · obtain ⟨a1, a2, a3⟩ := hgo
        obtain ⟨m', rfl⟩ : ∃ m', m = m' + 1 := ⟨m - 1, by omega⟩
        have N := Lib.hid (look_next HLK.out (by rw [HZ.out, HU.out]; exact a2) (by rw [HZK.out]; omega))
        have b1 : (0 : Int) < ((m' + 1 : Nat) : Int) := by omega
        have b2 : (0 : Int) < (U : Int) := by omega
        have t3 : (z % 2 == 0) = true := by simp [a3]
        clear a1 a2 a3
        go_wp2_with (first | (go_at_call 36; refine C.out.mono ?_; rintro e w' ⟨rfl, rfl⟩))
        go_round
        case rel => exact ⟨m', by go_num, by omega, N.out⟩
        case measure => simp [intOf] <;> omega
      · have HL := Lib.hid (show l = m by
          rw [← HLQ.out, ← HZ.out]
          exact look_end HLK.out (by rw [HZ.out, HU.out, HZK.out]; omega))
        have hx : (¬ (0 : Int) < (m : Int)) ∨ ((0 : Int) < (m : Int) ∧ ¬ (0 : Int) < (U : Int)) ∨ ((0 : Int) < (m : Int) ∧ (0 : Int) < (U : Int) ∧ (z % 2 == 0) = false) := by
          by_cases a1 : 0 < m
          · by_cases a2 : 0 < U
            · exact _root_.Or.inr (_root_.Or.inr ⟨by omega, by omega, by simp; omega⟩)
            · exact _root_.Or.inr (_root_.Or.inl ⟨by omega, by omega⟩)
          · exact _root_.Or.inl (by omega)
        clear hgo
        rcases hx with a1 | ⟨a1, a2⟩ | ⟨a1, a2, a3⟩
        all_goals
          go_wp2_with (first | (go_at_call 36; refine C.out.mono ?_; rintro e w' ⟨rfl, rfl⟩))
          go_loopw [5, 32] (fun v i wr => ∃ k : Nat, k ≤ len ∧ i = .int .i64 (k : Int) ∧ wr.ownsRow w.heap.size 3 1 v (sk m k).length (Li.nums (sk m k)) ∧ Below w.heap.size w wr) (fun _ i _ => ((len : Int) - intOf i).toNat)
          case atStart => exact ⟨0, by omega, rfl, World.ownsRow_nil _ _ _ _, Below.refl _ _⟩
          case round =>
            obtain ⟨k, hk, rfl, hown, hb⟩ := hrel
            have HB := Lib.hid hb
            have hsz := hb.size
            have hlen := sk_length m k
            by_cases hlt : (k : Int) < len
            · by_cases hkm : k = m
              · have EL := Lib.hid (show sk m (k + 1) = sk m k by rw [sk, if_pos hkm])
                have O := Lib.hid (own_eq hown EL.out)
                have t4 : ((k : Int) != (m : Int)) = false := by simp [hkm]
                have t5 : ((k : Int) == (m : Int)) = true := by simp [hkm]
                clear hown hkm hb
                go_wp2
                go_roundw
                case rel => exact ⟨k + 1, by omega, by go_num, O.out, HB.out⟩
                case measure => simp [intOf]; omega
              · have EL := Lib.hid (show sk m (k + 1) = sk m k ++ [(k : Int)] by rw [sk, if_neg hkm])
                have t4 : ((k : Int) != (m : Int)) = true := by simp; omega
                have t5 : ((k : Int) == (m : Int)) = false := by simp; omega
                clear hkm hb
                go_wp2_with (first | (at_builtin; refine wpList_append_own _ rfl _ _ 22 rfl w.heap.size 3 i0 (.int .i64 0) 1 8 Try.underlying22 hi hz0 hz1 hz2 rfl (by decide) _ _ _ rfl (hown.alloc _) ⟨wr.heap.size, 0, none⟩ 1 1 [.int .i64 (k : Int)] rfl rfl (cell_one_new _ _ _) (fun x hx => by simp at hx; subst hx; rfl) (by unfold maxLen; omega) (by omega) (by simp; omega) ?_; intro v' w6 hown2 hgrow2 hnil2))
                have O := Lib.hid (own_more hown2 EL.out)
                have BB := Lib.hid ((HB.out.alloc HB.out.size _).grown hgrow2 (by simp; omega) (fun j hj => (hown.lt j hj).1))
                clear hown2 hgrow2 hnil2 hown
                go_roundw
                case rel => exact ⟨k + 1, by omega, by go_num, O.out, BB.out⟩
                case measure => simp [intOf]; omega
            · have EK := Lib.hid (show k = len by omega)
              clear hb
              go_wp2_with (first | (at_builtin; refine wpList_append_own _ rfl _ _ 22 rfl w.heap.size 3 i0 (.int .i64 0) 1 8 Try.underlying22 hi hz0 hz1 hz2 rfl (by decide) _ _ _ rfl (hown.alloc _) ⟨wr.heap.size, 0, none⟩ 1 1 [.int .i64 (m : Int)] rfl rfl (cell_one_new _ _ _) (fun x hx => by simp at hx; subst hx; rfl) (by unfold maxLen; omega) (by omega) (by simp; omega) ?_; intro v' w6 hown2 hgrow2 hnil2))
              have O := Lib.hid (own_more (ys := ff zs) hown2 (by rw [E.out, HL.out, EK.out]))
              have BB := Lib.hid ((HB.out.alloc HB.out.size _).grown hgrow2 (by simp; omega) (fun j hj => (hown.lt j hj).1))
              clear hown2 hgrow2 hnil2 hown
              go_ret2
              exact ⟨_, rfl, O.out, BB.out⟩
theorem isOdd_any (z : Int) (h1 : 1 ≤ z) (h2 : z ≤ 120) (v : Bool) (hv : (z % 2 == 1) = v) (w : World) :
    Calls Try.prog 38 #[.int .i64 z] w fun e w' => e = .returned (.bool v) ∧ w = w' := by
  cases v
  · go_enter Try.func38, Try.ntmps38
    go_wp2
    go_ret
    exact ⟨rfl, rfl⟩
  · go_enter Try.func38, Try.ntmps38
    go_wp2
    go_ret
    exact ⟨rfl, rfl⟩
/-- the first k numbers stand, zeros behind them -/
def upTo (n k : Nat) : List Int := ups k ++ List.replicate (n - k) 0
theorem up_length {n k : Nat} (h : k ≤ n) : (upTo n k).length = n := by simp [upTo, ups_length]; omega
theorem up_step {n k : Nat} (h : k < n) : (upTo n k).set k (k : Int) = upTo n (k + 1) := by
  unfold upTo
  rw [List.set_append_right _ _ (by rw [ups_length]; exact Nat.le_refl _), ups_length, Nat.sub_self, ups_succ, show n - k = (n - (k + 1)) + 1 by omega, List.replicate_succ, List.set_cons_zero, List.append_assoc]
  rfl
theorem up_end (n : Nat) : upTo n n = ups n := by simp [upTo]
theorem nums_set (L : List Int) (i : Nat) (x : Int) : (Li.nums L).set i (.int .i64 x) = Li.nums (L.set i x) := by simp [Li.nums, List.map_set]
set_option maxRecDepth 100000 in
set_option maxHeartbeats 2000000 in
theorem iFirst {b1 g len cap : Nat} {zs : List Int} {w : World} (h : Ow w b1 g len cap zs) (hl : len ≤ 1048576) :
    Calls Try.prog 19 #[.slice (some ⟨g, 0, none⟩) len cap] w (Li.Gives (good zs) (ff zs) w) := by
  obtain ⟨i0, hi, hz0, hz1, hz2⟩ := info_parts Li.info3
  have HO := Lib.hid h
  have hz := ow_len h
  cases hg : good zs with
  | false =>
    have HG := Lib.hid hg
    have E := Lib.hid (ff_no hg)
    rw [E.out]
    clear h hz hg
    go_enter Try.func19, Try.ntmps19
    go_wp2_with fail
    refine (iGood_any HO.out hl false HG.out).mono ?_
    rintro e w' ⟨rfl, rfl⟩
    go_wp2
    go_ret2
    exact Li.Gives.none (Below.refl _ _)
  | true =>
    have HG := Lib.hid hg
    have ho := Lib.hid ((good_iff zs).1 hg)
    have hl12 : len ≤ 12 := by have := ho.out.2.1; omega
    have hl1 : 1 ≤ len := by have := ho.out.1; omega
    have HZ := Lib.hid hz
    have E := Lib.hid (show ff zs = Mv.mv (ups len) (lo zs len) (len - 1) by
      rw [ff_yes hg, sk_mv (by omega), hz])
    have L0 := Lib.hid (show lo zs 0 = len - 1 by unfold lo; rw [hz])
    have LL := Lib.hid (fun (k : Nat) (hk : k ≤ len) => lo_lt (zs := zs) (by rw [HZ.out]; exact hl1) k (by rw [HZ.out]; exact hk))
    have e12 : ((len : Int) - 1) = ((len - 1 : Nat) : Int) := by omega
    have E12 := Lib.hid e12
    clear h hz hg e12
    go_enter Try.func19, Try.ntmps19
    go_wp2_with fail
    refine (iGood_any HO.out hl true HG.out).mono ?_
    rintro e w' ⟨rfl, rfl⟩
    go_wp2_with (first | (at_make; refine wpList_make_full _ rfl _ _ 22 rfl w.heap.size 3 i0 (.int .i64 0) 1 Try.underlying22 hi hz0 hz1 _ _ _ _ len rfl rfl rfl rfl (by rw [hz2]; omega) (by unfold maxLen; omega) (Nat.le_refl _) ?_; intro w1 hown hg1))
    have hb0 := Li.below_of_grown hg1
    have h0 : w1.ownsRow w.heap.size 3 1 (.slice (some ⟨w.heap.size, 0, none⟩) len len) len (Li.nums (upTo len 0)) := by
      have e : (madeCells (Value.int .i64 0).cells (len * 1)).toList = List.replicate len (.int .i64 0) := by rw [Nat.mul_one]; exact toList_madeCells_one _ _
      have e2 : Li.nums (upTo len 0) = List.replicate len (.int .i64 0) := by simp [upTo, ups, Li.nums]
      rw [e2, ← e]
      exact hown
    have H0 := Lib.hid h0
    have HB0 := Lib.hid hb0
    clear hown hg1 h0 hb0
    go_loopw [5, 19] (fun l i wr => ∃ k : Nat, k ≤ len ∧ i = .int .i64 (k : Int) ∧ l = .int .i64 ((lo zs k : Nat) : Int) ∧ wr.ownsRow w.heap.size 3 1 (.slice (some ⟨w.heap.size, 0, none⟩) len len) len (Li.nums (upTo len k)) ∧ Below w.heap.size w wr) (fun _ i _ => ((len : Int) - intOf i).toNat)
    case atStart => exact ⟨0, by omega, rfl, by rw [L0.out, E12.out], H0.out, HB0.out⟩
    case round =>
      obtain ⟨k, hk, rfl, rfl, hown, hb⟩ := hrel
      have HB := Lib.hid hb
      have HOW := Lib.hid hown
      have hsz := hb.size
      by_cases hlt : (k : Int) < len
      · obtain ⟨z, HZK, hc⟩ := ow_at (Li.own_on HO.out hb) (k := k) (by omega)
        have ht := ho.out.2.2 k (by rw [HZ.out]; omega)
        rw [HZK.out] at ht
        have ht1 := ht.1
        have ht2 := ht.2
        have q0 := ow_cell (zs := upTo len k) hown (show k < len by omega)
        obtain ⟨q, hq⟩ : ∃ q, (upTo len k).getD k 0 = q := ⟨_, rfl⟩
        rw [hq] at q0
        have fz := hown.frozenAt k
        obtain ⟨s1, gr1⟩ := hown.stored k (.int .i64 (k : Int))
        rw [nums_set, up_step (show k < len by omega)] at s1
        have HS := Lib.hid s1
        have HB2 := Lib.hid (hb.setCell (p := ⟨w.heap.size, k, none⟩) (Nat.le_refl _) (.int .i64 (k : Int)))
        obtain ⟨x, hx⟩ : ∃ x, (z % 2 == 1) = x := ⟨_, rfl⟩
        have HX := Lib.hid hx
        clear ht hown hb s1 gr1 hq hx
        cases x
        · have EL := Lib.hid (show lo zs (k + 1) = lo zs k from lo_even (by rw [HZK.out]; have := HX.out; simpa using this))
          generalize lo zs k = L at *
          go_wp2_with fail
          refine (isOdd_any z ht1 ht2 false HX.out _).mono ?_
          rintro e w' ⟨rfl, rfl⟩
          go_wp2
          go_roundw
          case rel => exact ⟨k + 1, by omega, by go_num, by rw [EL.out], HS.out, HB2.out⟩
          case measure => simp [intOf]; omega
        · have EL := Lib.hid (show lo zs (k + 1) = k from lo_odd (by rw [HZK.out]; have := HX.out; simpa using this))
          generalize lo zs k = L at *
          go_wp2_with fail
          refine (isOdd_any z ht1 ht2 true HX.out _).mono ?_
          rintro e w' ⟨rfl, rfl⟩
          go_wp2
          go_roundw
          case rel => exact ⟨k + 1, by omega, by go_num, by rw [EL.out], HS.out, HB2.out⟩
          case measure => simp [intOf]; omega
      · obtain rfl : k = len := by omega
        have hll := LL.out k (Nat.le_refl _)
        rw [HZ.out] at hll
        obtain ⟨l, hlq⟩ : ∃ l, lo zs k = l := ⟨_, rfl⟩
        rw [hlq] at hll
        have E' := E.out
        rw [hlq] at E'
        have HE := Lib.hid E'
        rw [hlq]
        rw [up_end] at hown
        have IT := Lib.hid (Mv.item_any (show Ow wr w.heap.size w.heap.size k k (ups k) from hown) hl hll (show k - 1 < k by omega))
        have e13 := E12.out
        have EL := Lib.hid (show (ff zs).length = k by rw [HE.out, Mv.mv_length _ _ _ (by rw [ups_length]; exact hll), ups_length])
        clear hown hb E' hlq
        go_wp2_with fail
        refine IT.out.mono ?_
        rintro e w2 ⟨g2, cp2, rfl, o2, hb⟩
        have HB3 := Lib.hid (HB.out.trans (Sh.below_le hb HB.out.size))
        have HO2 := Lib.hid (Li.own_le o2 HB.out.size)
        clear o2 hb
        go_wp2
        go_ret2
        exact ⟨_, rfl, by rw [EL.out, HE.out]; exact HO2.out, HB3.out⟩
end Ch
end Go.Proofs.Ytkfoapidmockfaa
