/- A part cut out and put in, by the model. -/
import Derived.Test.YtabnjoohojojnaaBe
import Derived.Test.YtabnjoohojojnaaBw
import Derived.Deep.RegionLaw
import Derived.Deep.AppendLies
import Derived.IntWalk
namespace Go.Proofs.Ytabnjoohojojnaa
open Go.RowKit Go.Joins Go.Deep Go.ChangeShapes Go.WideShapes
set_option linter.unusedVariables false
set_option linter.unusedSimpArgs false
namespace Ln
theorem step_append_own {P : Program} {ops : Array Oper} {o : Oper} {a : Act} {w : World} {K : Act → World → Prop} {Q : Exit → Act → World → Prop} {E : Prop}
    (hg : o.guard = none) (s x : Operand) (t : TypeId) (hop : o.op = Op.call { callee := Callee.builtin Builtin.append, args := #[s, x], argTypes := #[t, t] })
    (base : Nat) (e : TypeId) (i : TypeInfo) (z : Value) (size bytes : Nat) (h1 : P.underlying t = some (.slice e)) (h2 : P.info? e = some i) (h3 : i.zero = some z) (h4 : i.size = size) (h5 : i.bytes = bytes) (h6 : z.cells.size = size) (h7 : 0 < size)
    (v : Value) (n : Nat) (xs : List Value) (hs : a.eval s = v) (hown : w.ownsRow base e size v n xs)
    (ad : Addr) (m c : Nat) (news : List Value) (hx : a.eval x = .slice (some ad) m c) (hn : news.length = m * size) (hc : ∀ j u, news[j]? = some u → w.cell? (ad.add j) = some u) (h1c : ∀ u ∈ news, u.oneCell' = true)
    (b1 : n + m ≤ maxLen) (b2 : (n + m) * bytes ≤ 140737488355328) (hbase : base ≤ w.heap.size)
    (hK : ∀ v' w', w'.ownsRow base e size v' (n + m) (xs ++ news) → w.grownBy w' v.ownBlock → (v' = .slice none 0 0 ↔ v = .slice none 0 0 ∧ m = 0) → K (a.put o.dst v') w') :
    if Region.wanted o (yielded ops a.tmps) = true then Oper.wp P o a w K Q else E := by
  have hw : Region.wanted o (yielded ops a.tmps) = true := by simp [Region.wanted, hg]
  rw [if_pos hw]
  obtain ⟨v', w', hrun, r1, r2, r3⟩ := run_append_own (P := P) w base t o.type e i z size bytes h1 h2 h3 h4 h5 h6 h7 v n xs hown ad m c news hn hc h1c b1 b2 hbase
  unfold Oper.wp
  simp [execOp, hop, resolve, invoke, builtin, hs, hx, hrun, Result.andThen]
  exact hK v' w' r1 r2 r3
def rst (zs : List Int) (f m : Nat) : List Int := zs.take f ++ zs.drop (f + m)
def cutL (zs : List Int) (f m a : Nat) : List Int := ((rst zs f m).take a ++ (zs.drop f).take m) ++ (rst zs f m).drop a
theorem rst_len (zs : List Int) {f m : Nat} (h : f + m ≤ zs.length) : (rst zs f m).length = zs.length - m := by simp [rst]; omega
theorem cutL_len (zs : List Int) {f m : Nat} (a : Nat) (h : f + m ≤ zs.length) : (cutL zs f m a).length = zs.length := by
  have := rst_len zs h
  simp [cutL]
  omega
theorem nums_app (xs ys : List Int) : Li.nums (xs ++ ys) = Li.nums xs ++ Li.nums ys := by simp [Li.nums]
theorem take_at {zs : List Int} {i : Nat} {j : Nat} (hj : j < i) : (zs.take i).getD j 0 = zs.getD j 0 := by
  simp [List.getD, List.getElem?_take, hj]
theorem some_of_not {W : World} {base n : Nat} {v : Value} {xs : List Value} (h : W.ownsRow base 3 1 v n xs) (h1 : v ≠ .slice none 0 0) : ∃ g cap, v = .slice (some ⟨g, 0, none⟩) n cap := by
  rcases Li.own_forms h with ⟨e, _⟩ | h
  · exact absurd e h1
  · exact h
theorem from_run (go k cp a : Nat) (ai : Int) (hai : ai = (a : Int)) (ha : a ≤ k) (hc : k ≤ cp) : ∃ ad : Addr, (∀ W, (Instr.slice 22 (.slice (some ⟨go, 0, none⟩) k cp) (some (.int .i64 ai)) none none).run Try.prog W = .ok (.slice (some ad) (k - a) (cp - a)) W) ∧ ∀ j, j < k - a → ad.add j = ⟨go, a + j, none⟩ := by
  subst hai
  refine ⟨if cp = a then ⟨go, 0, none⟩ else ⟨go, a, none⟩, fun W => ?_, fun j hj => ?_⟩
  · rw [run_slice_l W 22 (some ⟨go, 0, none⟩) k cp (by kernel_rfl) .i64 (a : Int) (by omega) (by omega)]
    have e : (sizeOf (Try.prog.elem 22)).run Try.prog W = .ok 1 W := by kernel_rfl
    rw [e]
    simp only [Result.andThen, sliced, Int.toNat_natCast, Nat.mul_one]
    by_cases h : cp = a
    · simp [h]
    · simp [h, Addr.add]
      intro h2
      exact h2.symm
  · rw [if_neg (by omega)]
    by_cases h : j = 0
    · subst h; simp [Addr.add]
    · simp [Addr.add, h]
theorem to_run (go k cp a : Nat) (ha : a ≤ cp) (W : World) : (Instr.slice 22 (.slice (some ⟨go, 0, none⟩) k cp) none (some (.int .i64 (a : Int))) none).run Try.prog W = .ok (.slice (some ⟨go, 0, none⟩) a cp) W := by
  rw [run_slice_h W 22 (some ⟨go, 0, none⟩) k cp (by kernel_rfl) .i64 (a : Int) (by omega) (by omega)]
  have e : (sizeOf (Try.prog.elem 22)).run Try.prog W = .ok 1 W := by kernel_rfl
  rw [e]
  simp [Result.andThen, sliced]
  intro _
  simp [Addr.add]
theorem mid_run (go k cp f m : Nat) (ti : Int) (hti : ti = ((f + m : Nat) : Int)) (hm : 1 ≤ m) (hk : f + m ≤ k) (hc : k ≤ cp) (W : World) : (Instr.slice 22 (.slice (some ⟨go, 0, none⟩) k cp) (some (.int .i64 (f : Int))) (some (.int .i64 ti)) none).run Try.prog W = .ok (.slice (some ⟨go, f, none⟩) m (cp - f)) W := by
  subst hti
  rw [run_slice_lh W 22 (some ⟨go, 0, none⟩) k cp (by kernel_rfl) .i64 .i64 (f : Int) ((f + m : Nat) : Int) (by omega) (by omega) (by omega)]
  have e : (sizeOf (Try.prog.elem 22)).run Try.prog W = .ok 1 W := by kernel_rfl
  rw [e]
  simp only [Result.andThen, sliced, Int.toNat_natCast, Nat.mul_one]
  rw [if_neg (by omega), show f + m - f = m by omega]
  by_cases h : f = 0
  · subst h; simp [Addr.add]
  · simp [Addr.add, h]
theorem news_of {W : World} {ad : Addr} {go a m : Nat} {zs : List Int} (had : ∀ j, j < m → ad.add j = ⟨go, a + j, none⟩) (hl : zs.length = a + m) (hc : ∀ j, j < zs.length → W.cell? ⟨go, j, none⟩ = some (.int .i64 (zs.getD j 0))) : ∀ j u, (Li.nums (zs.drop a))[j]? = some u → W.cell? (ad.add j) = some u := by
  intro j u hu
  have hj : j < m := by
    rcases Nat.lt_or_ge j m with h1 | h1
    · exact h1
    · rw [List.getElem?_eq_none (by rw [Li.nums_length, List.length_drop]; omega)] at hu
      cases hu
  rw [had j hj, hc (a + j) (by omega), ← hu]
  have hlt : a + j < zs.length := by omega
  simp [Li.nums, List.getD, List.getElem?_eq_getElem hlt]
theorem news_mid {W : World} {go f m : Nat} {zs : List Int} (hl : f + m ≤ zs.length) (hc : ∀ j, j < zs.length → W.cell? ⟨go, j, none⟩ = some (.int .i64 (zs.getD j 0))) : ∀ j u, (Li.nums ((zs.drop f).take m))[j]? = some u → W.cell? ((⟨go, f, none⟩ : Addr).add j) = some u := by
  intro j u hu
  have hj : j < m := by
    rcases Nat.lt_or_ge j m with h1 | h1
    · exact h1
    · rw [List.getElem?_eq_none (by rw [Li.nums_length, List.length_take, List.length_drop]; omega)] at hu
      cases hu
  have e : (⟨go, f, none⟩ : Addr).add j = ⟨go, f + j, none⟩ := by
    by_cases h : j = 0
    · subst h; simp [Addr.add]
    · simp [Addr.add, h]
  rw [e, hc (f + j) (by omega), ← hu]
  have hlt : f + j < zs.length := by omega
  simp [Li.nums, List.getD, List.getElem?_take, hj, List.getElem?_eq_getElem hlt]
/-- a list is returned, in a block of the call's own -/
def GS (zs : List Int) (n : Nat) (W : World) (e : Ending) (w' : World) : Prop := ∃ g cap, e = .returned (.slice (some ⟨g, 0, none⟩) n cap) ∧ Ow w' W.heap.size g n cap zs ∧ Below W.heap.size W w'
theorem src_s {w : World} {go n : Nat} {zs : List Int} (hl : zs.length = n) (hg : go < w.heap.size) (h : ∀ j, j < n → w.cell? ⟨go, j, none⟩ = some (.int .i64 (zs.getD j 0))) (z : Array Value) :
    ∀ j u, (Li.nums zs)[j]? = some u → (w.alloc (.cells z 3)).cell? ((⟨go, 0, none⟩ : Addr).add j) = some u := by
  intro j u hu
  have hj : j < n := by
    rcases Nat.lt_or_ge j n with h1 | h1
    · exact h1
    · rw [List.getElem?_eq_none (by rw [Li.nums_length]; omega)] at hu
      cases hu
  have e2 : (⟨go, 0, none⟩ : Addr).add j = ⟨go, j, none⟩ := by simp [Addr.add]; intro h; exact h.symm
  rw [e2, World.cell?_alloc_lt w _ ⟨go, j, none⟩ hg, h j hj, ← hu]
  simp [Li.nums, List.getD, List.getElem?_eq_getElem (show j < zs.length by omega)]
set_option maxRecDepth 100000 in
set_option maxHeartbeats 1000000 in
theorem l1Own_s (go n cap : Nat) (zs : List Int) (hl : zs.length = n) (hn : n ≤ 1048576) (w : World) (hg : go < w.heap.size) (h : ∀ j, j < n → w.cell? ⟨go, j, none⟩ = some (.int .i64 (zs.getD j 0))) : Calls Try.prog 54 #[.slice (some ⟨go, 0, none⟩) n cap] w (GS zs n w) := by
  obtain ⟨i0, hi, hz0, hz1, hz2⟩ := info_parts Li.info3
  have O := own_empty w w.heap.size (Nat.le_refl _) #[] rfl
  have HO := Lib.hid O
  have HH := Lib.hid (src_s hl hg h #[])
  have HN := Lib.hid (show (Li.nums zs).length = n * 1 by rw [Li.nums_length, hl, Nat.mul_one])
  clear h hl
  go_enter Try.func54, Try.ntmps54
  go_wp2_with (first | (at_builtin; refine wpList_append_own _ rfl _ _ 22 rfl w.heap.size 3 i0 (.int .i64 0) 1 8 Try.underlying22 hi hz0 hz1 hz2 rfl (by decide) _ _ _ rfl O ⟨go, 0, none⟩ n cap (Li.nums zs) rfl HN.out HH.out (nums_one zs) (by unfold maxLen; omega) (by omega) (by simp) ?_; intro v2 w2 hown2 hgrow2 hnil2))
  clear O
  obtain ⟨g2, c2, rfl⟩ := some_of_not hown2 (fun e => by have := (hnil2.1 e).1; injection this with h1; cases h1)
  have HO2 := Lib.hid hown2
  clear hown2 hnil2
  go_ret
  refine ⟨g2, c2, by simp, ?_, ?_⟩
  · simpa using HO2.out
  · exact (below_alloc1 w (.cells #[] 3)).grown hgrow2 (by simp) (fun j hj => by have := (HO.out.lt j hj).1; omega)
set_option maxRecDepth 100000 in
set_option maxHeartbeats 4000000 in
theorem sCut_yes {b1 g len cap f t i : Nat} {zs : List Int} {w : World} (h : Ow w b1 g len cap zs) (hp : prt zs (f : Int) (t : Int) = true) (h8 : len ≤ 8) (hft : f ≤ t) (ht : t < len) (hi : i + (t + 1 - f) ≤ len) :
    Calls Try.prog 31 #[.slice (some ⟨g, 0, none⟩) len cap, .int .i64 (f : Int), .int .i64 (t : Int), .int .i64 (i : Int)] w (Gives true (cutL zs f (t + 1 - f) i) w) := by
  have hz := ow_len h
  have hcap := (ow_cap h).1
  have hcap2 := (ow_cap h).2
  unfold maxLen at hcap2
  have HOw := Lib.hid h
  have hgl := (ow_lt h).2
  have HZ := Lib.hid hz
  obtain ⟨m, hm⟩ : ∃ m, t + 1 - f = m := ⟨_, rfl⟩
  have hfm : f + m = t + 1 := by omega
  have C1 := Lib.hid (biPart_any h (by omega) (f : Int) (t : Int) true hp)
  have C2 := Lib.hid (fun W => l1In_any (i : Int) 0 ((len : Int) - 1 - ((t : Int) - (f : Int))) true (by simp; omega) W)
  obtain ⟨i0, hi0, hz0, hz1, hz2⟩ := info_parts Li.info3
  have e35 : IntKind.i64.wrap ((t : Int) + 1) = (t : Int) + 1 := IntWalk.i64_in _ (by omega)
  have r31 := to_run g len cap f (by omega)
  obtain ⟨ad, r36, had⟩ := from_run g len cap (t + 1) ((t : Int) + 1) (by omega) (by omega) hcap
  have HAD := Lib.hid had
  have CL := Lib.hid (fun (W : World) (hW : Below w.heap.size w W) => l1Own_s g f cap (zs.take f) (by rw [List.length_take]; omega) (by omega) W (Nat.lt_of_lt_of_le hgl hW.size) (fun k hk => by rw [take_at hk]; exact ow_cell (Li.own_on HOw.out hW) (by omega)))
  have HM := Lib.hid hm
  have HFM := Lib.hid hfm
  rw [hm]
  clear h hp hz had hm hfm
  go_enter Try.func31, Try.ntmps31
  go_wp2_with fail
  refine C1.out.mono ?_
  rintro e w' ⟨rfl, rfl⟩
  go_wp2_with fail
  refine (C2.out _).mono ?_
  rintro e w' ⟨rfl, rfl⟩
  go_wp2_with fail
  go_region_law (first
    | (go_simp; go_at_call 54; refine (CL.out _ (Below.refl _ w).drew).mono ?_; rintro e w2 ⟨g2, cp2, rfl, o2, hb2⟩; have HB2 := Lib.hid (show Below w.heap.size w w2 from (Below.refl _ w).drew.trans (hb2.mono (Nat.le_refl _))); have HN2 := Lib.hid (news_of (W := w2) HAD.out (by rw [HZ.out]; omega) (fun k hk => ow_cell (Li.own_on HOw.out HB2.out) (by rw [HZ.out] at hk; exact hk))); go_wp2_with fail)
    | (refine step_append_own rfl (.tmp 32) (.tmp 36) 22 rfl w.heap.size 3 i0 (.int .i64 0) 1 8 Try.underlying22 hi0 hz0 hz1 hz2 rfl (by decide) (.slice (some ⟨g2, 0, none⟩) f cp2) f (Li.nums (zs.take f)) (by simp [Act.eval, Act.put]) o2 ad (len - (t + 1)) (cap - (t + 1)) (Li.nums (zs.drop (t + 1))) (by simp [Act.eval, Act.put]) (by rw [Li.nums_length, List.length_drop, HZ.out]; omega) HN2.out (nums_one _) (by unfold maxLen; omega) (by omega) (by have := HB2.out.size; omega) ?_; intro v3 w3 o3 hg3 hn3; obtain ⟨g3, cp3, rfl⟩ := some_of_not o3 (fun e => by have := (hn3.1 e).1; injection this with h1; cases h1); have HO2 := Lib.hid o2))
  have HB3 := Lib.hid (HB2.out.grown hg3 HB2.out.size (fun k hk => by have := (HO2.out.lt k hk).1; exact this))
  generalize hn1 : f + (len - (t + 1)) = n1 at *
  have hn2 : n1 + m = len := by have := HFM.out; omega
  have hrl : (rst zs f m).length = n1 := by rw [rst_len zs (by rw [HZ.out]; have := HFM.out; omega), HZ.out]; omega
  have R3 := Lib.hid (show Ow w3 w.heap.size g3 n1 cp3 (rst zs f m) from by unfold Ow rst; rw [nums_app, HFM.out]; exact o3)
  have hc3 := (ow_cap R3.out).1
  have hc4 := (ow_cap R3.out).2
  unfold maxLen at hc4
  have hg3l := (ow_lt R3.out).2
  have HRL := Lib.hid hrl
  have hin : i ≤ n1 := by have := HM.out; omega
  have r40 := to_run g3 n1 cp3 i (by omega)
  obtain ⟨ad2, r51, had2⟩ := from_run g3 n1 cp3 i (i : Int) rfl (by omega) hc3
  have HAD2 := Lib.hid had2
  have r46 := mid_run g len cap f m ((t : Int) + 1) (by have := HFM.out; omega) (by have := HFM.out; omega) (by have := HFM.out; omega) hcap
  have CL2 := Lib.hid (fun (W : World) (hW : Below w3.heap.size w3 W) => l1Own_s g3 i cp3 ((rst zs f m).take i) (by rw [List.length_take, HRL.out]; omega) (by omega) W (Nat.lt_of_lt_of_le hg3l hW.size) (fun k hk => by rw [take_at hk]; exact ow_cell (Li.own_on R3.out hW) (by omega)))
  clear o3 hg3 hn3 had2 hrl o2 hb2 hn1 r31 r36
  go_wp2_with fail
  go_region_law (first
    | (go_simp; go_at_call 54; refine (CL2.out _ (Below.refl _ w3).drew).mono ?_; rintro e w4 ⟨g4, cp4, rfl, o4, hb4⟩; have O4 := Lib.hid (Li.own_le o4 (show w3.heap.size ≤ w3.drew.heap.size from Nat.le_refl _)); have HB4 := Lib.hid (show Below w3.heap.size w3 w4 from (Below.refl _ w3).drew.trans (hb4.mono (Nat.le_refl _))); have HN4 := Lib.hid (news_mid (W := w4) (go := g) (f := f) (m := m) (by rw [HZ.out]; have := HFM.out; omega) (fun k hk => ow_cell (Li.own_on HOw.out (HB3.out.trans (HB4.out.mono HB3.out.size))) (by rw [HZ.out] at hk; exact hk))); go_wp2_with fail)
    | (refine step_append_own rfl (.tmp 41) (.tmp 46) 22 rfl w3.heap.size 3 i0 (.int .i64 0) 1 8 Try.underlying22 hi0 hz0 hz1 hz2 rfl (by decide) (.slice (some ⟨g4, 0, none⟩) i cp4) i (Li.nums ((rst zs f m).take i)) (by simp [Act.eval, Act.put]) O4.out ⟨g, f, none⟩ m (cap - f) (Li.nums ((zs.drop f).take m)) (by simp [Act.eval, Act.put]) (by rw [Li.nums_length, List.length_take, List.length_drop, HZ.out]; have := HFM.out; omega) HN4.out (nums_one _) (by unfold maxLen; omega) (by omega) (by have := HB4.out.size; omega) ?_; intro v5 w5 o5 hg5 hn5; obtain ⟨g5, cp5, rfl⟩ := some_of_not o5 (fun e => by have := (hn5.1 e).1; injection this with h1; cases h1)))
  have HG4 := (O4.out.lt g4 rfl).1
  have R5 := Lib.hid (World.ownsRow.kept (Li.own_on R3.out HB4.out) hg5 (_root_.Or.inr (fun e => by have e2 : some g3 = some g4 := e; injection e2 with e3; omega)))
  have hb5 := HB3.out.trans (HB4.out.mono HB3.out.size)
  have HB5 := Lib.hid (hb5.grown hg5 hb5.size (fun k hk => by have := (O4.out.lt k hk).1; have := HB3.out.size; omega))
  have O5 := Lib.hid o5
  have hws : w3.heap.size ≤ w5.heap.size := Nat.le_trans HB4.out.size hg5.size
  have HN := Lib.hid (news_of (W := w5) HAD2.out (by rw [HRL.out]; omega) (fun k hk => ow_cell R5.out (by rw [HRL.out] at hk; exact hk)))
  clear o5 hg5 hn5 hb5 hb4 o4 e35 r46 r40
  go_wp2_with (first | (at_builtin; refine wpList_append_own _ rfl _ _ 22 rfl w3.heap.size 3 i0 (.int .i64 0) 1 8 Try.underlying22 hi0 hz0 hz1 hz2 rfl (by decide) _ _ _ rfl O5.out ad2 (n1 - i) (cp3 - i) (Li.nums ((rst zs f m).drop i)) rfl (by rw [Li.nums_length, List.length_drop, HRL.out]; omega) HN.out (nums_one _) (by unfold maxLen; omega) (by omega) hws ?_; intro v6 w6 o6 hg6 hn6))
  go_ret2
  refine ⟨v6, rfl, ?_, ?_⟩
  · have e1 : (cutL zs f m i).length = i + m + (n1 - i) := by rw [cutL_len zs i (by rw [HZ.out]; have := HFM.out; omega), HZ.out]; omega
    have e2 : Li.nums (cutL zs f m i) = (Li.nums ((rst zs f m).take i) ++ Li.nums ((zs.drop f).take m)) ++ Li.nums ((rst zs f m).drop i) := by
      unfold cutL
      rw [nums_app, nums_app]
    rw [e1, e2]
    exact Li.own_le o6 HB3.out.size
  · exact HB5.out.grown hg6 HB5.out.size (fun k hk => by have := (O5.out.lt k hk).1; have := HB3.out.size; omega)
def cuB (zs : List Int) (f t a : Int) : Bool := prt zs f t && (decide (0 ≤ a) && decide (a ≤ (zs.length : Int) - 1 - (t - f)))
def cuZ (zs : List Int) (f t a : Int) : List Int := if cuB zs f t a = true then cutL zs f.toNat (t.toNat + 1 - f.toNat) a.toNat else []
theorem cuB_ok {zs : List Int} {f t a : Int} (h : cuB zs f t a = true) : prt zs f t = true ∧ Bnd zs ∧ ∃ F T A : Nat, f = F ∧ t = T ∧ a = A ∧ F ≤ T ∧ T < zs.length ∧ A + (T + 1 - F) ≤ zs.length := by
  unfold cuB at h
  simp only [Bool.and_eq_true, decide_eq_true_eq] at h
  obtain ⟨B, p1, p2, p3⟩ := prt_ok h.1
  exact ⟨h.1, B, f.toNat, t.toNat, a.toNat, by omega, by omega, by omega, by omega, by omega, by omega⟩
theorem cuZ_len (zs : List Int) (f t a : Int) : (cuZ zs f t a).length ≤ 1048576 := by
  unfold cuZ
  by_cases c : cuB zs f t a = true
  · rw [if_pos c]
    obtain ⟨_, B, F, T, A, rfl, rfl, rfl, h1, h2, h3⟩ := cuB_ok c
    simp only [Int.toNat_natCast]
    rw [cutL_len zs A (by omega)]
    have := B.2.1
    omega
  · rw [if_neg c]; simp
set_option maxRecDepth 100000 in
set_option maxHeartbeats 1000000 in
theorem sCut_no {b1 g len cap : Nat} {zs : List Int} {f t a : Int} {w : World} (h : Ow w b1 g len cap zs) (hl : len ≤ 1048576) (hv : cuB zs f t a = false) :
    Calls Try.prog 31 #[.slice (some ⟨g, 0, none⟩) len cap, .int .i64 f, .int .i64 t, .int .i64 a] w (Gives false [] w) := by
  have hz := ow_len h
  obtain ⟨x1, hx1⟩ : ∃ x, prt zs f t = x := ⟨_, rfl⟩
  have C1 := Lib.hid (biPart_any h hl f t x1 hx1)
  cases x1
  · clear h hv hx1 hz
    go_enter Try.func31, Try.ntmps31
    go_wp2_with fail
    refine C1.out.mono ?_
    rintro e w' ⟨rfl, rfl⟩
    go_wp2
    go_ret2
    exact ⟨_, rfl, World.ownsRow_nil _ _ _ _, Below.refl _ _⟩
  · obtain ⟨B, p1, p2, p3⟩ := prt_ok hx1
    have h8 := B.2.1
    have C2 := Lib.hid (fun W => l1In_any a 0 ((len : Int) - 1 - (t - f)) false (by unfold cuB at hv; rw [hx1, hz, Bool.true_and] at hv; exact hv) W)
    have hl8 : len ≤ 8 := by omega
    rw [hz] at p3
    clear h hv hx1 hz B h8
    go_enter Try.func31, Try.ntmps31
    go_wp2_with fail
    refine C1.out.mono ?_
    rintro e w' ⟨rfl, rfl⟩
    go_wp2_with fail
    refine (C2.out _).mono ?_
    rintro e w' ⟨rfl, rfl⟩
    go_wp2
    go_ret2
    exact ⟨_, rfl, World.ownsRow_nil _ _ _ _, Below.refl _ _⟩
theorem sCutPart {b1 g len cap : Nat} {zs : List Int} {f t a : Int} {w : World} (h : Ow w b1 g len cap zs) (hl : len ≤ 1048576) :
    Calls Try.prog 31 #[.slice (some ⟨g, 0, none⟩) len cap, .int .i64 f, .int .i64 t, .int .i64 a] w (Gives (cuB zs f t a) (cuZ zs f t a) w) := by
  have hz := ow_len h
  cases hv : cuB zs f t a
  · rw [show cuZ zs f t a = [] by unfold cuZ; rw [hv]; rfl]
    exact sCut_no h hl hv
  · obtain ⟨hp, B, F, T, A, rfl, rfl, rfl, h1, h2, h3⟩ := cuB_ok hv
    rw [show cuZ zs (F : Int) (T : Int) (A : Int) = cutL zs F (T + 1 - F) A by unfold cuZ; rw [if_pos hv]; simp]
    have := B.2.1
    exact sCut_yes h hp (by omega) h1 (by omega) (by omega)
end Ln
end Go.Proofs.Ytabnjoohojojnaa
