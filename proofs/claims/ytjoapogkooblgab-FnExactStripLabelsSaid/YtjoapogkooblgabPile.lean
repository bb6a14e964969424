/- What impl.StripOrder and impl.foldPiles answer: for up to seven folds the same plain list as the specification's, in new memory; otherwise nothing. -/
import Derived.Test.YtjoapogkooblgabStrip
import Derived.Deep.QuietTactic
namespace Go.Proofs.Ytjoapogkooblgab
open Go.RowKit
set_option linter.unusedVariables false
namespace St
open Li
theorem Fam.pop {W : World} {base m : Nat} {g : Nat → Value} {c : Nat → List Int} (h : Fam W base (m + 1) g c) : Fam W base m g c :=
  ⟨fun i hi => h.1 i (by omega), fun i j hi hj => h.2 i j (by omega) (by omega)⟩
theorem Fam.put {W : World} {base m k : Nat} {g : Nat → Value} {c c' : Nat → List Int} {v : Value} (h : Fam W base m g c) (hk : k < m) (hv : W.ownsRow base 3 1 v (c' k).length (nums (c' k))) (hl : 0 < (c' k).length)
    (ha : ∀ i, i < m → i ≠ k → (g i).ownBlock ≠ v.ownBlock) (hc : ∀ i, i ≠ k → c' i = c i) : Fam W base m (upd g k v) c' := by
  constructor
  · intro i hi
    by_cases e : i = k
    · subst e; rw [upd_at]; exact ⟨hv, hl⟩
    · rw [upd_ne g k v i e, hc i e]; exact h.1 i hi
  · intro i j hi hj hne
    by_cases e : i = k
    · subst e
      rw [upd_at, upd_ne g i v j (by omega)]
      exact (ha j hj (by omega)).symm
    · rw [upd_ne g k v i e]
      by_cases e' : j = k
      · subst e'; rw [upd_at]; exact ha i hi e
      · rw [upd_ne g k v j e']; exact h.2 i j hi hj hne
theorem pile_step {wr w1 w2 : World} {base m k bo ga L L2 capo cap : Nat} {h : Nat → Value} {c c' : Nat → List Int} (hk : k < m) (hf : Fam wr base (m + 1) h c) (eo : h m = .slice (some ⟨bo, 0, none⟩) L capo)
    (g1 : wr.grownBy w1 (some bo)) (g2 : w1.grownBy w2 (some bo)) (hat : (Value.slice (some ⟨bo, 0, none⟩) L capo).ownBlock = some ga ∨ ga = w1.heap.size)
    (hv : w2.ownsRow base 3 1 (.slice (some ⟨ga, 0, none⟩) L2 cap) (c' k).length (nums (c' k))) (hl : 0 < (c' k).length) (hc : ∀ i, i ≠ k → c' i = c i) :
    Fam w2 base m (upd h k (.slice (some ⟨ga, 0, none⟩) L2 cap)) c' := by
  have hne : ∀ i, i < m → (h i).ownBlock ≠ some bo := fun i hi => by
    have := hf.2 i m (by omega) (by omega) (by omega)
    rw [eo] at this
    simpa [Value.ownBlock] using this
  have f2 : Fam w2 base m h c := (hf.pop.grown g1 hne).grown g2 hne
  refine f2.put hk hv hl (fun i hi _ => ?_) hc
  rcases hat with ha | ha
  · have e1 : bo = ga := by simpa [Value.ownBlock] using ha
    subst e1
    exact hne i hi
  · obtain ⟨b, cb, e, _, hb⟩ := hf.block i (by omega)
    have hs := g1.size
    rw [e]
    simp [Value.ownBlock]
    omega
theorem grown_putRow {W : World} {q g : Nat} {d : Array Int} : W.grownBy (Sort.putRow (Value.int .i64) (Sort.ahead W q) g 0 d) (some g) :=
  ⟨rfl, rfl, rfl, by simp [Sort.putRow, Sort.mapBlock, Sort.ahead], fun k hk hne => by
    simp [Sort.putRow, Sort.mapBlock, Sort.ahead, Array.getElem?_modify, show g ≠ k from fun e => hne (by rw [e])]⟩
theorem reverse_own (bo capo : Nat) (zs : List Int) (base : Nat) (w : World) (h : w.ownsRow base 3 1 (.slice (some ⟨bo, 0, none⟩) zs.length capo) zs.length (nums zs)) (hl : zs.length ≤ 1048576) :
    Calls Try.prog 48 #[.slice (some ⟨bo, 0, none⟩) zs.length capo] w fun e w' => e = .returned (.tuple #[]) ∧ w'.ownsRow base 3 1 (.slice (some ⟨bo, 0, none⟩) zs.length capo) zs.length (nums zs.reverse) ∧ w.grownBy w' (some bo) := by
  obtain ⟨g', cap', e', _, _, _, _, _, hH⟩ := Lib.holds_of_ownsRow h (by simp)
  cases e'
  refine (Try.slices_Reverse_int bo 0 capo zs w hH (by omega)).mono ?_
  rintro e w' ⟨rfl, n, rfl⟩
  have h2 := Lib.ownsRow_putRow (q := n) (k := zs.length) (ys := zs.reverse) h (by simp) (Nat.le_refl _)
  rw [List.take_of_length_le (by simp)] at h2
  exact ⟨rfl, h2, grown_putRow⟩
theorem Fam.congr {W : World} {base m : Nat} {g : Nat → Value} {c c' : Nat → List Int} (h : Fam W base m g c) (e : ∀ i, i < m → c' i = c i) : Fam W base m g c' :=
  ⟨fun i hi => by rw [e i hi]; exact h.1 i hi, h.2⟩
/-- the piles when the first k have been folded -/
def mix (n : Nat) (c : Nat → List Int) (k i : Nat) : List Int := if i < k then fo n c i else c i
theorem mix_ge (n : Nat) (c : Nat → List Int) (k i : Nat) (h : k ≤ i) : mix n c k i = c i := by unfold mix; rw [if_neg (by omega)]
theorem mix_at (n : Nat) (c : Nat → List Int) (k : Nat) : mix n c (k + 1) k = (c (n - 1 - k)).reverse ++ c k := by unfold mix; rw [if_pos (by omega)]; rfl
theorem mix_ne (n : Nat) (c : Nat → List Int) (k i : Nat) (h : i ≠ k) : mix n c (k + 1) i = mix n c k i := by
  unfold mix
  by_cases e : i < k
  · rw [if_pos (by omega), if_pos e]
  · rw [if_neg (by omega), if_neg e]
theorem row_congr (m : Nat) (g g' : Nat → Value) (h : ∀ i, i < m → g i = g' i) : row m g = row m g' := by
  unfold row
  apply List.map_congr_left
  intro i hi
  exact h i (List.mem_range.mp hi)
theorem made_row (n : Nat) : (madeCells (Value.slice none 0 0).cells (n * 1)).toList = row n (fun _ => .slice none 0 0) := by
  rw [Nat.mul_one, show (Value.slice none 0 0).cells = #[.slice none 0 0] from rfl, toList_madeCells_one]
  unfold row
  rw [List.map_const', List.length_range]
set_option maxRecDepth 100000 in
set_option maxHeartbeats 2000000 in
theorem foldPiles_any (base q L b0 cap0 : Nat) (g : Nat → Value) (c : Nat → List Int) (w : World) (hq : 0 < q) (hq2 : q ≤ 64) (hL0 : 0 < L) (hL1 : L ≤ 128) (hc : ∀ i, (c i).length = L) (hbs : base ≤ w.heap.size)
    (hown : w.ownsRow base 22 1 (.slice (some ⟨b0, 0, none⟩) (2 * q) cap0) (2 * q) (row (2 * q) g)) (hfam : Fam w base (2 * q) g c) :
    Calls Try.prog 33 #[.slice (some ⟨b0, 0, none⟩) (2 * q) cap0] w fun e w' => ∃ v' g', e = .returned v' ∧ w'.ownsRow base 22 1 v' q (row q g') ∧ Fam w' base q g' (fo (2 * q) c) ∧ Below base w w' := by
  obtain ⟨i0, hi, hz0, hz1, hz2⟩ := info_parts info3
  obtain ⟨j0, ji, jz0, jz1, jz2⟩ := info_parts info22
  obtain ⟨M, hM⟩ : ∃ M, M = 2 * q := ⟨_, rfl⟩
  have hMI : (M : Int) / 2 = (q : Int) := by omega
  rw [← hM] at hown hfam ⊢
  have hb0 : b0 < w.heap.size := (hown.lt b0 rfl).2
  have HO := Lib.hid hown
  have HF := Lib.hid hfam
  have HC := Lib.hid hc
  have HM := Lib.hid hM
  clear hown hfam hc hM
  go_enter Try.func33, Try.ntmps33
  go_wp2_with (first | (at_make; refine wpList_make_full _ rfl _ _ 39 rfl w.heap.size 22 j0 (.slice none 0 0) 1 Try.underlying39 ji jz0 jz1 _ _ _ _ q rfl rfl rfl rfl (by rw [jz2]; omega) (by unfold maxLen; omega) (Nat.le_refl _) ?_; intro w1 hm1 hg1))
  rw [made_row] at hm1
  have hs1 := hg1.size
  have o1 := Lib.hid (own_on HO.out (below_of_grown hg1))
  have f1 := Lib.hid (HF.out.on (below_of_grown hg1))
  have B1 := Lib.hid ((below_of_grown hg1).mono hbs)
  have M1 := Lib.hid hm1
  clear hm1 hg1
  go_loopw [14] (fun i wr => ∃ (k : Nat) (r h : Nat → Value), k ≤ q ∧ i = .int .i64 (k : Int) ∧ wr.ownsRow w.heap.size 22 1 (.slice (some ⟨w.heap.size, 0, none⟩) q q) q (row q r) ∧ (∀ i, i < k → r i = h i) ∧ wr.ownsRow base 22 1 (.slice (some ⟨b0, 0, none⟩) M cap0) M (row M g) ∧ Fam wr base (M - k) h (mix M c k) ∧ (∀ i, k ≤ i → h i = g i) ∧ Below base w wr) (fun i _ => q - (intOf i).toNat)
  case atStart => exact ⟨0, _, g, by omega, rfl, M1.out, fun i hi => absurd hi (by omega), o1.out, by
    have e : mix M c 0 = c := by funext i; exact mix_ge M c 0 i (by omega)
    rw [e]; exact f1.out, fun i _ => rfl, B1.out⟩
  case round =>
    obtain ⟨k, r, h, hk, rfl, hr, hrh, ho, hf, hhg, hb⟩ := hrel
    clear M1 o1 f1 B1
    by_cases hlt : k < q
    · have hqM := HM.out
      obtain ⟨o, hoo⟩ : ∃ o : Nat, o + 1 = M - k := ⟨M - k - 1, by omega⟩
      have hoI : (M : Int) - 1 - (k : Int) = (o : Int) := by omega
      have hoM : o < M := by omega
      have hko : k < o := by omega
      rw [← hoo] at hf
      obtain ⟨bo, capo, eo, hbo1, hbo2⟩ := hf.block o (by omega)
      obtain ⟨bk, capk, ek, hbk1, hbk2⟩ := hf.block k (by omega)
      have hro := (hf.1 o (by omega)).1
      have hrk := (hf.1 k (by omega)).1
      rw [mix_ge M c k o (by omega)] at eo hro
      rw [mix_ge M c k k (by omega)] at ek hrk
      rw [eo] at hro
      rw [ek, HC.out k] at hrk
      have hc0 : wr.cell? ⟨b0, o, none⟩ = some (.slice (some ⟨bo, 0, none⟩) L capo) := by rw [ho.cellAt o (by omega), row_at M g o hoM, ← hhg o (by omega), eo, HC.out o]
      have hL := HC.out o
      have hneb : (h k).ownBlock ≠ some bo := by
        have := hf.2 k o (by omega) (by omega) (by omega)
        rw [eo] at this
        simpa [Value.ownBlock] using this
      have R := reverse_own bo capo (c o) base wr hro (by omega)
      rw [hL] at R
      have HR := Lib.hid R
      have EO := Lib.hid eo
      have EK := Lib.hid ek
      have HL := Lib.hid hL
      have hneF : (Value.slice (some ⟨w.heap.size, 0, none⟩) q q).ownBlock = none ∨ (Value.slice (some ⟨w.heap.size, 0, none⟩) q q).ownBlock ≠ some bo := by
        have := own_ne hr hro (by decide)
        simpa [Value.ownBlock] using this
      have hne0 : (Value.slice (some ⟨b0, 0, none⟩) M cap0).ownBlock = none ∨ (Value.slice (some ⟨b0, 0, none⟩) M cap0).ownBlock ≠ some bo := by
        have := own_ne ho hro (by decide)
        simpa [Value.ownBlock] using this
      have NF := Lib.hid hneF
      have N0 := Lib.hid hne0
      have hbko : bk ≠ bo := by rw [ek] at hneb; simpa [Value.ownBlock] using hneb
      have NK := Lib.hid (show (Value.slice (some ⟨bk, 0, none⟩) L capk).ownBlock = none ∨ (Value.slice (some ⟨bk, 0, none⟩) L capk).ownBlock ≠ some bo from Or.inr (by simpa [Value.ownBlock] using hbko))
      have HRH := Lib.hid hrh
      have HHG := Lib.hid hhg
      have HFK := Lib.hid hf
      have HOO := Lib.hid hoo
      clear R eo ek hL hro hneF hne0 hneb hrh hhg hf hoo hqM hbko
      go_wp2_with fail
      refine HR.out.mono ?_
      rintro e w2 ⟨rfl, hrev, hgr⟩
      have ho2 := ho.kept hgr N0.out
      have hr2 := hr.kept hgr NF.out
      have hrk2 := hrk.kept hgr NK.out
      have hck : w2.cell? ⟨b0, k, none⟩ = some (.slice (some ⟨bk, 0, none⟩) L capk) := by rw [ho2.cellAt k (by omega), row_at M g k (by omega), ← HHG.out k (Nat.le_refl _), EK.out, HC.out k]
      have hsz2 := Nat.le_trans hb.size hgr.size
      have hbs2 : base ≤ w2.heap.size := by omega
      clear ho hr hrk
      go_wp2_with (first | (at_builtin; refine wpList_append_lies _ rfl _ _ 22 rfl base 3 i0 (.int .i64 0) 1 8 Try.underlying22 hi hz0 hz1 hz2 rfl (by decide) _ _ _ rfl hrev ⟨bk, 0, none⟩ L capk (nums (c k)) rfl (by rw [nums_length, HC.out]; omega) (hrk2.cells rfl) (nums_one _) hL0 (by unfold maxLen; omega) (by omega) hbs2 _ rfl ?_; intro ga cap w3 hown3 hgrow3 hat hlt3; have hr3 := hr2.kept hgrow3 NF.out; have hfz := hr3.frozenAt k; obtain ⟨vv, hd⟩ : ∃ v, w3.cell? ⟨w.heap.size, k, none⟩ = some v := by rw [hr3.cellAt k (by omega), row_at q r k hlt]; exact ⟨_, rfl⟩))
      obtain ⟨s1, s2⟩ := hr3.stored k (.slice (some ⟨ga, 0, none⟩) (L + L) cap)
      rw [row_set q r k _ hlt] at s1
      have ho3 := ho2.kept hgrow3 N0.out
      have ho4 := ho3.kept s2 (Or.inr (by simp [Value.ownBlock]; omega))
      have hoE : M - 1 - k = o := by have := HOO.out; omega
      have hv : w3.ownsRow base 3 1 (.slice (some ⟨ga, 0, none⟩) (L + L) cap) (mix M c (k + 1) k).length (nums (mix M c (k + 1) k)) := by
        rw [mix_at, hoE, nums_append, List.length_append, List.length_reverse, HC.out, HC.out]; exact hown3
      have eo' : h o = .slice (some ⟨bo, 0, none⟩) L capo := by rw [EO.out, HL.out]
      have F3 := pile_step hko HFK.out eo' hgr hgrow3 hat hv (by rw [mix_at, List.length_append, List.length_reverse, HC.out]; omega) (fun i hi => mix_ne M c k i hi)
      have F4 := F3.grown s2 (fun i hi => by
        have := F3.apart hr3 i hi
        simpa [Value.ownBlock] using this)
      have B2 := hb.grown hgr (Nat.le_trans hbs hb.size) (fun j hj => by cases hj; exact hbo1)
      have B3 := B2.grown hgrow3 (Nat.le_trans hbs B2.size) (fun j hj => by cases hj; exact hbo1)
      have B4 := B3.grown s2 (Nat.le_trans hbs B3.size) (fun j hj => by cases hj; exact hbs)
      clear hr3 hd hfz ho2 hr2 hrk2 hck hrev hgr hown3 hgrow3 hat hlt3 hb ho3 hv F3 B2 B3 s2 hc0 hlt
      have hko' : o = M - (k + 1) := by omega
      rw [hko'] at F4
      go_roundw
      case rel =>
        exact ⟨k + 1, upd r k _, upd h k _, by omega, by go_num, s1, fun i hi => by
          by_cases e : i = k
          · rw [e, upd_at, upd_at]
          · rw [upd_ne r k _ i e, upd_ne h k _ i e]; exact HRH.out i (by omega), ho4, F4, fun i hi => by rw [upd_ne h k _ i (by omega)]; exact HHG.out i (by omega), B4⟩
      case measure => simp [intOf]; omega
    · have hkq : k = q := by omega
      have hqM := HM.out
      have F := Lib.hid (show Fam wr base q h (fo M c) by
        have e : M - k = q := by omega
        rw [e] at hf
        exact hf.congr (fun i hi => by unfold mix; rw [if_pos (by omega)]))
      have O := Lib.hid (show wr.ownsRow base 22 1 (.slice (some ⟨w.heap.size, 0, none⟩) q q) q (row q h) by
        rw [← row_congr q r h (fun i hi => hrh i (by omega))]
        exact own_le hr hbs)
      clear hr ho hf hrh hhg hqM hkq
      go_wp2
      go_ret
      exact ⟨_, h, rfl, O.out, F.out, hb⟩
theorem isFolds_yes (n : Int) (h0 : 0 ≤ n) (h7 : n ≤ 7) (w : World) :
    Calls Try.prog 32 #[.int .i64 n] w fun e w' => e = .returned (.bool true) ∧ w = w' := by
  go_enter Try.func32, Try.ntmps32
  go_wp2
  go_ret
  exact ⟨rfl, rfl⟩
theorem foFolds_yes (n : Int) (h0 : 0 ≤ n) (h7 : n ≤ 7) (w : World) :
    Calls Try.prog 30 #[.int .i64 n] w fun e w' => e = .returned (.bool true) ∧ w = w' := by
  go_enter Try.func30, Try.ntmps30
  go_wp2
  go_ret
  exact ⟨rfl, rfl⟩
theorem s_no (n : Int) (h : ¬ 0 ≤ n ∨ ¬ n ≤ 7) (w : World) : Calls Try.prog 11 #[.int .i64 n] w (Gives false [] w) := by
  by_cases c0 : 0 ≤ n <;> by_cases c1 : n ≤ 7 <;> first | (exfalso; omega) | skip
  all_goals
    clear h
    go_enter Try.func11, Try.ntmps11
    go_wp2
    go_ret2
    exact Gives.none (Below.refl _ _)
theorem i_no (n : Int) (h : ¬ 0 ≤ n ∨ ¬ n ≤ 7) (w : World) : Calls Try.prog 12 #[.int .i64 n] w (Gives false [] w) := by
  by_cases c0 : 0 ≤ n <;> by_cases c1 : n ≤ 7 <;> first | (exfalso; omega) | skip
  all_goals
    clear h
    go_enter Try.func12, Try.ntmps12
    go_wp2
    go_ret2
    exact Gives.none (Below.refl _ _)
theorem s_yes (f : Nat) (h : f ≤ 7) (w : World) : Calls Try.prog 11 #[.int .i64 f] w (Gives true (st f f 0) w) := by
  have h7 : (f : Int) ≤ 7 := by omega
  have h0 : (0 : Int) ≤ f := by omega
  go_enter Try.func11, Try.ntmps11
  go_wp2_with fail
  refine (foFolds_yes _ h0 h7 _).mono ?_
  rintro e w' ⟨rfl, rfl⟩
  go_wp2_with fail
  refine (foStrip_any f h _).mono ?_
  rintro e w1 ⟨v, rfl, ho, hb⟩
  go_wp2
  go_ret2
  exact ⟨v, rfl, ho, hb⟩
/-- what the filling of the piles keeps -/
theorem fill_step {W : World} {base k f cap n : Nat} {g r : Nat → Value} {F : Nat} (hb : base ≤ W.heap.size) (hk : k < n) (hfam : Fam W base k g (st f 0)) (hr : W.ownsRow base 22 1 (.slice (some ⟨F, 0, none⟩) n cap) n (row n r)) (hg : ∀ i, i < k → r i = g i) :
    let s := Value.slice (some ⟨W.heap.size, 0, none⟩) 1 1
    let W1 := (W.setCell ⟨F, k, none⟩ s).alloc (.cells #[.int .i64 ((k : Int) + 1)] 3)
    W1.ownsRow base 22 1 (.slice (some ⟨F, 0, none⟩) n cap) n (row n (upd r k s)) ∧ Fam W1 base (k + 1) (upd g k s) (st f 0) ∧ ∀ i, i < k + 1 → upd r k s i = upd g k s i := by
  intro s W1
  obtain ⟨s1, s2⟩ := hr.stored k s
  rw [row_set n r k _ hk] at s1
  have e0 : (W.setCell ⟨F, k, none⟩ s).heap.size = W.heap.size := by simp
  have h0 : Fam (W.setCell ⟨F, k, none⟩ s) base k g (st f 0) := hfam.grown s2 (fun i hi => by have := hfam.apart hr i hi; simpa [Value.ownBlock] using this)
  have h1 : Fam W1 base k g (st f 0) := h0.grown (World.grownBy_alloc _ _ none) (fun i hi => by
    obtain ⟨b, cap, e, _, _⟩ := hfam.block i hi
    rw [e]; simp [Value.ownBlock])
  have h3 := one_new (W.setCell ⟨F, k, none⟩ s) base (by rw [e0]; exact hb) ((k : Int) + 1)
  rw [e0] at h3
  have h2 := h1.snoc (v := s) h3 (by simp [st]) (fun i hi => by
    obtain ⟨b, cap, e, _, hlt⟩ := hfam.block i hi
    rw [e]; simp [Value.ownBlock, s]; omega)
  refine ⟨s1.alloc _, h2, fun i hi => ?_⟩
  by_cases e : i = k
  · rw [e, upd_at, upd_at]
  · rw [upd_ne r k _ i e, upd_ne g k _ i e]; exact hg i (by omega)
set_option maxRecDepth 100000 in
set_option maxHeartbeats 2000000 in
theorem i_yes (f : Nat) (h : f ≤ 7) (w : World) : Calls Try.prog 12 #[.int .i64 f] w (Gives true (st f f 0) w) := by
  obtain ⟨j0, ji, jz0, jz1, jz2⟩ := info_parts info22
  obtain ⟨N, hN⟩ : ∃ N : Nat, N = 2 ^ f := ⟨_, rfl⟩
  have hI : (2 : Int) ^ f = (N : Int) := by rw [hN]; simp
  have hN2 : N ≤ 128 := by rw [hN]; exact pow_le f h
  have HN := Lib.hid hN
  clear hN
  have h7 : (f : Int) ≤ 7 := by omega
  have h0 : (0 : Int) ≤ f := by omega
  go_enter Try.func12, Try.ntmps12
  go_wp2_with fail
  refine (isFolds_yes _ h0 h7 _).mono ?_
  rintro e w' ⟨rfl, rfl⟩
  go_wp2_with (first | (at_make; refine wpList_make_full _ rfl _ _ 39 rfl w.heap.size 22 j0 (.slice none 0 0) 1 Try.underlying39 ji jz0 jz1 _ _ _ _ N rfl rfl rfl rfl (by rw [jz2]; omega) (by unfold maxLen; omega) (Nat.le_refl _) ?_; intro w1 hm1 hg1))
  rw [made_row] at hm1
  have M1 := Lib.hid hm1
  have B1 := Lib.hid (below_of_grown hg1)
  clear hm1 hg1
  go_loopw [14] (fun i wr => ∃ (k : Nat) (r g : Nat → Value), k ≤ N ∧ i = .int .i64 (k : Int) ∧ wr.ownsRow w.heap.size 22 1 (.slice (some ⟨w.heap.size, 0, none⟩) N N) N (row N r) ∧ (∀ i, i < k → r i = g i) ∧ Fam wr w.heap.size k g (st f 0) ∧ Below w.heap.size w wr) (fun i _ => N - (intOf i).toNat)
  case atStart => exact ⟨0, _, fun _ => undef, by omega, rfl, M1.out, fun i hi => absurd hi (by omega), ⟨fun i hi => absurd hi (by omega), fun i j hi => absurd hi (by omega)⟩, B1.out⟩
  case round =>
    clear M1 B1
    obtain ⟨k, r, g, hk, rfl, hr, hrg, hf, hb⟩ := hrel
    by_cases hlt : k < N
    · have S := Lib.hid (fill_step hb.size hlt hf hr hrg)
      have hra := hr.alloc (.cells #[.int .i64 ((k : Int) + 1)] 3)
      have hfz := hra.frozenAt k
      obtain ⟨vv, hd⟩ : ∃ v, (wr.alloc (.cells #[.int .i64 ((k : Int) + 1)] 3)).cell? ⟨w.heap.size, k, none⟩ = some v := by
        rw [hra.cellAt k (by omega), row_at N r k hlt]; exact ⟨_, rfl⟩
      have hFl : w.heap.size < wr.heap.size := (hr.lt _ rfl).2
      have B := Lib.hid ((hb.setCell (p := ⟨w.heap.size, k, none⟩) (Nat.le_refl _) (.slice (some ⟨wr.heap.size, 0, none⟩) 1 1)).alloc (by simp; omega) (.cells #[.int .i64 ((k : Int) + 1)] 3))
      clear hra hr hrg hf hb
      go_wp2
      go_roundw
      case rel => exact ⟨k + 1, _, _, by omega, by go_num, S.out.1, S.out.2.2, S.out.2.1, B.out⟩
      case measure => simp [intOf]; omega
    · have E := Lib.hid (show k = N by omega)
      have HF := Lib.hid (show Fam wr w.heap.size (2 ^ f) g (st f 0) by rw [← HN.out, ← E.out]; exact hf)
      have HO := Lib.hid (show wr.ownsRow w.heap.size 22 1 (.slice (some ⟨w.heap.size, 0, none⟩) N N) (2 ^ f) (row (2 ^ f) g) by
        rw [← HN.out, ← row_congr N r g (fun i hi => hrg i (by rw [E.out]; exact hi))]; exact hr)
      have hb' := hb
      clear hf hr hrg hk
      go_wp2
      go_loopw [4] (fun v wr => ∃ (t : Nat) (g : Nat → Value), t ≤ f ∧ wr.ownsRow w.heap.size 22 1 v (2 ^ (f - t)) (row (2 ^ (f - t)) g) ∧ Fam wr w.heap.size (2 ^ (f - t)) g (st f t) ∧ Below w.heap.size w wr) (fun v _ => lenV v)
      case atStart => exact ⟨0, g, by omega, HO.out, HF.out, hb'⟩
      case round =>
        clear HO HF hb' hb E
        obtain ⟨t, g, ht, hown, hfam, hb⟩ := hrel
        obtain ⟨M, hM⟩ : ∃ M : Nat, M = 2 ^ (f - t) := ⟨_, rfl⟩
        have hM0 : 0 < M := by rw [hM]; exact Nat.pow_pos (by omega)
        have hM1 : M ≤ 128 := by rw [hM]; exact Nat.le_trans (pow_le (f - t) (by omega)) (by omega)
        rw [← hM] at hown hfam
        obtain ⟨b0, cap0, rfl, hb0, hb1⟩ := hown.form hM0
        have HM := Lib.hid hM
        clear hM
        by_cases hlt : t < f
        · obtain ⟨q, hqq⟩ : ∃ q, q = 2 ^ (f - (t + 1)) := ⟨_, rfl⟩
          have hq : M = 2 * q := by rw [HM.out, hqq]; exact pow_half hlt
          have hq0 : 0 < q := by omega
          have hL0 : 0 < 2 ^ t := Nat.pow_pos (by omega)
          have hL1 : 2 ^ t ≤ 128 := Nat.le_trans (pow_le t (by omega)) (by omega)
          have hq1 : ¬ (M : Int) ≤ 1 := by omega
          have C := Lib.hid (foldPiles_any w.heap.size q (2 ^ t) b0 cap0 g (st f t) wr hq0 (by omega) hL0 hL1 (fun i => st_length f t i) hb.size (by rw [← hq]; exact hown) (by rw [← hq]; exact hfam))
          have HQ := Lib.hid hq
          have HQQ := Lib.hid hqq
          clear hfam hown hqq hL0 hL1 hq
          go_wp2_with fail
          rw [HQ.out]
          refine C.out.mono ?_
          rintro e w2 ⟨v', g', rfl, ho2, hf2, hb2⟩
          have hb3 := hb.trans hb2
          obtain ⟨b6, cap6, e6, _, _⟩ := ho2.form hq0
          subst e6
          have O := Lib.hid (show w2.ownsRow w.heap.size 22 1 (.slice (some ⟨b6, 0, none⟩) q cap6) (2 ^ (f - (t + 1))) (row (2 ^ (f - (t + 1))) g') by rw [← HQQ.out]; exact ho2)
          have F := Lib.hid (show Fam w2 w.heap.size (2 ^ (f - (t + 1))) g' (st f (t + 1)) by
            rw [← HQQ.out]
            have e : st f (t + 1) = fo (2 * q) (st f t) := by
              show fo (2 ^ (f - t)) (st f t) = _
              rw [← HM.out, ← HQ.out]
            rw [e]; exact hf2)
          clear ho2 hf2 hb hb2 C
          go_wp2
          go_roundw
          case rel => exact ⟨t + 1, g', by omega, O.out, F.out, hb3⟩
          case measure => simp [lenV]; have := HQ.out; omega
        · have HT := Lib.hid (show t = f by omega)
          have hM2 : M = 1 := by rw [HM.out, HT.out, Nat.sub_self]
          have hr0 := (hfam.1 0 hM0).1
          have hc0 : wr.cell? ⟨b0, 0, none⟩ = some (g 0) := by rw [hown.cellAt 0 (by omega), row_at M g 0 hM0]
          have HR := Lib.hid (show wr.ownsRow w.heap.size 3 1 (g 0) (st f f 0).length (nums (st f f 0)) by rw [HT.out] at hr0; exact hr0)
          subst hM2
          clear hr0 hown hlt hfam
          go_wp2
          go_ret2
          exact ⟨_, rfl, HR.out, hb⟩
end St
end Go.Proofs.Ytjoapogkooblgab
