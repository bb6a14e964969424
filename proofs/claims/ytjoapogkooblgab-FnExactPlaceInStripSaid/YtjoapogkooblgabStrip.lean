/- What the functions that fold a strip answer: for up to seven folds one and the same plain list, in new memory. -/
import Derived.Test.YtjoapogkooblgabInts
import Derived.Test.YtjoapogkooblgabShelf
import Derived.Lib.OwnBridge
import Derived.Maps.AppendAt
import Derived.Deep.AppendLies
namespace Go.Proofs.Ytjoapogkooblgab
open Go.RowKit
set_option linter.unusedVariables false
namespace St
open Li
theorem info22 : (Try.prog.info? 22).map (fun i => (i.zero, i.size, i.bytes)) = some (some (.slice none 0 0), 1, 24) := by kernel_rfl
theorem own_ne {w : World} {B B' e e' size size' n n' : Nat} {v v' : Value} {xs xs' : List Value} (h : w.ownsRow B e size v n xs) (h' : w.ownsRow B' e' size' v' n' xs') (hne : e ≠ e') : v.ownBlock = none ∨ v.ownBlock ≠ v'.ownBlock := by
  rcases h.2 with ⟨rfl, _⟩ | ⟨g, cap, cur, rfl, _, hg, _⟩
  · exact Or.inl rfl
  · rcases h'.2 with ⟨rfl, _⟩ | ⟨g', cap', cur', rfl, _, hg', _⟩
    · exact Or.inr (by simp [Value.ownBlock])
    · refine Or.inr fun he => ?_
      simp only [Value.ownBlock, Option.some.injEq] at he
      subst he
      rw [hg] at hg'
      simp only [Option.some.injEq, Obj.cells.injEq] at hg'
      exact hne hg'.2.1
/-- rows of integers that lie apart: row i has the value g i and the numbers c i -/
def Fam (W : World) (base m : Nat) (g : Nat → Value) (c : Nat → List Int) : Prop :=
  (∀ i, i < m → W.ownsRow base 3 1 (g i) (c i).length (nums (c i)) ∧ 0 < (c i).length) ∧ ∀ i j, i < m → j < m → i ≠ j → (g i).ownBlock ≠ (g j).ownBlock
theorem Fam.grown {W W' : World} {base m : Nat} {g : Nat → Value} {c : Nat → List Int} {row : Option Nat} (h : Fam W base m g c) (hg : W.grownBy W' row) (hr : ∀ i, i < m → (g i).ownBlock ≠ row) : Fam W' base m g c :=
  ⟨fun i hi => ⟨(h.1 i hi).1.kept hg (Or.inr (hr i hi)), (h.1 i hi).2⟩, h.2⟩
theorem Fam.on {W W' : World} {base m : Nat} {g : Nat → Value} {c : Nat → List Int} (h : Fam W base m g c) (hb : Below W.heap.size W W') : Fam W' base m g c :=
  ⟨fun i hi => ⟨own_on (h.1 i hi).1 hb, (h.1 i hi).2⟩, h.2⟩
theorem Fam.block {W : World} {base m : Nat} {g : Nat → Value} {c : Nat → List Int} (h : Fam W base m g c) (i : Nat) (hi : i < m) :
    ∃ b cap, g i = .slice (some ⟨b, 0, none⟩) (c i).length cap ∧ base ≤ b ∧ b < W.heap.size := (h.1 i hi).1.form (h.1 i hi).2
/-- a row of slices keeps apart from rows of integers -/
theorem Fam.apart {W : World} {base base' m n : Nat} {g : Nat → Value} {c : Nat → List Int} {v : Value} {xs : List Value} (h : Fam W base m g c) (hv : W.ownsRow base' 22 1 v n xs) (i : Nat) (hi : i < m) : (g i).ownBlock ≠ v.ownBlock := by
  obtain ⟨b, cap, e, _, _⟩ := h.block i hi
  rcases own_ne (h.1 i hi).1 hv (by decide) with h1 | h1
  · rw [e] at h1; simp [Value.ownBlock] at h1
  · exact h1
theorem Fam.le {W : World} {base base' m : Nat} {g : Nat → Value} {c : Nat → List Int} (h : Fam W base m g c) (hb : base' ≤ base) : Fam W base' m g c := ⟨fun i hi => ⟨own_le (h.1 i hi).1 hb, (h.1 i hi).2⟩, h.2⟩
theorem nums_append (a b : List Int) : nums (a ++ b) = nums a ++ nums b := by simp [nums]
theorem nums_one (a : List Int) : ∀ u ∈ nums a, u.oneCell' = true := by
  intro u hu
  simp only [nums, List.mem_map] at hu
  obtain ⟨x, _, rfl⟩ := hu
  rfl
def row (m : Nat) (g : Nat → Value) : List Value := (List.range m).map g
theorem row_length (m : Nat) (g : Nat → Value) : (row m g).length = m := by simp [row]
theorem row_at (m : Nat) (g : Nat → Value) (j : Nat) (h : j < m) : (row m g)[j]? = some (g j) := by simp [row, h]
def upd (g : Nat → Value) (k : Nat) (v : Value) (i : Nat) : Value := if i = k then v else g i
theorem upd_at (g : Nat → Value) (k : Nat) (v : Value) : upd g k v k = v := by simp [upd]
theorem upd_ne (g : Nat → Value) (k : Nat) (v : Value) (i : Nat) (h : i ≠ k) : upd g k v i = g i := by simp [upd, h]
theorem row_snoc (m : Nat) (g : Nat → Value) (v : Value) : row (m + 1) (upd g m v) = row m g ++ [v] := by
  unfold row
  rw [List.range_succ, List.map_append]
  congr 1
  · apply List.map_congr_left
    intro i hi
    exact upd_ne g m v i (by have := List.mem_range.mp hi; omega)
  · simp [upd]
theorem row_set (m : Nat) (g : Nat → Value) (k : Nat) (v : Value) (h : k < m) : (row m g).set k v = row m (upd g k v) := by
  apply List.ext_getElem?
  intro j
  rw [List.getElem?_set]
  by_cases hj : k = j
  · subst hj
    rw [if_pos rfl, if_pos (by rw [row_length]; exact h), row_at m _ k h, upd_at]
  · rw [if_neg hj]
    by_cases hjm : j < m
    · rw [row_at m _ j hjm, row_at m _ j hjm, upd_ne g k v j (by omega)]
    · rw [List.getElem?_eq_none (by rw [row_length]; omega), List.getElem?_eq_none (by rw [row_length]; omega)]
/-- one row more, in a block that lies apart from all others -/
theorem Fam.snoc {W : World} {base m : Nat} {g : Nat → Value} {c : Nat → List Int} {v : Value} (h : Fam W base m g c) (hv : W.ownsRow base 3 1 v (c m).length (nums (c m))) (hl : 0 < (c m).length) (ha : ∀ i, i < m → (g i).ownBlock ≠ v.ownBlock) : Fam W base (m + 1) (upd g m v) c := by
  constructor
  · intro i hi
    by_cases e : i = m
    · subst e; rw [upd_at]; exact ⟨hv, hl⟩
    · rw [upd_ne g m v i e]; exact h.1 i (by omega)
  · intro i j hi hj hne
    by_cases e : i = m
    · subst e
      rw [upd_at, upd_ne g i v j (by omega)]
      exact (ha j (by omega)).symm
    · rw [upd_ne g m v i e]
      by_cases e' : j = m
      · subst e'; rw [upd_at]; exact ha i (by omega)
      · rw [upd_ne g m v j e']; exact h.2 i j (by omega) (by omega) hne
/-- n piles, the right half turned over and onto the left one -/
def fo (n : Nat) (c : Nat → List Int) (i : Nat) : List Int := (c (n - 1 - i)).reverse ++ c i
def st (f : Nat) : Nat → Nat → List Int
  | 0 => fun i => [(i : Int) + 1]
  | t + 1 => fo (2 ^ (f - t)) (st f t)
theorem st_length (f t i : Nat) : (st f t i).length = 2 ^ t := by
  induction t generalizing i with
  | zero => rfl
  | succ t ih => show (fo _ _ i).length = _; unfold fo; rw [List.length_append, List.length_reverse, ih, ih, Nat.pow_succ]; omega
theorem pow_le (f : Nat) (h : f ≤ 7) : 2 ^ f ≤ 128 := Nat.le_trans (Nat.pow_le_pow_right (by omega) h) (by decide)
theorem cell_new2 (w : World) (o : Obj) (x : Value) (t : TypeId) : ∀ j u, [x][j]? = some u → ((w.alloc o).alloc (.cells #[x] t)).cell? ((⟨w.heap.size + 1, 0, none⟩ : Addr).add j) = some u := by
  have h := cell_one_new (w.alloc o) x t
  simpa using h
def lenV : Value → Nat
  | .slice _ n _ => n
  | _ => 0
/-- a round of folding: the new pile joins those that have been made -/
theorem fold_step {W w5 w6 : World} {base k : Nat} {g : Nat → Value} {C : Nat → List Int} {v2 u : Value} {xs : List Value} (hb : base ≤ W.heap.size) (hfam : Fam W base k g C) (hown : W.ownsRow base 22 1 v2 k xs)
    (h5 : Below W.heap.size W w5) (hu : w5.ownsRow W.heap.size 3 1 u (C k).length (nums (C k))) (hl : 0 < (C k).length) (hg : (w5.alloc (.cells #[u] 22)).grownBy w6 v2.ownBlock) : Fam w6 base (k + 1) (upd g k u) C := by
  have h2 := (hfam.on h5).snoc (v := u) (own_le hu hb) hl (fun i hi => by
    obtain ⟨b, cap, e, _, hlt⟩ := hfam.block i hi
    obtain ⟨b', cap', e', hge, _⟩ := hu.form hl
    rw [e, e']; simp [Value.ownBlock]; omega)
  have h3 : Fam (w5.alloc (.cells #[u] 22)) base (k + 1) (upd g k u) C := h2.grown (World.grownBy_alloc _ _ none) (fun i hi => by
    obtain ⟨b, cap, e, _, _⟩ := h2.block i hi
    rw [e]; simp [Value.ownBlock])
  exact h3.grown hg (fun i hi => h3.apart ((own_on hown h5).alloc _) i hi)
theorem rev_step (l : List Int) (r p : Nat) (h : r < l.length) (hp : p = l.length - 1 - r) : nums (l.reverse.take (r + 1)) = nums (l.reverse.take r) ++ [.int .i64 (l.getD p 0)] := by
  subst hp
  rw [List.take_succ_eq_append_getElem (by simpa using h)]
  simp [nums, List.getElem_reverse, List.getD, List.getElem?_eq_getElem (show l.length - 1 - r < l.length by omega)]
theorem pow_half {f t : Nat} (h : t < f) : 2 ^ (f - t) = 2 * 2 ^ (f - (t + 1)) := by
  obtain ⟨d, hd⟩ : ∃ d, f - t = d + 1 := ⟨f - t - 1, by omega⟩
  rw [hd, show f - (t + 1) = d from by omega, Nat.pow_succ]
  omega
/-- a new pile of one part -/
theorem one_new (W : World) (base : Nat) (hb : base ≤ W.heap.size) (x : Int) : (W.alloc (.cells #[.int .i64 x] 3)).ownsRow base 3 1 (.slice (some ⟨W.heap.size, 0, none⟩) 1 1) [x].length (nums [x]) :=
  World.ownsRow_lit W #[.int .i64 x] 1 hb (by unfold maxLen; omega) rfl
theorem first_step {W w2 : World} {base k f : Nat} {g : Nat → Value} {v : Value} {xs : List Value} (hb : base ≤ W.heap.size) (hfam : Fam W base k g (st f 0)) (hown : W.ownsRow base 22 1 v k xs)
    (hg : ((W.alloc (.cells #[.int .i64 ((k : Int) + 1)] 3)).alloc (.cells #[.slice (some ⟨W.heap.size, 0, none⟩) 1 1] 22)).grownBy w2 v.ownBlock) : Fam w2 base (k + 1) (upd g k (.slice (some ⟨W.heap.size, 0, none⟩) 1 1)) (st f 0) := by
  have h1 : Fam (W.alloc (.cells #[.int .i64 ((k : Int) + 1)] 3)) base k g (st f 0) := hfam.grown (World.grownBy_alloc W _ none) (fun i hi => by
    obtain ⟨b, cap, e, _, _⟩ := hfam.block i hi
    rw [e]; simp [Value.ownBlock])
  have h2 := h1.snoc (v := .slice (some ⟨W.heap.size, 0, none⟩) 1 1) (one_new W base hb ((k : Int) + 1)) (by simp [st]) (fun i hi => by
    obtain ⟨b, cap, e, _, hlt⟩ := hfam.block i hi
    rw [e]; simp [Value.ownBlock]; omega)
  have h3 : Fam ((W.alloc (.cells #[.int .i64 ((k : Int) + 1)] 3)).alloc (.cells #[.slice (some ⟨W.heap.size, 0, none⟩) 1 1] 22)) base (k + 1) (upd g k (.slice (some ⟨W.heap.size, 0, none⟩) 1 1)) (st f 0) :=
    h2.grown (World.grownBy_alloc _ _ none) (fun i hi => by
      obtain ⟨b, cap, e, _, _⟩ := h2.block i hi
      rw [e]; simp [Value.ownBlock])
  exact h3.grown hg (fun i hi => h3.apart ((hown.alloc _).alloc _) i hi)
set_option maxRecDepth 100000 in
set_option maxHeartbeats 2000000 in
theorem foStrip_any (f : Nat) (h : f ≤ 7) (w : World) :
    Calls Try.prog 31 #[.int .i64 f] w fun e w' => ∃ v, e = .returned v ∧ w'.ownsRow w.heap.size 3 1 v (st f f 0).length (nums (st f f 0)) ∧ Below w.heap.size w w' := by
  obtain ⟨i0, hi, hz0, hz1, hz2⟩ := info_parts info3
  obtain ⟨j0, ji, jz0, jz1, jz2⟩ := info_parts info22
  obtain ⟨N, hN⟩ : ∃ N : Nat, N = 2 ^ f := ⟨_, rfl⟩
  have hI : (2 : Int) ^ f = (N : Int) := by rw [hN]; simp
  have hN2 : N ≤ 128 := by rw [hN]; exact pow_le f h
  have HN := Lib.hid hN
  clear hN
  go_enter Try.func31, Try.ntmps31
  go_wp2
  go_loopw [3, 4] (fun v i wr => ∃ (k : Nat) (g : Nat → Value), k ≤ N ∧ i = .int .i64 ((k : Int) + 1) ∧ wr.ownsRow w.heap.size 22 1 v k (row k g) ∧ Fam wr w.heap.size k g (st f 0) ∧ Below w.heap.size w wr) (fun _ i _ => N + 1 - (intOf i).toNat)
  case atStart => exact ⟨0, fun _ => undef, by omega, rfl, World.ownsRow_nil _ _ _ _, ⟨fun i hi => absurd hi (by omega), fun i j hi => absurd hi (by omega)⟩, Below.refl _ _⟩
  case round =>
    obtain ⟨k, g, hk, rfl, hown, hfam, hb⟩ := hrel
    have hf : (f : Int) ≤ 7 := by omega
    have hsz := hb.size
    have HF := Lib.hid hfam
    clear hfam
    by_cases hlt : k < N
    · have hlt' : (k : Int) + 1 ≤ N := by omega
      go_wp2_with (first | (at_builtin; refine wpList_append_own _ rfl _ _ 39 rfl w.heap.size 22 j0 (.slice none 0 0) 1 24 Try.underlying39 ji jz0 jz1 jz2 rfl (by decide) _ _ _ rfl ((hown.alloc _).alloc _) ⟨wr.heap.size + 1, 0, none⟩ 1 1 [.slice (some ⟨wr.heap.size, 0, none⟩) 1 1] rfl rfl (cell_new2 _ _ _ _) (fun x hx => by simp at hx; subst hx; rfl) (by unfold maxLen; omega) (by omega) (by simp; omega) ?_; intro v' w2 hown2 hgrow2 hnil2))
      have O := Lib.hid (show w2.ownsRow w.heap.size 22 1 v' (k + 1) (row (k + 1) (upd g k (.slice (some ⟨wr.heap.size, 0, none⟩) 1 1))) by rw [row_snoc]; exact hown2)
      have F := Lib.hid (first_step hsz HF.out hown hgrow2)
      have B := Lib.hid (((hb.alloc hsz _).alloc (by simp; omega) _).grown hgrow2 (by simp; omega) (fun j hj => (hown.lt j hj).1))
      clear hown2 hgrow2 hnil2 hown hb
      go_roundw
      case rel => exact ⟨k + 1, _, by omega, by go_num, O.out, F.out, B.out⟩
      case measure => simp [intOf]; omega
    · have hlt' : ¬ (k : Int) + 1 ≤ N := by omega
      have E := Lib.hid (show k = N by omega)
      have hb' := hb
      rw [E.out, HN.out] at hown
      have HF' := Lib.hid (show Fam wr w.heap.size (2 ^ f) g (st f 0) by rw [← HN.out, ← E.out]; exact HF.out)
      have HO := Lib.hid hown
      clear hlt hk HF hown
      go_wp2
      go_loopw [3] (fun v wr => ∃ (t : Nat) (g : Nat → Value), t ≤ f ∧ wr.ownsRow w.heap.size 22 1 v (2 ^ (f - t)) (row (2 ^ (f - t)) g) ∧ Fam wr w.heap.size (2 ^ (f - t)) g (st f t) ∧ Below w.heap.size w wr) (fun v _ => lenV v)
      case atStart => exact ⟨0, g, by omega, HO.out, HF'.out, hb'⟩
      case round =>
        clear HO HF' hb' hb E hlt' hsz hf
        obtain ⟨t, g, ht, hown, hfam, hb⟩ := hrel
        obtain ⟨wo, rfl⟩ : ∃ wo : World, wo = wr := ⟨_, rfl⟩
        obtain ⟨M, hM⟩ : ∃ M : Nat, M = 2 ^ (f - t) := ⟨_, rfl⟩
        have hM0 : 0 < M := by rw [hM]; exact Nat.pow_pos (by omega)
        have hM1 : M ≤ 128 := by rw [hM]; exact Nat.le_trans (pow_le (f - t) (by omega)) (by omega)
        rw [← hM] at hown hfam
        obtain ⟨b0, cap0, rfl, hb0, hb1⟩ := hown.form hM0
        have HM := Lib.hid hM
        have HF := Lib.hid hfam
        clear hM hfam
        by_cases hlt : t < f
        · obtain ⟨q, hqq⟩ : ∃ q, q = 2 ^ (f - (t + 1)) := ⟨_, rfl⟩
          have hq : M = 2 * q := by rw [HM.out, hqq]; exact pow_half hlt
          have HQQ := Lib.hid hqq
          clear hqq
          have hq1 : ¬ (M : Int) ≤ 1 := by omega
          have hq2 : (M : Int) / 2 = (q : Int) := by omega
          have HQ := Lib.hid hq
          clear hq
          have hsz := hb.size
          go_wp2
          go_loopw [5, 6] (fun v i w2 => ∃ (k : Nat) (g2 : Nat → Value), k ≤ q ∧ i = .int .i64 (k : Int) ∧ w2.ownsRow wo.heap.size 22 1 v k (row k g2) ∧ Fam w2 wo.heap.size k g2 (st f (t + 1)) ∧ Below wo.heap.size wo w2) (fun _ i _ => q - (intOf i).toNat)
          case atStart => exact ⟨0, fun _ => undef, by omega, rfl, World.ownsRow_nil _ _ _ _, ⟨fun i hi => absurd hi (by omega), fun i j hi => absurd hi (by omega)⟩, Below.refl _ _⟩
          case round =>
            obtain ⟨k2, g2, hk2, rfl, hown2, hfam2, hbw⟩ := hrel
            obtain ⟨w2, rfl⟩ : ∃ w2 : World, w2 = wr := ⟨_, rfl⟩
            have HF2 := Lib.hid hfam2
            clear hfam2
            by_cases hlt2 : (k2 : Int) < (q : Int)
            · have hqM := HQ.out
              obtain ⟨o, ho⟩ : ∃ o : Nat, o = M - 1 - k2 := ⟨_, rfl⟩
              have hoI : (M : Int) - 1 - (k2 : Int) = (o : Int) := by omega
              have hoM : o < M := by omega
              have hkM : k2 < M := by omega
              obtain ⟨bo, capo, eo, _, hbo⟩ := HF.out.block o hoM
              obtain ⟨bk, capk, ek, _, hbk⟩ := HF.out.block k2 hkM
              obtain ⟨L, hL⟩ : ∃ L : Nat, L = 2 ^ t := ⟨_, rfl⟩
              have hL0 : 0 < L := by rw [hL]; exact Nat.pow_pos (by omega)
              have hL1 : L ≤ 128 := by rw [hL]; exact Nat.le_trans (pow_le t (by omega)) (by omega)
              have hLo : (st f t o).length = L := by rw [hL]; exact st_length f t o
              have hLk : (st f t k2).length = L := by rw [hL]; exact st_length f t k2
              rw [hLo] at eo
              rw [hLk] at ek
              have hro := (HF.out.1 o hoM).1
              have hrk := (HF.out.1 k2 hkM).1
              rw [hLo, eo] at hro
              rw [hLk, ek] at hrk
              have HRO := Lib.hid hro
              have HRK := Lib.hid hrk
              have HLO := Lib.hid hLo
              have HLK := Lib.hid hLk
              have HOI := Lib.hid ho
              have hout2 := own_on hown hbw
              have hc0 : w2.cell? ⟨b0, o, none⟩ = some (.slice (some ⟨bo, 0, none⟩) L capo) := by rw [hout2.cellAt o (by omega), row_at M g o hoM, eo]
              have hck : ∀ w3 : World, Below w2.heap.size w2 w3 → w3.cell? ⟨b0, k2, none⟩ = some (.slice (some ⟨bk, 0, none⟩) L capk) := fun w3 h3 => by rw [(own_on hout2 h3).cellAt k2 (by omega), row_at M g k2 hkM, ek]
              have HCK := Lib.hid hck
              have HEO := Lib.hid eo
              have HEK := Lib.hid ek
              clear hro hrk eo ek ho hLo hLk hout2 hck hqM hL
              have hsz2 := hbw.size
              go_wp2
              go_loopw [7, 9] (fun u i w3 => ∃ r : Nat, r ≤ L ∧ i = .int .i64 ((L : Int) - 1 - (r : Int)) ∧ w3.ownsRow w2.heap.size 3 1 u r (nums ((st f t o).reverse.take r)) ∧ Below w2.heap.size w2 w3) (fun _ i _ => (intOf i + 1).toNat)
              case atStart => exact ⟨0, by omega, by simp, World.ownsRow_nil _ _ _ _, Below.refl _ _⟩
              case round =>
                obtain ⟨r, hr, rfl, hu, hbu⟩ := hrel
                by_cases hlt3 : r < L
                · obtain ⟨p, hp⟩ : ∃ p : Nat, p = L - 1 - r := ⟨_, rfl⟩
                  have hpI : (L : Int) - 1 - (r : Int) = (p : Int) := by omega
                  have hpL : p < L := by omega
                  have hro3 := own_on (own_on HRO.out hbw) hbu
                  have hc : wr.cell? ⟨bo, p, none⟩ = some (.int .i64 ((st f t o).getD p 0)) := (row_own hro3 HLO.out (by omega)).2.2.2 p hpL
                  have HP := Lib.hid (rev_step (st f t o) r p (by rw [HLO.out]; exact hlt3) (by rw [HLO.out]; exact hp))
                  have HPP := Lib.hid hp
                  clear hro3 hp
                  have hsz3 := hbu.size
                  go_wp2_with (first | (at_builtin; refine wpList_append_own _ rfl _ _ 22 rfl w2.heap.size 3 i0 (.int .i64 0) 1 8 Try.underlying22 hi hz0 hz1 hz2 rfl (by decide) _ _ _ rfl (hu.alloc _) ⟨wr.heap.size, 0, none⟩ 1 1 [.int .i64 ((st f t o).getD p 0)] rfl rfl (cell_one_new _ _ _) (fun x hx => by simp at hx; subst hx; rfl) (by unfold maxLen; omega) (by omega) (by simp; omega) ?_; intro v' w4 hu4 hgrow4 hnil4))
                  have O := Lib.hid (show w4.ownsRow w2.heap.size 3 1 v' (r + 1) (nums ((st f t o).reverse.take (r + 1))) by rw [HP.out]; exact hu4)
                  have B := Lib.hid ((hbu.alloc hsz3 _).grown hgrow4 (by simp; omega) (fun j hj => (hu.lt j hj).1))
                  clear hu4 hgrow4 hnil4 hu hbu
                  go_roundw
                  case rel => exact ⟨r + 1, by omega, by have := HPP.out; exact congrArg _ (by omega), O.out, B.out⟩
                  case measure => simp [intOf]; omega
                · have hz : (L : Int) - 1 - (r : Int) = -1 := by omega
                  have HR := Lib.hid (show r = L by omega)
                  have HU := Lib.hid (show wr.ownsRow w2.heap.size 3 1 u7 L (nums (st f t o).reverse) by
                    have e : (st f t o).reverse.take r = (st f t o).reverse := List.take_of_length_le (by rw [List.length_reverse, HLO.out, HR.out]; exact Nat.le_refl _)
                    rw [e, HR.out] at hu; exact hu)
                  clear hu
                  have hck3 := HCK.out wr hbu
                  have hrk3 := own_on (own_on HRK.out hbw) hbu
                  have hszu := hbu.size
                  go_wp2_with (first
                    | (at_builtin; refine wpList_append_own _ rfl _ _ 22 rfl w2.heap.size 3 i0 (.int .i64 0) 1 8 Try.underlying22 hi hz0 hz1 hz2 rfl (by decide) _ _ _ rfl HU.out ⟨bk, 0, none⟩ L capk (nums (st f t k2)) rfl (by rw [nums_length, HLK.out]; omega) (hrk3.cells rfl) (nums_one _) (by unfold maxLen; omega) (by omega) hszu ?_; intro v5 w5 hu5 hg5 hn5; obtain ⟨bu, capu, rfl, hbu1, hbu2⟩ := hu5.form (by omega); have hb5 := hbu.grown hg5 hszu (fun j hj => (HU.out.lt j hj).1); have hv5 := own_on hown2 hb5; have hsz5 := hb5.size; clear hn5)
                    | (at_builtin; refine wpList_append_own _ rfl _ _ 39 rfl wo.heap.size 22 j0 (.slice none 0 0) 1 24 Try.underlying39 ji jz0 jz1 jz2 rfl (by decide) _ _ _ rfl (hv5.alloc _) ⟨w5.heap.size, 0, none⟩ 1 1 [.slice (some ⟨bu, 0, none⟩) (L + L) capu] rfl rfl (cell_one_new _ _ _) (fun x hx => by simp at hx; subst hx; rfl) (by unfold maxLen; omega) (by omega) (by simp; omega) ?_; intro v6 w6 hv6 hg6 hn6; clear hn6))
                  have HC : st f (t + 1) k2 = (st f t o).reverse ++ st f t k2 := by
                    show fo (2 ^ (f - t)) (st f t) k2 = _
                    unfold fo
                    rw [← HM.out, ← HOI.out]
                  have O := Lib.hid (show w6.ownsRow wo.heap.size 22 1 v6 (k2 + 1) (row (k2 + 1) (upd g2 k2 (.slice (some ⟨bu, 0, none⟩) (L + L) capu))) by rw [row_snoc]; exact hv6)
                  have hu5' : w5.ownsRow w2.heap.size 3 1 (.slice (some ⟨bu, 0, none⟩) (L + L) capu) (st f (t + 1) k2).length (nums (st f (t + 1) k2)) := by
                    rw [HC, nums_append, List.length_append, List.length_reverse, HLO.out, HLK.out]; exact hu5
                  have F := Lib.hid (fold_step hsz2 HF2.out hown2 hb5 hu5' (by rw [HC, List.length_append, List.length_reverse, HLO.out]; omega) hg6)
                  have B := Lib.hid (((hbw.trans (hb5.mono hsz2)).alloc (Nat.le_trans hsz2 hsz5) _).grown hg6 (by simp; omega) (fun j hj => (hown2.lt j hj).1))
                  clear hu5 hu5' HC hv6 hg6 hg5 hb5 hv5 hrk3 hck3 hown2 hbw hbu
                  go_roundw
                  case rel => exact ⟨k2 + 1, _, by omega, by go_num, O.out, F.out, B.out⟩
                  case measure => simp [intOf]; omega
            · have HK := Lib.hid (show k2 = q by omega)
              have hq0 : 0 < q := by rw [HQQ.out]; exact Nat.pow_pos (by omega)
              have hqM := HQ.out
              have ho2 := hown2
              rw [HK.out] at ho2
              obtain ⟨b6, cap6, e6, _, _⟩ := ho2.form hq0
              have O := Lib.hid (show w2.ownsRow w.heap.size 22 1 (.slice (some ⟨b6, 0, none⟩) q cap6) (2 ^ (f - (t + 1))) (row (2 ^ (f - (t + 1))) g2) by rw [← HQQ.out, ← e6]; exact own_le ho2 hsz)
              have F := Lib.hid (show Fam w2 w.heap.size (2 ^ (f - (t + 1))) g2 (st f (t + 1)) by rw [← HQQ.out, ← HK.out]; exact HF2.out.le hsz)
              have B := Lib.hid (hb.trans (hbw.mono hsz))
              subst e6
              clear ho2 hown2 hbw
              go_wp2
              go_roundw
              case rel => exact ⟨t + 1, g2, by omega, O.out, F.out, B.out⟩
              case measure => simp [lenV]; omega
        · have HT := Lib.hid (show t = f by omega)
          have hM2 : M = 1 := by rw [HM.out, HT.out, Nat.sub_self]
          have hr0 := (HF.out.1 0 hM0).1
          have hc0 : wo.cell? ⟨b0, 0, none⟩ = some (g 0) := by rw [hown.cellAt 0 (by omega), row_at M g 0 hM0]
          have HR := Lib.hid (show wo.ownsRow w.heap.size 3 1 (g 0) (st f f 0).length (nums (st f f 0)) by rw [HT.out] at hr0; exact hr0)
          subst hM2
          clear hr0 hown hlt
          go_wp2
          go_ret
          exact ⟨_, rfl, HR.out, hb⟩
end St
end Go.Proofs.Ytjoapogkooblgab
