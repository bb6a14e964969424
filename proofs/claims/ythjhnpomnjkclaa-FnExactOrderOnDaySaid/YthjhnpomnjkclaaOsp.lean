/- The readers' order behind a day, from the model's side: each next one is put into a copy. -/
import Derived.Test.YthjhnpomnjkclaaOi
import Derived.Test.YthjhnpomnjkclaaLp
import Derived.Laws.AppendOwnNone
import Derived.Laws.Slices
import Derived.Deep.RegionHeld3
import Derived.Deep.DeepCutAuto
import Derived.Deep.CutBlock
namespace Go.Proofs.Ythjhnpomnjkclaa
open Go.RowKit Go.Joins Go.Sort
set_option linter.unusedVariables false
set_option linter.unusedSimpArgs false
namespace Or
theorem mem_put {α : Type} [Inhabited α] (M : α → Int) (L : List α) (x y : α) (h : y ∈ put M L x) : y = x ∨ y ∈ L := by
  unfold put at h
  rcases List.mem_append.1 h with h | h
  · exact Or.inr (List.mem_of_mem_take h)
  · rcases List.mem_cons.1 h with h | h
    · exact Or.inl h
    · exact Or.inr (List.mem_of_mem_drop h)
theorem mem_ord {α : Type} [Inhabited α] (M : α → Int) (xs : List α) (y : α) (h : y ∈ ord M xs) : y ∈ xs := by
  have key : ∀ (xs L : List α), y ∈ xs.foldl (put M) L → y ∈ L ∨ y ∈ xs := by
    intro xs
    induction xs with
    | nil => intro L h; exact Or.inl h
    | cons x xs ih =>
      intro L h
      rcases ih _ h with h | h
      · rcases mem_put M L x y h with rfl | h
        · exact Or.inr (by simp)
        · exact Or.inl h
      · exact Or.inr (List.mem_cons_of_mem _ h)
  rcases key xs [] h with h | h
  · simp at h
  · exact h
theorem ord_lt (M : Nat → Int) (k j : Nat) (h : j < k) : (ord M (List.range k))[j]! < k := by
  have hl : j < (ord M (List.range k)).length := by rw [ord_length]; simpa using h
  rw [getElem!_pos _ j hl]
  exact List.mem_range.1 (mem_ord M _ _ (List.getElem_mem hl))
theorem ord_succ (M : Nat → Int) (k : Nat) : ord M (List.range (k + 1)) = put M (ord M (List.range k)) k := by rw [List.range_succ, ord_snoc]
theorem out_at (p : Int) (zs : List Int) (D k j : Nat) (h : j < k) : (out p zs D k).getD j 0 = ((ord (mk p zs D) (List.range k))[j]! : Nat) := by
  have hl : j < (ord (mk p zs D) (List.range k)).length := by rw [ord_length]; simpa using h
  rw [getElem!_pos _ j hl]
  simp [out, List.getD, List.getElem?_eq_getElem hl]
/-- an empty list of the call's own -/
theorem own_empty (w : World) (base : Nat) (hb : base ≤ w.heap.size) (z : Array Value) (hz : z.size = 0) : (w.alloc (.cells z 3)).ownsRow base 3 1 (.slice (some ⟨w.heap.size, 0, none⟩) 0 0) 0 [] := by
  refine ⟨rfl, Or.inr ⟨w.heap.size, 0, z, rfl, hb, ?_, Nat.le_refl _, Nat.zero_le _, by simpa using hz, by simp⟩⟩
  show (w.heap.push _)[w.heap.size]? = _
  simp
set_option maxRecDepth 100000 in
theorem l1Own_none (w : World) : Calls Try.prog 33 #[.slice none 0 0] w (Ls.GivesL [] w) := by
  obtain ⟨i0, hi, hz0, hz1, hz2⟩ := info_parts Li.info3
  have O := own_empty w w.heap.size (Nat.le_refl _) #[] rfl
  have HB : Below w.heap.size w (w.alloc (.cells #[] 3)) := below_alloc1 _ _
  have HO := Lib.hid O
  have HBB := Lib.hid HB
  clear HB
  go_enter Try.func33, Try.ntmps33
  go_wp2_with (first | (at_builtin; refine wpList_append_own_none rfl _ _ 24 rfl w.heap.size 3 i0 1 Try.underlying24 hi _ _ _ rfl O rfl ?_))
  go_ret
  exact ⟨_, rfl, HO.out, HBB.out⟩
set_option maxRecDepth 100000 in
set_option maxHeartbeats 1000000 in
theorem l1Own_some (go n cap : Nat) (zs : List Int) (hl : zs.length = n) (hn : n ≤ 1048576) (w : World) (hg : go < w.heap.size) (h : ∀ j, j < n → w.cell? ⟨go, j, none⟩ = some (.int .i64 (zs.getD j 0))) : Calls Try.prog 33 #[.slice (some ⟨go, 0, none⟩) n cap] w (Ls.GivesL zs w) := by
  obtain ⟨i0, hi, hz0, hz1, hz2⟩ := info_parts Li.info3
  have O := own_empty w w.heap.size (Nat.le_refl _) #[] rfl
  have HO := Lib.hid O
  have HL := Lib.hid hl
  have hh : ∀ j u, (Li.nums zs)[j]? = some u → (w.alloc (.cells #[] 3)).cell? ((⟨go, 0, none⟩ : Addr).add j) = some u := by
    intro j u hu
    have hj : j < n := by
      rcases Nat.lt_or_ge j n with h1 | h1
      · exact h1
      · rw [List.getElem?_eq_none (by rw [Li.nums_length]; omega)] at hu
        cases hu
    have e := h j hj
    have e2 : (⟨go, 0, none⟩ : Addr).add j = ⟨go, j, none⟩ := by simp [Addr.add]; intro h; exact h.symm
    rw [e2, World.cell?_alloc_lt w _ ⟨go, j, none⟩ hg, e, ← hu]
    simp [Li.nums, List.getD, List.getElem?_eq_getElem (show j < zs.length by omega)]
  have HH := Lib.hid hh
  have HN := Lib.hid (show (Li.nums zs).length = n * 1 by rw [Li.nums_length, hl, Nat.mul_one])
  clear h hh hl
  go_enter Try.func33, Try.ntmps33
  go_wp2_with (first | (at_builtin; refine wpList_append_own _ rfl _ _ 24 rfl w.heap.size 3 i0 (.int .i64 0) 1 8 Try.underlying24 hi hz0 hz1 hz2 rfl (by decide) _ _ _ rfl O ⟨go, 0, none⟩ n cap (Li.nums zs) rfl HN.out HH.out (fun x hx => by simp [Li.nums] at hx; obtain ⟨a, _, rfl⟩ := hx; rfl) (by unfold maxLen; omega) (by omega) (by simp) ?_; intro v2 w2 hown2 hgrow2 hnil2))
  clear O
  go_ret
  refine ⟨_, rfl, ?_, ?_⟩
  · rw [HL.out]
    simpa using hown2
  · exact (below_alloc1 w (.cells #[] 3)).grown hgrow2 (by simp) (fun j hj => by have := (HO.out.lt j hj).1; omega)
theorem least_any (a b : Int) (w : World) : Calls Try.prog 31 #[.int .i64 a, .int .i64 b] w fun e w' => e = .returned (.int .i64 (min a b)) ∧ w = w' := by
  by_cases c : a < b
  · have e := Lib.hid (show min a b = a by omega)
    go_enter Try.func31, Try.ntmps31
    go_wp2
    go_ret
    exact ⟨by rw [e.out]; rfl, rfl⟩
  · have e := Lib.hid (show min a b = b by omega)
    go_enter Try.func31, Try.ntmps31
    go_wp2
    go_ret
    exact ⟨by rw [e.out]; rfl, rfl⟩
theorem rdDay_yes (D : Nat) (hD : D ≤ 3000) (w : World) : Calls Try.prog 30 #[.int .i64 (D : Int)] w fun e w' => e = .returned (.bool true) ∧ w = w' := by
  have t1 : decide ((0 : Int) ≤ (D : Int)) = true := by simp
  have t2 : decide ((D : Int) ≤ 3000) = true := by simp; omega
  go_enter Try.func30, Try.ntmps30
  go_wp2
  go_ret
  exact ⟨rfl, rfl⟩
/-- seven cells -/
def S7 (W : World) (a0 a1 a2 a3 a4 a5 a6 : Addr) (v0 v1 v2 v3 v4 v5 v6 : Value) : Prop := W.cell? a0 = some v0 ∧ W.cell? a1 = some v1 ∧ W.cell? a2 = some v2 ∧ W.cell? a3 = some v3 ∧ W.cell? a4 = some v4 ∧ W.cell? a5 = some v5 ∧ W.cell? a6 = some v6
theorem cell_on {W W' w' : World} {a : Addr} {v : Value} (h : W.cell? a = some v) (hb : Below W'.heap.size W' w') (e : W'.heap = W.heap) : w'.cell? a = some v := by
  have hlt := World.block_lt_of_cell? _ _ h
  rw [hb.cell (p := a) (by rw [e]; exact hlt), World.cell?, e]
  exact h
theorem S7.on {W W' w' : World} {a0 a1 a2 a3 a4 a5 a6 : Addr} {v0 v1 v2 v3 v4 v5 v6 : Value} (h : S7 W a0 a1 a2 a3 a4 a5 a6 v0 v1 v2 v3 v4 v5 v6) (hb : Below W'.heap.size W' w') (e : W'.heap = W.heap) : S7 w' a0 a1 a2 a3 a4 a5 a6 v0 v1 v2 v3 v4 v5 v6 :=
  ⟨cell_on h.1 hb e, cell_on h.2.1 hb e, cell_on h.2.2.1 hb e, cell_on h.2.2.2.1 hb e, cell_on h.2.2.2.2.1 hb e, cell_on h.2.2.2.2.2.1 hb e, cell_on h.2.2.2.2.2.2 hb e⟩
theorem from_run (go k cp a : Nat) (ha : a ≤ k) (hc : k ≤ cp) : ∃ ad : Addr, (∀ W, (Instr.slice 24 (.slice (some ⟨go, 0, none⟩) k cp) (some (.int .i64 (a : Int))) none none).run Try.prog W = .ok (.slice (some ad) (k - a) (cp - a)) W) ∧ ∀ j, j < k - a → ad.add j = ⟨go, a + j, none⟩ := by
  refine ⟨if cp = a then ⟨go, 0, none⟩ else ⟨go, a, none⟩, fun W => ?_, fun j hj => ?_⟩
  · rw [run_slice_l W 24 (some ⟨go, 0, none⟩) k cp (by kernel_rfl) .i64 (a : Int) (by omega) (by omega)]
    have e : (sizeOf (Try.prog.elem 24)).run Try.prog W = .ok 1 W := by kernel_rfl
    rw [e]
    simp only [Result.andThen, sliced, Int.toNat_natCast, Nat.mul_one]
    by_cases h : cp = a
    · simp [h]
    · simp [h, Addr.add]
      intro h2
      exact h2.symm
  · rw [if_neg (by omega)]
    by_cases h : j = 0
    · subst h; simp [Addr.add]
    · simp [Addr.add, h]
theorem src_of {W : World} {base go k cp K0 : Nat} {ad : Addr} {L : List Nat} (h : W.ownsRow base 3 1 (.slice (some ⟨go, 0, none⟩) k cp) k (Li.nums (L.map fun i : Nat => (i : Int)))) (hl : L.length = k) (had : ∀ j, j < k - K0 → ad.add j = ⟨go, K0 + j, none⟩) :
    ∀ j u, (Li.nums ((L.drop K0).map fun i : Nat => (i : Int)))[j]? = some u → W.cell? (ad.add j) = some u := by
  intro j u hu
  have hj : j < k - K0 := by
    rcases Nat.lt_or_ge j (k - K0) with h1 | h1
    · exact h1
    · rw [List.getElem?_eq_none (by simp [Li.nums]; omega)] at hu
      cases hu
  rw [had j hj, h.cellAt (K0 + j) (by omega), ← hu]
  simp [Li.nums, List.getElem?_drop]
theorem put_nums (M : Nat → Int) (L : List Nat) (k K0 : Nat) (h : atOf M k L L.length = K0) : Li.nums ((L.take K0).map fun i : Nat => (i : Int)) ++ [.int .i64 (k : Int)] ++ Li.nums ((L.drop K0).map fun i : Nat => (i : Int)) = Li.nums ((put M L k).map fun i : Nat => (i : Int)) := by
  unfold put
  rw [h]
  simp [Li.nums]
theorem nums_one (zs : List Int) : ∀ x ∈ Li.nums zs, x.oneCell' = true := by
  intro x hx
  obtain ⟨a, _, rfl⟩ := List.mem_map.1 hx
  rfl
theorem own_cap {W : World} {base go n cp : Nat} {e : TypeId} {xs : List Value} (h : W.ownsRow base e 1 (.slice (some ⟨go, 0, none⟩) n cp) n xs) : n ≤ cp := by
  rcases h.2 with ⟨h1, _⟩ | ⟨g, cap, cur, h1, _, _, h4, _⟩
  · cases h1
  · injection h1 with _ _ h3
    omega
set_option maxRecDepth 100000 in
set_option maxHeartbeats 2000000 in
theorem sO_yes {p : Int} {b1 g len cap : Nat} {zs : List Int} {w : World} (D : Nat) (hD : D ≤ 3000) (h : w.ownsRow b1 52 3 (.slice (some ⟨g, 0, none⟩) len cap) len (Rx.nums zs)) (ha : Rx.allOf p zs len) :
    Calls Try.prog 9 #[.int .i64 p, .slice (some ⟨g, 0, none⟩) len cap, .int .i64 (D : Int)] w (Li.Gives true (out p zs D len) w) := by
  obtain ⟨i0, hi, hz0, hz1, hz2⟩ := info_parts Li.info3
  have HC := Lib.hid h
  have HA := Lib.hid ha
  have hlen6 := ha.2.1
  have hlen1 := ha.1
  have HD := Lib.hid hD
  clear h ha hD
  go_enter Try.func9, Try.ntmps9
  go_wp2_with fail
  refine (Rx.rdAll_yes HC.out HA.out).mono ?_
  rintro e w1 ⟨rfl, hb0⟩
  go_wp2_with fail
  refine (rdDay_yes D HD.out _).mono ?_
  rintro e w' ⟨rfl, rfl⟩
  have HB0 := Lib.hid hb0
  clear hb0
  go_wp2
  go_loopw [8, 23] (fun v i wr => ∃ (k : Nat), k ≤ len ∧ i = .int .i64 (k : Int) ∧ wr.ownsRow w.heap.size 3 1 v k (Li.nums (out p zs D k)) ∧ Below w.heap.size w wr) (fun _ i _ => ((len : Int) - intOf i).toNat)
  case atStart => exact ⟨0, by omega, rfl, World.ownsRow_nil _ _ _ _, HB0.out⟩
  case round =>
    clear HB0
    obtain ⟨k, hk, rfl, hown, hb⟩ := hrel
    obtain ⟨wo, rfl⟩ : ∃ wo : World, wo = wr := ⟨_, rfl⟩
    by_cases hlt : (k : Int) < len
    · have ES := Lib.hid (show out p zs D (k + 1) = (put (mk p zs D) (ord (mk p zs D) (List.range k)) k).map (fun i : Nat => (i : Int)) by unfold out; rw [ord_succ])
      have hin : ∀ j, j < k → (ord (mk p zs D) (List.range k))[j]! < len := fun j hj => by have := ord_lt (mk p zs D) k j hj; omega
      have hlo : (ord (mk p zs D) (List.range k)).length = k := by rw [ord_length]; simp
      have hat := out_at p zs D k
      rw [show out p zs D k = (ord (mk p zs D) (List.range k)).map (fun i : Nat => (i : Int)) from rfl] at hown hat
      generalize ord (mk p zs D) (List.range k) = L at *
      have HIN := Lib.hid hin
      have HAT := Lib.hid hat
      have HLO := Lib.hid hlo
      clear hin hat hlo
      rcases Li.own_forms hown with ⟨rfl, h0⟩ | ⟨go, cp, rfl⟩
      · subst h0
        have hL : L = [] := List.eq_nil_of_length_eq_zero HLO.out
        have ES2 := Lib.hid (show out p zs D (0 + 1) = [0] by rw [ES.out, hL]; rfl)
        clear hL hown ES
        go_wp2_with fail
        refine wp_loop_rounds 1 ?_
        rw [rounds_succ]
        go_wp2_with fail
        go_quiet (fail)
        go_wp2_with fail
        refine (l1Own_none _).mono ?_
        rintro e w2 ⟨v2, rfl, ho2, hb2⟩
        have ho3 := Li.own_le ho2 (show w.heap.size ≤ (wo.drewN nq).heap.size from hb.size)
        have hb3 := (Li.below_draws hb nq).trans (below_le hb2 hb.size)
        have hs3 := hb3.size
        clear ho2 hb2 hb
        go_wp2_with (first | (at_builtin; refine wpList_append_own _ rfl _ _ 24 rfl w.heap.size 3 i0 (.int .i64 0) 1 8 Try.underlying24 hi hz0 hz1 hz2 rfl (by decide) _ _ _ rfl (ho3.alloc _) ⟨w2.heap.size, 0, none⟩ 1 1 [.int .i64 0] rfl rfl (cell_one_new _ _ _) (fun x hx => by simp at hx; subst hx; rfl) (by unfold maxLen; simp) (by simp) (by simp; omega) ?_; intro v4 w4 hown4 hgrow4 hnil4) | (at_builtin; refine wpList_append_own_none rfl _ _ 24 rfl w.heap.size 3 i0 1 Try.underlying24 hi _ _ _ rfl hown4 rfl ?_))
        have O := Lib.hid (show w4.ownsRow w.heap.size 3 1 v4 (0 + 1) (Li.nums (out p zs D (0 + 1))) by rw [ES2.out]; simpa [Li.nums] using hown4)
        have B := Lib.hid ((hb3.alloc hs3 (.cells #[.int .i64 0] 3)).grown hgrow4 (by simp; omega) (fun j hj => (ho3.lt j hj).1))
        clear hown4 hgrow4 hnil4 ho3 hb3
        go_wp2_with fail
        go_roundw
        case rel => exact ⟨0 + 1, by omega, by go_num, O.out, B.out⟩
        case measure => simp [intOf]; omega
      · have hgo := hown.lt go rfl
        obtain ⟨K0, hK0⟩ : ∃ K0, atOf (mk p zs D) k L k = K0 := ⟨_, rfl⟩
        have HK0 := Lib.hid hK0
        have hat := atOf_le (mk p zs D) k L k
        rw [hK0] at hat
        clear hK0
        have HO := Lib.hid hown
        clear hown
        go_upto_block 2 with fail
        go_cut [10] (fun s10 wx => s10 = .int .i64 (K0 : Int) ∧ Below wo.heap.size wo wx)
        case first =>
          go_wp2_with fail
          go_loopw [10] (fun a wr => ∃ j : Nat, j ≤ k ∧ a = .int .i64 (j : Int) ∧ Hid (atOf (mk p zs D) k L j = K0) ∧ Below wo.heap.size wo wr) (fun a _ => (intOf a).toNat)
          case atStart => exact ⟨k, Nat.le_refl _, rfl, HK0, Below.refl _ _⟩
          case round =>
            obtain ⟨j, hj, rfl, HJ, hbi⟩ := hrel
            rcases j with _ | j
            · have E := Lib.hid (show (0 : Nat) = K0 from HJ.out)
              go_wp2_with fail
              go_quiet (fail)
              go_wp2_with fail
              go_meet
              exact ⟨by rw [← E.out], Li.below_draws hbi _⟩
            · have hjk : j < k := by omega
              have hx := HIN.out j hjk
              have q0 : wr.cell? ⟨go, j, none⟩ = some (.int .i64 ((L[j]! : Nat) : Int)) := by
                rw [(Li.own_on HO.out hbi).cellAt j (by omega), ← HAT.out j hjk]
                have := HLO.out
                simp [Li.nums, List.getD, List.getElem?_eq_getElem (show j < L.length by omega)]
              have EJ : atOf (mk p zs D) k L (j + 1) = if mk p zs D L[j]! < mk p zs D k then atOf (mk p zs D) k L j else j + 1 := rfl
              obtain ⟨X, hX⟩ : ∃ X, L[j]! = X := ⟨_, rfl⟩
              rw [hX] at hx q0 EJ
              clear hX
              have HR := Rx.own_on HC.out (hb.trans (below_le hbi hb.size))
              obtain ⟨q1, q2, q3⟩ := Rx.cells3 HR (k := X) hx
              obtain ⟨q4, q5, q6⟩ := Rx.cells3 HR (k := k) (by omega)
              have G1 := Lib.hid (Rw.gfacts (Rx.good_ib (HA.out.2.2 X hx)))
              have G2 := Lib.hid (Rw.gfacts (Rx.good_ib (HA.out.2.2 k (by omega))))
              have C1 := Lib.hid (fun W => Rw.rdFree_any _ _ _ D G1.out.1 G1.out.2.1 G1.out.2.2.1 G1.out.2.2.2.1 G1.out.2.2.2.2 (by have := HD.out; omega) W)
              have C2 := Lib.hid (fun W => Rw.rdFree_any _ _ _ D G2.out.1 G2.out.2.1 G2.out.2.2.1 G2.out.2.2.2.1 G2.out.2.2.2.2 (by have := HD.out; omega) W)
              have L1 := Lib.hid (fun W => least_any p (Rd.fr (zs.getD (X * 3) 0) (zs.getD (X * 3 + 1) 0) (zs.getD (X * 3 + 2) 0) D) W)
              have L2 := Lib.hid (fun W => least_any p (Rd.fr (zs.getD (k * 3) 0) (zs.getD (k * 3 + 1) 0) (zs.getD (k * 3 + 2) 0) D) W)
              rw [show mk p zs D X = min p (Rd.fr (zs.getD (X * 3) 0) (zs.getD (X * 3 + 1) 0) (zs.getD (X * 3 + 2) 0) D) from rfl, show mk p zs D k = min p (Rd.fr (zs.getD (k * 3) 0) (zs.getD (k * 3 + 1) 0) (zs.getD (k * 3 + 2) 0) D) from rfl] at EJ
              clear HR G1 G2
              generalize zs.getD (X * 3) 0 = m1 at *
              generalize zs.getD (X * 3 + 1) 0 = d1 at *
              generalize zs.getD (X * 3 + 2) 0 = r1 at *
              generalize zs.getD (k * 3) 0 = m2 at *
              generalize zs.getD (k * 3 + 1) 0 = d2 at *
              generalize zs.getD (k * 3 + 2) 0 = r2 at *
              generalize Rd.fr m1 d1 r1 D = F1 at *
              generalize Rd.fr m2 d2 r2 D = F2 at *
              generalize min p F1 = Y1 at *
              generalize min p F2 = Y2 at *
              have hwp : IntKind.i64.wrap (j : Int) = (j : Int) := by rw [IntKind.wrap_i64]; omega
              have p0 : (0 : Int) < (j : Int) + 1 := by omega
              have p1 : (0 : Int) ≤ (j : Int) := by omega
              have p2 : (j : Int) < (k : Int) := by omega
              have p3 : (X : Int) < (len : Int) := by omega
              have hcp := own_cap HO.out
              have hS : S7 wr ⟨go, j, none⟩ ⟨g, X * 3, none⟩ ⟨g, X * 3 + 1, none⟩ ⟨g, X * 3 + 2, none⟩ ⟨g, k * 3, none⟩ ⟨g, k * 3 + 1, none⟩ ⟨g, k * 3 + 2, none⟩ (.int .i64 (X : Int)) (.int .i64 m1) (.int .i64 d1) (.int .i64 r1) (.int .i64 m2) (.int .i64 d2) (.int .i64 r2) := ⟨q0, q1, q2, q3, q4, q5, q6⟩
              have HSS := Lib.hid hS
              have HBI := Lib.hid hbi
              clear hS hbi q0 q1 q2 q3 q4 q5 q6
              by_cases c : Y1 < Y2
              · have t1 : decide (Y1 < Y2) = true := by simpa using c
                have EJ2 := Lib.hid (show atOf (mk p zs D) k L j = K0 by rw [← HJ.out, EJ, if_pos c])
                clear EJ c HJ
                go_wp2_with fail
                go_region_held3 (fun w' => w'.cell? ⟨go, j, none⟩ = some (.int .i64 (X : Int)) ∧ w'.cell? ⟨g, X * 3, none⟩ = some (.int .i64 m1) ∧ w'.cell? ⟨g, X * 3 + 1, none⟩ = some (.int .i64 d1) ∧ w'.cell? ⟨g, X * 3 + 2, none⟩ = some (.int .i64 r1) ∧ w'.cell? ⟨g, k * 3, none⟩ = some (.int .i64 m2) ∧ w'.cell? ⟨g, k * 3 + 1, none⟩ = some (.int .i64 d2) ∧ w'.cell? ⟨g, k * 3 + 2, none⟩ = some (.int .i64 r2))
                  (first | exact HSS.out | exact hs5 | exact hs6 | go_keep)
                  (first
                    | (go_at_call_of 32 m1; refine (C1.out _).mono ?_; rintro e w5 ⟨rfl, hb5⟩; have hs5 := HSS.out.on hb5 rfl)
                    | (go_at_call_of 32 m2; refine (C2.out _).mono ?_; rintro e w6 ⟨rfl, hb6⟩; have hs6 := S7.on hs5 hb6 rfl)
                    | (go_at_call_of 31 F1; refine (L1.out _).mono ?_; rintro e w7 ⟨rfl, rfl⟩)
                    | (go_at_call_of 31 F2; refine (L2.out _).mono ?_; rintro e w8 ⟨rfl, rfl⟩))
                have HE := Lib.hid (HBI.out.trans ((Rw.below_end (Below.refl _ _) hb5 hb6).mono HBI.out.size))
                clear hb5 hb6 hs5 hs6 HBI HSS
                go_wp2_with fail
                go_roundw
                case rel => exact ⟨j, by omega, rfl, EJ2.out, HE.out⟩
                case measure => first | (simp [intOf]; done) | (simp [intOf]; omega)
              · have t1 : decide (Y1 < Y2) = false := by simpa using c
                have EJ2 := Lib.hid (show j + 1 = K0 by rw [← HJ.out, EJ, if_neg c])
                clear EJ c HJ
                go_wp2_with fail
                go_region_held3 (fun w' => w'.cell? ⟨go, j, none⟩ = some (.int .i64 (X : Int)) ∧ w'.cell? ⟨g, X * 3, none⟩ = some (.int .i64 m1) ∧ w'.cell? ⟨g, X * 3 + 1, none⟩ = some (.int .i64 d1) ∧ w'.cell? ⟨g, X * 3 + 2, none⟩ = some (.int .i64 r1) ∧ w'.cell? ⟨g, k * 3, none⟩ = some (.int .i64 m2) ∧ w'.cell? ⟨g, k * 3 + 1, none⟩ = some (.int .i64 d2) ∧ w'.cell? ⟨g, k * 3 + 2, none⟩ = some (.int .i64 r2))
                  (first | exact HSS.out | exact hs5 | exact hs6 | go_keep)
                  (first
                    | (go_at_call_of 32 m1; refine (C1.out _).mono ?_; rintro e w5 ⟨rfl, hb5⟩; have hs5 := HSS.out.on hb5 rfl)
                    | (go_at_call_of 32 m2; refine (C2.out _).mono ?_; rintro e w6 ⟨rfl, hb6⟩; have hs6 := S7.on hs5 hb6 rfl)
                    | (go_at_call_of 31 F1; refine (L1.out _).mono ?_; rintro e w7 ⟨rfl, rfl⟩)
                    | (go_at_call_of 31 F2; refine (L2.out _).mono ?_; rintro e w8 ⟨rfl, rfl⟩))
                have HE := Lib.hid (HBI.out.trans ((Rw.below_end (Below.refl _ _) hb5 hb6).mono HBI.out.size))
                clear hb5 hb6 hs5 hs6 HBI HSS
                go_wp2_with fail
                go_meet
                exact ⟨by rw [← EJ2.out]; go_num, HE.out⟩
        case rest =>
          obtain ⟨rfl, hbw⟩ := hcut
          have hO := Li.own_on HO.out hbw
          have hcp := own_cap hO
          have hKc : (K0 : Int) ≤ (cp : Int) := by omega
          have hB := hb.trans (below_le hbw hb.size)
          have hgw : go < wc.heap.size := Nat.lt_of_lt_of_le hgo.2 hbw.size
          clear hbw hb
          have hcell : ∀ j, j < K0 → wc.cell? ⟨go, j, none⟩ = some (.int .i64 (((L.take K0).map (fun i : Nat => (i : Int))).getD j 0)) := by
            intro j hj
            rw [hO.cellAt j (by omega)]
            have := HLO.out
            simp [Li.nums, List.getD, List.getElem?_take, hj, List.getElem?_eq_getElem (show j < L.length by omega)]
          have C := Lib.hid (l1Own_some go K0 cp ((L.take K0).map (fun i : Nat => (i : Int))) (by have := HLO.out; simp; omega) (by omega) wc hgw hcell)
          clear hcell
          have hap : ∀ (w5 : World) (v5 : Value) (n5 : Nat) (xs5 : List Value), w5.ownsRow wc.heap.size 3 1 v5 n5 xs5 → (Value.slice (some ⟨go, 0, none⟩) k cp).ownBlock = none ∨ (Value.slice (some ⟨go, 0, none⟩) k cp).ownBlock ≠ v5.ownBlock := fun w5 v5 n5 xs5 h5 => by
            refine _root_.Or.inr fun he => ?_
            have := (h5.lt go he.symm).1
            omega
          have HAP := Lib.hid hap
          obtain ⟨ad, hfrom, had⟩ := from_run go k cp K0 hat hcp
          have HAD := Lib.hid had
          have hlen5 : ((L.take K0).map (fun i : Nat => (i : Int))).length = K0 := by have := HLO.out; simp; omega
          have HL5 := Lib.hid hlen5
          have hBs := hB.size
          clear hap had hlen5
          go_wp2_with fail
          refine C.out.mono ?_
          rintro e w5 ⟨v5, rfl, ho5, hb5⟩
          rw [HL5.out] at ho5
          have HP := Lib.hid (HAP.out _ _ _ _ ho5)
          have ho6 := Li.own_le ho5 hBs
          have HO5 := Lib.hid (Li.own_on hO hb5)
          have hB5 := hB.trans (below_le hb5 hBs)
          have hs5 := hB5.size
          clear ho5 hb5 hB hO HAP C
          have hln : (Li.nums ((L.drop K0).map fun i : Nat => (i : Int))).length = (k - K0) * 1 := by have := HLO.out; simp [Li.nums]; omega
          have HLN := Lib.hid hln
          have hint := nums_one ((L.drop K0).map fun i : Nat => (i : Int))
          have HINT := Lib.hid hint
          clear hln hint
          go_wp2_with (first
            | (at_builtin; (refine wpList_append_own _ rfl _ _ 24 rfl w.heap.size 3 i0 (.int .i64 0) 1 8 Try.underlying24 hi hz0 hz1 hz2 rfl (by decide) _ _ _ rfl (ho6.alloc _) ⟨w5.heap.size, 0, none⟩ 1 1 [.int .i64 (k : Int)] rfl rfl (cell_one_new _ _ _) (fun x hx => by simp at hx; subst hx; rfl) (by unfold maxLen; omega) (by omega) (by simp; omega) ?_); intro v7 w7 hown7 hgrow7 hnil7; have HS7 := Lib.hid (src_of ((HO5.out.alloc _).kept hgrow7 HP.out) HLO.out HAD.out); (have hz7 : w.heap.size ≤ w7.heap.size := by have := hgrow7.size; simp at this; omega))
            | (at_builtin; (refine wpList_append_own _ rfl _ _ 24 rfl w.heap.size 3 i0 (.int .i64 0) 1 8 Try.underlying24 hi hz0 hz1 hz2 rfl (by decide) _ _ _ rfl hown7 ad (k - K0) (cp - K0) (Li.nums ((L.drop K0).map fun i : Nat => (i : Int))) rfl HLN.out HS7.out HINT.out (by unfold maxLen; omega) (by omega) hz7 ?_); intro v8 w8 hown8 hgrow8 hnil8))
          have O := Lib.hid (show w8.ownsRow w.heap.size 3 1 v8 (k + 1) (Li.nums (out p zs D (k + 1))) by
            rw [ES.out, ← put_nums (mk p zs D) L k K0 (by rw [HLO.out]; exact HK0.out)]
            rw [show K0 + 1 + (k - K0) = k + 1 by omega] at hown8
            exact hown8)
          have B := Lib.hid (((hB5.alloc hs5 (.cells #[.int .i64 (k : Int)] 3)).grown hgrow7 (by simp; omega) (fun j hj => (ho6.lt j hj).1)).grown hgrow8 hz7 (fun j hj => (hown7.lt j hj).1))
          clear hown7 hgrow7 hnil7 hown8 hgrow8 hnil8 HS7 ho6 hB5
          go_wp2_with fail
          go_roundw
          case rel => exact ⟨k + 1, by omega, by go_num, O.out, B.out⟩
          case measure => simp [intOf]; omega

    · obtain rfl : k = len := by omega
      go_wp2
      go_ret2
      exact ⟨_, rfl, by rw [out_length]; exact hown, hb⟩
end Or
end Go.Proofs.Ythjhnpomnjkclaa
