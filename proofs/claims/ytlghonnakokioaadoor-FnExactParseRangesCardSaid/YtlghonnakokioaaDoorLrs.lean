/- A range's short text read back by the model. -/
import Derived.Test.YtlghonnakokioaaDoorLrm
import Derived.Test.YtlghonnakokioaaDoorCr
import Derived.Deep.RegionHeld3
import Derived.Deep.CutRange
import Derived.Deep.CutBlock
import Derived.Laws.Rows
namespace Go.Proofs.YtlghonnakokioaaDoor
open Go.RowKit Go.Joins Go.Deep Go.ChangeShapes Go.WideShapes
set_option linter.unusedVariables false
set_option linter.unusedSimpArgs false
namespace Lr
open Rg Gm Sr
open P hiding idx_at sl_from
/-- a block of two cells, of the call's own -/
def Pr2 (W : World) (b : Nat) (x y : Int) : Prop := W.heap[b]? = some (.cells #[.int .i64 x, .int .i64 y] 26)
theorem Pr2.lt {W : World} {b : Nat} {x y : Int} (h : Pr2 W b x y) : b < W.heap.size := by
  rcases Nat.lt_or_ge b W.heap.size with h1 | h1
  · exact h1
  · unfold Pr2 at h
    rw [Array.getElem?_eq_none h1] at h
    cases h
theorem Pr2.c0 {W : World} {b : Nat} {x y : Int} (h : Pr2 W b x y) : W.cell? ⟨b, 0, none⟩ = some (.int .i64 x) := by unfold Pr2 at h; simp [World.cell?, h]
theorem Pr2.c1 {W : World} {b : Nat} {x y : Int} (h : Pr2 W b x y) : W.cell? ⟨b, 1, none⟩ = some (.int .i64 y) := by unfold Pr2 at h; simp [World.cell?, h]
theorem Pr2.fr {W : World} {b : Nat} {x y : Int} (h : Pr2 W b x y) (j : Nat) : W.frozen? ⟨b, j, none⟩ = false := by unfold Pr2 at h; simp [World.frozen?, h]
theorem Pr2.set {W : World} {b : Nat} {x y : Int} (h : Pr2 W b x y) (x' y' : Int) : Pr2 ((W.setCell ⟨b, 0, none⟩ (.int .i64 x')).setCell ⟨b, 1, none⟩ (.int .i64 y')) b x' y' := by
  have h1 := heap_setCell_same W b 0 _ _ (.int .i64 x') h
  have h2 := heap_setCell_same _ b 1 _ _ (.int .i64 y') h1
  exact h2
theorem Pr2.half {W : World} {b : Nat} {x y : Int} (h : Pr2 W b x y) (x' : Int) : (W.setCell ⟨b, 0, none⟩ (.int .i64 x')).cell? ⟨b, 1, none⟩ = some (.int .i64 y) ∧ (W.setCell ⟨b, 0, none⟩ (.int .i64 x')).frozen? ⟨b, 1, none⟩ = false := by
  have h1 := heap_setCell_same W b 0 _ _ (.int .i64 x') h
  constructor
  · simp [World.cell?, h1]
  · simp [World.frozen?, h1]
theorem Pr2.on {W W' : World} {b : Nat} {x y : Int} (h : Pr2 W b x y) (hb : Below W.heap.size W W') : Pr2 W' b x y := (hb.block b h.lt).trans h
theorem Pr2.alloc {W : World} {b : Nat} {x y : Int} (h : Pr2 W b x y) (o : Obj) : Pr2 (W.alloc o) b x y := h.on (below_alloc1 W o)
theorem Pr2.new (w : World) (x y : Int) : Pr2 (w.alloc (.cells #[.int .i64 x, .int .i64 y] 26)) w.heap.size x y := heap_alloc_new w _
theorem Pr2.other {W : World} {b : Nat} {x y : Int} (h : Pr2 W b x y) {a : Addr} (ha : b ≠ a.block) (u : Value) : Pr2 (W.setCell a u) b x y := by
  unfold Pr2
  rw [RowKit.Below.heap_setCell _ _ _ _ ha]
  exact h

theorem ret_agg {x y x' y' : Int} {b b' : Bool} (h1 : x = x') (h2 : y = y') (h3 : b = b') : Ending.returned (.tuple #[.agg #[.int .i64 x, .int .i64 y], .bool b]) = .returned (.tuple #[.agg #[.int .i64 x', .int .i64 y'], .bool b']) := by rw [h1, h2, h3]
theorem Pr2.set1 {W : World} {b : Nat} {x y : Int} (h : Pr2 W b x y) (y' : Int) : Pr2 (W.setCell ⟨b, 1, none⟩ (.int .i64 y')) b x y' := heap_setCell_same W b 1 _ _ (.int .i64 y') h
theorem Pr2.drew {W : World} {b : Nat} {x y : Int} (h : Pr2 W b x y) (n : Nat) : Pr2 (W.drewN n) b x y := h
theorem spec_out {l : List UInt8} {A B : Int} (h9 : l.length ≤ 9) (h2 : (sp 45 l).length ≤ 2) (hc : cand l = (A, B)) :
    (rng A B = true ∧ l = sh A.toNat B.toNat ∧ lok l = true ∧ lF l = A ∧ lT l = B) ∨ (rng A B = true ∧ ¬ l = sh A.toNat B.toNat ∧ lok l = false ∧ lF l = 0 ∧ lT l = 0) ∨ (rng A B = false ∧ lok l = false ∧ lF l = 0 ∧ lT l = 0) := by
  have h1 := lok_iff l
  rw [hc] at h1
  have no : lok l = false → lF l = 0 ∧ lT l = 0 := fun e => ⟨by unfold lF; rw [if_neg (by rw [e]; simp)], by unfold lT; rw [if_neg (by rw [e]; simp)]⟩
  cases hr : rng A B with
  | false =>
    have e : lok l = false := by
      cases hl : lok l with
      | false => rfl
      | true => have := (h1.1 hl).1; rw [show (A, B).1 = A from rfl, show (A, B).2 = B from rfl, hr] at this; cases this
    exact Or.inr (Or.inr ⟨rfl, e, no e⟩)
  | true =>
    by_cases hs : l = sh A.toNat B.toNat
    · have e : lok l = true := h1.2 ⟨hr, hs⟩
      exact Or.inl ⟨rfl, hs, e, by unfold lF; rw [if_pos e, hc], by unfold lT; rw [if_pos e, hc]⟩
    · have e : lok l = false := by
        cases hl : lok l with
        | false => rfl
        | true => exact absurd (h1.1 hl).2 hs
      exact Or.inr (Or.inl ⟨rfl, hs, e, no e⟩)
theorem spec_no {l : List UInt8} (h : ¬ l.length ≤ 9 ∨ ¬ (sp 45 l).length ≤ 2) : lok l = false ∧ lF l = 0 ∧ lT l = 0 := by
  have e : lok l = false := by
    unfold lok
    rcases h with h | h
    · rw [decide_eq_false h]; rfl
    · rw [decide_eq_false h, Bool.and_false]; rfl
  exact ⟨e, by unfold lF; rw [if_neg (by rw [e]; simp)], by unfold lT; rw [if_neg (by rw [e]; simp)]⟩
theorem sl_to (l : List UInt8) (j : Nat) (h : j ≤ l.length) (W : World) :
    (Instr.slice 9 (.string ⟨l.toArray⟩) none (some (.int .i64 (j : Int))) none).run Tryd.prog W = .ok (.string ⟨(l.take j).toArray⟩) W := by
  have hz : ((⟨l.toArray⟩ : ByteArray).size : Int) = (l.length : Int) := by show (l.toArray.size : Int) = _; simp
  rw [run_slice_string_to_if W 9 ⟨l.toArray⟩ .i64 j (by kernel_rfl), if_pos ⟨by omega, by omega⟩, ByteArray.extract_mk]
  simp
theorem strs_at (ps : List (List UInt8)) (j : Nat) (h : j < ps.length) : (P.strs ps)[j]? = some (.string ⟨(ps.getD j []).toArray⟩) := by
  simp [P.strs, List.getD, List.getElem?_eq_getElem h]
theorem part_le (c : UInt8) (l : List UInt8) : ∀ q ∈ sp c l, q.length ≤ l.length := by
  induction l with
  | nil => intro q hq; simp [sp] at hq; subst hq; simp
  | cons x xs ih =>
    intro q hq
    unfold sp at hq
    split at hq
    · rcases List.mem_cons.1 hq with h | h
      · subst h; simp
      · have := ih q h; simp only [List.length_cons]; omega
    · rcases List.mem_cons.1 hq with h | h
      · subst h
        have hm : (sp c xs).headD [] ∈ sp c xs := by
          have := sp_pos c xs
          cases e : sp c xs with
          | nil => rw [e] at this; simp at this
          | cons a r => simp
        have := ih _ hm
        simp only [List.length_cons]; omega
      · have := ih q (List.mem_of_mem_tail h); simp only [List.length_cons]; omega
theorem getD_mem (L : List (List UInt8)) (k : Nat) (h : k < L.length) : L.getD k [] ∈ L := by
  simp [List.getD, List.getElem?_eq_getElem h]
set_option maxRecDepth 100000 in
set_option maxHeartbeats 4000000 in
theorem ixLong_any (l : List UInt8) (hl : l.length ≤ 1048576) (w : World) :
    Calls Tryd.prog 37 #[.string ⟨l.toArray⟩] w (Ret (.tuple #[.agg #[.int .i64 (lF l), .int .i64 (lT l)], .bool (lok l)]) w) := by
  have CP := Lib.hid (fun W => show Calls Tryd.prog 50 #[.string ⟨l.toArray⟩, .int .u8 45] W _ from l1Split_any l 45 hl W)
  have PR0 := Lib.hid (Pr2.new w 0 0)
  have HB0 := Lib.hid (below_alloc1 w (.cells #[.int .i64 0, .int .i64 0] 26))
  have hn1 := sp_pos 45 l
  have hn2 := sp_le 45 l
  have PL := Lib.hid (fun k (hk : k < (sp 45 l).length) => part_le 45 l _ (getD_mem (sp 45 l) k hk))
  have HN := Lib.hid (@spec_no l)
  have HO := Lib.hid (fun A B h9 h2 hc => @spec_out l A B h9 h2 hc)
  obtain ⟨n, hn⟩ : ∃ n, (sp 45 l).length = n := ⟨_, rfl⟩
  have HC := Lib.hid (show n = 1 → cand l = (rdS ((sp 45 l).getD 0 []), rdS ((sp 45 l).getD 0 [])) from fun e => by unfold cand; rw [hn, e, if_neg (by omega)])
  have HC2 := Lib.hid (show n = 2 → cand l = (rdS ((sp 45 l).getD 0 []), rdS (fill ((sp 45 l).getD 0 []) ((sp 45 l).getD 1 []))) from fun e => by unfold cand; rw [hn, e, if_pos rfl])
  have HSA := Lib.hid (strs_at (sp 45 l))
  rw [hn] at CP hn1 hn2 PL HSA HN HO
  clear hn
  go_enter Tryd.func37, Tryd.ntmps37
  go_wp2_with fail
  refine (CP.out _).mono ?_
  rintro e w1 ⟨v, rfl, o1, hb1⟩
  have PR1 := PR0.out.on hb1
  have HB1 := below_next HB0.out hb1
  obtain ⟨g, cap, rfl⟩ : ∃ g cap, v = .slice (some ⟨g, 0, none⟩) n cap := by
    obtain ⟨_, ⟨_, h0⟩ | ⟨g', cap, cur, hv, _⟩⟩ := id o1
    · omega
    · exact ⟨g', cap, hv⟩
  have c0 : w1.cell? ⟨g, 0, none⟩ = some (.string ⟨((sp 45 l).getD 0 []).toArray⟩) := by rw [o1.cellAt 0 (by omega), HSA.out 0 (by omega)]
  have hwb := (o1.lt g rfl).2
  by_cases h9 : l.length ≤ 9
  · have h9' : (l.length : Int) ≤ 9 := by omega
    by_cases h2 : n ≤ 2
    · have h2' : (n : Int) ≤ 2 := by omega
      obtain ⟨p0, hp0⟩ : ∃ p, (sp 45 l).getD 0 [] = p := ⟨_, rfl⟩
      have hl0 := PL.out 0 (by omega)
      rw [hp0] at c0 HC HC2 hl0
      have C0 := Lib.hid (fun W => l1Read_any p0 (by omega) W)
      obtain ⟨A, hA⟩ : ∃ A, rdS p0 = A := ⟨_, rfl⟩
      rw [hA] at HC HC2 C0
      by_cases e1 : n = 1
      · subst e1
        obtain ⟨B, hB⟩ : ∃ B, A = B := ⟨_, rfl⟩
        have hc : cand l = (A, B) := by rw [HC.out rfl, ← hB]
        have HS := Lib.hid (HO.out A B h9 h2 hc)
        clear hc HC HC2 HO HN PL HSA hp0 hA hl0 o1 hb1 hn1 hn2 CP PR0 HB0
        go_upto_region 4 with fail
        go_cut [5] from 18 to 26 (fun s5 wx => s5 = .pointer (some ⟨w1.heap.size, 0, none⟩) ∧ Pr2 wx w1.heap.size A B ∧ Pr2 wx w.heap.size 0 0 ∧ Below w.heap.size w wx)
        case first =>
          go_region_held3 (fun w' => w'.cell? ⟨g, 0, none⟩ = some (.string ⟨p0.toArray⟩))
            (first | exact c0 | go_keep)
            (first | (go_at_call 51; refine (C0.out _).mono ?_; rintro e w4 ⟨rfl, rfl⟩))
          all_goals (go_wp2_with fail; go_meet; exact ⟨rfl, hB ▸ (Pr2.new w1 A A).drew 1, (PR1.alloc _).drew 1, below_d (HB1.alloc HB1.size _)⟩)
        case rest =>
          obtain ⟨rfl, PB, PR, HB⟩ := hcut
          clear hB c0 PR1 HB1 hwb
          have CI := Lib.hid (fun v (hv : Gm.rng A B = v) W => Gw.ixRange_any A B v hv W)
          have b0 := (PB).c0
          have b1 := (PB).c1
          rcases HS.out with ⟨hr, hl, eo, ef, et⟩ | ⟨hr, hl, eo, ef, et⟩ | ⟨hr, eo, ef, et⟩
          · obtain ⟨F, T, eF, eT, h1, h2, h3⟩ := nat_of hr
            subst eF eT
            rw [Int.toNat_natCast, Int.toNat_natCast] at hl
            have CS := Lib.hid (fun W => ixShort_any F T (by omega) h3 W)
            have CV := Lib.hid (CI.out true hr)
            have q : (sh F T == l) = true := by rw [beq_iff_eq]; exact hl.symm
            have EO := Lib.hid eo
            have EF := Lib.hid ef
            have ET := Lib.hid et
            clear eo ef et hl hr CI HS
            go_wp2_with fail
            refine (CV.out _).mono ?_
            rintro e w6 ⟨rfl, hb6⟩
            have PB6 := Pr2.on (PB) hb6
            have PR6 := Pr2.on (PR) hb6
            have HB6 := below_next (HB) hb6
            have d0 := PB6.c0
            have d1 := PB6.c1
            clear hb6 b0 b1
            go_wp2_with fail
            refine (CS.out _).mono ?_
            rintro e w7 ⟨rfl, hb7⟩
            have PB7 := PB6.on hb7
            have PR7 := PR6.on hb7
            have HB7 := Lib.hid (below_next HB6 hb7)
            have g0 := PB7.c0
            have g1 := PB7.c1
            have k0 := PR7.c0
            have k1 := PR7.c1
            have fr0 := PR7.fr 0
            have fr1 := PR7.fr 1
            have Z0 := Lib.hid (PR7.set (F : Int) (T : Int)).c0
            have Z1 := Lib.hid (PR7.set (F : Int) (T : Int)).c1
            clear PB6 PR6 HB6 d0 d1 hb7 PB7 PR7
            go_wp2
            exact bodyPost_ret (v := .tuple #[.agg #[.int .i64 (F : Int), .int .i64 (T : Int)], .bool true]) (by simp [results, Tryd.results37, go_sem, Z0.out, Z1.out]) rfl ⟨ret_agg EF.out.symm ET.out.symm EO.out.symm, (HB7.out.setCell (p := ⟨w.heap.size, 0, none⟩) (Nat.le_refl _) _).setCell (p := ⟨w.heap.size, 1, none⟩) (Nat.le_refl _) _⟩
          · obtain ⟨F, T, eF, eT, h1, h2, h3⟩ := nat_of hr
            subst eF eT
            rw [Int.toNat_natCast, Int.toNat_natCast] at hl
            have CS := Lib.hid (fun W => ixShort_any F T (by omega) h3 W)
            have CV := Lib.hid (CI.out true hr)
            have q : (sh F T == l) = false := by rw [beq_eq_false_iff_ne]; exact fun e => hl e.symm
            have EO := Lib.hid eo
            have EF := Lib.hid ef
            have ET := Lib.hid et
            clear eo ef et hl hr CI HS
            go_wp2_with fail
            refine (CV.out _).mono ?_
            rintro e w6 ⟨rfl, hb6⟩
            have PB6 := Pr2.on (PB) hb6
            have PR6 := Pr2.on (PR) hb6
            have HB6 := below_next (HB) hb6
            have d0 := PB6.c0
            have d1 := PB6.c1
            clear hb6 b0 b1
            go_wp2_with fail
            refine (CS.out _).mono ?_
            rintro e w7 ⟨rfl, hb7⟩
            have PR7 := PR6.on hb7
            have HB7 := Lib.hid (below_next HB6 hb7)
            have k0 := PR7.c0
            have k1 := PR7.c1
            have fr0 := PR7.fr 0
            have fr1 := PR7.fr 1
            have Z0 := Lib.hid (PR7.set 0 0).c0
            have Z1 := Lib.hid (PR7.set 0 0).c1
            clear PB6 PR6 HB6 d0 d1 hb7 PR7
            go_wp2
            exact bodyPost_ret (v := .tuple #[.agg #[.int .i64 0, .int .i64 0], .bool false]) (by simp [results, Tryd.results37, go_sem, Z0.out, Z1.out]) rfl ⟨ret_agg EF.out.symm ET.out.symm EO.out.symm, (HB7.out.setCell (p := ⟨w.heap.size, 0, none⟩) (Nat.le_refl _) _).setCell (p := ⟨w.heap.size, 1, none⟩) (Nat.le_refl _) _⟩
          · have CV := Lib.hid (CI.out false hr)
            have EO := Lib.hid eo
            have EF := Lib.hid ef
            have ET := Lib.hid et
            clear eo ef et hr CI HS
            go_wp2_with fail
            refine (CV.out _).mono ?_
            rintro e w7 ⟨rfl, hb7⟩
            have PR7 := Pr2.on (PR) hb7
            have HB7 := Lib.hid (below_next (HB) hb7)
            have k0 := PR7.c0
            have k1 := PR7.c1
            have fr0 := PR7.fr 0
            have fr1 := PR7.fr 1
            have Z0 := Lib.hid (PR7.set 0 0).c0
            have Z1 := Lib.hid (PR7.set 0 0).c1
            clear b0 b1 hb7 PR7
            go_wp2
            exact bodyPost_ret (v := .tuple #[.agg #[.int .i64 0, .int .i64 0], .bool false]) (by simp [results, Tryd.results37, go_sem, Z0.out, Z1.out]) rfl ⟨ret_agg EF.out.symm ET.out.symm EO.out.symm, (HB7.out.setCell (p := ⟨w.heap.size, 0, none⟩) (Nat.le_refl _) _).setCell (p := ⟨w.heap.size, 1, none⟩) (Nat.le_refl _) _⟩
      · have e2 : n = 2 := by omega
        subst e2
        obtain ⟨p1, hp1⟩ : ∃ p, (sp 45 l).getD 1 [] = p := ⟨_, rfl⟩
        have c1 : w1.cell? ⟨g, 1, none⟩ = some (.string ⟨p1.toArray⟩) := by rw [o1.cellAt 1 (by omega), HSA.out 1 (by omega), hp1]
        have hl1 := PL.out 1 (by omega)
        rw [hp1] at HC2 hl1
        have hfl : (fill p0 p1).length ≤ 9 := by
          unfold fill
          split
          · rw [List.length_append, List.length_take]; omega
          · omega
        have C1 := Lib.hid (fun W => l1Read_any (fill p0 p1) (by omega) W)
        obtain ⟨B, hB⟩ : ∃ B, rdS (fill p0 p1) = B := ⟨_, rfl⟩
        rw [hB] at C1
        have hc : cand l = (A, B) := by rw [HC2.out rfl, hB]
        have HS := Lib.hid (HO.out A B h9 h2 hc)
        have hsz := PR1.lt
        have k10 := ((below_alloc1 w1 (.cells #[.int .i64 A, .int .i64 A] 26)).cell (p := ⟨g, 0, none⟩) hwb).trans c0
        have k11 := ((below_alloc1 w1 (.cells #[.int .i64 A, .int .i64 A] 26)).cell (p := ⟨g, 1, none⟩) hwb).trans c1
        have K10 := Lib.hid k10
        have K11 := Lib.hid k11
        clear hc HC HC2 HO HN PL HSA hp0 hp1 hB hA o1 hb1 hn1 hn2 CP PR0 HB0 hfl k10 k11 c1
        go_upto_region 4 with fail
        go_cut [5] from 18 to 26 (fun s5 wx => s5 = .pointer (some ⟨w1.heap.size, 0, none⟩) ∧ Pr2 wx w1.heap.size A A ∧ Pr2 wx w.heap.size 0 0 ∧ Below w.heap.size w wx ∧ wx.cell? ⟨g, 0, none⟩ = some (.string ⟨p0.toArray⟩) ∧ wx.cell? ⟨g, 1, none⟩ = some (.string ⟨p1.toArray⟩))
        case first =>
          go_region_held3 (fun w' => w'.cell? ⟨g, 0, none⟩ = some (.string ⟨p0.toArray⟩))
            (first | exact c0 | go_keep)
            (first | (go_at_call 51; refine (C0.out _).mono ?_; rintro e w4 ⟨rfl, rfl⟩))
          all_goals (go_wp2_with fail; go_meet; exact ⟨rfl, (Pr2.new w1 A A).drew 1, (PR1.alloc _).drew 1, below_d (HB1.alloc HB1.size _), K10.out, K11.out⟩)
        case rest =>
          obtain ⟨rfl, PA, PR, HB, d0, d1⟩ := hcut
          clear c0 PR1 HB1 hwb K10 K11 C0
          have a1 := PA.c1
          have fa := PA.fr 1
          by_cases hlt : p1.length < p0.length
          · have hlt2 : (p1.length : Int) < (p0.length : Int) := by omega
            obtain ⟨D, hD⟩ : ∃ D, p0.length - p1.length = D := ⟨_, rfl⟩
            have x1 : IntKind.i64.wrap ((p0.length : Int) - (p1.length : Int)) = (D : Int) := by
              rw [show (p0.length : Int) - (p1.length : Int) = (D : Int) by omega]
              exact IntWalk.i64_in _ (by omega)
            have r5 := sl_to p0 D (by omega)
            have r6 : ∀ W : World, (Op.stringOp .add ⟨(p0.take D).toArray⟩ ⟨p1.toArray⟩).run Tryd.prog W = .ok (.string ⟨(fill p0 p1).toArray⟩) W := fun W => by
              rw [run_string_add_sum W _ _ (by rw [sz, sz, List.length_take]; omega), Rt.cat2, fill_yes hlt, hD]
            clear hD
            go_wp2
            go_quiet (fail)
            have PAq := (show Pr2 (World.drewN wc nq) w1.heap.size A A from PA)
            have PRq := (show Pr2 (World.drewN wc nq) w.heap.size 0 0 from PR)
            have HBq := below_dN HB nq
            clear PA PR HB d0 d1 a1 fa r5 r6 x1
            generalize World.drewN wc nq = wq at PAq PRq HBq ⊢
            have a1 := PAq.c1
            have fa := PAq.fr 1
            go_wp2_with fail
            refine (C1.out _).mono ?_
            rintro e w8 ⟨rfl, rfl⟩
            clear C1
            have CI := Lib.hid (fun v (hv : Gm.rng A B = v) W => Gw.ixRange_any A B v hv W)
            have b0 := (PAq.set1 B).c0
            have b1 := (PAq.set1 B).c1
            rcases HS.out with ⟨hr, hl, eo, ef, et⟩ | ⟨hr, hl, eo, ef, et⟩ | ⟨hr, eo, ef, et⟩
            · obtain ⟨F, T, eF, eT, h1, h2, h3⟩ := nat_of hr
              subst eF eT
              rw [Int.toNat_natCast, Int.toNat_natCast] at hl
              have CS := Lib.hid (fun W => ixShort_any F T (by omega) h3 W)
              have CV := Lib.hid (CI.out true hr)
              have q : (sh F T == l) = true := by rw [beq_iff_eq]; exact hl.symm
              have EO := Lib.hid eo
              have EF := Lib.hid ef
              have ET := Lib.hid et
              clear eo ef et hl hr CI HS
              go_wp2_with fail
              refine (CV.out _).mono ?_
              rintro e w6 ⟨rfl, hb6⟩
              have PB6 := Pr2.on (PAq.set1 _) hb6
              have PR6 := Pr2.on (PRq.other (a := ⟨w1.heap.size, 1, none⟩) (show w.heap.size ≠ w1.heap.size by omega) _) hb6
              have HB6 := below_next (HBq.setCell (p := ⟨w1.heap.size, 1, none⟩) (show w.heap.size ≤ w1.heap.size by omega) _) hb6
              have d0 := PB6.c0
              have d1 := PB6.c1
              clear hb6 b0 b1
              go_wp2_with fail
              refine (CS.out _).mono ?_
              rintro e w7 ⟨rfl, hb7⟩
              have PB7 := PB6.on hb7
              have PR7 := PR6.on hb7
              have HB7 := Lib.hid (below_next HB6 hb7)
              have g0 := PB7.c0
              have g1 := PB7.c1
              have k0 := PR7.c0
              have k1 := PR7.c1
              have fr0 := PR7.fr 0
              have fr1 := PR7.fr 1
              have Z0 := Lib.hid (PR7.set (F : Int) (T : Int)).c0
              have Z1 := Lib.hid (PR7.set (F : Int) (T : Int)).c1
              clear PB6 PR6 HB6 d0 d1 hb7 PB7 PR7
              go_wp2
              exact bodyPost_ret (v := .tuple #[.agg #[.int .i64 (F : Int), .int .i64 (T : Int)], .bool true]) (by simp [results, Tryd.results37, go_sem, Z0.out, Z1.out]) rfl ⟨ret_agg EF.out.symm ET.out.symm EO.out.symm, (HB7.out.setCell (p := ⟨w.heap.size, 0, none⟩) (Nat.le_refl _) _).setCell (p := ⟨w.heap.size, 1, none⟩) (Nat.le_refl _) _⟩
            · obtain ⟨F, T, eF, eT, h1, h2, h3⟩ := nat_of hr
              subst eF eT
              rw [Int.toNat_natCast, Int.toNat_natCast] at hl
              have CS := Lib.hid (fun W => ixShort_any F T (by omega) h3 W)
              have CV := Lib.hid (CI.out true hr)
              have q : (sh F T == l) = false := by rw [beq_eq_false_iff_ne]; exact fun e => hl e.symm
              have EO := Lib.hid eo
              have EF := Lib.hid ef
              have ET := Lib.hid et
              clear eo ef et hl hr CI HS
              go_wp2_with fail
              refine (CV.out _).mono ?_
              rintro e w6 ⟨rfl, hb6⟩
              have PB6 := Pr2.on (PAq.set1 _) hb6
              have PR6 := Pr2.on (PRq.other (a := ⟨w1.heap.size, 1, none⟩) (show w.heap.size ≠ w1.heap.size by omega) _) hb6
              have HB6 := below_next (HBq.setCell (p := ⟨w1.heap.size, 1, none⟩) (show w.heap.size ≤ w1.heap.size by omega) _) hb6
              have d0 := PB6.c0
              have d1 := PB6.c1
              clear hb6 b0 b1
              go_wp2_with fail
              refine (CS.out _).mono ?_
              rintro e w7 ⟨rfl, hb7⟩
              have PR7 := PR6.on hb7
              have HB7 := Lib.hid (below_next HB6 hb7)
              have k0 := PR7.c0
              have k1 := PR7.c1
              have fr0 := PR7.fr 0
              have fr1 := PR7.fr 1
              have Z0 := Lib.hid (PR7.set 0 0).c0
              have Z1 := Lib.hid (PR7.set 0 0).c1
              clear PB6 PR6 HB6 d0 d1 hb7 PR7
              go_wp2
              exact bodyPost_ret (v := .tuple #[.agg #[.int .i64 0, .int .i64 0], .bool false]) (by simp [results, Tryd.results37, go_sem, Z0.out, Z1.out]) rfl ⟨ret_agg EF.out.symm ET.out.symm EO.out.symm, (HB7.out.setCell (p := ⟨w.heap.size, 0, none⟩) (Nat.le_refl _) _).setCell (p := ⟨w.heap.size, 1, none⟩) (Nat.le_refl _) _⟩
            · have CV := Lib.hid (CI.out false hr)
              have EO := Lib.hid eo
              have EF := Lib.hid ef
              have ET := Lib.hid et
              clear eo ef et hr CI HS
              go_wp2_with fail
              refine (CV.out _).mono ?_
              rintro e w7 ⟨rfl, hb7⟩
              have PR7 := Pr2.on (PRq.other (a := ⟨w1.heap.size, 1, none⟩) (show w.heap.size ≠ w1.heap.size by omega) _) hb7
              have HB7 := Lib.hid (below_next (HBq.setCell (p := ⟨w1.heap.size, 1, none⟩) (show w.heap.size ≤ w1.heap.size by omega) _) hb7)
              have k0 := PR7.c0
              have k1 := PR7.c1
              have fr0 := PR7.fr 0
              have fr1 := PR7.fr 1
              have Z0 := Lib.hid (PR7.set 0 0).c0
              have Z1 := Lib.hid (PR7.set 0 0).c1
              clear b0 b1 hb7 PR7
              go_wp2
              exact bodyPost_ret (v := .tuple #[.agg #[.int .i64 0, .int .i64 0], .bool false]) (by simp [results, Tryd.results37, go_sem, Z0.out, Z1.out]) rfl ⟨ret_agg EF.out.symm ET.out.symm EO.out.symm, (HB7.out.setCell (p := ⟨w.heap.size, 0, none⟩) (Nat.le_refl _) _).setCell (p := ⟨w.heap.size, 1, none⟩) (Nat.le_refl _) _⟩
          · rw [fill_no hlt] at C1
            have hlt2 : ¬ (p1.length : Int) < (p0.length : Int) := by omega
            go_wp2_with fail
            refine (C1.out _).mono ?_
            rintro e w8 ⟨rfl, rfl⟩
            clear C1
            have CI := Lib.hid (fun v (hv : Gm.rng A B = v) W => Gw.ixRange_any A B v hv W)
            have b0 := (PA.set1 B).c0
            have b1 := (PA.set1 B).c1
            rcases HS.out with ⟨hr, hl, eo, ef, et⟩ | ⟨hr, hl, eo, ef, et⟩ | ⟨hr, eo, ef, et⟩
            · obtain ⟨F, T, eF, eT, h1, h2, h3⟩ := nat_of hr
              subst eF eT
              rw [Int.toNat_natCast, Int.toNat_natCast] at hl
              have CS := Lib.hid (fun W => ixShort_any F T (by omega) h3 W)
              have CV := Lib.hid (CI.out true hr)
              have q : (sh F T == l) = true := by rw [beq_iff_eq]; exact hl.symm
              have EO := Lib.hid eo
              have EF := Lib.hid ef
              have ET := Lib.hid et
              clear eo ef et hl hr CI HS
              go_wp2_with fail
              refine (CV.out _).mono ?_
              rintro e w6 ⟨rfl, hb6⟩
              have PB6 := Pr2.on (PA.set1 _) hb6
              have PR6 := Pr2.on (PR.other (a := ⟨w1.heap.size, 1, none⟩) (show w.heap.size ≠ w1.heap.size by omega) _) hb6
              have HB6 := below_next (HB.setCell (p := ⟨w1.heap.size, 1, none⟩) (show w.heap.size ≤ w1.heap.size by omega) _) hb6
              have d0 := PB6.c0
              have d1 := PB6.c1
              clear hb6 b0 b1
              go_wp2_with fail
              refine (CS.out _).mono ?_
              rintro e w7 ⟨rfl, hb7⟩
              have PB7 := PB6.on hb7
              have PR7 := PR6.on hb7
              have HB7 := Lib.hid (below_next HB6 hb7)
              have g0 := PB7.c0
              have g1 := PB7.c1
              have k0 := PR7.c0
              have k1 := PR7.c1
              have fr0 := PR7.fr 0
              have fr1 := PR7.fr 1
              have Z0 := Lib.hid (PR7.set (F : Int) (T : Int)).c0
              have Z1 := Lib.hid (PR7.set (F : Int) (T : Int)).c1
              clear PB6 PR6 HB6 d0 d1 hb7 PB7 PR7
              go_wp2
              exact bodyPost_ret (v := .tuple #[.agg #[.int .i64 (F : Int), .int .i64 (T : Int)], .bool true]) (by simp [results, Tryd.results37, go_sem, Z0.out, Z1.out]) rfl ⟨ret_agg EF.out.symm ET.out.symm EO.out.symm, (HB7.out.setCell (p := ⟨w.heap.size, 0, none⟩) (Nat.le_refl _) _).setCell (p := ⟨w.heap.size, 1, none⟩) (Nat.le_refl _) _⟩
            · obtain ⟨F, T, eF, eT, h1, h2, h3⟩ := nat_of hr
              subst eF eT
              rw [Int.toNat_natCast, Int.toNat_natCast] at hl
              have CS := Lib.hid (fun W => ixShort_any F T (by omega) h3 W)
              have CV := Lib.hid (CI.out true hr)
              have q : (sh F T == l) = false := by rw [beq_eq_false_iff_ne]; exact fun e => hl e.symm
              have EO := Lib.hid eo
              have EF := Lib.hid ef
              have ET := Lib.hid et
              clear eo ef et hl hr CI HS
              go_wp2_with fail
              refine (CV.out _).mono ?_
              rintro e w6 ⟨rfl, hb6⟩
              have PB6 := Pr2.on (PA.set1 _) hb6
              have PR6 := Pr2.on (PR.other (a := ⟨w1.heap.size, 1, none⟩) (show w.heap.size ≠ w1.heap.size by omega) _) hb6
              have HB6 := below_next (HB.setCell (p := ⟨w1.heap.size, 1, none⟩) (show w.heap.size ≤ w1.heap.size by omega) _) hb6
              have d0 := PB6.c0
              have d1 := PB6.c1
              clear hb6 b0 b1
              go_wp2_with fail
              refine (CS.out _).mono ?_
              rintro e w7 ⟨rfl, hb7⟩
              have PR7 := PR6.on hb7
              have HB7 := Lib.hid (below_next HB6 hb7)
              have k0 := PR7.c0
              have k1 := PR7.c1
              have fr0 := PR7.fr 0
              have fr1 := PR7.fr 1
              have Z0 := Lib.hid (PR7.set 0 0).c0
              have Z1 := Lib.hid (PR7.set 0 0).c1
              clear PB6 PR6 HB6 d0 d1 hb7 PR7
              go_wp2
              exact bodyPost_ret (v := .tuple #[.agg #[.int .i64 0, .int .i64 0], .bool false]) (by simp [results, Tryd.results37, go_sem, Z0.out, Z1.out]) rfl ⟨ret_agg EF.out.symm ET.out.symm EO.out.symm, (HB7.out.setCell (p := ⟨w.heap.size, 0, none⟩) (Nat.le_refl _) _).setCell (p := ⟨w.heap.size, 1, none⟩) (Nat.le_refl _) _⟩
            · have CV := Lib.hid (CI.out false hr)
              have EO := Lib.hid eo
              have EF := Lib.hid ef
              have ET := Lib.hid et
              clear eo ef et hr CI HS
              go_wp2_with fail
              refine (CV.out _).mono ?_
              rintro e w7 ⟨rfl, hb7⟩
              have PR7 := Pr2.on (PR.other (a := ⟨w1.heap.size, 1, none⟩) (show w.heap.size ≠ w1.heap.size by omega) _) hb7
              have HB7 := Lib.hid (below_next (HB.setCell (p := ⟨w1.heap.size, 1, none⟩) (show w.heap.size ≤ w1.heap.size by omega) _) hb7)
              have k0 := PR7.c0
              have k1 := PR7.c1
              have fr0 := PR7.fr 0
              have fr1 := PR7.fr 1
              have Z0 := Lib.hid (PR7.set 0 0).c0
              have Z1 := Lib.hid (PR7.set 0 0).c1
              clear b0 b1 hb7 PR7
              go_wp2
              exact bodyPost_ret (v := .tuple #[.agg #[.int .i64 0, .int .i64 0], .bool false]) (by simp [results, Tryd.results37, go_sem, Z0.out, Z1.out]) rfl ⟨ret_agg EF.out.symm ET.out.symm EO.out.symm, (HB7.out.setCell (p := ⟨w.heap.size, 0, none⟩) (Nat.le_refl _) _).setCell (p := ⟨w.heap.size, 1, none⟩) (Nat.le_refl _) _⟩
    · obtain ⟨e1, e2, e3⟩ := HN.out (Or.inr h2)
      have EO := Lib.hid e1
      have EF := Lib.hid e2
      have ET := Lib.hid e3
      have t2 : (2 : Int) < (n : Int) := by omega
      have k0 := PR1.c0
      have k1 := PR1.c1
      have fr0 := PR1.fr 0
      have fr1 := PR1.fr 1
      have Z0 := Lib.hid (PR1.set 0 0).c0
      have Z1 := Lib.hid (PR1.set 0 0).c1
      have HB7 := Lib.hid HB1
      clear e1 e2 e3 PR1 HB1 HC HC2 HN HO PL HSA h2
      go_wp2
      exact bodyPost_ret (v := .tuple #[.agg #[.int .i64 0, .int .i64 0], .bool false]) (by simp [results, Tryd.results37, go_sem, Z0.out, Z1.out]) rfl ⟨ret_agg EF.out.symm ET.out.symm EO.out.symm, (HB7.out.setCell (p := ⟨w.heap.size, 0, none⟩) (Nat.le_refl _) _).setCell (p := ⟨w.heap.size, 1, none⟩) (Nat.le_refl _) _⟩
  · obtain ⟨e1, e2, e3⟩ := HN.out (Or.inl h9)
    have EO := Lib.hid e1
    have EF := Lib.hid e2
    have ET := Lib.hid e3
    have t9 : (9 : Int) < (l.length : Int) := by omega
    have k0 := PR1.c0
    have k1 := PR1.c1
    have fr0 := PR1.fr 0
    have fr1 := PR1.fr 1
    have Z0 := Lib.hid (PR1.set 0 0).c0
    have Z1 := Lib.hid (PR1.set 0 0).c1
    have HB7 := Lib.hid HB1
    clear e1 e2 e3 PR1 HB1 HC HC2 HN HO PL HSA h9
    go_wp2
    exact bodyPost_ret (v := .tuple #[.agg #[.int .i64 0, .int .i64 0], .bool false]) (by simp [results, Tryd.results37, go_sem, Z0.out, Z1.out]) rfl ⟨ret_agg EF.out.symm ET.out.symm EO.out.symm, (HB7.out.setCell (p := ⟨w.heap.size, 0, none⟩) (Nat.le_refl _) _).setCell (p := ⟨w.heap.size, 1, none⟩) (Nat.le_refl _) _⟩
end Lr
end Go.Proofs.YtlghonnakokioaaDoor
