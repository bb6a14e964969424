/- Several parts turned over, one behind the other, by the program. -/
import Derived.Test.YtabnjoohojojnaaCg
namespace Go.Proofs.Ytabnjoohojojnaa
open Go.RowKit Go.Joins Go.Deep Go.ChangeShapes Go.WideShapes
set_option linter.unusedVariables false
set_option linter.unusedSimpArgs false
namespace Ln
/-- a list of the call's or of the caller's, by its value -/
def RowV (W : World) (v : Value) (l : List Int) : Prop := (l = [] ∧ ∃ a c, v = .slice a 0 c) ∨ (1 ≤ l.length ∧ ∃ p c, v = .slice (some ⟨p, 0, none⟩) l.length c ∧ p < W.heap.size ∧ ∀ j, j < l.length → W.cell? ⟨p, j, none⟩ = some (.int .i64 (l.getD j 0)))
theorem RowV.on {W W' : World} {v : Value} {l : List Int} (h : RowV W v l) (hb : Below W.heap.size W W') : RowV W' v l := by
  rcases h with h | ⟨h1, p, c, hv, hp, hc⟩
  · exact _root_.Or.inl h
  · exact _root_.Or.inr ⟨h1, p, c, hv, Nat.lt_of_lt_of_le hp hb.size, fun j hj => (hb.cell (p := ⟨p, j, none⟩) hp).trans (hc j hj)⟩
/-- a list of lists -/
def Tns (W : World) (tb : Nat) (ts : List (List Int)) : Prop := tb < W.heap.size ∧ ∀ k, k < ts.length → ∃ v, W.cell? ⟨tb, k, none⟩ = some v ∧ RowV W v (ts.getD k []) ∧ ∃ a n c, v = .slice a n c
theorem Tns.on {W W' : World} {tb : Nat} {ts : List (List Int)} (h : Tns W tb ts) (hb : Below W.heap.size W W') : Tns W' tb ts :=
  ⟨Nat.lt_of_lt_of_le h.1 hb.size, fun k hk => by
    obtain ⟨v, h1, h2, h3⟩ := h.2 k hk
    exact ⟨v, (hb.cell (p := ⟨tb, k, none⟩) h.1).trans h1, h2.on hb, h3⟩⟩
/-- a turn told by both places of a part of n leaves -/
def tOk (n : Nat) (r : List Int) : Bool := decide (r.length = 2) && (decide (0 ≤ r.getD 0 0) && (decide (r.getD 0 0 ≤ r.getD 1 0) && decide (r.getD 1 0 < (n : Int))))
def tpOk (n : Nat) (ts : List (List Int)) : Nat → Bool
  | 0 => true
  | k + 1 => tpOk n ts k && tOk n (ts.getD k [])
theorem tpOk_step (n : Nat) (ts : List (List Int)) (k : Nat) : tpOk n ts (k + 1) = (tpOk n ts k && tOk n (ts.getD k [])) := rfl
theorem tpOk_le (n : Nat) (ts : List (List Int)) {j k : Nat} (hjk : j ≤ k) (h : tpOk n ts j = false) : tpOk n ts k = false := by
  induction k with
  | zero => rw [show j = 0 by omega] at h; exact h
  | succ k ih =>
    by_cases e : j = k + 1
    · rw [← e]; exact h
    · rw [tpOk_step, ih (by omega)]; rfl
/-- the binding behind the first k turns -/
def tpL (zs : List Int) (ts : List (List Int)) : Nat → List Int
  | 0 => zs
  | k + 1 => tL (tpL zs ts k) ((ts.getD k []).getD 0 0).toNat ((ts.getD k []).getD 1 0).toNat
theorem tpL_step (zs : List Int) (ts : List (List Int)) (k : Nat) : tpL zs ts (k + 1) = tL (tpL zs ts k) ((ts.getD k []).getD 0 0).toNat ((ts.getD k []).getD 1 0).toNat := rfl
theorem tpL_len (zs : List Int) (ts : List (List Int)) : ∀ k, (tpL zs ts k).length = zs.length
  | 0 => rfl
  | k + 1 => by rw [tpL_step, tL_len, tpL_len zs ts k]
theorem tOk_iff {n : Nat} {r : List Int} (h : tOk n r = true) : r.length = 2 ∧ ∃ f t : Nat, r.getD 0 0 = f ∧ r.getD 1 0 = t ∧ f ≤ t ∧ t < n := by
  unfold tOk at h
  simp only [Bool.and_eq_true, decide_eq_true_eq] at h
  obtain ⟨a, b, c, d⟩ := h
  exact ⟨a, (r.getD 0 0).toNat, (r.getD 1 0).toNat, by omega, by omega, by omega, by omega⟩
theorem tpL_bnd {zs : List Int} (hB : Bnd zs) (ts : List (List Int)) : ∀ k, tpOk zs.length ts k = true → Bnd (tpL zs ts k)
  | 0, _ => hB
  | k + 1, h => by
    rw [tpOk_step, Bool.and_eq_true] at h
    obtain ⟨_, f, t, e1, e2, hft, ht⟩ := tOk_iff h.2
    rw [tpL_step, e1, e2, Int.toNat_natCast, Int.toNat_natCast]
    exact tL_bnd (tpL_bnd hB ts k h.1) hft (by rw [tpL_len]; exact ht)
def tpB (zs : List Int) (ts : List (List Int)) : Bool := (bnd zs && decide (ts.length ≤ 40)) && tpOk zs.length ts ts.length
def tpsZ (zs : List Int) (ts : List (List Int)) : List Int := if tpB zs ts = true then tpL zs ts ts.length else []
/-- a book read, and both places of a turn -/
def SB (W : World) (b p : Nat) (n : Nat) (zs : List Int) (x y : Int) : Prop := Arr W b 54 (bkA n zs) ∧ W.cell? ⟨p, 0, none⟩ = some (.int .i64 x) ∧ W.cell? ⟨p, 1, none⟩ = some (.int .i64 y)
theorem SB.on {W W' w' : World} {b p n : Nat} {zs : List Int} {x y : Int} (h : SB W b p n zs x y) (hb : Below W'.heap.size W' w') (e : W'.heap = W.heap) : SB w' b p n zs x y := by
  have key : ∀ {a : Addr} {v : Value}, W.cell? a = some v → w'.cell? a = some v := fun {a v} hc => by
    have hlt := World.block_lt_of_cell? _ _ hc
    have h1 : w'.heap[a.block]? = W.heap[a.block]? := by rw [hb.block a.block (by rw [e]; exact hlt), e]
    rw [World.cell?_of_block (w := W) h1]
    exact hc
  exact ⟨(hb.block b (by rw [e]; exact h.1.lt)).trans (by rw [e]; exact h.1), key h.2.1, key h.2.2⟩
abbrev KS (w' : World) (b p n : Nat) (A : List Int) (x y : Int) : Prop := w'.cell? ⟨b, 0, none⟩ = some (.int .i64 (nb A 0)) ∧ w'.cell? ⟨b, 1, none⟩ = some (.bool (tb A 0)) ∧ w'.cell? ⟨b, 2, none⟩ = some (.int .i64 (nb A 1)) ∧ w'.cell? ⟨b, 3, none⟩ = some (.bool (tb A 1)) ∧ w'.cell? ⟨b, 4, none⟩ = some (.int .i64 (nb A 2)) ∧ w'.cell? ⟨b, 5, none⟩ = some (.bool (tb A 2)) ∧ w'.cell? ⟨b, 6, none⟩ = some (.int .i64 (nb A 3)) ∧ w'.cell? ⟨b, 7, none⟩ = some (.bool (tb A 3)) ∧ w'.cell? ⟨b, 8, none⟩ = some (.int .i64 (nb A 4)) ∧ w'.cell? ⟨b, 9, none⟩ = some (.bool (tb A 4)) ∧ w'.cell? ⟨b, 10, none⟩ = some (.int .i64 (nb A 5)) ∧ w'.cell? ⟨b, 11, none⟩ = some (.bool (tb A 5)) ∧ w'.cell? ⟨b, 12, none⟩ = some (.int .i64 (nb A 6)) ∧ w'.cell? ⟨b, 13, none⟩ = some (.bool (tb A 6)) ∧ w'.cell? ⟨b, 14, none⟩ = some (.int .i64 (nb A 7)) ∧ w'.cell? ⟨b, 15, none⟩ = some (.bool (tb A 7)) ∧ w'.cell? ⟨b, 16, none⟩ = some (.int .i64 (n : Int)) ∧ w'.cell? ⟨p, 0, none⟩ = some (.int .i64 x) ∧ w'.cell? ⟨p, 1, none⟩ = some (.int .i64 y)
theorem cell_heap {W W' : World} {a : Addr} {v : Value} (h : W.cell? a = some v) (e : W'.heap = W.heap) : W'.cell? a = some v := (World.cell?_of_block (w := W) (by rw [e])).trans h
theorem ks_of {W W' : World} {b p n : Nat} {A : List Int} {x y : Int} {T : TypeId} (h : Arr W b T (bkA n A)) (hx : W.cell? ⟨p, 0, none⟩ = some (.int .i64 x)) (hy : W.cell? ⟨p, 1, none⟩ = some (.int .i64 y)) (e : W'.heap = W.heap) : KS W' b p n A x y := by
  obtain ⟨h0, h1, h2, h3, h4, h5, h6, h7, h8, h9, h10, h11, h12, h13, h14, h15, h16⟩ := c17 h
  exact ⟨cell_heap h0 e, cell_heap h1 e, cell_heap h2 e, cell_heap h3 e, cell_heap h4 e, cell_heap h5 e, cell_heap h6 e, cell_heap h7 e, cell_heap h8 e, cell_heap h9 e, cell_heap h10 e, cell_heap h11 e, cell_heap h12 e, cell_heap h13 e, cell_heap h14 e, cell_heap h15 e, cell_heap h16 e, cell_heap hx e, cell_heap hy e⟩
theorem ks_on {W W' : World} {b p n : Nat} {A : List Int} {x y : Int} (h : KS W b p n A x y) (hb : Below W.heap.size W W') : KS W' b p n A x y := by
  have key : ∀ {a : Addr} {v : Value}, W.cell? a = some v → W'.cell? a = some v := fun {a v} hc => by
    have hlt := World.block_lt_of_cell? _ _ hc
    rw [World.cell?_of_block (w := W) (hb.block a.block hlt)]
    exact hc
  obtain ⟨h0, h1, h2, h3, h4, h5, h6, h7, h8, h9, h10, h11, h12, h13, h14, h15, h16, hx, hy⟩ := h
  exact ⟨key h0, key h1, key h2, key h3, key h4, key h5, key h6, key h7, key h8, key h9, key h10, key h11, key h12, key h13, key h14, key h15, key h16, key hx, key hy⟩
theorem cells_drew {W : World} {b p n : Nat} {A : List Int} {x y : Int} (h : KS W b p n A x y) : KS W.drew b p n A x y := h
set_option maxRecDepth 100000 in
set_option maxHeartbeats 2000000 in
theorem iTurns_no {b1 g len cap : Nat} {zs : List Int} {v : Value} {w : World} (h : Ow w b1 g len cap zs) (hl : len ≤ 1048576) (hv : bnd zs = false) :
    Calls Try.prog 58 #[.slice (some ⟨g, 0, none⟩) len cap, v] w (Ret (.tuple #[.slice none 0 0, .bool false]) w) := by
  have C := Lib.hid (bookOf_no h hl hv)
  clear h hv
  go_enter Try.func58, Try.ntmps58
  go_wp2_with fail
  refine C.out.mono ?_
  rintro e w1 ⟨rfl, hb⟩
  have HB := Lib.hid hb
  clear hb
  go_wp2_with (first | (with_reducible refine wpList_store_new rfl (.tmp 6) (.tmp 13) rfl (nb []) (tb []) ((0 : Nat) : Int) rfl w1.heap.size rfl rfl rfl ?_))
  go_ret2
  exact ⟨rfl, HB.out.alloc HB.out.size _⟩
set_option maxRecDepth 100000 in
set_option maxHeartbeats 2000000 in
theorem iTurns_many {b1 g len cap m : Nat} {zs : List Int} {a : Option Addr} {c : Nat} {w : World} (h : Ow w b1 g len cap zs) (hl : len ≤ 1048576) (hv : bnd zs = true) (hm : 40 < m) (hm2 : m ≤ 1048576) :
    Calls Try.prog 58 #[.slice (some ⟨g, 0, none⟩) len cap, .slice a m c] w (Ret (.tuple #[.slice none 0 0, .bool false]) w) := by
  have C := Lib.hid (bookOf_yes h hl hv)
  clear h hv
  go_enter Try.func58, Try.ntmps58
  go_wp2_with fail
  refine C.out.mono ?_
  rintro e w1 ⟨rfl, hb⟩
  have HB := Lib.hid hb
  clear hb
  go_wp2_with (first | (with_reducible refine wpList_store_new rfl (.tmp 6) (.tmp 13) rfl (nb zs) (tb zs) (len : Int) rfl w1.heap.size rfl rfl rfl ?_))
  go_ret2
  exact ⟨rfl, HB.out.alloc HB.out.size _⟩
set_option maxRecDepth 100000 in
set_option maxHeartbeats 4000000 in
theorem iTurns_yes {b1 g len cap tbl c : Nat} {zs : List Int} {ts : List (List Int)} {w : World} (h : Ow w b1 g len cap zs) (hl : len ≤ 1048576) (hv : bnd zs = true) (hm : ts.length ≤ 40) (hT : Tns w tbl ts) :
    Calls Try.prog 58 #[.slice (some ⟨g, 0, none⟩) len cap, .slice (some ⟨tbl, 0, none⟩) ts.length c] w (Gives (tpOk len ts ts.length) (if tpOk len ts ts.length = true then tpL zs ts ts.length else []) w) := by
  have C := Lib.hid (bookOf_yes h hl hv)
  have hz := ow_len h
  have B := (bnd_iff zs).1 hv
  have h8 : len ≤ 8 := by have := B.2.1; omega
  have HL := Lib.hid hz
  have HBN := Lib.hid (fun k hk => tpL_bnd B ts k hk)
  have HT := Lib.hid hT
  obtain ⟨n, hn⟩ : ∃ n, ts.length = n := ⟨_, rfl⟩
  obtain ⟨v, hvv⟩ : ∃ v, tpOk len ts n = v := ⟨_, rfl⟩
  have HV := Lib.hid hvv
  have HN := Lib.hid hn
  rw [hn] at hm ⊢
  rw [hvv]
  obtain ⟨os, hos⟩ : ∃ os, (if v = true then tpL zs ts n else []) = os := ⟨_, rfl⟩
  have HOS := Lib.hid hos
  rw [hos]
  clear h hv hz B hT hn hvv hos
  go_enter Try.func58, Try.ntmps58
  go_wp2_with fail
  refine C.out.mono ?_
  rintro e w1 ⟨rfl, hb⟩
  have HB := Lib.hid hb
  have hsw := hb.size
  clear hb
  go_wp2_with (first | (with_reducible refine wpList_store_new rfl (.tmp 6) (.tmp 13) rfl (nb zs) (tb zs) (len : Int) rfl w1.heap.size rfl rfl rfl ?_))
  go_loopw [24] (fun i wr => ∃ k : Nat, k ≤ n ∧ i = .int .i64 (k : Int) ∧ Hid (tpOk len ts k = true) ∧ Hid (Arr wr w1.heap.size 54 (bkA len (tpL zs ts k))) ∧ Hid (Below w.heap.size w wr)) (fun i _ => ((n : Int) - intOf i).toNat)
  case atStart => exact ⟨0, by omega, rfl, Lib.hid rfl, Lib.hid (arr_new _ _ _ rfl), Lib.hid (HB.out.alloc HB.out.size _)⟩
  case round =>
    clear HB
    obtain ⟨k, hk, rfl, HO, HA, HB⟩ := hrel
    by_cases hlt : (k : Int) < n
    · have hT2 := HT.out.on (HB.out.mono (Nat.le_refl _))
      obtain ⟨rv, hc, hrow, av, nv, cv, rfl⟩ := hT2.2 k (by rw [HN.out]; omega)
      have HST := Lib.hid (tpOk_step len ts k)
      have HSL := Lib.hid (tpL_step zs ts k)
      obtain ⟨r, hr⟩ : ∃ r, ts.getD k [] = r := ⟨_, rfl⟩
      rw [hr] at hrow HST HSL
      have HROW := Lib.hid hrow
      clear hr hT2 hrow
      by_cases c2 : nv = 2
      · subst c2
        have hpr : ∃ p c', av = some ⟨p, 0, none⟩ ∧ r.length = 2 ∧ p < wr.heap.size ∧ wr.cell? ⟨p, 0, none⟩ = some (.int .i64 (r.getD 0 0)) ∧ wr.cell? ⟨p, 1, none⟩ = some (.int .i64 (r.getD 1 0)) ∧ c' = cv := by
          rcases HROW.out with ⟨rfl, a, c, e⟩ | ⟨_, p, c, e, hp, hc⟩
          · injection e with _ e2; omega
          · injection e with e1 e2 e3
            exact ⟨p, c, e1, e2.symm, hp, hc 0 (by omega), hc 1 (by omega), e3.symm⟩
        obtain ⟨p, _, rfl, hr2, hp, hc0, hc1, _⟩ := hpr
        obtain ⟨x, hx⟩ : ∃ x, r.getD 0 0 = x := ⟨_, rfl⟩
        obtain ⟨y, hy⟩ : ∃ y, r.getD 1 0 = y := ⟨_, rfl⟩
        rw [hx] at hc0
        rw [hy] at hc1
        obtain ⟨u, hu⟩ : ∃ u, (decide (0 ≤ x) && (decide (x ≤ y) && decide (y < (len : Int)))) = u := ⟨_, rfl⟩
        have HTU := Lib.hid (show tOk len r = u by unfold tOk; rw [hx, hy, hu, show decide (r.length = 2) = true by simpa using hr2]; rfl)
        have HXY := Lib.hid (show r.getD 0 0 = x ∧ r.getD 1 0 = y from ⟨hx, hy⟩)
        have CP := Lib.hid (fun W => hasPart_any len (tpL zs ts k) x y u hu W)
        have HSB := Lib.hid (show SB wr w1.heap.size p len (tpL zs ts k) x y from ⟨HA.out, hc0, hc1⟩)
        have HLE := Lib.hid (show (tpL zs ts k).length = len by rw [tpL_len, HL.out])
        have HBK := Lib.hid (HBN.out k (by rw [HL.out]; exact HO.out))
        have HAA := Lib.hid HA.out
        obtain ⟨A, hA⟩ : ∃ A, tpL zs ts k = A := ⟨_, rfl⟩
        rw [hA] at CP HSB HLE HBK HSL HAA
        clear hA HA
        have HK := Lib.hid (show ∀ W', W'.heap = wr.heap → KS W' w1.heap.size p len A x y from fun W' e => ks_of (HSB.out.1) HSB.out.2.1 HSB.out.2.2 e)
        have HK5 := Lib.hid (show ∀ W', W'.heap = wr.heap → KS (W'.alloc (.cells (bkA len A) 54)) w1.heap.size p len A x y from fun W' e => ks_on (HK.out W' e) (below_alloc1 _ _))
        have t1 : ((2 : Int) == 2) = true := rfl
        have t2 : ((2 : Int) != 2) = false := rfl
        clear hr2 hx hy hu hc0 hc1
        go_wp2_with fail
        go_region_held3 (fun w' => w'.cell? ⟨w1.heap.size, 0, none⟩ = some (.int .i64 (nb A 0)) ∧ w'.cell? ⟨w1.heap.size, 1, none⟩ = some (.bool (tb A 0)) ∧ w'.cell? ⟨w1.heap.size, 2, none⟩ = some (.int .i64 (nb A 1)) ∧ w'.cell? ⟨w1.heap.size, 3, none⟩ = some (.bool (tb A 1)) ∧ w'.cell? ⟨w1.heap.size, 4, none⟩ = some (.int .i64 (nb A 2)) ∧ w'.cell? ⟨w1.heap.size, 5, none⟩ = some (.bool (tb A 2)) ∧ w'.cell? ⟨w1.heap.size, 6, none⟩ = some (.int .i64 (nb A 3)) ∧ w'.cell? ⟨w1.heap.size, 7, none⟩ = some (.bool (tb A 3)) ∧ w'.cell? ⟨w1.heap.size, 8, none⟩ = some (.int .i64 (nb A 4)) ∧ w'.cell? ⟨w1.heap.size, 9, none⟩ = some (.bool (tb A 4)) ∧ w'.cell? ⟨w1.heap.size, 10, none⟩ = some (.int .i64 (nb A 5)) ∧ w'.cell? ⟨w1.heap.size, 11, none⟩ = some (.bool (tb A 5)) ∧ w'.cell? ⟨w1.heap.size, 12, none⟩ = some (.int .i64 (nb A 6)) ∧ w'.cell? ⟨w1.heap.size, 13, none⟩ = some (.bool (tb A 6)) ∧ w'.cell? ⟨w1.heap.size, 14, none⟩ = some (.int .i64 (nb A 7)) ∧ w'.cell? ⟨w1.heap.size, 15, none⟩ = some (.bool (tb A 7)) ∧ w'.cell? ⟨w1.heap.size, 16, none⟩ = some (.int .i64 (len : Int)) ∧ w'.cell? ⟨p, 0, none⟩ = some (.int .i64 x) ∧ w'.cell? ⟨p, 1, none⟩ = some (.int .i64 y))
          (first | exact HK.out _ rfl | exact HK5.out _ rfl)
          (first
            | (go_at_call 59; refine (CP.out _).mono ?_; rintro e w5 ⟨rfl, rfl⟩))
        have hp2 : p < (wr.alloc (.cells (bkA len A) 54)).drew.heap.size := by simp; omega
        obtain ⟨W5, hW5⟩ : ∃ W5, (wr.alloc (.cells (bkA len A) 54)).drew = W5 := ⟨_, rfl⟩
        have HKW := Lib.hid (show KS W5 w1.heap.size p len A x y from hW5 ▸ cells_drew (HK5.out wr rfl))
        have HA5 := Lib.hid (show Arr W5 w1.heap.size 54 (bkA len A) from hW5 ▸ (HAA.out.on (below_alloc1 _ _)).drew)
        have HB5 := Lib.hid (show Below w.heap.size w W5 from hW5 ▸ (HB.out.alloc HB.out.size _).drew)
        rw [hW5]
        clear hW5 hp2
        cases u
        · have E := Lib.hid (show v = false by
            rw [← HV.out]
            refine tpOk_le len ts (j := k + 1) (by omega) ?_
            rw [HST.out, HTU.out]
            simp)
          have EO := Lib.hid (show os = [] by rw [← HOS.out, E.out]; rfl)
          go_wp2_with fail
          rw [E.out, EO.out]
          go_ret2
          exact ⟨_, rfl, World.ownsRow_nil _ _ _ _, HB5.out⟩
        · have HON := Lib.hid (show tpOk len ts (k + 1) = true by rw [HST.out, HO.out, HTU.out]; rfl)
          obtain ⟨_, f, t, ex, ey, hft, htl⟩ := tOk_iff HTU.out
          rw [HXY.out.1] at ex
          rw [HXY.out.2] at ey
          have HSL2 := Lib.hid (show tpL zs ts (k + 1) = tL A f t by rw [HSL.out, HXY.out.1, HXY.out.2, ex, ey, Int.toNat_natCast, Int.toNat_natCast])
          subst ex ey
          have CT := Lib.hid (turned_any len A HLE.out h8 (fun k hk => (HBK.out.2.2.2 k (by rw [HLE.out]; exact hk)).1) f t p cv hft htl W5 HKW.out.2.2.2.2.2.2.2.2.2.2.2.2.2.2.2.2.2.1 HKW.out.2.2.2.2.2.2.2.2.2.2.2.2.2.2.2.2.2.2)
          go_wp2_with (first | (with_reducible refine wpList_load17 rfl (.tmp 6) rfl w1.heap.size rfl HA5.out ?_))
          refine CT.out.mono ?_
          rintro e w6 ⟨rfl, hb6⟩
          have HA6 := Lib.hid (HA5.out.on hb6)
          have HB6 := Lib.hid (HB5.out.trans (hb6.mono HB5.out.size))
          have W1 := Lib.hid (wr17_arr (nb (tL A f t)) (tb (tL A f t)) (len : Int) HA6.out)
          have W2 := Lib.hid (wr17_below HB6.out hsw (nb (tL A f t)) (tb (tL A f t)) (len : Int))
          clear hb6
          go_wp2_with (first | (with_reducible refine wpList_store17 rfl (.tmp 6) (.tmp 44) rfl w1.heap.size (nb (tL A f t)) (tb (tL A f t)) (len : Int) rfl rfl HA6.out ?_))
          go_roundw
          case rel => exact ⟨k + 1, by omega, by go_num, HON, Lib.hid (by rw [HSL2.out]; exact W1.out), W2⟩
          case measure => simp [intOf]; omega
      · have hnv : r.length = nv := by
          rcases HROW.out with ⟨rfl, a, c, e⟩ | ⟨_, p, c, e, _⟩
          · injection e with _ e2; rw [e2]; rfl
          · injection e with _ e2; exact e2.symm
        have E := Lib.hid (show v = false by
          rw [← HV.out]
          refine tpOk_le len ts (j := k + 1) (by omega) ?_
          rw [HST.out]
          unfold tOk
          rw [show decide (r.length = 2) = false by simp; omega]
          simp)
        have t1 : ((nv : Int) == 2) = false := by rw [beq_eq_false_iff_ne]; omega
        have t2 : ((nv : Int) != 2) = true := by rw [bne_iff_ne]; omega
        clear hnv
        go_wp2_with fail
        go_quiet (fail)
        go_wp2_with fail
        have EO := Lib.hid (show os = [] by rw [← HOS.out, E.out]; rfl)
        rw [E.out, EO.out]
        go_ret2
        exact ⟨_, rfl, World.ownsRow_nil _ _ _ _, Li.below_draws HB.out _⟩
    · have ek : k = n := by omega
      have E := Lib.hid (show v = true by rw [← HV.out, ← ek]; exact HO.out)
      have EO := Lib.hid (show os = tpL zs ts n by rw [← HOS.out, E.out]; rfl)
      have hb := HBN.out k (by rw [HL.out]; exact HO.out)
      have hLn : (tpL zs ts n).length = len := by rw [tpL_len, HL.out]
      rw [ek] at hb HA
      have h88 := bnd_8 hb
      rw [hLn] at h88
      have CN := Lib.hid (fun W => numbers_any len (tpL zs ts n) hLn h8 h88 W)
      have HLn := Lib.hid (show os.length = len by rw [EO.out]; exact hLn)
      obtain ⟨A, hA⟩ : ∃ A, tpL zs ts n = A := ⟨_, rfl⟩
      rw [hA] at CN EO
      have HA2 := Lib.hid (show Arr wr w1.heap.size 54 (bkA len A) from hA ▸ HA.out)
      clear ek hb hLn h88 hA HA
      go_wp2_with (first | (with_reducible refine wpList_load17 rfl (.tmp 6) rfl w1.heap.size rfl HA2.out ?_))
      refine (CN.out _).mono ?_
      rintro e w6 ⟨v6, rfl, ho6, hb6⟩
      have HO6 := Lib.hid (Li.own_le ho6 HB.out.size)
      have HB6 := Lib.hid (HB.out.trans (hb6.mono HB.out.size))
      clear ho6 hb6
      go_wp2_with fail
      rw [E.out]
      go_ret2
      exact ⟨_, rfl, by rw [HLn.out, EO.out]; exact HO6.out, HB6.out⟩
end Ln
end Go.Proofs.Ytabnjoohojojnaa
