/- The readers' order behind a day, from the program's side: marks and indices in new memory, sorted by the library. -/
import Derived.Test.YthjhnpomnjkclaaOs
import Derived.Test.YthjhnpomnjkclaaRx4
import Derived.Test.YthjhnpomnjkclaaTp
import Derived.Test.YthjhnpomnjkclaaInts
import Derived.Lib.OwnBridge
import Derived.Deep.RegionWith
namespace Go.Proofs.Ythjhnpomnjkclaa
open Go.RowKit Go.Joins Go.Sort
set_option linter.unusedVariables false
set_option linter.unusedSimpArgs false
namespace Or
set_option maxRecDepth 100000 in
theorem sort_any {n : Nat} [Inhabited (Fin n)] (hl : n ≤ 6) (M : Fin n → Int) (B gm capm g cap : Nat) (d : Array (Fin n)) (hd : d.size = n) (w : World) (hB : w.cell? ⟨B, 0, none⟩ = some (.slice (some ⟨gm, 0, none⟩) n capm))
    (hM : ∀ k : Fin n, w.cell? ⟨gm, k.val, none⟩ = some (.int .i64 (M k))) (hH : Holds enc w g 0 d) (h1 : B ≠ g) (h2 : gm ≠ g) (hBs : B < w.heap.size) (hgs : gm < w.heap.size) :
    Calls Try.prog 38 #[.slice (some ⟨g, 0, none⟩) n cap, .func (.func 39) #[] #[.pointer (some ⟨B, 0, none⟩)]] w fun e w' =>
      e = .returned (.tuple #[]) ∧ ∃ q, w' = (putRow enc w g 0 (insertionSort (ltOf (cf M)) d 0 d.size)).drewN q := by
  have C := Lib.hid (stable_any hl M B gm capm g cap d hd w hB hM hH h1 h2 hBs hgs)
  generalize insertionSort (ltOf (cf M)) d 0 d.size = R at C ⊢
  clear hB hM hH hd
  go_enter Try.func38, Try.ntmps38
  go_wp2_with fail
  refine C.out.mono ?_
  rintro e w' ⟨rfl, q, rfl⟩
  go_wp2
  go_end0
  exact ⟨rfl, q, rfl⟩
/-- up to which page reader k has read -/
def mk (p : Int) (zs : List Int) (D k : Nat) : Int := min p (Rd.fr (zs.getD (k * 3) 0) (zs.getD (k * 3 + 1) 0) (zs.getD (k * 3 + 2) 0) D)
/-- the first k of n written -/
def fill (M : Nat → Int) (n k : Nat) : List Int := (List.range k).map M ++ List.replicate (n - k) 0
theorem fill_length (M : Nat → Int) (n k : Nat) (h : k ≤ n) : (fill M n k).length = n := by simp [fill]; omega
theorem fill_set (M : Nat → Int) (n k : Nat) (h : k < n) : (Li.nums (fill M n k)).set k (.int .i64 (M k)) = Li.nums (fill M n (k + 1)) := by
  unfold fill Li.nums
  rw [show n - k = (n - (k + 1)) + 1 by omega, List.replicate_succ, List.range_succ, List.map_append, List.map_append, List.map_append, List.set_append_right _ _ (by simp)]
  simp
theorem fill_end (M : Nat → Int) (n : Nat) : fill M n n = (List.range n).map M := by simp [fill]
theorem made_ints (n : Nat) (M : Nat → Int) : (madeCells (Value.int .i64 0).cells (n * 1)).toList = Li.nums (fill M n 0) := by
  apply List.ext_getElem?
  intro j
  by_cases hj : j < n <;> simp [madeCells, fill, Li.nums, hj, Value.cells, Nat.mod_one]
/-- the loop's state: the box with the marks' slice, the marks, the indices -/
def St (w W : World) (B gm go n : Nat) (M : Nat → Int) (k j : Nat) : Prop :=
  W.cell? ⟨B, 0, none⟩ = some (.slice (some ⟨gm, 0, none⟩) n n) ∧ W.ownsRow w.heap.size 3 1 (.slice (some ⟨gm, 0, none⟩) n n) n (Li.nums (fill M n k)) ∧ W.ownsRow w.heap.size 3 1 (.slice (some ⟨go, 0, none⟩) n n) n (Li.nums (fill (fun i => (i : Int)) n j)) ∧
  Below w.heap.size w W ∧ B ≠ gm ∧ B ≠ go ∧ gm ≠ go ∧ w.heap.size ≤ B ∧ B < W.heap.size
theorem St.on {w W W' : World} {B gm go n : Nat} {M : Nat → Int} {k j : Nat} (h : St w W B gm go n M k j) (hb : Below W.heap.size W W') : St w W' B gm go n M k j :=
  ⟨(hb.cell (p := ⟨B, 0, none⟩) h.2.2.2.2.2.2.2.2).trans h.1, Li.own_on h.2.1 hb, Li.own_on h.2.2.1 hb, h.2.2.2.1.trans (below_le hb h.2.2.2.1.size), h.2.2.2.2.1, h.2.2.2.2.2.1, h.2.2.2.2.2.2.1, h.2.2.2.2.2.2.2.1, Nat.lt_of_lt_of_le h.2.2.2.2.2.2.2.2 hb.size⟩
theorem St.onh {w W W' w' : World} {B gm go n : Nat} {M : Nat → Int} {k j : Nat} (h : St w W B gm go n M k j) (hb : Below W'.heap.size W' w') (e : W'.heap = W.heap) (e2 : W'.os = W.os) (e3 : W'.tape = W.tape) (e4 : W'.output = W.output) : St w w' B gm go n M k j :=
  h.on ⟨hb.os.trans e2, hb.tape.trans e3, hb.output.trans e4, by rw [← e]; exact hb.size, fun k hk => (hb.block k (by rw [e]; exact hk)).trans (by rw [e])⟩
theorem St.drew {w W : World} {B gm go n : Nat} {M : Nat → Int} {k j : Nat} (h : St w W B gm go n M k j) : St w W.drew B gm go n M k j :=
  h.onh (W' := W) (w' := W.drew) ⟨rfl, rfl, rfl, Nat.le_refl _, fun _ _ => rfl⟩ rfl rfl rfl rfl
theorem St.facts {w W : World} {B gm go n : Nat} {M : Nat → Int} {k j : Nat} (h : St w W B gm go n M k j) (hk : k < n) : W.cell? ⟨B, 0, none⟩ = some (.slice (some ⟨gm, 0, none⟩) n n) ∧ (∃ v, W.cell? ⟨gm, k, none⟩ = some v) ∧ W.frozen? ⟨gm, k, none⟩ = false := by
  exact ⟨h.1, h.2.1.some_at (by omega), h.2.1.frozenAt k⟩
theorem St.setM {w W : World} {B gm go n : Nat} {M : Nat → Int} {k j : Nat} (h : St w W B gm go n M k j) (hk : k < n) : St w (W.setCell ⟨gm, k, none⟩ (.int .i64 (M k))) B gm go n M (k + 1) j := by
  obtain ⟨a, b, c, d, h1, h2, h3, h4, h5⟩ := h
  obtain ⟨s, g⟩ := b.stored k (.int .i64 (M k))
  rw [fill_set M n k hk] at s
  refine ⟨(World.cell?_setCell_far _ _ _ _ (fun e => h1 e.symm)).trans a, s, c.kept g (by simp [Value.ownBlock]; exact fun e => h3 e.symm), d.setCell (p := ⟨gm, k, none⟩) ((b.lt gm rfl).1) _, h1, h2, h3, h4, Nat.lt_of_lt_of_le h5 g.size⟩
theorem St.setO {w W : World} {B gm go n : Nat} {M : Nat → Int} {k j : Nat} (h : St w W B gm go n M k j) (hk : j < n) : St w (W.setCell ⟨go, j, none⟩ (.int .i64 (j : Int))) B gm go n M k (j + 1) := by
  obtain ⟨a, b, c, d, h1, h2, h3, h4, h5⟩ := h
  obtain ⟨s, g⟩ := c.stored j (.int .i64 (j : Int))
  rw [fill_set (fun i => (i : Int)) n j hk] at s
  refine ⟨(World.cell?_setCell_far _ _ _ _ (fun e => h2 e.symm)).trans a, b.kept g (by simp [Value.ownBlock]; exact h3), s, d.setCell (p := ⟨go, j, none⟩) ((c.lt go rfl).1) _, h1, h2, h3, h4, Nat.lt_of_lt_of_le h5 g.size⟩
theorem St.factsO {w W : World} {B gm go n : Nat} {M : Nat → Int} {k j : Nat} (h : St w W B gm go n M k j) (hk : j < n) : (∃ v, W.cell? ⟨go, j, none⟩ = some v) ∧ W.frozen? ⟨go, j, none⟩ = false :=
  ⟨h.2.2.1.some_at (by omega), h.2.2.1.frozenAt j⟩
theorem days_yes (D : Nat) (hD : D ≤ 3000) (w : World) : Calls Try.prog 36 #[.int .i64 (D : Int)] w fun e w' => e = .returned (.bool true) ∧ w = w' := by
  by_cases c0 : D = 0
  · have t3 : ((D : Int) == 0) = true := by simp [c0]
    clear c0
    go_enter Try.func36, Try.ntmps36
    go_wp2
    go_ret
    exact ⟨rfl, rfl⟩
  · have t3 : ((D : Int) == 0) = false := by simp [c0]
    have t4 : decide ((1 : Int) ≤ (D : Int)) = true := by simp; omega
    have t1 : decide ((D : Int) ≤ 3000) = true := by simp; omega
    clear c0
    go_enter Try.func36, Try.ntmps36
    go_wp2
    go_ret
    exact ⟨rfl, rfl⟩
theorem fin_range (n : Nat) : (List.finRange n).map Fin.val = List.range n := by
  apply List.ext_getElem <;> simp
/-- the indices in order -/
def out (p : Int) (zs : List Int) (D len : Nat) : List Int := (ord (mk p zs D) (List.range len)).map (fun i : Nat => (i : Int))
theorem out_length (p : Int) (zs : List Int) (D len : Nat) : (out p zs D len).length = len := by simp [out, ord_length]
set_option maxRecDepth 100000 in
set_option maxHeartbeats 1000000 in
theorem iO_yes {p : Int} {b1 g len cap : Nat} {zs : List Int} {w : World} (D : Nat) (hD : D ≤ 3000) (h : w.ownsRow b1 52 3 (.slice (some ⟨g, 0, none⟩) len cap) len (Rx.nums zs)) (ha : Rx.allOf p zs len) :
    Calls Try.prog 11 #[.int .i64 p, .slice (some ⟨g, 0, none⟩) len cap, .int .i64 (D : Int)] w (Li.Gives true (out p zs D len) w) := by
  obtain ⟨i0, hi, hz0, hz1, hz2⟩ := info_parts Li.info3
  have HC := Lib.hid h
  have HA := Lib.hid ha
  have hlen6 := ha.2.1
  have hlen1 := ha.1
  have HD := Lib.hid hD
  clear h ha hD
  go_enter Try.func11, Try.ntmps11
  go_wp2_with fail
  refine (Rx.areReaders_yes HC.out HA.out).mono ?_
  rintro e w1 ⟨rfl, hb0⟩
  go_wp2_with fail
  refine (days_yes D HD.out _).mono ?_
  rintro e w' ⟨rfl, rfl⟩
  have hs1 := hb0.size
  go_wp2_with (first
    | (at_make; refine wpList_make_full w1 rfl _ _ 24 rfl w.heap.size 3 i0 (.int .i64 0) 1 Try.underlying24 hi hz0 hz1 _ _ _ _ len rfl rfl rfl rfl (by rw [hz2]; omega) (by unfold maxLen; omega) (by first | exact hs1 | (simp; omega)) ?_; intro w2 hm1 hg1; have hb1 := Li.below_of_grown hg1; have hs2 := hb1.size)
    | (at_make; refine wpList_make_full _ rfl _ _ 24 rfl w.heap.size 3 i0 (.int .i64 0) 1 Try.underlying24 hi hz0 hz1 _ _ _ _ len rfl rfl rfl rfl (by rw [hz2]; omega) (by unfold maxLen; omega) (by first | exact hs1 | (simp; omega)) ?_; intro w3 hm2 hg2))
  rw [made_ints len (mk p zs D)] at hm1
  rw [made_ints len (fun i => (i : Int))] at hm2
  have b2 := Li.below_of_grown hg2
  have S0 : St w w3 w2.heap.size w1.heap.size (w2.heap.size + 1) len (mk p zs D) 0 0 := by
    have hlt : w1.heap.size < w2.heap.size := (hm1.lt w1.heap.size rfl).2
    have ba := hb0.trans (below_le hb1 hs1)
    refine ⟨(b2.cell (p := ⟨w2.heap.size, 0, none⟩) (by simp)).trans (by simp [go_sem]), Li.own_on (hm1.alloc _) b2, by simpa using hm2, (ba.alloc ba.size _).trans (below_le b2 (by simp; omega)), by omega, by omega, by omega, by omega, ?_⟩
    have := b2.size
    simp at this
    omega
  clear hm1 hm2 hg1 hg2 hb1 b2 hb0 hs1 hs2
  generalize w2.heap.size + 1 = go at *
  generalize w2.heap.size = B at *
  generalize w1.heap.size = gm at *
  go_loopw [29] (fun i wr => ∃ (k : Nat), k ≤ len ∧ i = .int .i64 (k : Int) ∧ St w wr B gm go len (mk p zs D) k k) (fun i _ => ((len : Int) - intOf i).toNat)
  case atStart => exact ⟨0, by omega, rfl, S0⟩
  case round =>
    clear S0
    obtain ⟨k, hk, rfl, ST⟩ := hrel
    by_cases hlt : (k : Int) < len
    · obtain ⟨q0, q1, q2⟩ := Rx.cells3 (Rx.own_on HC.out ST.2.2.2.1) (k := k) (by omega)
      have hg := Rx.good_ib (HA.out.2.2 k (by omega))
      have EM := Lib.hid (show mk p zs D k = min p (Rd.fr (zs.getD (k * 3) 0) (zs.getD (k * 3 + 1) 0) (zs.getD (k * 3 + 2) 0) D) from rfl)
      generalize zs.getD (k * 3) 0 = m at *
      generalize zs.getD (k * 3 + 1) 0 = d at *
      generalize zs.getD (k * 3 + 2) 0 = r at *
      have gf := Lib.hid (Rw.gfacts hg)
      have C := Lib.hid (fun W => Rw.markBehind_any m d r D gf.out.1 gf.out.2.1 gf.out.2.2.1 gf.out.2.2.2.1 gf.out.2.2.2.2 (by have := HD.out; omega) W)
      have SB := Lib.hid (ST.on (below_alloc1 wr (.cells #[.int .i64 m, .int .i64 d, .int .i64 r] 52)))
      have B0 := Rw.Bx.new wr m d r 52
      generalize Rd.fr m d r D = X at *
      clear hg
      obtain ⟨_, x0, x1, x2⟩ := id B0
      obtain ⟨f0, ⟨v0, f1⟩, f2⟩ := SB.out.facts (k := k) (by omega)
      clear ST
      go_wp2_with fail
      go_region_with (first | (go_at_call 37; refine (C.out _).mono ?_; rintro e w6 ⟨rfl, hb6⟩; have S6 := SB.out.onh hb6 rfl rfl rfl rfl; have T6 := Lib.hid S6; obtain ⟨p0, ⟨v6, p1⟩, p2⟩ := S6.facts (k := k) (by omega); clear S6 hb6))
      all_goals
        have S7 := T6.out.setM (k := k) (by omega)
        rw [EM.out] at S7
        clear T6 p0 p1 p2
        generalize w6.setCell ⟨gm, k, none⟩ (.int .i64 (min p X)) = w7 at *
        obtain ⟨⟨v7, y1⟩, y2⟩ := S7.factsO (by omega)
        have T7 := Lib.hid (S7.setO (by omega))
        clear S7
        go_wp2_with fail
        go_roundw
        case rel => exact ⟨k + 1, by omega, by go_num, T7.out⟩
        case measure => simp [intOf]; omega
    · obtain rfl : k = len := by omega
      have hM : ∀ i, i < k → wr.cell? ⟨gm, i, none⟩ = some (.int .i64 (mk p zs D i)) := fun i hi => by
        have h := ST.2.1.cellAt i (by omega)
        rw [fill_end] at h
        rw [h]
        simp [Li.nums, hi]
      have hgm := (ST.2.1.lt gm rfl).2
      haveI : Inhabited (Fin k) := ⟨⟨0, by omega⟩⟩
      have hO := ST.2.2.1
      rw [fill_end, show Li.nums ((List.range k).map fun i : Nat => (i : Int)) = (List.finRange k).map enc by
        unfold Li.nums
        rw [← fin_range k, List.map_map, List.map_map]
        rfl] at hO
      obtain ⟨g', cap', e1, _, _, _, _, hl, hH⟩ := Lib.holds_of_ownsRow hO (by simp)
      injection e1 with e1 _ e3
      injection e1 with e1
      injection e1 with e1
      subst e1 e3
      have hcon := sort_any hlen6 (fun i : Fin k => mk p zs D i.val) B gm k go k (List.finRange k).toArray (by simp) wr ST.1 (fun i => hM i.val i.isLt) hH ST.2.2.2.2.2.1 ST.2.2.2.2.2.2.1 ST.2.2.2.2.2.2.2.2 hgm
      have hR : (insertionSort (ltOf (cf fun i : Fin k => mk p zs D i.val)) (List.finRange k).toArray 0 (List.finRange k).toArray.size).toList = ord (fun i : Fin k => mk p zs D i.val) (List.finRange k) := sorted _ _ (lt_cf _) _
      generalize insertionSort (ltOf (cf fun i : Fin k => mk p zs D i.val)) (List.finRange k).toArray 0 (List.finRange k).toArray.size = R at hcon hR
      have hfin : ∀ q, ((putRow enc wr go 0 R).drewN q).ownsRow w.heap.size 3 1 (.slice (some ⟨go, 0, none⟩) k k) k (Li.nums (out p zs D k)) ∧ Below w.heap.size w ((putRow enc wr go 0 R).drewN q) := fun q => by
        have hRl : R.toList.length = k := by rw [hR, ord_length]; simp
        have h := Lib.ownsRow_putRow (q := q) (k := k) hO hRl (Nat.le_refl _)
        have h2 := Lib.below_putRow (enc := enc) (q := q) (d := R.toList.toArray) ST.2.2.2.1 (hO.lt go rfl).1
        rw [List.take_of_length_le (by omega), hR] at h
        rw [show Li.nums (out p zs D k) = (ord (fun i : Fin k => mk p zs D i.val) (List.finRange k)).map enc by
          unfold Li.nums out
          rw [← fin_range k, ord_map, List.map_map, List.map_map]
          rfl]
        rw [← hR, Array.toArray_toList] at h
        rw [Array.toArray_toList] at h2
        rw [← hR]
        exact ⟨h, h2⟩
      have HF := Lib.hid hfin
      have HCN := Lib.hid hcon
      clear hfin hcon hR hH hO hM ST hl
      go_wp2_with fail
      refine HCN.out.mono ?_
      rintro e w9 ⟨rfl, q, rfl⟩
      have HQ := Lib.hid (HF.out q)
      generalize (putRow enc wr go 0 R).drewN q = w9 at *
      clear HF
      go_wp2
      go_ret2
      exact ⟨_, rfl, by rw [out_length]; exact HQ.out.1, HQ.out.2⟩
end Or
end Go.Proofs.Ythjhnpomnjkclaa
