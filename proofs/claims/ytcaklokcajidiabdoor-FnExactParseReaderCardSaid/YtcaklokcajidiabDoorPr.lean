/- What spec.ParseReader answers: the reader with a text, if there is one. -/
import Derived.Test.YtcaklokcajidiabDoorCread
import Derived.Test.YtcaklokcajidiabDoorRt
import Derived.Deep.RegionHeld3
import Derived.Deep.RegionWith
import Derived.Deep.DeepCutAuto
import Derived.BigQuiet
namespace Go.Proofs.YtcaklokcajidiabDoor
open Go.RowKit Go.Joins
set_option linter.unusedSimpArgs false
set_option linter.unusedVariables false
namespace P
/-- what a parse came to -/
def Parsed (l : List UInt8) (a b c : Int) (ok : Bool) : Prop :=
  (ok = true → Rd.good a b c = true ∧ tl a.toNat b.toNat c.toNat = l) ∧ ((∃ m d r : Nat, Rd.good m d r = true ∧ tl m d r = l) → ok = true)
theorem rep_len {l : List UInt8} (h : ∃ m d r : Nat, Rd.good m d r = true ∧ tl m d r = l) : l.length ≤ 11 := by
  obtain ⟨m, d, r, hg, rfl⟩ := h
  have := Rw.gfacts hg
  exact tl_len m d r (by omega) (by omega) (by omega)
theorem rep_two {l : List UInt8} (h : ∃ m d r : Nat, Rd.good m d r = true ∧ tl m d r = l) : (sp 43 l).length = 2 := by
  obtain ⟨m, d, r, hg, rfl⟩ := h
  rw [sp_tl]; rfl
theorem strs_at (ps : List (List UInt8)) (j : Nat) (h : j < ps.length) : (strs ps)[j]? = some (.string ⟨(ps.getD j []).toArray⟩) := by
  simp [strs, List.getD, List.getElem?_eq_getElem h]
theorem sp_part (c : UInt8) (l : List UInt8) : ∀ p ∈ sp c l, p.length ≤ l.length := by
  induction l with
  | nil => intro p h; simp [sp] at h; rw [h]; exact Nat.le_refl _
  | cons x xs ih =>
    intro p h
    unfold sp at h
    split at h
    · rcases List.mem_cons.mp h with rfl | h
      · simp
      · have := ih p h; simp; omega
    · rcases List.mem_cons.mp h with rfl | h
      · cases hs : sp c xs with
        | nil => simp
        | cons q r => have := ih q (by rw [hs]; simp); simp; omega
      · have := ih p (List.mem_of_mem_tail h); simp; omega
theorem getD_mem (L : List (List UInt8)) (k : Nat) (h : k < L.length) : L.getD k [] ∈ L := by
  simp [List.getD, List.getElem?_eq_getElem h]
/-- the three numbers that a text's parts come to -/
def na (l : List UInt8) : Int := rdS ((sp 43 l).getD 0 [])
def q1 (l : List UInt8) : List UInt8 := (sp 43 l).getD 1 []
def nb (l : List UInt8) : Int := rdS ((sp 47 (q1 l)).getD 0 [])
def nc (l : List UInt8) : Int := if (sp 47 (q1 l)).length = 2 then rdS ((sp 47 (q1 l)).getD 1 []) else 0
theorem back (m d r : Nat) (hm : m ≤ 2000) (hd : d ≤ 200) (hr : r ≤ 60) : na (tl m d r) = m ∧ nb (tl m d r) = d ∧ nc (tl m d r) = r ∧ (sp 47 (q1 (tl m d r))).length < 3 := by
  have e1 : q1 (tl m d r) = decN d ++ if 0 < r then 47 :: decN r else [] := by unfold q1; rw [sp_tl]; rfl
  have e0 : na (tl m d r) = m := by unfold na; rw [sp_tl]; exact rdS_decN m hm
  refine ⟨e0, ?_, ?_, ?_⟩
  · unfold nb
    rw [e1]
    by_cases h : 0 < r
    · rw [sp_rest_yes d r h]; exact rdS_decN d (by omega)
    · rw [sp_rest_no d r h]; exact rdS_decN d (by omega)
  · unfold nc
    rw [e1]
    by_cases h : 0 < r
    · rw [sp_rest_yes d r h]; exact rdS_decN r (by omega)
    · rw [sp_rest_no d r h, if_neg (by simp)]; omega
  · rw [e1]
    by_cases h : 0 < r
    · rw [sp_rest_yes d r h]; simp
    · rw [sp_rest_no d r h]; simp
theorem tl_inj {m d r m' d' r' : Nat} (h : Rd.good m d r = true) (h' : Rd.good m' d' r' = true) (e : tl m d r = tl m' d' r') : m = m' ∧ d = d' ∧ r = r' := by
  have g := Rw.gfacts h
  have g' := Rw.gfacts h'
  obtain ⟨a, b, c, _⟩ := back m d r (by omega) (by omega) (by omega)
  obtain ⟨a', b', c', _⟩ := back m' d' r' (by omega) (by omega) (by omega)
  rw [e] at a b c
  omega
theorem parsed_of {l : List UInt8} {ok : Bool} (h : ok = true ↔ (sp 47 (q1 l)).length < 3 ∧ Rd.good (na l) (nb l) (nc l) = true ∧ tl (na l).toNat (nb l).toNat (nc l).toNat = l) : Parsed l (na l) (nb l) (nc l) ok := by
  refine ⟨fun hk => (h.1 hk).2, fun ⟨m, d, r, hg, e⟩ => h.2 ?_⟩
  have g := Rw.gfacts hg
  obtain ⟨a, b, c, h3⟩ := back m d r (by omega) (by omega) (by omega)
  rw [e] at a b c h3
  rw [a, b, c]
  exact ⟨h3, hg, by simpa using e⟩
theorem parsed_no {l : List UInt8} {a b c : Int} (h : ¬ ∃ m d r : Nat, Rd.good m d r = true ∧ tl m d r = l) : Parsed l a b c false := ⟨(fun hk => absurd hk (by decide)), fun hh => absurd hh h⟩
/-- a reader and a bool are returned -/
def GivesP (l : List UInt8) (W : World) (e : Ending) (w' : World) : Prop := ∃ a b c ok, e = .returned (.tuple #[.agg #[.int .i64 a, .int .i64 b, .int .i64 c], .bool ok]) ∧ Parsed l a b c ok ∧ Below W.heap.size W w'
theorem rdS_lt (p : List UInt8) : -1 ≤ rdS p ∧ rdS p ≤ 1000000 := by
  unfold rdS
  split
  · rename_i h
    have := val_bd p p.length (Nat.le_refl _) (fun j hj => List.all_eq_true.mp h.2.2.2 _ (List.getElem_mem _))
    rw [List.take_length] at this
    have h6 : (10 : Int) ^ p.length ≤ 10 ^ 6 := by
      rcases (show p.length = 0 ∨ p.length = 1 ∨ p.length = 2 ∨ p.length = 3 ∨ p.length = 4 ∨ p.length = 5 ∨ p.length = 6 from by omega) with e | e | e | e | e | e | e <;> rw [e] <;> decide
    omega
  · omega
theorem box_facts {w w' : World} {x y z : Value} {t : TypeId} (hb : Below (w.alloc (.cells #[x, y, z] t)).heap.size (w.alloc (.cells #[x, y, z] t)) w') :
    w'.cell? ⟨w.heap.size, 0, none⟩ = some x ∧ w'.cell? ⟨w.heap.size, 1, none⟩ = some y ∧ w'.cell? ⟨w.heap.size, 2, none⟩ = some z ∧ w'.frozen? ⟨w.heap.size, 0, none⟩ = false ∧ w'.frozen? ⟨w.heap.size, 1, none⟩ = false ∧ w'.frozen? ⟨w.heap.size, 2, none⟩ = false := by
  have h : w.heap.size < (w.alloc (.cells #[x, y, z] t)).heap.size := by simp
  have e : w'.heap[w.heap.size]? = some (.cells #[x, y, z] t (0, 0)) := by
    rw [hb.block _ h]
    show (w.heap.push _)[w.heap.size]? = _
    simp
  exact ⟨cell_of_block e 0, cell_of_block e 1, cell_of_block e 2, unfrozen_of_block e 0, unfrozen_of_block e 1, unfrozen_of_block e 2⟩
theorem below_set3 {w w' : World} {x y z : Value} (hb : Below w.heap.size w w') : Below w.heap.size w (((w'.setCell ⟨w.heap.size, 0, none⟩ x).setCell ⟨w.heap.size, 1, none⟩ y).setCell ⟨w.heap.size, 2, none⟩ z) :=
  ((hb.setCell (p := ⟨w.heap.size, 0, none⟩) (Nat.le_refl _) x).setCell (p := ⟨w.heap.size, 1, none⟩) (Nat.le_refl _) y).setCell (p := ⟨w.heap.size, 2, none⟩) (Nat.le_refl _) z
set_option maxRecDepth 100000 in
set_option maxHeartbeats 1000000 in
theorem rdParse_long (l : List UInt8) (hl : l.length ≤ 1048576) (h : ¬ l.length ≤ 11) (w : World) : Calls Tryd.prog 15 #[.string ⟨l.toArray⟩] w (GivesP l w) := by
  have hdec : decide ((11 : Int) < (l.length : Int)) = true := by simp; omega
  have hP := Lib.hid (show Parsed l 0 0 0 false from parsed_no (fun hh => h (rep_len hh)))
  have S := Lib.hid (fun W => l1Split_any l 43 hl W)
  clear h
  have hba : Below w.heap.size w (w.alloc (.cells #[.int .i64 0, .int .i64 0, .int .i64 0] 26)) := below_alloc1 _ _
  go_enter Tryd.func15, Tryd.ntmps15
  go_wp2_with fail
  refine (S.out _).mono ?_
  rintro e w1 ⟨v, rfl, ho, hb⟩
  obtain ⟨q0, q1, q2, f0, f1, f2⟩ := box_facts hb
  have HB := Lib.hid (hba.trans (below_le hb hba.size))
  clear ho hb
  go_wp2
  exact bodyPost_ret (v := .tuple #[.agg #[.int .i64 0, .int .i64 0, .int .i64 0], .bool false]) (by simp [results, Tryd.results15, go_sem, q0, q1, q2]) rfl ⟨0, 0, 0, false, rfl, hP.out, below_set3 HB.out⟩
set_option maxRecDepth 100000 in
set_option maxHeartbeats 1000000 in
theorem rdParse_other (l : List UInt8) (hl : l.length ≤ 11) (h : ¬ (sp 43 l).length = 2) (w : World) : Calls Tryd.prog 15 #[.string ⟨l.toArray⟩] w (GivesP l w) := by
  have hdec : decide ((11 : Int) < (l.length : Int)) = false := by simp; omega
  have hP := Lib.hid (show Parsed l 0 0 0 false from parsed_no (fun hh => h (rep_two hh)))
  have S := Lib.hid (fun W => l1Split_any l 43 (by omega) W)
  obtain ⟨n, hn⟩ : ∃ n, (sp 43 l).length = n := ⟨_, rfl⟩
  have hn0 : 0 < n := by rw [← hn]; exact sp_pos 43 l
  rw [hn] at h
  have t1 : ((n : Int) == 2) = false := by simp; omega
  have t2 : (n == 2) = false := by simpa using h
  have HN := Lib.hid hn
  clear h hn
  have hba : Below w.heap.size w (w.alloc (.cells #[.int .i64 0, .int .i64 0, .int .i64 0] 26)) := below_alloc1 _ _
  go_enter Tryd.func15, Tryd.ntmps15
  go_wp2_with fail
  refine (S.out _).mono ?_
  rintro e w1 ⟨v, rfl, ho, hb⟩
  rw [HN.out] at ho
  obtain ⟨g1, cap1, rfl, _, hg1⟩ := World.ownsRow.form ho hn0
  obtain ⟨q0, q1, q2, f0, f1, f2⟩ := box_facts hb
  have HB := Lib.hid (hba.trans (below_le hb hba.size))
  clear ho hb
  go_wp2
  exact bodyPost_ret (v := .tuple #[.agg #[.int .i64 0, .int .i64 0, .int .i64 0], .bool false]) (by simp [results, Tryd.results15, go_sem, q0, q1, q2]) rfl ⟨0, 0, 0, false, rfl, hP.out, below_set3 HB.out⟩
theorem bx_onh {W W' w' : World} {n : Nat} {m d r : Int} (h : Rw.Bx W n m d r) (hb : Below W'.heap.size W' w') (e : W'.heap = W.heap) : Rw.Bx w' n m d r :=
  Rw.Bx.on (W := W') ⟨by rw [e]; exact h.1, by rw [World.cell?, e]; exact h.2.1, by rw [World.cell?, e]; exact h.2.2.1, by rw [World.cell?, e]; exact h.2.2.2⟩ hb
theorem below_onh {B : Nat} {w W W' w' : World} (h : Below B w W) (hB : B ≤ W.heap.size) (hb : Below W'.heap.size W' w') (e1 : W'.heap = W.heap) (e2 : W'.os = W.os) (e3 : W'.tape = W.tape) (e4 : W'.output = W.output) : Below B w w' :=
  ⟨hb.os.trans (e2.trans h.os), hb.tape.trans (e3.trans h.tape), hb.output.trans (e4.trans h.output), Nat.le_trans h.size (by rw [← e1]; exact hb.size), fun k hk => (hb.block k (by rw [e1]; omega)).trans ((by rw [e1] : W'.heap[k]? = W.heap[k]?).trans (h.block k hk))⟩
theorem keep_set3 {W : World} {n g : Nat} {x y z a b c : Value} (hne : n ≠ g) (h : W.cell? ⟨g, 0, none⟩ = some a ∧ W.cell? ⟨g, 1, none⟩ = some b ∧ W.cell? ⟨g, 2, none⟩ = some c) :
    (((W.setCell ⟨n, 0, none⟩ x).setCell ⟨n, 1, none⟩ y).setCell ⟨n, 2, none⟩ z).cell? ⟨g, 0, none⟩ = some a ∧ (((W.setCell ⟨n, 0, none⟩ x).setCell ⟨n, 1, none⟩ y).setCell ⟨n, 2, none⟩ z).cell? ⟨g, 1, none⟩ = some b ∧ (((W.setCell ⟨n, 0, none⟩ x).setCell ⟨n, 1, none⟩ y).setCell ⟨n, 2, none⟩ z).cell? ⟨g, 2, none⟩ = some c := by
  refine ⟨?_, ?_, ?_⟩
  · rw [World.cell?_setCell_far _ _ _ _ hne, World.cell?_setCell_far _ _ _ _ hne, World.cell?_setCell_far _ _ _ _ hne]; exact h.1
  · rw [World.cell?_setCell_far _ _ _ _ hne, World.cell?_setCell_far _ _ _ _ hne, World.cell?_setCell_far _ _ _ _ hne]; exact h.2.1
  · rw [World.cell?_setCell_far _ _ _ _ hne, World.cell?_setCell_far _ _ _ _ hne, World.cell?_setCell_far _ _ _ _ hne]; exact h.2.2
/-- a box that is still empty -/
def T2 (W : World) (n : Nat) : Prop := n < W.heap.size ∧ W.heap[n]? = some (.cells #[.int .i64 0, .int .i64 0, .int .i64 0] 26 (0, 0))
theorem T2.on {W W' : World} {n : Nat} (h : T2 W n) (hb : Below W.heap.size W W') : T2 W' n := ⟨Nat.lt_of_lt_of_le h.1 hb.size, (hb.block _ h.1).trans h.2⟩
theorem T2.onh {W W' w' : World} {n : Nat} (h : T2 W n) (hb : Below W'.heap.size W' w') (e : W'.heap = W.heap) : T2 w' n := T2.on (W := W') ⟨by rw [e]; exact h.1, by rw [e]; exact h.2⟩ hb
theorem T2.drew {W : World} {n : Nat} (h : T2 W n) : T2 W.drew n := h
theorem T2.alloc {W : World} {n : Nat} (h : T2 W n) (o : Obj) : T2 (W.alloc o) n := h.on (below_alloc1 _ _)
theorem T2.new (w : World) : T2 (w.alloc (.cells #[.int .i64 0, .int .i64 0, .int .i64 0] 26)) w.heap.size := by
  refine ⟨by simp, ?_⟩
  show (w.heap.push _)[w.heap.size]? = _
  simp
theorem T2.facts {W : World} {n : Nat} (h : T2 W n) : W.cell? ⟨n, 0, none⟩ = some (.int .i64 0) ∧ W.cell? ⟨n, 1, none⟩ = some (.int .i64 0) ∧ W.cell? ⟨n, 2, none⟩ = some (.int .i64 0) ∧ W.frozen? ⟨n, 0, none⟩ = false ∧ W.frozen? ⟨n, 1, none⟩ = false ∧ W.frozen? ⟨n, 2, none⟩ = false :=
  ⟨cell_of_block h.2 0, cell_of_block h.2 1, cell_of_block h.2 2, unfrozen_of_block h.2 0, unfrozen_of_block h.2 1, unfrozen_of_block h.2 2⟩
set_option maxRecDepth 100000 in
set_option maxHeartbeats 4000000 in
theorem rdP_three (l : List UInt8) (hl : l.length ≤ 11) (h : (sp 43 l).length = 2) (hn3 : ¬ (sp 47 (q1 l)).length < 3) (w : World) : Calls Tryd.prog 15 #[.string ⟨l.toArray⟩] w (GivesP l w) := by
  have hdec : decide ((11 : Int) < (l.length : Int)) = false := by simp; omega
  have S := Lib.hid (fun W => l1Split_any l 43 (by omega) W)
  obtain ⟨p0, hp0⟩ : ∃ p, (sp 43 l).getD 0 [] = p := ⟨_, rfl⟩
  obtain ⟨p1, hp1⟩ : ∃ p, q1 l = p := ⟨_, rfl⟩
  have k0 : p0.length ≤ 11 := by have := sp_part 43 l p0 (by rw [← hp0]; exact getD_mem _ 0 (by omega)); omega
  have k1 : p1.length ≤ 11 := by have := sp_part 43 l p1 (by rw [← hp1]; exact getD_mem _ 1 (by omega)); omega
  have S2 := Lib.hid (fun W => l1Split_any p1 47 (by omega) W)
  obtain ⟨r0, hr0⟩ : ∃ p, (sp 47 p1).getD 0 [] = p := ⟨_, rfl⟩
  have j0 : r0.length ≤ 11 := by have := sp_part 47 p1 r0 (by rw [← hr0]; exact getD_mem _ 0 (sp_pos 47 p1)); omega
  have hna : na l = rdS p0 := by unfold na; rw [hp0]
  have hnb : nb l = rdS r0 := by unfold nb; rw [hp1, hr0]
  have hnc : nc l = 0 := by unfold nc; rw [if_neg (by omega)]
  have HPP := Lib.hid (show Parsed l (na l) (nb l) (nc l) false from parsed_of (iff_of_false (by decide) (fun hh => hn3 hh.1)))
  rw [hp1] at hn3
  generalize na l = a at *
  generalize nb l = b at *
  generalize nc l = c at *
  have L1 := Lib.hid (fun W => hna ▸ l1Read_any p0 (by omega) W)
  have L2 := Lib.hid (fun W => hnb ▸ l1Read_any r0 (by omega) W)
  obtain ⟨n, hn⟩ : ∃ n, (sp 47 p1).length = n := ⟨_, rfl⟩
  have hn9 : n ≤ 12 := by have := sp_le 47 p1; omega
  rw [hn] at hn3
  have t1 : ((n : Int) == 2) = false := by simp; omega
  have t2 : (n == 2) = false := by simp; omega
  have t3 : decide ((n : Int) < 3) = false := by simp; omega
  have t4 : (n < 3) = False := eq_false hn3
  have t5 : ((n : Int) < 3) = False := eq_false (by omega)
  have t6 : decide (n < 3) = false := by simp; omega
  have hn0 : 0 < n := by omega
  have hn1 : (0 : Int) < (n : Int) := by omega
  have HN := Lib.hid hn
  have H2 := Lib.hid h
  have HP0 := Lib.hid hp0
  have HP1 := Lib.hid (show (sp 43 l).getD 1 [] = p1 from hp1)
  have HR0 := Lib.hid hr0
  have HNC := Lib.hid hnc
  clear h hn hp0 hr0 k0 k1 j0 hna hnb hn3 hp1 hnc
  have hba : Below w.heap.size w (w.alloc (.cells #[.int .i64 0, .int .i64 0, .int .i64 0] 26)) := below_alloc1 _ _
  have T0 := T2.new w
  go_enter Tryd.func15, Tryd.ntmps15
  go_wp2_with fail
  refine (S.out _).mono ?_
  rintro e w1 ⟨v, rfl, ho, hb⟩
  rw [H2.out] at ho
  obtain ⟨g1, cap1, rfl, _, hg1⟩ := World.ownsRow.form ho (by omega)
  have c0 : w1.cell? ⟨g1, 0, none⟩ = some (.string ⟨p0.toArray⟩) := by rw [ho.cellAt 0 (by omega), strs_at _ 0 (by rw [H2.out]; omega), HP0.out]
  have c1 : w1.cell? ⟨g1, 1, none⟩ = some (.string ⟨p1.toArray⟩) := by rw [ho.cellAt 1 (by omega), strs_at _ 1 (by rw [H2.out]; omega), HP1.out]
  have T1 := T0.on hb
  have HX1 := Lib.hid (hba.trans (below_le hb hba.size))
  clear ho hb T0 hba
  go_wp2_with fail
  refine (S2.out _).mono ?_
  rintro e w2 ⟨v2, rfl, ho2, hb2⟩
  rw [HN.out] at ho2
  obtain ⟨g2, cap2, rfl, _, hg2⟩ := World.ownsRow.form ho2 hn0
  have d0 : w2.cell? ⟨g2, 0, none⟩ = some (.string ⟨r0.toArray⟩) := by rw [ho2.cellAt 0 (by omega), strs_at _ 0 (by rw [HN.out]; omega), HR0.out]
  have c0' : w2.cell? ⟨g1, 0, none⟩ = some (.string ⟨p0.toArray⟩) := (hb2.cell (p := ⟨g1, 0, none⟩) hg1).trans c0
  have HX2 := Lib.hid (HX1.out.trans (below_le hb2 HX1.out.size))
  have TT2 := T1.on hb2
  clear ho2 hb2 c0 c1 T1
  go_upto_region 5 with fail
  go_cut [6] (fun s6 wx => s6 = .pointer (some ⟨w2.heap.size, 0, none⟩) ∧ wx = (w2.alloc (.cells #[.int .i64 a, .int .i64 b, .int .i64 0] 26)).drew)
  case first =>
    go_region_held3 (fun w' => w'.cell? ⟨g1, 0, none⟩ = some (.string ⟨p0.toArray⟩) ∧ w'.cell? ⟨g2, 0, none⟩ = some (.string ⟨r0.toArray⟩))
      (first | exact ⟨c0', d0⟩ | go_keep)
      (first
        | (go_at_call_of 24 p0; refine (L1.out _).mono ?_; rintro e w4 ⟨rfl, rfl⟩)
        | (go_at_call_of 24 r0; refine (L2.out _).mono ?_; rintro e w5 ⟨rfl, rfl⟩))
    all_goals (go_wp2_with fail; go_meet; exact ⟨rfl, rfl⟩)
  case rest =>
    obtain ⟨rfl, rfl⟩ := hcut
    have HC := Lib.hid (show c = c from rfl)
    obtain rfl : c = 0 := HNC.out
    have B := Rw.Bx.new w2 a b 0 26
    have T := TT2.alloc (.cells #[.int .i64 a, .int .i64 b, .int .i64 0] 26)
    have HX := Lib.hid (HX2.out.alloc HX2.out.size (.cells #[.int .i64 a, .int .i64 b, .int .i64 0] 26))
    obtain ⟨_, q0, q1, q2⟩ := id B
    obtain ⟨z0, z1, z2, f0, f1, f2⟩ := T.facts
    have TTT := Lib.hid TT2
    clear c0' d0 TT2
    go_upto_region 8 with fail
    go_region
    all_goals
      go_wp2_with fail
      exact bodyPost_ret (v := .tuple #[.agg #[.int .i64 a, .int .i64 b, .int .i64 0], .bool false]) (by simp [results, Tryd.results15, go_sem, z0, z1, z2]) rfl ⟨a, b, 0, false, rfl, HPP.out, by first | exact below_set3 HX.out | exact (below_set3 HX.out).drew | exact (below_set3 HX.out).drew.drew | exact (below_set3 HX.out).drew.drew.drew⟩
end P
end Go.Proofs.YtcaklokcajidiabDoor
