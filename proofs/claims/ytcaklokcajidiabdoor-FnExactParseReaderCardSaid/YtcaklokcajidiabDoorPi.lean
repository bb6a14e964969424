/- What impl.ParseReader answers of a text: the reader with it, if there is one. -/
import Derived.Test.YtcaklokcajidiabDoorPr
import Derived.Test.YtcaklokcajidiabDoorShelf2
import Derived.Lib.AtoiAllCases
import Derived.Lib.AtoiErrMem
namespace Go.Proofs.YtcaklokcajidiabDoor
open Go.RowKit Go.Joins
set_option linter.unusedSimpArgs false
set_option linter.unusedVariables false
namespace P
/-- what the library's variables hold -/
def Env (W : World) : Prop := (∃ m : Int, W.cell? ⟨0, 0, none⟩ = some (.int .i64 m)) ∧ (∃ t p, W.cell? ⟨1, 0, none⟩ = some (.iface t p)) ∧ (∃ t p, W.cell? ⟨2, 0, none⟩ = some (.iface t p))
theorem cell_lt {W : World} {b o : Nat} {v : Value} (h : W.cell? ⟨b, o, none⟩ = some v) : b < W.heap.size := World.block_lt_of_cell? _ _ h
theorem Env.on {W W' : World} (h : Env W) (hb : Below W.heap.size W W') : Env W' := by
  obtain ⟨⟨m, h1⟩, ⟨t, p, h2⟩, ⟨t', p', h3⟩⟩ := h
  exact ⟨⟨m, (hb.cell (p := ⟨0, 0, none⟩) (cell_lt h1)).trans h1⟩, ⟨t, p, (hb.cell (p := ⟨1, 0, none⟩) (cell_lt h2)).trans h2⟩, ⟨t', p', (hb.cell (p := ⟨2, 0, none⟩) (cell_lt h3)).trans h3⟩⟩
theorem below_dN {B : Nat} {a w : World} (h : Below B a w) (n : Nat) : Below B a (w.drewN n) := h.trans ⟨rfl, rfl, rfl, Nat.le_refl _, fun _ _ => rfl⟩
/-- what Atoi reads -/
def Reads (p : List UInt8) (v : Int) : Prop := (∀ u, Lib.atoiAll p = .ok u → v = u) ∧ (p = [] → v = 0)
theorem nil_not (u : Int) : Lib.atoiAll [] ≠ .ok u := by
  intro h
  simp [Lib.atoiAll] at h
theorem atoi_any (p : List UInt8) (hp : p.length ≤ 100) (W : World) (hE : Env W) :
    Calls Tryd.prog 17 #[.string ⟨p.toArray⟩] W fun e w' => ∃ (v : Int) (x : Value), e = .returned (.tuple #[.int .i64 v, x]) ∧ Reads p v ∧ Below W.heap.size W w' := by
  have hs : (⟨p.toArray⟩ : ByteArray).size = p.length := by show p.toArray.size = _; simp
  have hl : (⟨p.toArray⟩ : ByteArray).data.toList = p := by simp
  obtain ⟨_, ⟨t, q, h2⟩, ⟨t', q', h3⟩⟩ := hE
  rcases hc : Lib.atoiAll p with v | _ | _
  · refine (Tryd.strconv_Atoi_ok ⟨p.toArray⟩ (by omega) v (by rw [hl]; exact hc) W).mono ?_
    have HR := Lib.hid (show Reads p v from ⟨fun u hu => by rw [hc] at hu; cases hu; rfl, fun e => by subst e; exact absurd hc (nil_not v)⟩)
    rintro e w' ⟨rfl, rfl | ⟨t, rfl⟩⟩
    · exact ⟨_, _, rfl, HR.out, Below.refl _ _⟩
    · exact ⟨_, _, rfl, HR.out, Lib.bytesWorld_below _ _ _⟩
  · refine (Tryd.strconv_Atoi_syntax ⟨p.toArray⟩ (by omega) (by rw [hl]; exact hc) (.iface t q) W h2 (Or.inr ⟨t, q, rfl⟩)).mono ?_
    rintro e w' ⟨N, rfl, _, _, hb⟩
    exact ⟨_, _, rfl, ⟨(fun u hu => by rw [hc] at hu; cases hu), fun _ => rfl⟩, hb⟩
  · refine (Tryd.strconv_Atoi_range ⟨p.toArray⟩ (by omega) (by rw [hl]; exact hc) (.iface t' q') W h3 (Or.inr ⟨t', q', rfl⟩)).mono ?_
    rintro e w' ⟨N, rfl, _, _, hb⟩
    exact ⟨_, _, rfl, ⟨(fun u hu => by rw [hc] at hu; cases hu), fun e => by subst e; simp [Lib.atoiAll] at hc⟩, hb⟩
theorem cut_any (p : List UInt8) (c : UInt8) (hp : p.length ≤ 100) (W : World) (hE : Env W) :
    Calls Tryd.prog 16 #[.string ⟨p.toArray⟩, .string ⟨#[c]⟩] W fun e w' => e = .returned (.tuple #[.string ⟨(Lib.cut p [c]).1.toArray⟩, .string ⟨(Lib.cut p [c]).2.1.toArray⟩, .bool (Lib.cut p [c]).2.2]) ∧ Below W.heap.size W w' := by
  have hs : (⟨p.toArray⟩ : ByteArray).size = p.length := by show p.toArray.size = _; simp
  obtain ⟨⟨m, h1⟩, _⟩ := hE
  refine (Tryd.strings_Cut ⟨p.toArray⟩ ⟨#[c]⟩ m W (by omega) h1).mono ?_
  rintro e w' ⟨rfl, n, rfl⟩
  exact ⟨by simp, below_dN (Below.refl _ _) _⟩
theorem cut_le (p : List UInt8) (c : UInt8) : (Lib.cut p [c]).1.length ≤ p.length ∧ (Lib.cut p [c]).2.1.length ≤ p.length := by
  unfold Lib.cut
  split
  · exact ⟨by rw [List.length_take]; omega, by rw [List.length_drop]; omega⟩
  · exact ⟨Nat.le_refl _, by simp⟩
/-- what is read of a reader's text is the reader -/
theorem read_back (m d r : Nat) (hm : m ≤ 2000) (hd : d ≤ 200) (hr : r ≤ 60) {a b c : Int} (ha : Reads (Lib.cut (tl m d r) [43]).1 a) (hb : Reads (Lib.cut (Lib.cut (tl m d r) [43]).2.1 [47]).1 b) (hc : Reads (Lib.cut (Lib.cut (tl m d r) [43]).2.1 [47]).2.1 c) : a = m ∧ b = d ∧ c = r := by
  rw [cut_tl] at ha hb hc
  have h1 := ha.1 _ (atoi_dec m hm)
  by_cases h0 : 0 < r
  · have e := cut_rest_yes d r h0
    simp only [e] at hb hc
    exact ⟨h1, hb.1 _ (atoi_dec d (by omega)), hc.1 _ (atoi_dec r (by omega))⟩
  · have e := cut_rest_no d r h0
    simp only [e] at hb hc
    exact ⟨h1, hb.1 _ (atoi_dec d (by omega)), by rw [hc.2 rfl]; omega⟩
/-- the reader of a text, or the zero of readers -/
def Ans (l : List UInt8) (W : World) (e : Ending) (w' : World) : Prop := ∃ a b c ok, e = .returned (.tuple #[.agg #[.int .i64 a, .int .i64 b, .int .i64 c], .bool ok]) ∧ Parsed l a b c ok ∧ (ok = false → a = 0 ∧ b = 0 ∧ c = 0) ∧ Below W.heap.size W w'
/-- a box with a reader -/
def B3 (W : World) (n : Nat) (a b c : Int) : Prop := n < W.heap.size ∧ W.heap[n]? = some (.cells #[.int .i64 a, .int .i64 b, .int .i64 c] 26 (0, 0))
theorem B3.on {W W' : World} {n : Nat} {a b c : Int} (h : B3 W n a b c) (hb : Below W.heap.size W W') : B3 W' n a b c := ⟨Nat.lt_of_lt_of_le h.1 hb.size, (hb.block _ h.1).trans h.2⟩
theorem B3.new (w : World) : B3 (w.alloc (.cells #[.int .i64 0, .int .i64 0, .int .i64 0] 26)) w.heap.size 0 0 0 := T2.new w
theorem B3.facts {W : World} {n : Nat} {a b c : Int} (h : B3 W n a b c) : W.cell? ⟨n, 0, none⟩ = some (.int .i64 a) ∧ W.cell? ⟨n, 1, none⟩ = some (.int .i64 b) ∧ W.cell? ⟨n, 2, none⟩ = some (.int .i64 c) ∧ W.frozen? ⟨n, 0, none⟩ = false ∧ W.frozen? ⟨n, 1, none⟩ = false ∧ W.frozen? ⟨n, 2, none⟩ = false :=
  ⟨cell_of_block h.2 0, cell_of_block h.2 1, cell_of_block h.2 2, unfrozen_of_block h.2 0, unfrozen_of_block h.2 1, unfrozen_of_block h.2 2⟩
theorem B3.set0 {W : World} {n : Nat} {a b c : Int} (h : B3 W n a b c) (x : Int) : B3 (W.setCell ⟨n, 0, none⟩ (.int .i64 x)) n x b c := ⟨by simpa using h.1, heap_setCell_same W n 0 _ _ _ h.2⟩
theorem B3.set1 {W : World} {n : Nat} {a b c : Int} (h : B3 W n a b c) (x : Int) : B3 (W.setCell ⟨n, 1, none⟩ (.int .i64 x)) n a x c := ⟨by simpa using h.1, heap_setCell_same W n 1 _ _ _ h.2⟩
theorem B3.set2 {W : World} {n : Nat} {a b c : Int} (h : B3 W n a b c) (x : Int) : B3 (W.setCell ⟨n, 2, none⟩ (.int .i64 x)) n a b x := ⟨by simpa using h.1, heap_setCell_same W n 2 _ _ _ h.2⟩
theorem ans_none {l : List UInt8} {W w' : World} (h : ¬ ∃ m d r : Nat, Rd.good m d r = true ∧ tl m d r = l) (hb : Below W.heap.size W w') : Ans l W (.returned (.tuple #[.agg #[.int .i64 0, .int .i64 0, .int .i64 0], .bool false])) w' :=
  ⟨0, 0, 0, false, rfl, parsed_no h, fun _ => ⟨rfl, rfl, rfl⟩, hb⟩
set_option maxRecDepth 100000 in
set_option maxHeartbeats 1000000 in
theorem iPR_long (l : List UInt8) (hl : l.length ≤ 1048576) (h : ¬ l.length ≤ 11) (w : World) : Calls Tryd.prog 9 #[.string ⟨l.toArray⟩] w (Ans l w) := by
  have hdec : decide ((11 : Int) < (l.length : Int)) = true := by simp; omega
  have hP := Lib.hid (show ¬ ∃ m d r : Nat, Rd.good m d r = true ∧ tl m d r = l from fun hh => h (rep_len hh))
  clear h
  go_enter Tryd.func9, Tryd.ntmps9
  go_wp2
  have T := (T2.new w).facts
  exact bodyPost_ret (v := .tuple #[.agg #[.int .i64 0, .int .i64 0, .int .i64 0], .bool false]) (by simp [results, Tryd.results9, go_sem, T.1, T.2.1, T.2.2.1]) rfl (ans_none hP.out (below_alloc1 _ _))
set_option maxRecDepth 100000 in
set_option maxHeartbeats 2000000 in
theorem iPR_short (l : List UInt8) (hl : l.length ≤ 11) (w : World) (hE : Env w) (hT : TabOn w) : Calls Tryd.prog 9 #[.string ⟨l.toArray⟩] w (Ans l w) := by
  have hdec : decide ((11 : Int) < (l.length : Int)) = false := by simp; omega
  have K := cut_le l 43
  have K2 := cut_le (Lib.cut l [43]).2.1 47
  have RB := Lib.hid (fun (m d r : Nat) (hg : Rd.good m d r = true) (e : tl m d r = l) {a b c : Int} (ha : Reads (Lib.cut l [43]).1 a) (hb : Reads (Lib.cut (Lib.cut l [43]).2.1 [47]).1 b) (hc : Reads (Lib.cut (Lib.cut l [43]).2.1 [47]).2.1 c) => (by
    have g := Rw.gfacts hg
    subst e
    exact read_back m d r (by omega) (by omega) (by omega) ha hb hc : a = m ∧ b = d ∧ c = r))
  have HE := Lib.hid (fun W' (h : Below w.heap.size w W') => hE.on h)
  have HT := Lib.hid hT
  have C1 := Lib.hid (fun W (hE : Env W) => cut_any l 43 (by omega) W hE)
  have C2 := Lib.hid (fun W (hE : Env W) => cut_any (Lib.cut l [43]).2.1 47 (by omega) W hE)
  generalize (Lib.cut l [43]).1 = p0 at *
  generalize (Lib.cut l [43]).2.1 = p1 at *
  generalize (Lib.cut l [43]).2.2 = x1 at *
  generalize (Lib.cut p1 [47]).1 = r0 at *
  generalize (Lib.cut p1 [47]).2.1 = r1 at *
  generalize (Lib.cut p1 [47]).2.2 = x2 at *
  have A1 := Lib.hid (fun W (hE : Env W) => atoi_any p0 (by omega) W hE)
  have A2 := Lib.hid (fun W (hE : Env W) => atoi_any r0 (by omega) W hE)
  have A3 := Lib.hid (fun W (hE : Env W) => atoi_any r1 (by omega) W hE)
  clear hE hT K K2
  go_enter Tryd.func9, Tryd.ntmps9
  have hba : Below w.heap.size w (w.alloc (.cells #[.int .i64 0, .int .i64 0, .int .i64 0] 26)) := below_alloc1 _ _
  have T0 := B3.new w
  have hsz0 : w.heap.size ≤ (w.alloc (.cells #[.int .i64 0, .int .i64 0, .int .i64 0] 26)).heap.size := hba.size
  go_wp2_with fail
  generalize w.alloc (.cells #[.int .i64 0, .int .i64 0, .int .i64 0] 26) = w0 at *
  refine (C1.out _ (HE.out _ hba)).mono ?_
  rintro e w1 ⟨rfl, hb1⟩
  have HB1 := Lib.hid hb1
  clear hb1
  go_wp2_with fail
  refine (C2.out _ (HE.out _ (hba.trans (below_le HB1.out hsz0)))).mono ?_
  rintro e w2 ⟨rfl, hb2⟩
  have HB2 := Lib.hid (HB1.out.trans (below_le hb2 HB1.out.size))
  clear hb2 HB1
  have HB3 := Lib.hid (HB2.out.alloc HB2.out.size (.cells #[.int .i64 0, .int .i64 0, .int .i64 0] 26))
  have R3 := B3.new w2
  have hn : w0.heap.size ≤ w2.heap.size := HB2.out.size
  clear HB2
  go_wp2_with fail
  refine (A1.out _ (HE.out _ (hba.trans (below_le HB3.out hsz0)))).mono ?_
  rintro e w4 ⟨a, x, rfl, ha, hb4⟩
  have HA := Lib.hid ha
  have HB4 := Lib.hid (HB3.out.trans (below_le hb4 HB3.out.size))
  have R4 := R3.on hb4
  have F4 := R4.facts
  obtain ⟨y0, y1, y2, f0, f1, f2⟩ := F4
  clear hb4 HB3 R3 ha
  have HB5 := Lib.hid (HB4.out.setCell (p := ⟨w2.heap.size, 0, none⟩) hn (.int .i64 a))
  have R5 := R4.set0 a
  go_wp2_with fail
  clear R4 y0 y1 y2 f0 f1 f2 HB4
  generalize w4.setCell ⟨w2.heap.size, 0, none⟩ (.int .i64 a) = W5 at *
  refine (A2.out _ (HE.out _ (hba.trans (below_le HB5.out hsz0)))).mono ?_
  rintro e w6 ⟨b, x', rfl, hb, hb6⟩
  have HBB := Lib.hid hb
  have HB6 := Lib.hid (HB5.out.trans (below_le hb6 HB5.out.size))
  have R6 := R5.on hb6
  obtain ⟨y0, y1, y2, f0, f1, f2⟩ := R6.facts
  clear hb6 HB5 R5 hb
  have HB7 := Lib.hid (HB6.out.setCell (p := ⟨w2.heap.size, 1, none⟩) hn (.int .i64 b))
  have R7 := R6.set1 b
  go_wp2_with fail
  clear R6 y0 y1 y2 f0 f1 f2 HB6
  generalize w6.setCell ⟨w2.heap.size, 1, none⟩ (.int .i64 b) = W7 at *
  refine (A3.out _ (HE.out _ (hba.trans (below_le HB7.out hsz0)))).mono ?_
  rintro e w8 ⟨c, x'', rfl, hc, hb8⟩
  have HCC := Lib.hid hc
  have HB8 := Lib.hid (HB7.out.trans (below_le hb8 HB7.out.size))
  have R8 := R7.on hb8
  obtain ⟨y0, y1, y2, f0, f1, f2⟩ := R8.facts
  clear hb8 HB7 R7 hc
  have HB9 := Lib.hid (HB8.out.setCell (p := ⟨w2.heap.size, 2, none⟩) hn (.int .i64 c))
  have R9 := R8.set2 c
  have K9 := R9.facts
  go_wp2_with fail
  clear R8 y0 y1 y2 f0 f1 f2 HB8
  generalize w8.setCell ⟨w2.heap.size, 2, none⟩ (.int .i64 c) = W9 at *
  obtain ⟨y0, y1, y2, f0, f1, f2⟩ := K9
  by_cases hg : Rd.good a b c = true
  · have gf := Rw.gfacts hg
    have HG := Lib.hid hg
    have HTW := tabOn_next HT.out (hba.trans (below_le HB9.out hsz0))
    have HPP := Lib.hid (fun (h : ¬ tl a.toNat b.toNat c.toNat = l) (hh : ∃ m d r : Nat, Rd.good m d r = true ∧ tl m d r = l) => (by
      obtain ⟨m, d, r, h1, h2⟩ := hh
      obtain ⟨rfl, rfl, rfl⟩ := RB.out m d r h1 h2 HA.out HBB.out HCC.out
      exact h (by simpa using h2) : False))
    clear HE RB hg
    obtain ⟨am, rfl⟩ := Int.eq_ofNat_of_zero_le gf.1
    obtain ⟨bm, rfl⟩ := Int.eq_ofNat_of_zero_le (show 0 ≤ b by omega)
    obtain ⟨cm, rfl⟩ := Int.eq_ofNat_of_zero_le (show 0 ≤ c by omega)
    simp only [Int.ofNat_eq_natCast, Int.toNat_natCast] at *
    refine (Rw.iRT_yes am bm cm HG.out _ HTW).mono ?_
    rw [tl_eq]
    rintro e w10 ⟨rfl, hb10⟩
    have HB10 := Lib.hid (HB9.out.trans (below_le hb10 HB9.out.size))
    have T10 := T0.on HB10.out
    have R10 := R9.on hb10
    have HB11 := Lib.hid (hba.trans (below_le HB10.out hsz0))
    obtain ⟨z0, z1, z2, g0, g1, g2⟩ := T10.facts
    clear y0 y1 y2 f0 f1 f2
    obtain ⟨y0, y1, y2, f0, f1, f2⟩ := R10.facts
    clear hb10 gf
    by_cases ht : tl am bm cm = l
    · have HY := Lib.hid (show Parsed l am bm cm true from ⟨fun _ => ⟨HG.out, by simpa using ht⟩, fun _ => rfl⟩)
      have q9 : (tl am bm cm == l) = true := by simpa using ht
      generalize tl am bm cm = tt at *
      clear ht HPP
      go_wp2
      exact bodyPost_ret (v := .tuple #[.agg #[.int .i64 am, .int .i64 bm, .int .i64 cm], .bool true]) (by simp [results, Tryd.results9, go_sem, z0, z1, z2]) rfl ⟨_, _, _, _, rfl, HY.out, (fun h => by cases h), below_set3 HB11.out⟩
    · have HN := Lib.hid (HPP.out ht)
      have q9 : (tl am bm cm == l) = false := by simpa using ht
      generalize tl am bm cm = tt at *
      clear ht HPP
      go_wp2
      exact bodyPost_ret (v := .tuple #[.agg #[.int .i64 0, .int .i64 0, .int .i64 0], .bool false]) (by simp [results, Tryd.results9, go_sem, z0, z1, z2]) rfl (ans_none HN.out (below_set3 HB11.out))
  · have HV := Lib.hid (Bool.eq_false_iff.mpr hg)
    refine (Rw.iRT_no a b c HV.out _).mono ?_
    rintro e w10 ⟨rfl, hb10⟩
    have HN := Lib.hid (show ¬ ∃ m d r : Nat, Rd.good m d r = true ∧ tl m d r = l from fun ⟨m, d, r, h1, h2⟩ => by
      obtain ⟨rfl, rfl, rfl⟩ := RB.out m d r h1 h2 HA.out HBB.out HCC.out
      exact hg h1)
    have HB10 := Lib.hid (HB9.out.trans (below_le hb10 HB9.out.size))
    have T10 := T0.on HB10.out
    have HB11 := Lib.hid (hba.trans (below_le HB10.out hsz0))
    obtain ⟨z0, z1, z2, g0, g1, g2⟩ := T10.facts
    clear hb10 hg
    go_wp2
    exact bodyPost_ret (v := .tuple #[.agg #[.int .i64 0, .int .i64 0, .int .i64 0], .bool false]) (by simp [results, Tryd.results9, go_sem, z0, z1, z2]) rfl (ans_none HN.out (below_set3 HB11.out))
end P
end Go.Proofs.YtcaklokcajidiabDoor
