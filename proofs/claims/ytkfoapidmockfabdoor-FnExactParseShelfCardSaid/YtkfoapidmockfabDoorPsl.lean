/- FnExactParseShelf's walk: both read the same shelf, or none. -/
import Derived.Test.YtkfoapidmockfabDoorIpy
namespace Go.Proofs.YtkfoapidmockfabDoor
open Go.RowKit Go.Joins Go.Deep
set_option linter.unusedVariables false
set_option linter.unusedSimpArgs false
namespace Spw
open Sh P
theorem eqS_own {b1 b2 : Nat} {v v' : Value} {os : List Int} {c : Int} {w : World} (h : w.ownsRow b1 3 1 v os.length (Li.nums os)) (h' : w.ownsRow b2 3 1 v' os.length (Li.nums os)) (hl : os.length ≤ 1048576) :
    Calls Tryd.prog 30 #[.agg #[v, .int .i64 c], .agg #[v', .int .i64 c]] w (Ret (.bool true) w) := by
  have HO := Lib.hid h
  have HO' := Lib.hid h'
  rcases Li.own_forms h with ⟨rfl, h0⟩ | ⟨g, cap, rfl⟩ <;> rcases Li.own_forms h' with ⟨rfl, h0'⟩ | ⟨g', cap', rfl⟩
  all_goals
    clear h h'
    try clear h0
    try clear h0'
    go_enter Tryd.func30, Tryd.ntmps30
    go_wp2_with fail
    refine (Li.eqIntS_own (Li.own_on HO.out ((below_alloc1 _ _).alloc (by simp) _)) (Li.own_on HO'.out ((below_alloc1 _ _).alloc (by simp) _)) hl).mono ?_
    rintro e w1 ⟨rfl, hb⟩
    obtain ⟨hc, hf⟩ := bcell hb
    have hz : w.heap.size + 1 < w1.heap.size := by have := hb.size; simp at this; omega
    have HB := Lib.hid hb
    clear hb
    go_wp2
    go_ret
    exact ⟨rfl, ((below_alloc1 _ _).alloc (by simp) _).trans (HB.out.mono (by simp; omega))⟩
theorem markS_own {b1 n : Nat} {v : Value} {xs : List Value} {c : Int} {w : World} (h : w.ownsRow b1 3 1 v n xs) (hl : n ≤ 1048576) :
    Calls Tryd.prog 33 #[.agg #[v, .int .i64 c], .int .i64 1] w fun e w' => e = .returned (.int .i64 ((n : Int) + 1)) ∧ w'.ownsRow b1 3 1 v n (Li.nums (Li.marks n)) ∧ w.grownBy w' v.ownBlock := by
  have HO := Lib.hid h
  rcases Li.own_forms h with ⟨rfl, h0⟩ | ⟨g, cap, rfl⟩
  all_goals
    clear h
    try clear h0
    go_enter Tryd.func33, Tryd.ntmps33
    go_wp2_with fail
    refine (Li.markIntS_own (Li.own_on HO.out (below_alloc1 _ _)) hl).mono ?_
    rintro e w1 ⟨rfl, ho, hg⟩
    have HO1 := Lib.hid ho
    have HG1 := Lib.hid (show w.grownBy w1 _ from ⟨hg.os, hg.tape, hg.output, by have := hg.size; simp at this; omega, fun k hk hr => (hg.block k (by simp; omega) hr).trans ((below_alloc1 w _).block k hk)⟩)
    clear ho hg
    go_wp2
    go_ret
    exact ⟨rfl, HO1.out, HG1.out⟩
theorem heldS_own {b1 n : Nat} {v : Value} {c : Int} {w : World} (h : w.ownsRow b1 3 1 v n (Li.nums (Li.marks n))) (hl : n ≤ 1048576) :
    Calls Tryd.prog 34 #[.agg #[v, .int .i64 c], .int .i64 1] w (Ret (.int .i64 ((n : Int) + 1)) w) := by
  have t1 : decide ((n : Int) + 1 < 0) = false := by simp; omega
  have HO := Lib.hid h
  rcases Li.own_forms h with ⟨rfl, h0⟩ | ⟨g, cap, rfl⟩
  all_goals
    clear h
    try clear h0
    go_enter Tryd.func34, Tryd.ntmps34
    go_wp2_with fail
    refine (Li.heldIntS_own (Li.own_on HO.out (below_alloc1 _ _)) hl).mono ?_
    rintro e w' ⟨rfl, rfl⟩
    go_wp2
    go_ret
    exact ⟨rfl, below_alloc1 _ _⟩
theorem own_slice {base n : Nat} {v : Value} {xs : List Value} {w : World} (h : w.ownsRow base 3 1 v n xs) : ∃ p cap, v = .slice p n cap := by
  rcases Li.own_forms h with ⟨rfl, rfl⟩ | ⟨g, cap, rfl⟩
  · exact ⟨none, 0, rfl⟩
  · exact ⟨some ⟨g, 0, none⟩, cap, rfl⟩

theorem shParse_any (l : List UInt8) (hl : l.length ≤ 1048576) (w : World) : Calls Tryd.prog 57 #[.string ⟨l.toArray⟩] w (Ans l w) := by
  by_cases h34 : l.length ≤ 34
  · by_cases h2 : (sp 99 l).length = 2
    · obtain ⟨x, y, e⟩ : ∃ x y, sp 99 l = [x, y] := by
        match hs : sp 99 l, h2 with
        | [x, y], _ => exact ⟨x, y, rfl⟩
      cases hg : good ((sp 44 x).map rdS) (rdS y) with
      | true =>
        refine (s_read l x y h34 e true hg w).mono fun en w' h => ⟨true, _, _, h, fun _ => ?_, fun h => by cases h⟩
        have hok := (good_iff _ _).1 hg
        exact ⟨hok, read_only l x y e hok⟩
      | false =>
        refine (s_read l x y h34 e false hg w).mono fun en w' h => ⟨false, _, _, h, (fun h => by cases h), fun _ => ⟨rfl, rfl, fun zs c hi => ?_⟩⟩
        have e1 := hi.2 ▸ e
        rw [sp_tx] at e1
        injection e1 with e2 e3
        injection e3 with e4
        rw [← e2, ← e4, sp_sjl _ hi.1.1, wr_backS _ _ hi.1, c_back _ _ hi.1, (good_iff zs c).2 hi.1] at hg
        cases hg
    · exact (s_not l hl (_root_.Or.inr h2) w).mono fun en w' h => ⟨false, _, _, h, (fun h => by cases h), fun _ => ⟨rfl, rfl, none_parts h2⟩⟩
  · exact (s_not l hl (_root_.Or.inl h34) w).mono fun en w' h => ⟨false, _, _, h, (fun h => by cases h), fun _ => ⟨rfl, rfl, none_long h34⟩⟩
theorem agree {l : List UInt8} {ok ok' : Bool} {os os' : List Int} {c c' : Int} (h1 : ok = true → Is l os c) (h2 : ok = false → os = [] ∧ c = 0 ∧ ∀ zs c, ¬ Is l zs c) (h1' : ok' = true → Is l os' c') (h2' : ok' = false → os' = [] ∧ c' = 0 ∧ ∀ zs c, ¬ Is l zs c) : ok = ok' ∧ os = os' ∧ c = c' := by
  cases ok with
  | true =>
    cases ok' with
    | true => obtain ⟨e1, e2⟩ := is_one (h1 rfl) (h1' rfl); exact ⟨rfl, e1, e2⟩
    | false => exact absurd (h1 rfl) ((h2' rfl).2.2 _ _)
  | false =>
    cases ok' with
    | true => exact absurd (h1' rfl) ((h2 rfl).2.2 _ _)
    | false => exact ⟨rfl, (h2 rfl).1.trans (h2' rfl).1.symm, (h2 rfl).2.1.trans (h2' rfl).2.1.symm⟩
theorem os_short {l : List UInt8} {ok : Bool} {os : List Int} {c : Int} (h1 : ok = true → Is l os c) (h2 : ok = false → os = [] ∧ c = 0 ∧ ∀ zs c, ¬ Is l zs c) : os.length ≤ 8 := by
  cases ok with
  | true => exact (h1 rfl).1.2.1
  | false => rw [(h2 rfl).1]; exact Nat.zero_le _
set_option maxRecDepth 100000 in
set_option maxHeartbeats 2000000 in
theorem sPS (l : List UInt8) (hl : l.length ≤ 1048576) (w : World) : Calls Tryd.prog 31 #[.string ⟨l.toArray⟩] w (Ans l w) := by
  have C := Lib.hid (fun W => shParse_any l hl W)
  have HR := Lib.hid (Arr.new w #[.slice none 0 0, .int .i64 0] 45)
  have HB0 := Lib.hid (below_alloc1 w (.cells #[.slice none 0 0, .int .i64 0] 45))
  clear hl
  go_enter Tryd.func31, Tryd.ntmps31
  go_wp2_with fail
  refine (C.out _).mono ?_
  rintro e w1 ⟨ok, os, c, ⟨v, rfl, o1, hb⟩, h1, h2⟩
  obtain ⟨p, cp, rfl⟩ := own_slice o1
  have H1 := Lib.hid h1
  have H2 := Lib.hid h2
  have HR1 := Lib.hid (HR.out.on hb)
  have HB1 := Lib.hid (HB0.out.trans (hb.mono HB0.out.size))
  have HO1 := Lib.hid o1
  have hw1 : w.heap.size < w1.heap.size := HR1.out.lt
  have f0 := HR1.out.frozen 0
  have f1 := HR1.out.frozen 1
  have r0 : w1.cell? ⟨w.heap.size, 0, none⟩ = some (.slice none 0 0) := HR1.out.cell (j := 0) rfl
  have r1 : w1.cell? ⟨w.heap.size, 1, none⟩ = some (.int .i64 0) := HR1.out.cell (j := 1) rfl
  clear hb h1 h2 o1
  go_wp2_with fail
  have HX := arr2 HR1.out (.slice p os.length cp) (.int .i64 c)
  have hB := (HB1.out.setCell (p := ⟨w.heap.size, 0, none⟩) (Nat.le_refl _) (.slice p os.length cp)).setCell (p := ⟨w.heap.size, 1, none⟩) (Nat.le_refl _) (.int .i64 c)
  have hO8 := ownsRow_setCell_below (ownsRow_setCell_below HO1.out (a := ⟨w.heap.size, 0, none⟩) (by simp) (.slice p os.length cp)) (a := ⟨w.heap.size, 1, none⟩) (by simp) (.int .i64 c)
  clear f0 f1 r0 r1
  revert HX hB hO8
  generalize ((w1.setCell ⟨w.heap.size, 0, none⟩ (.slice p os.length cp)).setCell ⟨w.heap.size, 1, none⟩ (.int .i64 c)) = W8
  intro ⟨z0, z1⟩ hB hO8
  exact bodyPost_ret (v := .tuple #[.agg #[.slice p os.length cp, .int .i64 c], .bool ok]) (by simp [results, Tryd.results31, go_sem, z0, z1]) rfl ⟨ok, os, c, ⟨_, rfl, Li.own_le hO8 (by simp), hB⟩, H1.out, H2.out⟩
theorem b2_grown {W W' : World} {b : Nat} {x y : Value} {row : Option Nat} (h : Sh.B2 W b x y) (hg : W.grownBy W' row) (hr : row ≠ some b) : Sh.B2 W' b x y :=
  ⟨Nat.lt_of_lt_of_le h.1 hg.size, (World.cell?_of_block (w := W) (hg.block b h.1 (fun e => hr e.symm))).trans h.2.1, (World.cell?_of_block (w := W) (hg.block b h.1 (fun e => hr e.symm))).trans h.2.2⟩
set_option maxRecDepth 100000 in
theorem law_long (s : ByteArray) (hs : (1048576 : Int) < (s.size : Int)) (w : World) :
    Calls Tryd.prog 8 #[.string s] w fun e w' => e = .returned (.bool true) ∧ Below w.heap.size w w' := by
  go_enter Tryd.func8, Tryd.ntmps8
  go_wp2_with fail
  go_ret
  exact ⟨rfl, Below.refl _ _⟩
set_option maxRecDepth 100000 in
set_option maxHeartbeats 2000000 in
theorem law_core (l : List UInt8) (hs : l.length ≤ 1048576) (w : World) (S : ∀ W : World, Calls Tryd.prog 31 #[.string ⟨l.toArray⟩] W (Ans l W))
    (I : ∀ W : World, Below w.heap.size w W → Calls Tryd.prog 32 #[.string ⟨l.toArray⟩] W (Ans l W)) :
    Calls Tryd.prog 8 #[.string ⟨l.toArray⟩] w fun e w' => e = .returned (.bool true) ∧ Below w.heap.size w w' := by
  have HS := Lib.hid S
  have HI := Lib.hid I
  have hdec : decide ((1048576 : Int) < (l.length : Int)) = false := by simp; omega
  clear S I
  go_enter Tryd.func8, Tryd.ntmps8
  go_wp2_with fail
  refine (HS.out _).mono ?_
  rintro e w1 ⟨ok, os, c, ⟨v3, rfl, o1, hb⟩, h1, h2⟩
  obtain ⟨p3, cp3, rfl⟩ := own_slice o1
  have H1 := Lib.hid h1
  have H2 := Lib.hid h2
  have HB1 := Lib.hid hb
  have HB1a := Lib.hid (hb.alloc hb.size (.cells #[.slice p3 os.length cp3, .int .i64 c] 45))
  have s1 := World.ownsRow.alloc o1 (.cells #[.slice p3 os.length cp3, .int .i64 c] 45)
  have HV3 := Lib.hid (show ∀ k, (Value.slice p3 os.length cp3).ownBlock = some k → k < w1.heap.size + 1 from fun k hk => by have := (s1.lt k hk).2; simpa using this)
  have WB := Sh.B2.new w1 (.slice p3 os.length cp3) (.int .i64 c) 45
  clear hb h1 h2 o1
  go_wp2_with fail
  refine (HI.out _ HB1a.out).mono ?_
  rintro e w2 ⟨ok', os', c', ⟨v5, rfl, i2a, hb⟩, h1', h2'⟩
  obtain ⟨e1, e2, e3⟩ := agree h1' h2' H1.out H2.out
  subst e1 e2 e3
  obtain ⟨p5, cp5, rfl⟩ := own_slice i2a
  clear h1' h2'
  have ho8 := os_short H1.out H2.out
  have ho : os'.length ≤ 1048576 := by omega
  have hl2 : (0 : Int) ≤ os'.length := by omega
  have hl3 : (os'.length : Int) ≤ 1048576 := by omega
  have HV5 := Lib.hid (show ∀ k, (Value.slice p5 os'.length cp5).ownBlock = some k → w1.heap.size + 1 ≤ k ∧ k < w2.heap.size from fun k hk => by have := i2a.lt k hk; simpa using this)
  have HD := Lib.hid (show ((Value.slice p3 os'.length cp3).ownBlock = none ∨ (Value.slice p3 os'.length cp3).ownBlock ≠ (Value.slice p5 os'.length cp5).ownBlock) by
    cases h : (Value.slice p3 os'.length cp3).ownBlock with
    | none => exact _root_.Or.inl rfl
    | some q => exact _root_.Or.inr (fun e => by have a := HV3.out q h; have b := (HV5.out q e.symm).1; omega))
  have HB2 := Lib.hid (HB1a.out.trans (Sh.below_le hb HB1a.out.size))
  have HB2a := Lib.hid (HB2.out.alloc HB2.out.size (.cells #[.slice p5 os'.length cp5, .int .i64 c'] 45))
  have hw1 : w.heap.size ≤ w1.heap.size := HB1.out.size
  have G := Sh.B2.new w2 (.slice p5 os'.length cp5) (.int .i64 c') 45
  replace WB := WB.on hb
  have s2 := World.ownsRow.alloc (Li.own_on s1 hb) (.cells #[.slice p5 os'.length cp5, .int .i64 c'] 45)
  have i2 := World.ownsRow.alloc i2a (.cells #[.slice p5 os'.length cp5, .int .i64 c'] 45)
  clear hb s1 i2a HB1 HB1a
  obtain ⟨hltw, r0', r1'⟩ := id WB
  go_wp2_with fail
  refine (eqS_own i2 s2 ho).mono ?_
  rintro e w3 ⟨rfl, hb⟩
  have s3 := Li.own_on s2 hb
  have i3 := Li.own_on i2 hb
  have HB3 := Lib.hid (HB2a.out.trans (Sh.below_le hb HB2a.out.size))
  have WB3 := Lib.hid ((WB.on (below_alloc1 w2 _)).on hb)
  have G3 := G.on hb
  clear hb s2 i2 HB2 HB2a WB G r0' r1' hltw
  obtain ⟨-, y0', y1'⟩ := id G3
  go_wp2_with fail
  refine (markS_own i3 ho).mono ?_
  rintro e w4 ⟨rfl, m4, gm⟩
  have s4 := s3.kept gm HD.out
  have HB4 := Lib.hid (HB3.out.grown gm HB3.out.size (fun j hj => by have := (HV5.out j hj).1; omega))
  have WB4 := Lib.hid (b2_grown WB3.out gm (fun e => by have := (HV5.out _ e).1; omega))
  have G4 := b2_grown G3 gm (fun e => by have := (HV5.out _ e).2; omega)
  clear gm s3 i3 HB3 WB3 G3 y0' y1'
  obtain ⟨-, y0', y1'⟩ := id G4
  go_wp2_with fail
  refine (heldS_own m4 ho).mono ?_
  rintro e w5 ⟨rfl, hb⟩
  have s5 := Li.own_on s4 hb
  have m5 := Li.own_on m4 hb
  have HB5 := Lib.hid (HB4.out.trans (Sh.below_le hb HB4.out.size))
  have WB5 := Lib.hid (WB4.out.on hb)
  have G5 := Lib.hid (G4.on hb)
  clear hb s4 m4 HB4 WB4 G4 y0' y1'
  go_wp2_with fail
  refine (HI.out _ HB5.out).mono ?_
  rintro e w6 ⟨ok2, os2, c2, ⟨v6, rfl, i6a, hb⟩, h1', h2'⟩
  obtain ⟨e1, e2, e3⟩ := agree h1' h2' H1.out H2.out
  subst e1 e2 e3
  obtain ⟨p6, cp6, rfl⟩ := own_slice i6a
  clear h1' h2'
  have s6 := World.ownsRow.alloc (Li.own_on s5 hb) (.cells #[.slice p6 os2.length cp6, .int .i64 c2] 45)
  have m6 := World.ownsRow.alloc (Li.own_on m5 hb) (.cells #[.slice p6 os2.length cp6, .int .i64 c2] 45)
  have i6 := World.ownsRow.alloc i6a (.cells #[.slice p6 os2.length cp6, .int .i64 c2] 45)
  have HB6 := Lib.hid (HB5.out.trans (Sh.below_le hb HB5.out.size))
  have HB6a := Lib.hid (HB6.out.alloc HB6.out.size (.cells #[.slice p6 os2.length cp6, .int .i64 c2] 45))
  have WB6 := WB5.out.on hb
  have G6 := Lib.hid (G5.out.on hb)
  clear hb s5 m5 HB5 i6a WB5 G5 HB6
  obtain ⟨hltw, r0', r1'⟩ := id WB6
  go_wp2_with fail
  refine (eqS_own i6 s6 ho).mono ?_
  rintro e w7 ⟨rfl, hb⟩
  have m7 := Li.own_on m6 hb
  have HB7 := Lib.hid (HB6a.out.trans (Sh.below_le hb HB6a.out.size))
  have G7 := (G6.out.on (below_alloc1 w6 _)).on hb
  clear hb m6 s6 i6 HB6a WB6 G6 r0' r1' hltw
  obtain ⟨-, y0', y1'⟩ := id G7
  go_wp2_with fail
  refine (heldS_own m7 ho).mono ?_
  rintro e w8 ⟨rfl, hb⟩
  have HB8 := Lib.hid (HB7.out.trans (Sh.below_le hb HB7.out.size))
  clear hb m7 HB7 G7 y0' y1'
  go_wp2
  go_ret
  exact ⟨rfl, HB8.out⟩
end Spw
namespace P
theorem law_string (s : ByteArray) (w : World) (hE : Env w) (hT : TabOn w) :
    Calls Tryd.prog 8 #[.string s] w fun e w' => e = .returned (.bool true) ∧ Below w.heap.size w w' := by
  obtain ⟨l, hl⟩ : ∃ l : List UInt8, s = ⟨l.toArray⟩ := ⟨s.data.toList, by simp⟩
  have hs : s.size = l.length := by rw [hl]; show l.toArray.size = _; simp
  by_cases c1 : 1048576 < s.size
  · exact Spw.law_long s (by omega) w
  · subst hl
    refine Spw.law_core l (by omega) w (fun W => Spw.sPS l (by omega) W) (fun W hb => ?_)
    by_cases c2 : l.length ≤ 34
    · exact Spw.i_short l c2 W (hE.on hb) (fun W' hb' => hT W' (hb.trans (hb'.mono hb.size)))
    · exact Spw.i_long l (by omega) c2 W
end P
end Go.Proofs.YtkfoapidmockfabDoor
