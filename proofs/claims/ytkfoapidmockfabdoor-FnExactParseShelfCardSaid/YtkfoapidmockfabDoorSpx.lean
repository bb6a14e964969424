/- What shParse answers of a text of two parts. -/
import Derived.Test.YtkfoapidmockfabDoorSpw
import Derived.Deep.RegionLaw
namespace Go.Proofs.YtkfoapidmockfabDoor
open Go.RowKit Go.Joins Go.Deep
set_option linter.unusedVariables false
set_option linter.unusedSimpArgs false
namespace Spw
open Sh P
theorem sp_part (c : UInt8) (l : List UInt8) : ∀ p ∈ sp c l, p.length ≤ l.length := by
  induction l with
  | nil => intro p h; simp [sp] at h; rw [h]; exact Nat.le_refl _
  | cons x xs ih =>
    intro p h
    unfold sp at h
    split at h
    · rcases List.mem_cons.mp h with rfl | h
      · simp
      · have := ih p h; simp; omega
    · rcases List.mem_cons.mp h with rfl | h
      · cases hs : sp c xs with
        | nil => simp
        | cons q r => have := ih q (by rw [hs]; simp); simp; omega
      · have := ih p (List.mem_of_mem_tail h); simp; omega
theorem strs_at (ps : List (List UInt8)) (j : Nat) (h : j < ps.length) : (P.strs ps)[j]? = some (.string ⟨(ps.getD j []).toArray⟩) := by
  simp [P.strs, List.getD, List.getElem?_eq_getElem h]
theorem part_at {W : World} {base g n cap : Nat} {L : List (List UInt8)} (h : W.ownsRow base 9 1 (.slice (some ⟨g, 0, none⟩) n cap) n (P.strs L)) (hn : L.length = n) {k : Nat} (hk : k < n) : ∃ q, Hid (L.getD k [] = q) ∧ W.cell? ⟨g, k, none⟩ = some (.string ⟨q.toArray⟩) :=
  ⟨_, Lib.hid rfl, (h.cellAt k (by omega)).trans (strs_at L k (by omega))⟩
theorem getD_mem (L : List (List UInt8)) (k : Nat) (h : k < L.length) : L.getD k [] ∈ L := by
  simp [List.getD, List.getElem?_eq_getElem h]
theorem nums_next (L : List (List UInt8)) (k : Nat) (q : List UInt8) (hk : k < L.length) (hq : L.getD k [] = q) : Li.nums ((L.map rdS).take (k + 1)) = Li.nums ((L.map rdS).take k) ++ [.int .i64 (rdS q)] := by
  rw [List.take_succ_eq_append_getElem (by simpa using hk)]
  simp [Li.nums]
  rw [← hq]
  simp [List.getD, hk]
theorem gv_yes {os : List Int} {n g cap : Nat} {c : Int} {W w' : World} (hn : os.length = n) (ho : Ow w' W.heap.size g n cap os) (hb : Below W.heap.size W w') : Gv true os c W (.returned (.tuple #[.agg #[.slice (some ⟨g, 0, none⟩) n cap, .int .i64 c], .bool true])) w' := by
  subst hn
  exact ⟨_, rfl, ho, hb⟩
theorem rfl_set {W : World} {b : Nat} {T : TypeId} {x y u : Value} (h : Arr W b T ((#[x, y] : Array Value).setIfInBounds 0 u)) : Arr W b T #[u, y] := h
def Rel (w : World) (S bb B0 g2 n cp2 : Nat) (L : List (List UInt8)) (c : Int) (k : Nat) (p : Option Addr) (cp : Nat) (wr : World) : Prop :=
  (Arr wr S 45 #[.slice p k cp, .int .i64 c] ∧ Arr wr w.heap.size 45 #[.slice none 0 0, .int .i64 0]) ∧ wr.ownsRow B0 3 1 (.slice p k cp) k (Li.nums ((L.map rdS).take k)) ∧ wr.ownsRow bb 9 1 (.slice (some ⟨g2, 0, none⟩) n cp2) n (P.strs L) ∧ Below w.heap.size w wr ∧ B0 ≤ wr.heap.size
set_option maxRecDepth 100000 in
set_option maxHeartbeats 4000000 in
theorem s_read (l x y : List UInt8) (h34 : l.length ≤ 34) (h2 : sp 99 l = [x, y]) (ok : Bool) (hok : good ((sp 44 x).map rdS) (rdS y) = ok) (w : World) :
    Calls Tryd.prog 57 #[.string ⟨l.toArray⟩] w (Gv ok (if ok = true then (sp 44 x).map rdS else []) (if ok = true then rdS y else 0) w) := by
  have hj := join_sp 99 l
  rw [h2, Lib.join_cons] at hj
  have hxy : x.length ≤ 34 ∧ y.length ≤ 34 := by
    have := congrArg List.length hj
    simp [Lib.joinTail] at this
    omega
  have CS : Hid (∀ W : World, Calls Tryd.prog 50 #[.string ⟨l.toArray⟩, .int .u8 99] W fun e w' => ∃ v, e = .returned v ∧ w'.ownsRow W.heap.size 9 1 v 2 (P.strs [x, y]) ∧ Below W.heap.size W w') := Lib.hid (fun W => by
    have := l1Split_any l 99 (by omega) W
    rw [h2] at this
    exact this)
  have CX : Hid (∀ W : World, Calls Tryd.prog 50 #[.string ⟨x.toArray⟩, .int .u8 44] W fun e w' => ∃ v, e = .returned v ∧ w'.ownsRow W.heap.size 9 1 v (sp 44 x).length (P.strs (sp 44 x)) ∧ Below W.heap.size W w') := Lib.hid (fun W => l1Split_any x 44 (by omega) W)
  have CY := Lib.hid (fun W => l1Read_any y (by omega) W)
  have HP := Lib.hid (sp_part 44 x)
  have hn1 := sp_pos 44 x
  have hn2 := sp_le 44 x
  have CP := Lib.hid (fun (q : List UInt8) (hq : q ∈ sp 44 x) (W : World) => l1Read_any q (by have := HP.out q hq; omega) W)
  obtain ⟨c, hc⟩ : ∃ c, rdS y = c := ⟨_, rfl⟩
  rw [hc] at CY hok
  rw [hc]
  obtain ⟨L, hL⟩ : ∃ L, sp 44 x = L := ⟨_, rfl⟩
  rw [hL] at CX hn1 hn2 CP hok HP
  rw [hL]
  obtain ⟨n, hn⟩ : ∃ n, L.length = n := ⟨_, rfl⟩
  rw [hn] at CX hn1 hn2
  obtain ⟨os, hos⟩ : ∃ os, (if ok = true then L.map rdS else []) = os := ⟨_, rfl⟩
  obtain ⟨co, hco⟩ : ∃ co, (if ok = true then c else 0) = co := ⟨_, rfl⟩
  rw [hos, hco]
  have HOS := Lib.hid hos
  have HCO := Lib.hid hco
  have HN := Lib.hid hn
  have HOK := Lib.hid hok
  have hR0 := Arr.new w #[.slice none 0 0, .int .i64 0] 45
  have HB0 := Lib.hid (below_alloc1 w (.cells #[.slice none 0 0, .int .i64 0] 45))
  have HR := Lib.hid hR0
  have hsz : ((⟨l.toArray⟩ : ByteArray).size : Int) = (l.length : Int) := by show (l.toArray.size : Int) = _; simp
  have d1 : decide ((34 : Int) < (l.length : Int)) = false := by simp; omega
  clear hR0 hj h2 hc hL hn hok HP hos hco
  go_enter Tryd.func57, Tryd.ntmps57
  go_wp2_with fail
  refine (CS.out _).mono ?_
  rintro e w1 ⟨v1, rfl, o1, hb⟩
  obtain ⟨g1, cp1, rfl⟩ := some_of o1 (by simp)
  have HR1 := Lib.hid (HR.out.on hb)
  have HB1 := Lib.hid (HB0.out.trans (hb.mono HB0.out.size))
  have n0 : w1.cell? ⟨g1, 0, none⟩ = some (.string ⟨x.toArray⟩) := (o1.cellAt 0 (by simp)).trans rfl
  have n1 : w1.cell? ⟨g1, 1, none⟩ = some (.string ⟨y.toArray⟩) := (o1.cellAt 1 (by simp)).trans rfl
  have hg1 := (o1.lt g1 rfl).2
  have HO1 := Lib.hid o1
  clear hb o1
  go_wp2_with (first | (go_at_call 51; refine (CY.out _).mono ?_; rintro e w' ⟨rfl, rfl⟩))
  have hs1 : w.heap.size < w1.heap.size := HR1.out.lt
  refine (CX.out _).mono ?_
  rintro e w2 ⟨v2, rfl, o2, hb⟩
  obtain ⟨g2, cp2, rfl⟩ := some_of o2 hn1
  have HS2 := Lib.hid (((Arr.new w1 #[.slice none 0 0, .int .i64 c] 45)).on hb)
  have HR2 := Lib.hid ((HR1.out.alloc _).on hb)
  have HB2 := Lib.hid ((HB1.out.alloc HB1.out.size (.cells #[.slice none 0 0, .int .i64 c] 45)).trans (hb.mono (by have := HB1.out.size; simp; omega)))
  have hs2 : w1.heap.size + 1 ≤ w2.heap.size := by have := hb.size; simpa using this
  have O2 := Lib.hid (Li.own_le o2 (show w1.heap.size + 1 ≤ _ by simp))
  have hg2 := (o2.lt g2 rfl).2
  clear hb o2 n0 n1 hg1
  go_wp2_with fail
  go_loopw [29] (fun i wr => ∃ (k : Nat) (p : Option Addr) (cp : Nat), k ≤ n ∧ i = .int .i64 (k : Int) ∧ Rel w w1.heap.size (w1.heap.size + 1) w2.heap.size g2 n cp2 L c k p cp wr) (fun i _ => ((n : Int) - intOf i).toNat)
  case atStart => exact ⟨0, none, 0, by omega, rfl, ⟨HS2.out, HR2.out⟩, World.ownsRow_nil _ _ _ _, O2.out, HB2.out, Nat.le_refl _⟩
  case round =>
    obtain ⟨k, p, cp, hk, rfl, hrel2⟩ := hrel
    have HQ := Lib.hid hrel2
    obtain ⟨⟨hS, hRr⟩, hown, hparts, hbw, hsz2⟩ := hrel2
    have s0 : wr.cell? ⟨w1.heap.size, 0, none⟩ = some (.slice p k cp) := hS.cell (j := 0) rfl
    have s1 : wr.cell? ⟨w1.heap.size, 1, none⟩ = some (.int .i64 c) := hS.cell (j := 1) rfl
    by_cases hlt : (k : Int) < n
    · have hk2 : k < n := by omega
      obtain ⟨q, HQK, hcq⟩ := part_at hparts HN.out hk2
      have hqL : q ∈ L := by rw [← HQK.out]; exact getD_mem L k (by rw [HN.out]; omega)
      obtain ⟨z, hz⟩ : ∃ z, rdS q = z := ⟨_, rfl⟩
      have C1 := Lib.hid (CP.out q hqL)
      rw [hz] at C1
      have NX := Lib.hid (nums_next L k q (by rw [HN.out]; omega) HQK.out)
      rw [hz] at NX
      obtain ⟨i0, hi, hz0, hz1, hz2⟩ := info_parts Li.info3
      have hw1 := hS.lt
      have hb1 : w1.heap.size < w2.heap.size := by omega
      have hownX : (wr.drew.alloc (.cells #[.int .i64 z] 3)).ownsRow w2.heap.size 3 1 (.slice p k cp) k (Li.nums ((L.map rdS).take k)) := World.ownsRow.alloc (show wr.drew.ownsRow w2.heap.size 3 1 (.slice p k cp) k _ from hown) _
      have hne : ∀ b, b < w2.heap.size → some b ≠ (Value.slice p k cp).ownBlock := fun b hb e => by have := (hown.lt b e.symm).1; omega
      have HOX := Lib.hid hownX
      have HNE := Lib.hid hne
      have HLT := Lib.hid (fun j hj => (hown.lt j hj).1)
      have HSX := Lib.hid ((show Arr wr.drew w1.heap.size _ _ from hS).alloc (.cells #[.int .i64 z] 3))
      have HRX := Lib.hid ((show Arr wr.drew w.heap.size _ _ from hRr).alloc (.cells #[.int .i64 z] 3))
      have HPX := Lib.hid (World.ownsRow.alloc (show wr.drew.ownsRow _ 9 1 _ n _ from hparts) (.cells #[.int .i64 z] 3))
      have HBX := Lib.hid (hbw.drew.alloc hbw.size (.cells #[.int .i64 z] 3))
      have hs3 : w2.heap.size ≤ wr.heap.size := hsz2
      clear hS hRr hown hparts hbw hz hownX hne
      go_wp2_with fail
      go_region_law (first
        | (go_simp; go_at_call 51; refine (C1.out _).mono ?_; rintro e w' ⟨rfl, rfl⟩; go_wp2_with fail)
        | (refine step_append_lies _ rfl (.tmp 34) (.tmp 37) 26 rfl w2.heap.size 3 i0 (.int .i64 0) 1 8 Tryd.underlying26 hi hz0 hz1 hz2 rfl (by decide) _ k (Li.nums ((L.map rdS).take k)) (by simp [Act.eval, Act.put]) HOX.out ⟨wr.heap.size, 0, none⟩ 1 1 [.int .i64 z] (by simp [Act.eval, Act.put]) rfl (cell_one_new _ _ _) (fun u hu => by simp at hu; subst hu; rfl) (by omega) (by unfold maxLen; omega) (by omega) (by simp; omega) (wr.heap.size + 1) (by simp) ?_; intro g' cp' w' ho' hg' hor' hlt'; have HS' := Lib.hid (HSX.out.grown hg' (HNE.out _ hb1)); have s0' : w'.cell? ⟨w1.heap.size, 0, none⟩ = some (.slice p k cp) := HS'.out.cell (j := 0) rfl; have f0' := HS'.out.frozen 0))
      all_goals
        go_wp2_with fail
        go_roundw
        case rel =>
          have hSR := rfl_set (HS'.out.set 0 (.slice (some ⟨g', 0, none⟩) (k + 1) cp'))
          have hsz' : wr.heap.size + 1 ≤ w'.heap.size := by have := hg'.size; simpa using this
          refine ⟨k + 1, some ⟨g', 0, none⟩, cp', by omega, by go_num, ⟨hSR, (HRX.out.grown hg' (HNE.out _ (by omega))).other (by omega) _ _⟩, ?_, ?_, ?_, ?_⟩
          · rw [NX.out]
            exact ownsRow_setCell_below ho' (a := ⟨w1.heap.size, 0, none⟩) hb1 _
          · exact ownsRow_setCell_below (HPX.out.kept hg' (_root_.Or.inr (HNE.out g2 hg2))) (a := ⟨w1.heap.size, 0, none⟩) (by simp) _
          · exact (HBX.out.grown hg' HBX.out.size (fun j hj => by have := HLT.out j hj; omega)).setCell (p := ⟨w1.heap.size, 0, none⟩) (by simp; omega) _
          · simp; omega
        case measure => simp [intOf]; omega
    · have ek : k = n := by omega
      subst ek
      obtain ⟨gz, cz, ez⟩ := some_of hown (by omega)
      injection ez with ez1 _ ez2
      subst ez1
      have et : (L.map rdS).take k = L.map rdS := List.take_of_length_le (by rw [List.length_map, HN.out]; exact Nat.le_refl _)
      rw [et] at hown
      have HOW := Lib.hid (show Ow wr w2.heap.size gz k cp (L.map rdS) from hown)
      have CG := Lib.hid (sGood_any (c := c) HOW.out (by omega) ok HOK.out)
      have HSS := Lib.hid hS
      have HRR := Lib.hid hRr
      have HBW := Lib.hid hbw
      have EL := Lib.hid (show (L.map rdS).length = k by rw [List.length_map, HN.out])
      have hw2 : w.heap.size < w2.heap.size := by have := HR2.out.lt; omega
      clear hS hRr hown hparts hbw et ez2
      go_wp2_with fail
      refine CG.out.mono ?_
      rintro e w3 ⟨rfl, hb⟩
      have HR3 := Lib.hid (HRR.out.on hb)
      have HB3 := Lib.hid (HBW.out.trans (hb.mono HBW.out.size))
      have HO3 := Lib.hid (Li.own_on HOW.out hb)
      have hS3 := HSS.out.on hb
      have hf0 := HR3.out.frozen 0
      have hf1 := HR3.out.frozen 1
      have hr0 : w3.cell? ⟨w.heap.size, 0, none⟩ = some (.slice none 0 0) := HR3.out.cell (j := 0) rfl
      have hr1 : w3.cell? ⟨w.heap.size, 1, none⟩ = some (.int .i64 0) := HR3.out.cell (j := 1) rfl
      have t0 : w3.cell? ⟨w1.heap.size, 0, none⟩ = some (.slice (some ⟨gz, 0, none⟩) k cp) := hS3.cell (j := 0) rfl
      have t1 : w3.cell? ⟨w1.heap.size, 1, none⟩ = some (.int .i64 c) := hS3.cell (j := 1) rfl
      clear hb s0 s1 hS3
      cases ok with
      | false =>
        have e1 : os = [] := by rw [← HOS.out]; rfl
        have e2 : co = 0 := by rw [← HCO.out]; rfl
        subst e1 e2
        go_wp2_with fail
        have HX := arr2 HR3.out (.slice none 0 0) (.int .i64 0)
        have hB := (HB3.out.setCell (p := ⟨w.heap.size, 0, none⟩) (Nat.le_refl _) (.slice none 0 0)).setCell (p := ⟨w.heap.size, 1, none⟩) (Nat.le_refl _) (.int .i64 0)
        clear hf0 hf1 hr0 hr1 t0 t1
        revert HX hB
        generalize ((w3.setCell ⟨w.heap.size, 0, none⟩ (.slice none 0 0)).setCell ⟨w.heap.size, 1, none⟩ (.int .i64 0)) = W8
        intro ⟨z0, z1⟩ hB
        exact bodyPost_ret (v := .tuple #[.agg #[.slice none 0 0, .int .i64 0], .bool false]) (by simp [results, Tryd.results57, go_sem, z0, z1]) rfl (Gv.none hB)
      | true =>
        have e1 : os = L.map rdS := by rw [← HOS.out]; rfl
        have e2 : co = c := by rw [← HCO.out]; rfl
        subst e1 e2
        go_wp2_with fail
        have HX := arr2 HR3.out (.slice (some ⟨gz, 0, none⟩) k cp) (.int .i64 co)
        have hB := (HB3.out.setCell (p := ⟨w.heap.size, 0, none⟩) (Nat.le_refl _) (.slice (some ⟨gz, 0, none⟩) k cp)).setCell (p := ⟨w.heap.size, 1, none⟩) (Nat.le_refl _) (.int .i64 co)
        have hO8 := ownsRow_setCell_below (ownsRow_setCell_below HO3.out (a := ⟨w.heap.size, 0, none⟩) hw2 (.slice (some ⟨gz, 0, none⟩) k cp)) (a := ⟨w.heap.size, 1, none⟩) hw2 (.int .i64 co)
        clear hf0 hf1 hr0 hr1 t0 t1
        revert HX hB hO8
        generalize ((w3.setCell ⟨w.heap.size, 0, none⟩ (.slice (some ⟨gz, 0, none⟩) k cp)).setCell ⟨w.heap.size, 1, none⟩ (.int .i64 co)) = W8
        intro ⟨z0, z1⟩ hB hO8
        exact bodyPost_ret (v := .tuple #[.agg #[.slice (some ⟨gz, 0, none⟩) k cp, .int .i64 co], .bool true]) (by simp [results, Tryd.results57, go_sem, z0, z1]) rfl (gv_yes EL.out (Li.own_le hO8 (by omega)) hB)
end Spw
end Go.Proofs.YtkfoapidmockfabDoor
