/- What the program's ParseShelf answers of a text of at most 34 bytes. -/
import Derived.Test.YtkfoapidmockfabDoorIpx
import Derived.OneCell
namespace Go.Proofs.YtkfoapidmockfabDoor
open Go.RowKit Go.Joins Go.Deep
set_option linter.unusedVariables false
set_option linter.unusedSimpArgs false
namespace Spw
open Sh P
theorem nums_snoc (zs : List Int) (v : Int) : Li.nums (zs ++ [v]) = Li.nums zs ++ [.int .i64 v] := by simp [Li.nums]
theorem rfl_set1 {W : World} {b : Nat} {T : TypeId} {x y u : Value} (h : Arr W b T ((#[x, y] : Array Value).setIfInBounds 1 u)) : Arr W b T #[x, u] := h
set_option maxRecDepth 100000 in
set_option maxHeartbeats 4000000 in
theorem i_short (l : List UInt8) (h34 : l.length ≤ 34) (w : World) (hE : Env w) (hT : TabOn w) :
    Calls Tryd.prog 32 #[.string ⟨l.toArray⟩] w (Ans l w) := by
  have d1 : decide ((34 : Int) < (l.length : Int)) = false := by simp; omega
  have hsz : ((⟨l.toArray⟩ : ByteArray).size : Int) = (l.length : Int) := by show (l.toArray.size : Int) = _; simp
  have K := cut_le l 99
  have C1 := Lib.hid (fun W (hE : Env W) => cut_any l 99 (by omega) W hE)
  have RB := Lib.hid (fun (zs zs' : List Int) (c c' : Int) (h : Is l zs c) (hn : zs'.length = (sp 44 (Lib.cut l [99]).1).length) (hz : ∀ k, k < zs'.length → Reads ((sp 44 (Lib.cut l [99]).1).getD k []) (zs'.getD k 0)) (hc : Reads (Lib.cut l [99]).2.1 c') => read_is h hn hz hc)
  generalize (Lib.cut l [99]).1 = x at *
  generalize (Lib.cut l [99]).2.1 = y at *
  generalize (Lib.cut l [99]).2.2 = fnd at *
  have A1 := Lib.hid (fun W (hE : Env W) => atoi_any y (by omega) W hE)
  have S1 := Lib.hid (fun W (hE : Env W) => numbers_any 44 x (by omega) W hE)
  have hn1 := sp_pos 44 x
  have hn2 := sp_le 44 x
  unfold Sn at S1
  obtain ⟨L, hL⟩ : ∃ L, sp 44 x = L := ⟨_, rfl⟩
  rw [hL] at S1 hn1 hn2 RB
  obtain ⟨k, hn⟩ : ∃ k, L.length = k := ⟨_, rfl⟩
  rw [hn] at S1 hn1 hn2 RB
  have HE := Lib.hid (fun W' (h : Below w.heap.size w W') => hE.on h)
  have HT := Lib.hid (fun W' (h : Below w.heap.size w W') => (tabOn_next hT h : TabOn W'))
  have HR := Lib.hid (Arr.new w #[.slice none 0 0, .int .i64 0] 45)
  have HB0 := Lib.hid (below_alloc1 w (.cells #[.slice none 0 0, .int .i64 0] 45))
  clear hL hn hE hT
  go_enter Tryd.func32, Tryd.ntmps32
  go_wp2_with fail
  refine (C1.out _ (HE.out _ HB0.out)).mono ?_
  rintro e w0 ⟨rfl, hb⟩
  have HR1 := Lib.hid (HR.out.on hb)
  have HB1 := Lib.hid (HB0.out.trans (hb.mono HB0.out.size))
  clear hb
  go_wp2_with fail
  refine (S1.out _ (HE.out _ HB1.out)).mono ?_
  rintro e w1 ⟨gz, cp, zs, rfl, hown, ⟨hzk, hzr⟩, hb⟩
  have HZK := Lib.hid hzk
  have HZR := Lib.hid hzr
  have HRa := Lib.hid (HR1.out.on hb)
  have HBa := Lib.hid (HB1.out.trans (hb.mono HB1.out.size))
  have HBb := Lib.hid (HBa.out.alloc HBa.out.size (.cells #[.slice (some ⟨gz, 0, none⟩) k cp, .int .i64 0] 45))
  have hw3 : w.heap.size < w0.heap.size := HR1.out.lt
  have hgz := ow_lt hown
  have HOa := Lib.hid hown
  clear hb hown hzk hzr
  go_wp2_with fail
  refine (A1.out _ (HE.out _ HBb.out)).mono ?_
  rintro e w2 ⟨c, xe, rfl, hrc, hb⟩
  have HRC := Lib.hid hrc
  have HS2 := Lib.hid ((Arr.new w1 #[.slice (some ⟨gz, 0, none⟩) k cp, .int .i64 0] 45).on hb)
  have HR2 := Lib.hid ((HRa.out.alloc _).on hb)
  have HB2 := Lib.hid (HBb.out.trans (hb.mono HBb.out.size))
  have HO2 := Lib.hid (Li.own_on (World.ownsRow.alloc HOa.out (.cells #[.slice (some ⟨gz, 0, none⟩) k cp, .int .i64 0] 45)) hb)
  have hs2 : w1.heap.size + 1 ≤ w2.heap.size := by have := hb.size; simpa using this
  have hs1 : w.heap.size < w1.heap.size := HRa.out.lt
  have y1 : w2.cell? ⟨w1.heap.size, 1, none⟩ = some (.int .i64 0) := HS2.out.cell (j := 1) rfl
  have f1 := HS2.out.frozen 1
  have H3 := Lib.hid (show (Arr (w2.setCell ⟨w1.heap.size, 1, none⟩ (.int .i64 c)) w1.heap.size 45 #[.slice (some ⟨gz, 0, none⟩) k cp, .int .i64 c] ∧ Arr (w2.setCell ⟨w1.heap.size, 1, none⟩ (.int .i64 c)) w.heap.size 45 #[.slice none 0 0, .int .i64 0]) ∧ Below w.heap.size w (w2.setCell ⟨w1.heap.size, 1, none⟩ (.int .i64 c)) ∧ Ow (w2.setCell ⟨w1.heap.size, 1, none⟩ (.int .i64 c)) w0.heap.size gz k cp zs from
    ⟨⟨rfl_set1 (HS2.out.set 1 (.int .i64 c)), HR2.out.other (by omega) _ _⟩, HB2.out.setCell (p := ⟨w1.heap.size, 1, none⟩) (by simp; omega) _, ownsRow_setCell_other HO2.out (a := ⟨w1.heap.size, 1, none⟩) (fun e => by injection e with e; have := hgz.2; simp at e; omega) _⟩)
  clear hb hrc
  have RR := Lib.hid (fun (zs' : List Int) (c' : Int) (h : Is l zs' c') => RB.out zs' zs c' c h HZK.out HZR.out HRC.out)
  have s0 : (w2.setCell ⟨w1.heap.size, 1, none⟩ (.int .i64 c)).cell? ⟨w1.heap.size, 0, none⟩ = some (.slice (some ⟨gz, 0, none⟩) k cp) := H3.out.1.1.cell (j := 0) rfl
  have s1 : (w2.setCell ⟨w1.heap.size, 1, none⟩ (.int .i64 c)).cell? ⟨w1.heap.size, 1, none⟩ = some (.int .i64 c) := H3.out.1.1.cell (j := 1) rfl
  go_wp2_with fail
  clear y1 f1 HS2 HR2 HB2 HO2 hs2 RB
  revert H3 s0 s1
  generalize w2.setCell ⟨w1.heap.size, 1, none⟩ (.int .i64 c) = wr
  intro H3 s0 s1
  have HSS := Lib.hid H3.out.1.1
  have HRR := Lib.hid H3.out.1.2
  have HBW := Lib.hid H3.out.2.1
  have HOW := Lib.hid H3.out.2.2
  have HTW := Lib.hid (HT.out wr H3.out.2.1)
  clear H3
  cases hg : good zs c with
  | false =>
    have CG := Lib.hid (show Calls Tryd.prog 29 #[V gz k cp c] wr (Ret (.tuple #[.string ByteArray.empty, .bool false]) wr) from iText_any HTW.out HOW.out (by omega) false hg)
    have HNO := Lib.hid (show ∀ zs' c', ¬ Is l zs' c' from fun zs' c' h => by
      obtain ⟨rfl, rfl⟩ := RR.out zs' c' h
      have := (good_iff zs c).2 h.1
      rw [hg] at this
      cases this)
    clear hg
    refine CG.out.mono ?_
    rintro e w6 ⟨rfl, hb⟩
    have HR6 := Lib.hid (HRR.out.on hb)
    have HB6 := Lib.hid (HBW.out.trans (hb.mono HBW.out.size))
    have HO6 := Lib.hid (Li.own_on HOW.out hb)
    have hS6 := HSS.out.on hb
    have hf0 := HR6.out.frozen 0
    have hf1 := HR6.out.frozen 1
    have hr0 : w6.cell? ⟨w.heap.size, 0, none⟩ = some (.slice none 0 0) := HR6.out.cell (j := 0) rfl
    have hr1 : w6.cell? ⟨w.heap.size, 1, none⟩ = some (.int .i64 0) := HR6.out.cell (j := 1) rfl
    have t0 : w6.cell? ⟨w1.heap.size, 0, none⟩ = some (.slice (some ⟨gz, 0, none⟩) k cp) := hS6.cell (j := 0) rfl
    have t1 : w6.cell? ⟨w1.heap.size, 1, none⟩ = some (.int .i64 c) := hS6.cell (j := 1) rfl
    clear hb hS6
    clear t0 t1 s0 s1
    go_wp2_with fail
    have HX := arr2 HR6.out (.slice none 0 0) (.int .i64 0)
    have hB := (HB6.out.setCell (p := ⟨w.heap.size, 0, none⟩) (Nat.le_refl _) (.slice none 0 0)).setCell (p := ⟨w.heap.size, 1, none⟩) (Nat.le_refl _) (.int .i64 0)
    clear hf0 hf1 hr0 hr1
    revert HX hB
    generalize ((w6.setCell ⟨w.heap.size, 0, none⟩ (.slice none 0 0)).setCell ⟨w.heap.size, 1, none⟩ (.int .i64 0)) = W8
    intro ⟨z0, z1⟩ hB
    exact bodyPost_ret (v := .tuple #[.agg #[.slice none 0 0, .int .i64 0], .bool false]) (by simp [results, Tryd.results32, go_sem, z0, z1]) rfl ⟨false, [], 0, Gv.none hB, (fun h => by cases h), fun _ => ⟨rfl, rfl, HNO.out⟩⟩
  | true =>
    have hok := (good_iff zs c).1 hg
    have CG := Lib.hid (show Calls Tryd.prog 29 #[V gz k cp c] wr (Ret (.tuple #[.string ⟨(tx zs c).toArray⟩, .bool true]) wr) from by
      have := iText_any HTW.out HOW.out (by omega) true hg
      unfold res at this
      simp only at this
      rwa [txt_tx zs c hok.1] at this)
    by_cases ht : tx zs c = l
    · have HIS := Lib.hid (show Is l zs c from ⟨hok, ht.symm⟩)
      have q9 : (tx zs c == l) = true := by simpa using ht
      generalize tx zs c = tt at *
      clear ht hg hok RR
      refine CG.out.mono ?_
      rintro e w6 ⟨rfl, hb⟩
      have HR6 := Lib.hid (HRR.out.on hb)
      have HB6 := Lib.hid (HBW.out.trans (hb.mono HBW.out.size))
      have HO6 := Lib.hid (Li.own_on HOW.out hb)
      have hS6 := HSS.out.on hb
      have hf0 := HR6.out.frozen 0
      have hf1 := HR6.out.frozen 1
      have hr0 : w6.cell? ⟨w.heap.size, 0, none⟩ = some (.slice none 0 0) := HR6.out.cell (j := 0) rfl
      have hr1 : w6.cell? ⟨w.heap.size, 1, none⟩ = some (.int .i64 0) := HR6.out.cell (j := 1) rfl
      have t0 : w6.cell? ⟨w1.heap.size, 0, none⟩ = some (.slice (some ⟨gz, 0, none⟩) k cp) := hS6.cell (j := 0) rfl
      have t1 : w6.cell? ⟨w1.heap.size, 1, none⟩ = some (.int .i64 c) := hS6.cell (j := 1) rfl
      clear hb hS6
      clear s0 s1
      go_wp2_with fail
      have HX := arr2 HR6.out (.slice (some ⟨gz, 0, none⟩) k cp) (.int .i64 c)
      have hB := (HB6.out.setCell (p := ⟨w.heap.size, 0, none⟩) (Nat.le_refl _) (.slice (some ⟨gz, 0, none⟩) k cp)).setCell (p := ⟨w.heap.size, 1, none⟩) (Nat.le_refl _) (.int .i64 c)
      have hO8 := ownsRow_setCell_below (ownsRow_setCell_below HO6.out (a := ⟨w.heap.size, 0, none⟩) hw3 (.slice (some ⟨gz, 0, none⟩) k cp)) (a := ⟨w.heap.size, 1, none⟩) hw3 (.int .i64 c)
      clear hf0 hf1 hr0 hr1 t0 t1
      revert HX hB hO8
      generalize ((w6.setCell ⟨w.heap.size, 0, none⟩ (.slice (some ⟨gz, 0, none⟩) k cp)).setCell ⟨w.heap.size, 1, none⟩ (.int .i64 c)) = W8
      intro ⟨z0, z1⟩ hB hO8
      exact bodyPost_ret (v := .tuple #[.agg #[.slice (some ⟨gz, 0, none⟩) k cp, .int .i64 c], .bool true]) (by simp [results, Tryd.results32, go_sem, z0, z1]) rfl ⟨true, zs, c, gv_yes HZK.out (Li.own_le hO8 (by omega)) hB, (fun _ => HIS.out), fun h => by cases h⟩
    · have HNO := Lib.hid (show ∀ zs' c', ¬ Is l zs' c' from fun zs' c' h => by
        obtain ⟨rfl, rfl⟩ := RR.out zs' c' h
        exact ht h.2.symm)
      have q9 : (tx zs c == l) = false := by simpa using ht
      generalize tx zs c = tt at *
      clear ht hg hok
      refine CG.out.mono ?_
      rintro e w6 ⟨rfl, hb⟩
      have HR6 := Lib.hid (HRR.out.on hb)
      have HB6 := Lib.hid (HBW.out.trans (hb.mono HBW.out.size))
      have HO6 := Lib.hid (Li.own_on HOW.out hb)
      have hS6 := HSS.out.on hb
      have hf0 := HR6.out.frozen 0
      have hf1 := HR6.out.frozen 1
      have hr0 : w6.cell? ⟨w.heap.size, 0, none⟩ = some (.slice none 0 0) := HR6.out.cell (j := 0) rfl
      have hr1 : w6.cell? ⟨w.heap.size, 1, none⟩ = some (.int .i64 0) := HR6.out.cell (j := 1) rfl
      have t0 : w6.cell? ⟨w1.heap.size, 0, none⟩ = some (.slice (some ⟨gz, 0, none⟩) k cp) := hS6.cell (j := 0) rfl
      have t1 : w6.cell? ⟨w1.heap.size, 1, none⟩ = some (.int .i64 c) := hS6.cell (j := 1) rfl
      clear hb hS6
      clear t0 t1 s0 s1
      go_wp2_with fail
      have HX := arr2 HR6.out (.slice none 0 0) (.int .i64 0)
      have hB := (HB6.out.setCell (p := ⟨w.heap.size, 0, none⟩) (Nat.le_refl _) (.slice none 0 0)).setCell (p := ⟨w.heap.size, 1, none⟩) (Nat.le_refl _) (.int .i64 0)
      clear hf0 hf1 hr0 hr1
      revert HX hB
      generalize ((w6.setCell ⟨w.heap.size, 0, none⟩ (.slice none 0 0)).setCell ⟨w.heap.size, 1, none⟩ (.int .i64 0)) = W8
      intro ⟨z0, z1⟩ hB
      exact bodyPost_ret (v := .tuple #[.agg #[.slice none 0 0, .int .i64 0], .bool false]) (by simp [results, Tryd.results32, go_sem, z0, z1]) rfl ⟨false, [], 0, Gv.none hB, (fun h => by cases h), fun _ => ⟨rfl, rfl, HNO.out⟩⟩
end Spw
end Go.Proofs.YtkfoapidmockfabDoor
