/- What the program's ParseShelf answers of a text of at most 34 bytes. -/
import Derived.Test.YtogkebbgkeffcabDoorIpx
namespace Go.Proofs.YtogkebbgkeffcabDoor
open Go.RowKit Go.Joins Go.Deep
set_option linter.unusedVariables false
set_option linter.unusedSimpArgs false
namespace Spw
open Sh P
def Rel2 (w : World) (S bb B0 g2 n cp2 : Nat) (L : List (List UInt8)) (c : Int) (k : Nat) (p : Option Addr) (cp : Nat) (zs : List Int) (wr : World) : Prop :=
  (Arr wr S 28 #[.slice p k cp, .int .i64 c] ∧ Arr wr w.heap.size 28 #[.slice none 0 0, .int .i64 0]) ∧ wr.ownsRow B0 3 1 (.slice p k cp) k (Li.nums zs) ∧ wr.ownsRow bb 9 1 (.slice (some ⟨g2, 0, none⟩) n cp2) n (P.strs L) ∧ Below w.heap.size w wr ∧ B0 ≤ wr.heap.size ∧ zs.length = k ∧ ∀ j, j < zs.length → Reads (L.getD j []) (zs.getD j 0)
theorem nums_snoc (zs : List Int) (v : Int) : Li.nums (zs ++ [v]) = Li.nums zs ++ [.int .i64 v] := by simp [Li.nums]
theorem rfl_set1 {W : World} {b : Nat} {T : TypeId} {x y u : Value} (h : Arr W b T ((#[x, y] : Array Value).setIfInBounds 1 u)) : Arr W b T #[x, u] := h
set_option maxRecDepth 100000 in
set_option maxHeartbeats 4000000 in
theorem i_short (l : List UInt8) (h34 : l.length ≤ 34) (w : World) (hE : Env w) (hT : TabOn w) :
    Calls Tryd.prog 11 #[.string ⟨l.toArray⟩] w (Ans l w) := by
  have d1 : decide ((34 : Int) < (l.length : Int)) = false := by simp; omega
  have hsz : ((⟨l.toArray⟩ : ByteArray).size : Int) = (l.length : Int) := by show (l.toArray.size : Int) = _; simp
  have K := cut_le l 99
  have C1 := Lib.hid (fun W (hE : Env W) => cut_any l 99 (by omega) W hE)
  have RB := Lib.hid (fun (zs zs' : List Int) (c c' : Int) (h : Is l zs c) (hn : zs'.length = (sp 44 (Lib.cut l [99]).1).length) (hz : ∀ k, k < zs'.length → Reads ((sp 44 (Lib.cut l [99]).1).getD k []) (zs'.getD k 0)) (hc : Reads (Lib.cut l [99]).2.1 c') => read_is h hn hz hc)
  generalize (Lib.cut l [99]).1 = x at *
  generalize (Lib.cut l [99]).2.1 = y at *
  generalize (Lib.cut l [99]).2.2 = fnd at *
  have A1 := Lib.hid (fun W (hE : Env W) => atoi_any y (by omega) W hE)
  have S1 := Lib.hid (fun W (hE : Env W) => split_any x (by omega) W hE)
  have HP := Lib.hid (sp_part 44 x)
  have AP := Lib.hid (fun (q : List UInt8) (hq : q ∈ sp 44 x) (W : World) (hE : Env W) => atoi_any q (by have := HP.out q hq; omega) W hE)
  have hn1 := sp_pos 44 x
  have hn2 := sp_le 44 x
  obtain ⟨L, hL⟩ : ∃ L, sp 44 x = L := ⟨_, rfl⟩
  rw [hL] at S1 AP hn1 hn2 RB HP
  obtain ⟨n, hn⟩ : ∃ n, L.length = n := ⟨_, rfl⟩
  rw [hn] at S1 hn1 hn2 RB
  have HN := Lib.hid hn
  have HE := Lib.hid (fun W' (h : Below w.heap.size w W') => hE.on h)
  have HT := Lib.hid (fun W' (h : Below w.heap.size w W') => (tabOn_next hT h : TabOn W'))
  have HR := Lib.hid (Arr.new w #[.slice none 0 0, .int .i64 0] 28)
  have HB0 := Lib.hid (below_alloc1 w (.cells #[.slice none 0 0, .int .i64 0] 28))
  clear hL hn hE hT HP
  go_enter Tryd.func11, Tryd.ntmps11
  go_wp2_with fail
  refine (C1.out _ (HE.out _ HB0.out)).mono ?_
  rintro e w1 ⟨rfl, hb⟩
  have HR1 := Lib.hid (HR.out.on hb)
  have HB1 := Lib.hid (HB0.out.trans (hb.mono HB0.out.size))
  have HB1a := Lib.hid (HB1.out.alloc HB1.out.size (.cells #[.slice none 0 0, .int .i64 0] 28))
  clear hb
  go_wp2_with fail
  refine (A1.out _ (HE.out _ HB1a.out)).mono ?_
  rintro e w2 ⟨c, xe, rfl, hrc, hb⟩
  have HRC := Lib.hid hrc
  have HS2 := Lib.hid ((Arr.new w1 #[.slice none 0 0, .int .i64 0] 28).on hb)
  have HR2 := Lib.hid ((HR1.out.alloc _).on hb)
  have HB2 := Lib.hid (HB1a.out.trans (hb.mono HB1a.out.size))
  have hs1 : w.heap.size < w1.heap.size := HR1.out.lt
  have hs2 : w1.heap.size + 1 ≤ w2.heap.size := by have := hb.size; simpa using this
  have y0 : w2.cell? ⟨w1.heap.size, 0, none⟩ = some (.slice none 0 0) := HS2.out.cell (j := 0) rfl
  have y1 : w2.cell? ⟨w1.heap.size, 1, none⟩ = some (.int .i64 0) := HS2.out.cell (j := 1) rfl
  have f1 := HS2.out.frozen 1
  have H3 := Lib.hid (show (Arr (w2.setCell ⟨w1.heap.size, 1, none⟩ (.int .i64 c)) w1.heap.size 28 #[.slice none 0 0, .int .i64 c] ∧ Arr (w2.setCell ⟨w1.heap.size, 1, none⟩ (.int .i64 c)) w.heap.size 28 #[.slice none 0 0, .int .i64 0]) ∧ Below w.heap.size w (w2.setCell ⟨w1.heap.size, 1, none⟩ (.int .i64 c)) ∧ w1.heap.size + 1 ≤ (w2.setCell ⟨w1.heap.size, 1, none⟩ (.int .i64 c)).heap.size from
    ⟨⟨rfl_set1 (HS2.out.set 1 (.int .i64 c)), HR2.out.other (by omega) _ _⟩, HB2.out.setCell (p := ⟨w1.heap.size, 1, none⟩) (by simp; omega) _, by simpa using hs2⟩)
  clear hb hrc
  go_wp2_with fail
  clear y0 y1 f1 HS2 HR2 HB2 hs2
  revert H3
  generalize w2.setCell ⟨w1.heap.size, 1, none⟩ (.int .i64 c) = W3
  intro H3
  refine (S1.out _ (HE.out _ H3.out.2.1)).mono ?_
  rintro e w3 ⟨rfl, o3, hb⟩
  have h3s := H3.out.2.2
  have HS3 := Lib.hid (H3.out.1.1.on hb)
  have HR3 := Lib.hid (H3.out.1.2.on hb)
  have HB3 := Lib.hid (H3.out.2.1.trans (hb.mono H3.out.2.1.size))
  have hs3 : W3.heap.size ≤ w3.heap.size := hb.size
  obtain ⟨g2, hg2e⟩ : ∃ g2, W3.heap.size = g2 := ⟨_, rfl⟩
  rw [hg2e] at o3 hs3 h3s
  have hg2 : g2 < w3.heap.size := (o3.lt g2 rfl).2
  have O3 := Lib.hid o3
  clear hb o3
  go_wp2_with fail
  try rw [hg2e]
  clear H3 hg2e
  go_loopw [33] (fun i wr => ∃ (k : Nat) (p : Option Addr) (cp : Nat) (zs : List Int), k ≤ n ∧ i = .int .i64 (k : Int) ∧ Rel2 w w1.heap.size g2 w3.heap.size g2 n n L c k p cp zs wr) (fun i _ => ((n : Int) - intOf i).toNat)
  case atStart => exact ⟨0, none, 0, [], by omega, rfl, ⟨HS3.out, HR3.out⟩, World.ownsRow_nil _ _ _ _, O3.out, HB3.out, Nat.le_refl _, rfl, fun j hj => by simp at hj⟩
  case round =>
    obtain ⟨k, p, cp, zs, hk, rfl, hrel2⟩ := hrel
    obtain ⟨⟨hS, hRr⟩, hown, hparts, hbw, hsz2, hzk, hzr⟩ := hrel2
    have HZK := Lib.hid hzk
    have HZR := Lib.hid hzr
    clear hzk hzr
    by_cases hlt : (k : Int) < n
    · have hk2 : k < n := by omega
      obtain ⟨q, HQK, hcq⟩ := part_at hparts HN.out hk2
      have hqL : q ∈ L := by rw [← HQK.out]; exact getD_mem L k (by rw [HN.out]; omega)
      have A2 := Lib.hid (AP.out q hqL)
      obtain ⟨i0, hi, hz0, hz1, hz2⟩ := info_parts Li.info3
      have HSw := Lib.hid hS
      have HRw := Lib.hid hRr
      have HOw := Lib.hid hown
      have HPw := Lib.hid hparts
      have HBw := Lib.hid hbw
      clear hS hRr hown hparts hbw
      go_wp2_with fail
      refine (A2.out _ (HE.out _ HBw.out)).mono ?_
      rintro e w5 ⟨v, xv, rfl, hrv, hb⟩
      have hs5 : wr.heap.size ≤ w5.heap.size := hb.size
      have NX := Lib.hid (reads_next HZK.out HZR.out HQK.out hrv)
      have HS5 := Lib.hid (HSw.out.on hb)
      have HRX := Lib.hid ((HRw.out.on hb).alloc (.cells #[.int .i64 v] 3))
      have hown5 := Li.own_on HOw.out hb
      have HPX := Lib.hid (World.ownsRow.alloc (Li.own_on HPw.out hb) (.cells #[.int .i64 v] 3))
      have hbw5 := HBw.out.trans (hb.mono HBw.out.size)
      have HBX := Lib.hid (hbw5.alloc hbw5.size (.cells #[.int .i64 v] 3))
      have HSX := Lib.hid (HS5.out.alloc (.cells #[.int .i64 v] 3))
      have HOX := Lib.hid (World.ownsRow.alloc hown5 (.cells #[.int .i64 v] 3))
      have HNE := Lib.hid (show ∀ b, b < w3.heap.size → some b ≠ (Value.slice p k cp).ownBlock from fun b hb e => by have := (hown5.lt b e.symm).1; omega)
      have HLT := Lib.hid (fun j hj => (hown5.lt j hj).1)
      have hb1 : w1.heap.size < w3.heap.size := by omega
      have s0 : w5.cell? ⟨w1.heap.size, 0, none⟩ = some (.slice p k cp) := HS5.out.cell (j := 0) rfl
      clear hb hrv hown5 hbw5 HSw HRw HOw HPw HBw
      go_wp2_with (first | (at_builtin; refine wpList_append_lies _ rfl _ _ 22 rfl w3.heap.size 3 i0 (.int .i64 0) 1 8 Tryd.underlying22 hi hz0 hz1 hz2 rfl (by decide) _ k (Li.nums zs) rfl HOX.out ⟨w5.heap.size, 0, none⟩ 1 1 [.int .i64 v] rfl rfl (cell_one_new _ _ _) (fun u hu => by simp at hu; subst hu; rfl) (by omega) (by unfold maxLen; omega) (by omega) (by simp; omega) (w5.heap.size + 1) (by simp) ?_; intro g' cp' w' ho' hg' hor' hlt'; have HS' := Lib.hid (HSX.out.grown hg' (HNE.out _ hb1)); have s0' : w'.cell? ⟨w1.heap.size, 0, none⟩ = some (.slice p k cp) := HS'.out.cell (j := 0) rfl; have f0' := HS'.out.frozen 0))
      go_roundw
      case rel =>
        have hSR := rfl_set (HS'.out.set 0 (.slice (some ⟨g', 0, none⟩) (k + 1) cp'))
        have hsz' : w5.heap.size + 1 ≤ w'.heap.size := by have := hg'.size; simpa using this
        refine ⟨k + 1, some ⟨g', 0, none⟩, cp', zs ++ [v], by omega, by go_num, ⟨hSR, (HRX.out.grown hg' (HNE.out _ (by omega))).other (by omega) _ _⟩, ?_, ?_, ?_, ?_, ?_, NX.out⟩
        · rw [nums_snoc]
          exact ownsRow_setCell_below ho' (a := ⟨w1.heap.size, 0, none⟩) hb1 _
        · exact ownsRow_setCell_below (HPX.out.kept hg' (_root_.Or.inr (HNE.out g2 hg2))) (a := ⟨w1.heap.size, 0, none⟩) (by show w1.heap.size < g2; omega) _
        · exact (HBX.out.grown hg' HBX.out.size (fun j hj => by have := HLT.out j hj; have := HB3.out.size; omega)).setCell (p := ⟨w1.heap.size, 0, none⟩) (by simp; omega) _
        · simp; omega
        · simp [HZK.out]
      case measure => simp [intOf]; omega
    · have ek : k = n := by omega
      subst ek
      obtain ⟨gz, cz, ez⟩ := some_of hown (by omega)
      injection ez with ez1 _ ez2
      subst ez1
      have HOW := Lib.hid (show Ow wr w3.heap.size gz k cp zs from hown)
      have HSS := Lib.hid hS
      have HRR := Lib.hid hRr
      have HBW := Lib.hid hbw
      have HTW := Lib.hid (HT.out wr hbw)
      have hw3 : w.heap.size < w3.heap.size := by have := HR3.out.lt; omega
      have s0 : wr.cell? ⟨w1.heap.size, 0, none⟩ = some (.slice (some ⟨gz, 0, none⟩) k cp) := hS.cell (j := 0) rfl
      have s1 : wr.cell? ⟨w1.heap.size, 1, none⟩ = some (.int .i64 c) := hS.cell (j := 1) rfl
      have RR := Lib.hid (fun (zs' : List Int) (c' : Int) (h : Is l zs' c') => RB.out zs' zs c' c h HZK.out HZR.out HRC.out)
      clear hS hRr hown hparts hbw ez2
      cases hg : good zs c with
      | false =>
        have CG := Lib.hid (show Calls Tryd.prog 8 #[V gz k cp c] wr (Ret (.tuple #[.string ByteArray.empty, .bool false]) wr) from iText_any HTW.out HOW.out (by omega) false hg)
        have HNO := Lib.hid (show ∀ zs' c', ¬ Is l zs' c' from fun zs' c' h => by
          obtain ⟨rfl, rfl⟩ := RR.out zs' c' h
          have := (good_iff zs c).2 h.1
          rw [hg] at this
          cases this)
        clear hg
        go_wp2_with fail
        refine CG.out.mono ?_
        rintro e w6 ⟨rfl, hb⟩
        have HR6 := Lib.hid (HRR.out.on hb)
        have HB6 := Lib.hid (HBW.out.trans (hb.mono HBW.out.size))
        have HO6 := Lib.hid (Li.own_on HOW.out hb)
        have hS6 := HSS.out.on hb
        have hf0 := HR6.out.frozen 0
        have hf1 := HR6.out.frozen 1
        have hr0 : w6.cell? ⟨w.heap.size, 0, none⟩ = some (.slice none 0 0) := HR6.out.cell (j := 0) rfl
        have hr1 : w6.cell? ⟨w.heap.size, 1, none⟩ = some (.int .i64 0) := HR6.out.cell (j := 1) rfl
        have t0 : w6.cell? ⟨w1.heap.size, 0, none⟩ = some (.slice (some ⟨gz, 0, none⟩) k cp) := hS6.cell (j := 0) rfl
        have t1 : w6.cell? ⟨w1.heap.size, 1, none⟩ = some (.int .i64 c) := hS6.cell (j := 1) rfl
        clear hb hS6
        clear t0 t1 s0 s1
        go_wp2_with fail
        have HX := arr2 HR6.out (.slice none 0 0) (.int .i64 0)
        have hB := (HB6.out.setCell (p := ⟨w.heap.size, 0, none⟩) (Nat.le_refl _) (.slice none 0 0)).setCell (p := ⟨w.heap.size, 1, none⟩) (Nat.le_refl _) (.int .i64 0)
        clear hf0 hf1 hr0 hr1
        revert HX hB
        generalize ((w6.setCell ⟨w.heap.size, 0, none⟩ (.slice none 0 0)).setCell ⟨w.heap.size, 1, none⟩ (.int .i64 0)) = W8
        intro ⟨z0, z1⟩ hB
        exact bodyPost_ret (v := .tuple #[.agg #[.slice none 0 0, .int .i64 0], .bool false]) (by simp [results, Tryd.results11, go_sem, z0, z1]) rfl ⟨false, [], 0, Gv.none hB, (fun h => by cases h), fun _ => ⟨rfl, rfl, HNO.out⟩⟩
      | true =>
        have hok := (good_iff zs c).1 hg
        have CG := Lib.hid (show Calls Tryd.prog 8 #[V gz k cp c] wr (Ret (.tuple #[.string ⟨(tx zs c).toArray⟩, .bool true]) wr) from by
          have := iText_any HTW.out HOW.out (by omega) true hg
          unfold res at this
          simp only at this
          rwa [txt_tx zs c hok.1] at this)
        by_cases ht : tx zs c = l
        · have HIS := Lib.hid (show Is l zs c from ⟨hok, ht.symm⟩)
          have q9 : (tx zs c == l) = true := by simpa using ht
          generalize tx zs c = tt at *
          clear ht hg hok RR RB
          go_wp2_with fail
          refine CG.out.mono ?_
          rintro e w6 ⟨rfl, hb⟩
          have HR6 := Lib.hid (HRR.out.on hb)
          have HB6 := Lib.hid (HBW.out.trans (hb.mono HBW.out.size))
          have HO6 := Lib.hid (Li.own_on HOW.out hb)
          have hS6 := HSS.out.on hb
          have hf0 := HR6.out.frozen 0
          have hf1 := HR6.out.frozen 1
          have hr0 : w6.cell? ⟨w.heap.size, 0, none⟩ = some (.slice none 0 0) := HR6.out.cell (j := 0) rfl
          have hr1 : w6.cell? ⟨w.heap.size, 1, none⟩ = some (.int .i64 0) := HR6.out.cell (j := 1) rfl
          have t0 : w6.cell? ⟨w1.heap.size, 0, none⟩ = some (.slice (some ⟨gz, 0, none⟩) k cp) := hS6.cell (j := 0) rfl
          have t1 : w6.cell? ⟨w1.heap.size, 1, none⟩ = some (.int .i64 c) := hS6.cell (j := 1) rfl
          clear hb hS6
          clear s0 s1
          go_wp2_with fail
          have HX := arr2 HR6.out (.slice (some ⟨gz, 0, none⟩) k cp) (.int .i64 c)
          have hB := (HB6.out.setCell (p := ⟨w.heap.size, 0, none⟩) (Nat.le_refl _) (.slice (some ⟨gz, 0, none⟩) k cp)).setCell (p := ⟨w.heap.size, 1, none⟩) (Nat.le_refl _) (.int .i64 c)
          have hO8 := ownsRow_setCell_below (ownsRow_setCell_below HO6.out (a := ⟨w.heap.size, 0, none⟩) hw3 (.slice (some ⟨gz, 0, none⟩) k cp)) (a := ⟨w.heap.size, 1, none⟩) hw3 (.int .i64 c)
          clear hf0 hf1 hr0 hr1 t0 t1
          revert HX hB hO8
          generalize ((w6.setCell ⟨w.heap.size, 0, none⟩ (.slice (some ⟨gz, 0, none⟩) k cp)).setCell ⟨w.heap.size, 1, none⟩ (.int .i64 c)) = W8
          intro ⟨z0, z1⟩ hB hO8
          exact bodyPost_ret (v := .tuple #[.agg #[.slice (some ⟨gz, 0, none⟩) k cp, .int .i64 c], .bool true]) (by simp [results, Tryd.results11, go_sem, z0, z1]) rfl ⟨true, zs, c, gv_yes HZK.out (Li.own_le hO8 (by omega)) hB, (fun _ => HIS.out), fun h => by cases h⟩
        · have HNO := Lib.hid (show ∀ zs' c', ¬ Is l zs' c' from fun zs' c' h => by
            obtain ⟨rfl, rfl⟩ := RR.out zs' c' h
            exact ht h.2.symm)
          have q9 : (tx zs c == l) = false := by simpa using ht
          generalize tx zs c = tt at *
          clear ht hg hok
          go_wp2_with fail
          refine CG.out.mono ?_
          rintro e w6 ⟨rfl, hb⟩
          have HR6 := Lib.hid (HRR.out.on hb)
          have HB6 := Lib.hid (HBW.out.trans (hb.mono HBW.out.size))
          have HO6 := Lib.hid (Li.own_on HOW.out hb)
          have hS6 := HSS.out.on hb
          have hf0 := HR6.out.frozen 0
          have hf1 := HR6.out.frozen 1
          have hr0 : w6.cell? ⟨w.heap.size, 0, none⟩ = some (.slice none 0 0) := HR6.out.cell (j := 0) rfl
          have hr1 : w6.cell? ⟨w.heap.size, 1, none⟩ = some (.int .i64 0) := HR6.out.cell (j := 1) rfl
          have t0 : w6.cell? ⟨w1.heap.size, 0, none⟩ = some (.slice (some ⟨gz, 0, none⟩) k cp) := hS6.cell (j := 0) rfl
          have t1 : w6.cell? ⟨w1.heap.size, 1, none⟩ = some (.int .i64 c) := hS6.cell (j := 1) rfl
          clear hb hS6
          clear t0 t1 s0 s1
          go_wp2_with fail
          have HX := arr2 HR6.out (.slice none 0 0) (.int .i64 0)
          have hB := (HB6.out.setCell (p := ⟨w.heap.size, 0, none⟩) (Nat.le_refl _) (.slice none 0 0)).setCell (p := ⟨w.heap.size, 1, none⟩) (Nat.le_refl _) (.int .i64 0)
          clear hf0 hf1 hr0 hr1
          revert HX hB
          generalize ((w6.setCell ⟨w.heap.size, 0, none⟩ (.slice none 0 0)).setCell ⟨w.heap.size, 1, none⟩ (.int .i64 0)) = W8
          intro ⟨z0, z1⟩ hB
          exact bodyPost_ret (v := .tuple #[.agg #[.slice none 0 0, .int .i64 0], .bool false]) (by simp [results, Tryd.results11, go_sem, z0, z1]) rfl ⟨false, [], 0, Gv.none hB, (fun h => by cases h), fun _ => ⟨rfl, rfl, HNO.out⟩⟩
end Spw
end Go.Proofs.YtogkebbgkeffcabDoor
