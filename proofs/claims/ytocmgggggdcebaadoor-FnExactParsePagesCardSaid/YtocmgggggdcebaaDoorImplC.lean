/- What impl.PagesText answers of a slice of integers of whatever capacity: the text of an increasing list of 1 to 20 pages, nothing of others. The library's table of powers of ten is taken to read as its own text lays it. -/
import Derived.Test.YtocmgggggdcebaaDoorTold
namespace Go.Proofs.YtocmgggggdcebaaDoor
open Go.RowKit
set_option linter.unusedSimpArgs false
open Classical in
theorem isPageListC_yes (g n cap : Nat) (zs : List Int) (w : World) (h : RowAt w g 0 n zs) (hp : Pages zs) :
    Calls Tryd.prog 15 #[.slice (some ⟨g, 0, none⟩) n cap] w fun e w' => e = .returned (.bool true) ∧ Below w.heap.size w w' :=
  (isPageList_any g n cap zs w h).mono fun _ _ x => ⟨x.1.trans (ret_b (decide_eq_true hp)), x.2⟩
open Classical in
theorem isPageListC_no (g n cap : Nat) (zs : List Int) (w : World) (h : RowAt w g 0 n zs) (hp : ¬ Pages zs) :
    Calls Tryd.prog 15 #[.slice (some ⟨g, 0, none⟩) n cap] w fun e w' => e = .returned (.bool false) ∧ Below w.heap.size w w' :=
  (isPageList_any g n cap zs w h).mono fun _ _ x => ⟨x.1.trans (ret_b (decide_eq_false hp)), x.2⟩
set_option maxRecDepth 100000 in
set_option maxHeartbeats 4000000 in
theorem partsC_any (g n cap : Nat) (hcap : n ≤ cap) (zs : List Int) (w : World) (ht : TabOn w) (h : RowAt w g 0 n zs) (hp : Pages zs) :
    Calls Tryd.prog 7 #[.slice (some ⟨g, 0, none⟩) n cap] w fun e w' => e = .returned (.tuple #[.string ⟨(T.text zs).toArray⟩, .bool true]) ∧ Below w.heap.size w w' := by
  obtain ⟨i0, hi, hz0, hz1, hz2⟩ := info_parts info9
  have HT := Lib.hid ht
  have HL := Lib.hid h.1
  have HC := Lib.hid h
  have HP := Lib.hid hp
  have hn20 : n ≤ 20 := by rw [← h.1]; exact hp.2.1
  have hn1 : 1 ≤ n := by rw [← h.1]; exact hp.1
  have L1 : Hid (∀ W, RowAt W g 0 n zs → Calls Tryd.prog 15 #[.slice (some ⟨g, 0, none⟩) n cap] W fun e w' => e = .returned (.bool true) ∧ Below W.heap.size W w') := Lib.hid (fun W hW => isPageListC_yes g n cap zs W hW hp)
  have L2 : Hid (∀ W i, i < n → RowAt W g 0 n zs → Calls Tryd.prog 16 #[.slice (some ⟨g, i, none⟩) (n - i : Nat) (cap - i : Nat)] W fun e w' => e = .returned (.int .i64 (T.rl zs i : Int)) ∧ Below W.heap.size W w') := Lib.hid (fun W i hi hW => runLength_any g n (cap - i) i zs W hW hp hi)
  clear h hp ht
  go_enter Tryd.func7, Tryd.ntmps7
  go_wp2_with fail
  refine (L1.out _ HC.out).mono ?_
  rintro e w0 ⟨rfl, hb0⟩
  go_wp2_with fail
  go_loopw [4, 5] (fun p i wr => ∃ (j : Nat) (ps : List ByteArray), j ≤ n ∧ i = .int .i64 (j : Int) ∧ wr.ownsRow w.heap.size 9 1 p ps.length (ps.map Value.string) ∧ Built zs j ps ∧ ps.length ≤ j ∧ (∀ p ∈ ps, p.size ≤ 5000) ∧ Below w.heap.size w wr) (fun _ i _ => ((n : Int) - intOf i).toNat)
  case atStart => exact ⟨0, [], by omega, rfl, World.ownsRow_nil _ _ _ _, rfl, by simp, by simp, hb0⟩
  case round =>
    obtain ⟨j, ps, hj, rfl, hown, hbu, hps, hpz, hb⟩ := hrel
    by_cases hlt : j < n
    · have hrow := HC.out.on hb
      have gj := HP.out.2.2 j (by rw [HL.out]; exact hlt)
      obtain ⟨a, ha⟩ : ∃ a, a = T.at_ zs j := ⟨_, rfl⟩
      have ha1 : 1 ≤ a := by rw [ha]; exact gj.1
      have ha2 : a ≤ 2000 := by rw [ha]; exact gj.2.1
      have HA := Lib.hid ha
      have HB := Lib.hid hbu
      have HZ := Lib.hid hpz
      clear gj ha hrow hbu hpz
      go_wp2_with fail
      refine (L2.out _ j hlt (HC.out.on hb)).mono ?_
      rintro e w1 ⟨rfl, hb1⟩
      have hb2 := hb.trans (hb1.mono hb.size)
      have hown1 := own_on hown hb1
      have hsz1 := hb2.size
      clear hown hb hb1
      have hc1 := cell_on HC.out hb2 hlt HA.out
      by_cases hr : (T.rl zs j : Int) < 3
      · have C1 := Lib.hid (fun W hW => itoa_at a ha1 ha2 W hW)
        go_wp2_with fail
        refine (C1.out _ (HT.out _ hb2)).mono ?_
        rintro e w2 ⟨rfl, hb3⟩
        have hb4 := hb2.trans (hb3.mono hb2.size)
        have hown2 := own_on hown1 hb3
        have hsz2 := hb4.size
        go_wp2_with (first | (at_builtin; refine wpList_append_own _ rfl _ _ 33 rfl w.heap.size 9 i0 (.string ByteArray.empty) 1 16 Tryd.underlying33 hi hz0 hz1 hz2 rfl (by decide) _ _ _ rfl (hown2.alloc _) ⟨w2.heap.size, 0, none⟩ 1 1 [.string (numS a.toNat)] rfl rfl (cell_one_new _ _ _) (fun x hx => by simp at hx; subst hx; rfl) (by unfold maxLen; omega) (by omega) (by simp; omega) ?_; intro v' w3 hown3 hgrow3 hnil3))
        go_roundw
        case rel =>
          refine ⟨j + 1, ps ++ [numS a.toNat], by omega, by go_num, ?_, built_one (by rw [HL.out]; exact hlt) (by omega) HA.out HB.out, by simp; omega, pz_add HZ.out (by have := num_bd a ha1 ha2; omega), ?_⟩
          · rw [List.map_append, List.length_append]; exact hown3
          · exact Below.grown (hb4.alloc hb4.size _) hgrow3 (by simp; omega) (fun k hk => (hown2.lt k hk).1)
        case measure => simp [intOf]; omega
      · obtain ⟨q, hq⟩ : ∃ q : Nat, q = j + T.rl zs j - 1 := ⟨_, rfl⟩
        obtain ⟨x, hx⟩ : ∃ x, x = T.at_ zs q := ⟨_, rfl⟩
        have hM : Hid (T.MaxRun zs j (T.rl zs j)) := Lib.hid (T.rl_max (by rw [HL.out]; exact hlt))
        have hq1 : q < n := by have := hM.out.1.2.1; rw [HL.out] at this; omega
        have gq := HP.out.2.2 q (by rw [HL.out]; exact hq1)
        have hx1 : 1 ≤ x := by rw [hx]; exact gq.1
        have hx2 : x ≤ 2000 := by rw [hx]; exact gq.2.1
        have hqe : (j : Int) + (T.rl zs j : Int) - 1 = (q : Int) := by omega
        have hrn : T.rl zs j ≤ 20 := by omega
        have HX := Lib.hid hx
        have HQ := Lib.hid hq
        clear hx hq gq
        have hcx := cell_on HC.out hb2 hq1 HX.out
        have C1 := Lib.hid (fun W hW => itoa_at a ha1 ha2 W hW)
        have C2 := Lib.hid (fun W hW => itoa_at x hx1 hx2 W hW)
        have sa := num_bd a ha1 ha2
        have sx := num_bd x hx1 hx2
        go_wp2_with fail
        refine (C1.out _ (HT.out _ hb2)).mono ?_
        rintro e w2 ⟨rfl, hb3⟩
        have hb4 := hb2.trans (hb3.mono hb2.size)
        have hown2 := own_on hown1 hb3
        have r1 : ∀ W : World, (Op.stringOp .add (numS a.toNat) ⟨#[45]⟩).run Tryd.prog W = .ok (.string (numS a.toNat ++ ⟨#[45]⟩)) W := fun W => run_string_add_sum W _ _ (by have e : (⟨#[45]⟩ : ByteArray).size = 1 := rfl; omega)
        go_wp2_with fail
        refine (C2.out _ (HT.out _ hb4)).mono ?_
        rintro e w3 ⟨rfl, hb5⟩
        have hb6 := hb4.trans (hb5.mono hb4.size)
        have hown3 := own_on hown2 hb5
        have r2 : ∀ W : World, (Op.stringOp .add (numS a.toNat ++ ⟨#[45]⟩) (numS x.toNat)).run Tryd.prog W = .ok (.string ((numS a.toNat ++ ⟨#[45]⟩) ++ numS x.toNat)) W := fun W => run_string_add_sum W _ _ (by have e : (⟨#[45]⟩ : ByteArray).size = 1 := rfl; rw [ByteArray.size_append]; omega)
        have hsz3 := hb6.size
        go_wp2_with (first | (at_builtin; refine wpList_append_own _ rfl _ _ 33 rfl w.heap.size 9 i0 (.string ByteArray.empty) 1 16 Tryd.underlying33 hi hz0 hz1 hz2 rfl (by decide) _ _ _ rfl (hown3.alloc _) ⟨w3.heap.size, 0, none⟩ 1 1 [.string ((numS a.toNat ++ ⟨#[45]⟩) ++ numS x.toNat)] rfl rfl (cell_one_new _ _ _) (fun x hx => by simp at hx; subst hx; rfl) (by unfold maxLen; omega) (by omega) (by simp; omega) ?_; intro v' w4 hown4 hgrow4 hnil4))
        go_roundw
        case rel =>
          refine ⟨j + T.rl zs j, ps ++ [(numS a.toNat ++ ⟨#[45]⟩) ++ numS x.toNat], by have := hM.out.1.2.1; rw [HL.out] at this; exact this, by go_num, ?_, built_many (by rw [HL.out]; exact hlt) (by omega) HA.out (by rw [← HQ.out]; exact HX.out) HB.out, by simp; omega, pz_add HZ.out (by have e : (⟨#[45]⟩ : ByteArray).size = 1 := rfl; simp only [ByteArray.size_append, e]; omega), ?_⟩
          · rw [List.map_append, List.length_append]; exact hown4
          · exact Below.grown (hb6.alloc hb6.size _) hgrow4 (by have := hb6.size; simp; omega) (fun k hk => (hown3.lt k hk).1)
        case measure => simp [intOf]; omega
    · have hz : ps.map (·.data.toList) = T.parts zs 0 := built_end (by rw [HL.out]; exact hlt) hbu
      have hne : 0 < ps.length := by
        rcases ps with _ | ⟨p, r⟩
        · exact absurd hz.symm (parts_ne (by rw [HL.out]; omega))
        · simp
      have HZE : Hid ((⟨(Lib.join (ps.map (·.data.toList)) (⟨#[44]⟩ : ByteArray).data.toList).toArray⟩ : ByteArray) = ⟨(T.text zs).toArray⟩) := Lib.hid (by rw [hz]; rfl)
      have hlen := join_len ps hpz
      obtain ⟨_, ⟨_, h0⟩ | ⟨g', cap, cur, hv, hbase, hheap, hncap, hcapmax, hsize, htake⟩⟩ := id hown
      · omega
      · subst hv
        have HJ := Lib.hid (Tryd.strings_Join g' 0 cap ps ⟨#[44]⟩ wr (fun t x hx => by
          have := hown.cellAt t (by have := (List.getElem?_eq_some_iff.mp hx).1; omega)
          rw [Nat.zero_add, this, List.getElem?_map, hx]; rfl) (by have := (Array.getElem?_eq_some_iff.mp hheap).1; exact this) (by omega) hncap (by have e : (⟨#[44]⟩ : ByteArray).data.toList = [44] := rfl; rw [e]; omega))
        clear hz hown hbu hheap htake
        go_wp2_with fail
        refine HJ.out.mono ?_
        rintro e w5 ⟨rfl, hb7⟩
        go_wp2_with fail
        go_ret2
        exact ⟨ret_sb HZE.out, hb.trans (hb7.mono hb.size)⟩
theorem implC_no (g n cap : Nat) (zs : List Int) (w : World) (h : RowAt w g 0 n zs) (hp : ¬ Pages zs) :
    Calls Tryd.prog 7 #[.slice (some ⟨g, 0, none⟩) n cap] w fun e w' => e = .returned (.tuple #[.string ⟨#[]⟩, .bool false]) ∧ Below w.heap.size w w' := by
  have L1 := Lib.hid (isPageListC_no g n cap zs w h hp)
  clear h hp
  go_enter Tryd.func7, Tryd.ntmps7
  go_wp2_with fail
  refine L1.out.mono ?_
  rintro e w0 ⟨rfl, hb0⟩
  go_wp2_with fail
  go_ret2
  exact ⟨rfl, hb0⟩
end Go.Proofs.YtocmgggggdcebaaDoor
