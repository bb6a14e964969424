/- What the library's Atoi and Split answer, as the program meets them, and what splitNumbers answers. -/
import Derived.Test.YtkfoapidmockfabDoorCr
import Derived.Test.YtkfoapidmockfabDoorShelf2
import Derived.Test.YtkfoapidmockfabDoorIt
import Derived.Lib.AtoiAllCases
import Derived.Lib.AtoiErrMem
namespace Go.Proofs.YtkfoapidmockfabDoor
open Go.RowKit Go.Joins
set_option linter.unusedSimpArgs false
set_option linter.unusedVariables false
namespace P
/-- what the library's variables hold -/
def Env (W : World) : Prop := (∃ m : Int, W.cell? ⟨0, 0, none⟩ = some (.int .i64 m)) ∧ (∃ t p, W.cell? ⟨1, 0, none⟩ = some (.iface t p)) ∧ (∃ t p, W.cell? ⟨2, 0, none⟩ = some (.iface t p))
theorem cell_lt {W : World} {b o : Nat} {v : Value} (h : W.cell? ⟨b, o, none⟩ = some v) : b < W.heap.size := World.block_lt_of_cell? _ _ h
theorem Env.on {W W' : World} (h : Env W) (hb : Below W.heap.size W W') : Env W' := by
  obtain ⟨⟨m, h1⟩, ⟨t, p, h2⟩, ⟨t', p', h3⟩⟩ := h
  exact ⟨⟨m, (hb.cell (p := ⟨0, 0, none⟩) (cell_lt h1)).trans h1⟩, ⟨t, p, (hb.cell (p := ⟨1, 0, none⟩) (cell_lt h2)).trans h2⟩, ⟨t', p', (hb.cell (p := ⟨2, 0, none⟩) (cell_lt h3)).trans h3⟩⟩
theorem below_dN {B : Nat} {a w : World} (h : Below B a w) (n : Nat) : Below B a (w.drewN n) := h.trans ⟨rfl, rfl, rfl, Nat.le_refl _, fun _ _ => rfl⟩
theorem nil_not (u : Int) : Lib.atoiAll [] ≠ .ok u := by
  intro h
  simp [Lib.atoiAll] at h
theorem atoi_any (p : List UInt8) (hp : p.length ≤ 100) (W : World) (hE : Env W) :
    Calls Tryd.prog 59 #[.string ⟨p.toArray⟩] W fun e w' => ∃ (v : Int) (x : Value), e = .returned (.tuple #[.int .i64 v, x]) ∧ Reads p v ∧ Below W.heap.size W w' := by
  have hs : (⟨p.toArray⟩ : ByteArray).size = p.length := by show p.toArray.size = _; simp
  have hl : (⟨p.toArray⟩ : ByteArray).data.toList = p := by simp
  obtain ⟨_, ⟨t, q, h2⟩, ⟨t', q', h3⟩⟩ := hE
  rcases hc : Lib.atoiAll p with v | _ | _
  · refine (Tryd.strconv_Atoi_ok ⟨p.toArray⟩ (by omega) v (by rw [hl]; exact hc) W).mono ?_
    have HR := Lib.hid (show Reads p v from ⟨fun u hu => by rw [hc] at hu; cases hu; rfl, fun e => by subst e; exact absurd hc (nil_not v)⟩)
    rintro e w' ⟨rfl, rfl | ⟨t, rfl⟩⟩
    · exact ⟨_, _, rfl, HR.out, Below.refl _ _⟩
    · exact ⟨_, _, rfl, HR.out, Lib.bytesWorld_below _ _ _⟩
  · refine (Tryd.strconv_Atoi_syntax ⟨p.toArray⟩ (by omega) (by rw [hl]; exact hc) (.iface t q) W h2 (Or.inr ⟨t, q, rfl⟩)).mono ?_
    rintro e w' ⟨N, rfl, _, _, hb⟩
    exact ⟨_, _, rfl, ⟨(fun u hu => by rw [hc] at hu; cases hu), fun _ => rfl⟩, hb⟩
  · refine (Tryd.strconv_Atoi_range ⟨p.toArray⟩ (by omega) (by rw [hl]; exact hc) (.iface t' q') W h3 (Or.inr ⟨t', q', rfl⟩)).mono ?_
    rintro e w' ⟨N, rfl, _, _, hb⟩
    exact ⟨_, _, rfl, ⟨(fun u hu => by rw [hc] at hu; cases hu), fun e => by subst e; simp [Lib.atoiAll] at hc⟩, hb⟩
theorem cut_any (p : List UInt8) (c : UInt8) (hp : p.length ≤ 100) (W : World) (hE : Env W) :
    Calls Tryd.prog 58 #[.string ⟨p.toArray⟩, .string ⟨#[c]⟩] W fun e w' => e = .returned (.tuple #[.string ⟨(Lib.cut p [c]).1.toArray⟩, .string ⟨(Lib.cut p [c]).2.1.toArray⟩, .bool (Lib.cut p [c]).2.2]) ∧ Below W.heap.size W w' := by
  have hs : (⟨p.toArray⟩ : ByteArray).size = p.length := by show p.toArray.size = _; simp
  obtain ⟨⟨m, h1⟩, _⟩ := hE
  refine (Tryd.strings_Cut ⟨p.toArray⟩ ⟨#[c]⟩ m W (by omega) h1).mono ?_
  rintro e w' ⟨rfl, n, rfl⟩
  exact ⟨by simp, below_dN (Below.refl _ _) _⟩
theorem cut_le (p : List UInt8) (c : UInt8) : (Lib.cut p [c]).1.length ≤ p.length ∧ (Lib.cut p [c]).2.1.length ≤ p.length := by
  unfold Lib.cut
  split
  · exact ⟨by rw [List.length_take]; omega, by rw [List.length_drop]; omega⟩
  · exact ⟨Nat.le_refl _, by simp⟩
theorem strs_split (c : UInt8) (l : List UInt8) : ((Lib.splitB ⟨#[c]⟩ 0 (Lib.countB ⟨l.toArray⟩ ⟨#[c]⟩) ⟨l.toArray⟩).map Value.string) = P.strs (sp c l) ∧ Lib.countB ⟨l.toArray⟩ ⟨#[c]⟩ + 1 = (sp c l).length := by
  have hk := split_eq c (⟨l.toArray⟩ : ByteArray).size ⟨l.toArray⟩ (Nat.le_refl _)
  have e : (⟨l.toArray⟩ : ByteArray).data.toList = l := by simp
  rw [e] at hk
  constructor
  · rw [← hk]
    unfold P.strs
    rw [List.map_map]
    apply List.map_congr_left
    intro x _
    simp
  · rw [← hk, List.length_map]
    exact (Lib.splitB_all ⟨#[c]⟩ (Nat.le_refl 1) 0 _ _ rfl).symm
theorem split_any (c : UInt8) (l : List UInt8) (hl : l.length ≤ 100) (W : World) (hE : Env W) :
    Calls Tryd.prog 70 #[.string ⟨l.toArray⟩, .string ⟨#[c]⟩] W fun e w' => e = .returned (.slice (some ⟨W.heap.size, 0, none⟩) (sp c l).length (sp c l).length) ∧ w'.ownsRow W.heap.size 9 1 (.slice (some ⟨W.heap.size, 0, none⟩) (sp c l).length (sp c l).length) (sp c l).length (P.strs (sp c l)) ∧ Below W.heap.size W w' := by
  have hs : (⟨l.toArray⟩ : ByteArray).size = l.length := by show l.toArray.size = _; simp
  obtain ⟨⟨m, h1⟩, _⟩ := hE
  obtain ⟨k1, k2⟩ := strs_split c l
  have hn := sp_le c l
  refine (Tryd.strings_Split ⟨l.toArray⟩ ⟨#[c]⟩ m W (by omega) h1 (Nat.le_refl 1)).mono ?_
  rintro e w' ⟨rfl, rfl⟩
  rw [k2, k1]
  refine ⟨rfl, ?_, (Below.refl _ _).alloc (Nat.le_refl _) _⟩
  have := World.ownsRow_lit (base := W.heap.size) (e := 9) (size := 1) W (P.strs (sp c l)).toArray (sp c l).length (Nat.le_refl _) (by unfold maxLen; omega) (by simp [P.strs])
  simpa using this
theorem strs_at (ps : List (List UInt8)) (j : Nat) (h : j < ps.length) : (P.strs ps)[j]? = some (.string ⟨(ps.getD j []).toArray⟩) := by
  simp [P.strs, List.getD, List.getElem?_eq_getElem h]
theorem part_at {W : World} {base g n cap : Nat} {L : List (List UInt8)} (h : W.ownsRow base 9 1 (.slice (some ⟨g, 0, none⟩) n cap) n (P.strs L)) (hn : L.length = n) {k : Nat} (hk : k < n) : ∃ q, Hid (L.getD k [] = q) ∧ W.cell? ⟨g, k, none⟩ = some (.string ⟨q.toArray⟩) :=
  ⟨_, Lib.hid rfl, (h.cellAt k (by omega)).trans (strs_at L k (by omega))⟩
theorem getD_mem (L : List (List UInt8)) (k : Nat) (h : k < L.length) : L.getD k [] ∈ L := by
  simp [List.getD, List.getElem?_eq_getElem h]
theorem nums_snoc (zs : List Int) (v : Int) : Li.nums (zs ++ [v]) = Li.nums zs ++ [.int .i64 v] := by simp [Li.nums]
/-- a list of what is read of the parts -/
def Sn (c : UInt8) (l : List UInt8) (W : World) (e : Ending) (w' : World) : Prop :=
  ∃ (g cap : Nat) (zs : List Int), e = .returned (.slice (some ⟨g, 0, none⟩) (sp c l).length cap) ∧ Sh.Ow w' W.heap.size g (sp c l).length cap zs ∧ (zs.length = (sp c l).length ∧ ∀ k, k < zs.length → Reads ((sp c l).getD k []) (zs.getD k 0)) ∧ Below W.heap.size W w'
set_option maxRecDepth 100000 in
set_option maxHeartbeats 2000000 in
theorem numbers_any (c : UInt8) (l : List UInt8) (hl : l.length ≤ 100) (w : World) (hE : Env w) :
    Calls Tryd.prog 52 #[.string ⟨l.toArray⟩, .string ⟨#[c]⟩] w (Sn c l w) := by
  have S1 := Lib.hid (split_any c l hl w hE)
  have HP := Lib.hid (sp_part c l)
  have AP := Lib.hid (fun (q : List UInt8) (hq : q ∈ sp c l) (W : World) (hE : Env W) => atoi_any q (by have := HP.out q hq; omega) W hE)
  have hn1 := sp_pos c l
  have hn2 := sp_le c l
  have HE := Lib.hid (fun W' (h : Below w.heap.size w W') => hE.on h)
  obtain ⟨L, hL⟩ : ∃ L, sp c l = L := ⟨_, rfl⟩
  rw [hL] at S1 AP hn1 hn2
  have HLq := Lib.hid hL
  obtain ⟨n, hn⟩ : ∃ n, L.length = n := ⟨_, rfl⟩
  rw [hn] at S1 hn1 hn2
  have HN := Lib.hid hn
  obtain ⟨i0, hi, hz0, hz1, hz2⟩ := info_parts Li.info3
  clear hL hn hE HP
  go_enter Tryd.func52, Tryd.ntmps52
  go_wp2_with fail
  refine S1.out.mono ?_
  rintro e w1 ⟨rfl, o1, hb⟩
  have HB1 := Lib.hid hb
  have O1 := Lib.hid o1
  clear hb o1
  go_wp2_with fail
  go_loopw [5, 14] (fun p i wr => ∃ (k : Nat) (zs : List Int), k ≤ n ∧ i = .int .i64 (k : Int) ∧ wr.ownsRow w1.heap.size 3 1 p k (Li.nums zs) ∧ wr.ownsRow w.heap.size 9 1 (.slice (some ⟨w.heap.size, 0, none⟩) n n) n (P.strs L) ∧ Below w.heap.size w wr ∧ zs.length = k ∧ w1.heap.size ≤ wr.heap.size ∧ ∀ j, j < zs.length → Reads (L.getD j []) (zs.getD j 0)) (fun _ i _ => ((n : Int) - intOf i).toNat)
  case atStart => exact ⟨0, [], by omega, rfl, World.ownsRow_nil _ _ _ _, O1.out, HB1.out, rfl, Nat.le_refl _, fun j hj => by simp at hj⟩
  case round =>
    obtain ⟨k, zs, hk, rfl, hown, hparts, hb, hzk, hsz, hzr⟩ := hrel
    have HZK := Lib.hid hzk
    have HZR := Lib.hid hzr
    have HB := Lib.hid hb
    clear hzk hzr hb
    by_cases hlt : (k : Int) < n
    · have hk2 : k < n := by omega
      obtain ⟨q, HQK, hcq⟩ := part_at hparts HN.out hk2
      have hqL : q ∈ L := by rw [← HQK.out]; exact getD_mem L k (by rw [HN.out]; omega)
      have A2 := Lib.hid (AP.out q hqL)
      have HPw := Lib.hid hparts
      have HOw := Lib.hid hown
      clear hparts hown
      go_wp2_with fail
      refine (A2.out _ (HE.out _ HB.out)).mono ?_
      rintro e w5 ⟨v, xv, rfl, hrv, hb⟩
      have NX := Lib.hid (reads_next HZK.out HZR.out HQK.out hrv)
      have hown2 := Li.own_on HOw.out hb
      have HP2 := Lib.hid (World.ownsRow.alloc (Li.own_on HPw.out hb) (.cells #[.int .i64 v] 3))
      have hb4 := HB.out.trans (Sh.below_le hb HB.out.size)
      have hsz2 : w1.heap.size ≤ w5.heap.size := Nat.le_trans hsz hb.size
      have hw1 : w.heap.size < w1.heap.size := (O1.out.lt w.heap.size rfl).2
      have hkz : k ≤ 101 := by omega
      clear hb hrv
      go_wp2_with (first | (at_builtin; refine wpList_append_own _ rfl _ _ 26 rfl w1.heap.size 3 i0 (.int .i64 0) 1 8 Tryd.underlying26 hi hz0 hz1 hz2 rfl (by decide) _ _ _ rfl (hown2.alloc _) ⟨w5.heap.size, 0, none⟩ 1 1 [.int .i64 v] rfl rfl (cell_one_new _ _ _) (fun x hx => by simp at hx; subst hx; rfl) (by unfold maxLen; omega) (by omega) (by simp; omega) ?_; intro v3 w3 hown3 hgrow3 _))
      have HB4 := Lib.hid (Below.grown (hb4.alloc hb4.size (.cells #[.int .i64 v] 3)) hgrow3 (by have := hb4.size; simp; omega) (fun j hj => by have := (hown2.lt j hj).1; omega))
      have HP3 := Lib.hid (HP2.out.kept hgrow3 (_root_.Or.inr (fun e => by have := (hown2.lt w.heap.size e.symm).1; omega)))
      have HS3 := Lib.hid (show w1.heap.size ≤ w3.heap.size by have := hgrow3.size; simp at this; omega)
      have HO3 := Lib.hid (show w3.ownsRow w1.heap.size 3 1 v3 (k + 1) (Li.nums (zs ++ [v])) by rw [nums_snoc]; exact hown3)
      clear hown3 hgrow3 hown2 hb4
      go_roundw
      case rel => exact ⟨k + 1, zs ++ [v], by omega, by go_num, HO3.out, HP3.out, HB4.out, by simp [HZK.out], HS3.out, NX.out⟩
      case measure => simp [intOf]; omega
    · have ek : k = n := by omega
      subst ek
      have hw1 : w.heap.size < w1.heap.size := (O1.out.lt w.heap.size rfl).2
      rcases Li.own_forms hown with ⟨_, h0⟩ | ⟨gz, cz, rfl⟩
      · omega
      have HOW := Lib.hid (show Sh.Ow wr w.heap.size gz k cz zs from Li.own_le hown (by omega))
      clear hown hparts
      go_wp2
      go_ret
      exact ⟨gz, cz, zs, by rw [HLq.out, HN.out]; rfl, by rw [HLq.out, HN.out]; exact HOW.out, ⟨by rw [HLq.out, HN.out, HZK.out], by rw [HLq.out]; exact HZR.out⟩, HB.out⟩
end P
end Go.Proofs.YtkfoapidmockfabDoor
