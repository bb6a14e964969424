/- Ranges as a text: RangesText of the model and of the program. -/
import Derived.Test.YtlghonnakokioaaDoorRt
namespace Go.Proofs.YtlghonnakokioaaDoor
open Go.RowKit Go.Joins Go.Deep Go.ChangeShapes Go.WideShapes
set_option linter.unusedVariables false
set_option linter.unusedSimpArgs false
namespace Rt
open P Rg Gm Sr
def rtx (zs : List Int) (n : Nat) : ByteArray := if good zs n = true then ⟨(rj zs n).toArray⟩ else ByteArray.empty
theorem rtx_no {zs : List Int} {n : Nat} (h : good zs n = false) : rtx zs n = ByteArray.empty := by unfold rtx; rw [h]; rfl
theorem rtx_yes {zs : List Int} {n : Nat} (h : good zs n = true) : rtx zs n = ⟨(rj zs n).toArray⟩ := if_pos h
theorem sText {b1 g len cap : Nat} {zs : List Int} {w : World} (h : Own w b1 (.slice (some ⟨g, 0, none⟩) len cap) len zs) (hl : len ≤ 1048576) :
    Calls Tryd.prog 16 #[.slice (some ⟨g, 0, none⟩) len cap] w (Ret (.tuple #[.string (rtx zs len), .bool (good zs len)]) w) := by
  have HO := Lib.hid h
  cases hg : good zs len with
  | false =>
    have HG := Lib.hid hg
    rw [rtx_no hg]
    clear h hg
    go_enter Tryd.func16, Tryd.ntmps16
    go_wp2_with fail
    refine (Gw.ixGood_some HO.out hl false HG.out).mono ?_
    rintro e w' ⟨rfl, hb⟩
    go_wp2
    go_ret2
    exact ⟨rfl, hb⟩
  | true =>
    have HG := Lib.hid hg
    rw [rtx_yes hg]
    clear h hg
    go_enter Tryd.func16, Tryd.ntmps16
    go_wp2_with fail
    refine (Gw.ixGood_some HO.out hl true HG.out).mono ?_
    rintro e w' ⟨rfl, hb1⟩
    go_wp2_with fail
    refine (ixText_any (Li.own_on HO.out hb1) HG.out).mono ?_
    rintro e w1 ⟨rfl, hb⟩
    go_wp2
    go_ret2
    exact ⟨rfl, below_next hb1 hb⟩
def vs (L : List (List UInt8)) : List Value := L.map fun p => .string ⟨p.toArray⟩
theorem vs_next (L : List (List UInt8)) (p : List UInt8) : vs (L ++ [p]) = vs L ++ [.string ⟨p.toArray⟩] := by simp [vs]
theorem info9 : (Tryd.prog.info? 9).map (fun i => (i.zero, i.size, i.bytes)) = some (some (.string ByteArray.empty), 1, 16) := by kernel_rfl
theorem join_any {L : List (List UInt8)} {v : Value} {B : Nat} {W : World} (h8 : (Lib.join L [44]).length ≤ 1000000) (hn : L.length ≤ 1000) (h : W.ownsRow B 9 1 v L.length (vs L)) :
    Calls Tryd.prog 43 #[v, .string ⟨#[44]⟩] W fun e w' => e = .returned (.string ⟨(Lib.join L [44]).toArray⟩) ∧ Below W.heap.size W w' := by
  have e1 : (⟨#[44]⟩ : ByteArray).data.toList = [44] := rfl
  have e2 : (L.map (fun p => (⟨p.toArray⟩ : ByteArray))).map (·.data.toList) = L := by rw [List.map_map]; simp [Function.comp_def]
  obtain ⟨_, ⟨hv, h0⟩ | ⟨g', cap, cur, hv, hbase, hheap, hncap, hcapmax, hsize, htake⟩⟩ := id h
  · have hL : L = [] := List.eq_nil_of_length_eq_zero h0
    subst hL hv
    refine (Any.strings_Join_none Tryd.lays156 Tryd.Builder_Extra_156 none 0 ⟨#[44]⟩ W).mono ?_
    rintro e w' ⟨rfl, rfl⟩
    exact ⟨rfl, Below.refl _ _⟩
  · subst hv
    have HJ := Tryd.strings_Join g' 0 cap (L.map (fun p => (⟨p.toArray⟩ : ByteArray))) ⟨#[44]⟩ W (fun t x hx => by
          have ht : t < L.length := by have := (List.getElem?_eq_some_iff.mp hx).1; simpa using this
          have := h.cellAt t (by omega)
          rw [Nat.zero_add, this]
          unfold vs
          rw [List.getElem?_map] at hx ⊢
          cases hL : L[t]? with
          | none => rw [hL] at hx; cases hx
          | some p => rw [hL] at hx; simp at hx; rw [← hx]; rfl) (by have := (Array.getElem?_eq_some_iff.mp hheap).1; exact this) (by rw [List.length_map]; omega) (by rw [List.length_map]; exact hncap) (by rw [e1, e2]; omega)
    rw [e1, e2, List.length_map] at HJ
    exact HJ
set_option maxRecDepth 100000 in
set_option maxHeartbeats 4000000 in
theorem iText {b1 g len cap : Nat} {zs : List Int} {w : World} (ht : TabOn w) (h : Own w b1 (.slice (some ⟨g, 0, none⟩) len cap) len zs) (hl : len ≤ 1048576) :
    Calls Tryd.prog 18 #[.slice (some ⟨g, 0, none⟩) len cap] w (Ret (.tuple #[.string (rtx zs len), .bool (good zs len)]) w) := by
  have HO := Lib.hid h
  have HT := Lib.hid ht
  cases hg : good zs len with
  | false =>
    have HG := Lib.hid hg
    rw [rtx_no hg]
    clear h hg ht
    go_enter Tryd.func18, Tryd.ntmps18
    go_wp2_with fail
    refine (Gw.areRanges_some HO.out hl false HG.out).mono ?_
    rintro e w' ⟨rfl, hb⟩
    go_wp2
    go_ret2
    exact ⟨rfl, hb⟩
  | true =>
    have HA := Lib.hid hg
    have HG := Lib.hid ((good_iff zs len).1 hg).2
    have h20 := ((good_iff zs len).1 hg).1
    rw [rtx_yes hg]
    obtain ⟨i0, hi, hz0, hz1, hz2⟩ := info_parts info9
    clear h hg ht
    go_enter Tryd.func18, Tryd.ntmps18
    go_wp2_with fail
    refine (Gw.areRanges_some HO.out hl true HA.out).mono ?_
    rintro e w0 ⟨rfl, hb0⟩
    have HB0 := Lib.hid hb0
    clear hb0
    go_wp2
    go_loopw [4, 14] (fun p i wr => ∃ k : Nat, k ≤ len ∧ i = .int .i64 (k : Int) ∧ wr.ownsRow w.heap.size 9 1 p k (vs (ps zs k)) ∧ Below w.heap.size w wr) (fun _ i _ => ((len : Int) - intOf i).toNat)
    case atStart => exact ⟨0, by omega, rfl, World.ownsRow_nil _ _ _ _, HB0.out⟩
    case round =>
      obtain ⟨k, hk, rfl, hown, hb⟩ := hrel
      have HB := Lib.hid hb
      by_cases hlt : (k : Int) < len
      · have hk2 : k < len := by omega
        obtain ⟨q0, q1⟩ := cells2 (Li.own_on HO.out hb) (k := k) hk2
        have HR := Lib.hid (at_of (HG.out k hk2))
        have HP := Lib.hid (ps_next zs k)
        have CS := Lib.hid (fun W hW => iShort (zs.getD (k * 2) 0) (zs.getD (k * 2 + 1) 0) W hW)
        have EX := Lib.hid (stx_yes (at_of (HG.out k hk2)))
        have ET := Lib.hid (show tx zs k = sh (zs.getD (k * 2) 0).toNat (zs.getD (k * 2 + 1) 0).toNat from rfl)
        rw [HR.out, EX.out, ← ET.out] at CS
        clear EX HR ET
        obtain ⟨b, hbb⟩ : ∃ b, tx zs k = b := ⟨_, rfl⟩
        rw [hbb] at HP CS
        clear hbb
        generalize zs.getD (k * 2) 0 = f at *
        generalize zs.getD (k * 2 + 1) 0 = t at *
        have X := B2.new wr (.int .i64 f) (.int .i64 t) 26
        obtain ⟨-, x0, x1⟩ := id X
        have hbA := hb.alloc hb.size (.cells #[.int .i64 f, .int .i64 t] 26)
        have hsz := hb.size
        have hownA := hown.alloc (.cells #[.int .i64 f, .int .i64 t] 26)
        clear hb hown
        go_wp2_with fail
        refine (CS.out _ (tabOn_next HT.out hbA)).mono ?_
        rintro e w2 ⟨rfl, hb3⟩
        have hown2 := Li.own_on hownA hb3
        have hb4 := below_next hbA hb3
        have hsz2 := hb4.size
        clear hownA hbA hb3 x0 x1 X
        go_wp2_with (first | (at_builtin; refine wpList_append_own _ rfl _ _ 63 rfl w.heap.size 9 i0 (.string ByteArray.empty) 1 16 Tryd.underlying63 hi hz0 hz1 hz2 rfl (by decide) _ _ _ rfl (hown2.alloc _) ⟨w2.heap.size, 0, none⟩ 1 1 [.string ⟨b.toArray⟩] rfl rfl (cell_one_new _ _ _) (fun x hx => by simp at hx; subst hx; rfl) (by unfold maxLen; omega) (by omega) (by simp; omega) ?_; intro v3 w3 hown3 hgrow3 _))
        have HB4 := Lib.hid (Below.grown (hb4.alloc hb4.size (.cells #[.string ⟨b.toArray⟩] 9)) hgrow3 (by simp; omega) (fun k hk => (hown2.lt k hk).1))
        have HO3 := Lib.hid (show w3.ownsRow w.heap.size 9 1 v3 (k + 1) (vs (ps zs (k + 1))) by rw [HP.out, vs_next]; exact hown3)
        clear hown3 hgrow3 hown2 hb4
        go_roundw
        case rel => exact ⟨k + 1, by omega, by go_num, HO3.out, HB4.out⟩
        case measure => simp [intOf]; omega
      · have ek : k = len := by omega
        subst ek
        have e8 := rj_len HG.out k (Nat.le_refl _)
        have CJ := Lib.hid (join_any (L := ps zs k) (show (rj zs k).length ≤ 1000000 by omega) (by rw [ps_len]; omega) (by rw [ps_len]; exact hown))
        clear hown
        go_wp2_with fail
        refine CJ.out.mono ?_
        rintro e w5 ⟨rfl, hb7⟩
        go_wp2
        go_ret2
        exact ⟨rfl, HB.out.trans (Rg.below_le hb7 HB.out.size)⟩
end Rt
end Go.Proofs.YtlghonnakokioaaDoor
