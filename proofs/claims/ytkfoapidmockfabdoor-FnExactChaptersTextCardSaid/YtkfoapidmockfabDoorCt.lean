/- The text of chapters from both sides. -/
import Derived.Test.YtkfoapidmockfabDoorJn
import Derived.Test.YtkfoapidmockfabDoorCg
namespace Go.Proofs.YtkfoapidmockfabDoor
open Go.RowKit Go.Joins Go.Deep Go.ChangeShapes Go.WideShapes
set_option linter.unusedVariables false
set_option linter.unusedSimpArgs false
namespace Ch
open Sh hiding Ok good good_iff sGood_any iGood_any
open Jn
theorem nb_of {zs : List Int} (h : Ok zs) : Nb zs := ⟨by have := h.2.1; omega, fun k hk => by have := h.2.2 k hk; omega⟩
set_option maxRecDepth 100000 in
set_option maxHeartbeats 1000000 in
theorem caText_any {b1 g len cap : Nat} {zs : List Int} {w : World} (h : Ow w b1 g len cap zs) (ho : Nb zs) :
    Calls Tryd.prog 47 #[.slice (some ⟨g, 0, none⟩) len cap] w (Ret (.string (sj 43 zs len)) w) := by
  have hz := ow_len h
  have HO := Lib.hid h
  have HK := Lib.hid ho
  have HZ := Lib.hid hz
  have hl20 : len ≤ 20 := by have := ho.1; omega
  clear h ho hz
  go_enter Tryd.func47, Tryd.ntmps47
  go_wp2
  go_loopw [3, 8] (fun o i wr => ∃ k : Nat, k ≤ len ∧ i = .int .i64 (k : Int) ∧ o = .string (sj 43 zs k) ∧ Below w.heap.size w wr) (fun _ i _ => ((len : Int) - intOf i).toNat)
  case atStart => exact ⟨0, by omega, rfl, rfl, Below.refl _ _⟩
  case round =>
    obtain ⟨k, hk, rfl, rfl, hb⟩ := hrel
    have HB := Lib.hid hb
    have hsz := sj_size 43 HK.out k (by rw [HZ.out]; exact hk)
    clear hb
    by_cases hlt : (k : Int) < len
    · have hk2 : k < len := by omega
      obtain ⟨z, HZK, hc⟩ := ow_at (Li.own_on HO.out HB.out) hk2
      have hz1 := HK.out.2 k (by rw [HZ.out]; omega)
      rw [HZK.out] at hz1
      have hnb := num_bd z hz1.1 hz1.2
      have C1 := Lib.hid (fun W => l1Num_at z hz1.1 (by omega) W)
      by_cases hk0 : (0 : Int) < k
      · have ek : k ≠ 0 := by omega
        have ES := Lib.hid (sj_next 43 zs k ek)
        have r1 : ∀ W : World, (Op.stringOp .add (sj 43 zs k) ⟨#[43]⟩).run Tryd.prog W = .ok (.string (sj 43 zs k ++ ⟨#[43]⟩)) W := fun W => run_string_add_sum W _ _ (by rw [one_size]; omega)
        have r2 : ∀ W : World, (Op.stringOp .add (sj 43 zs k ++ ⟨#[43]⟩) (numS z.toNat)).run Tryd.prog W = .ok (.string ((sj 43 zs k ++ ⟨#[43]⟩) ++ numS z.toNat)) W := fun W => run_string_add_sum W _ _ (by rw [ByteArray.size_append, one_size]; omega)
        go_wp2_with (first | (go_at_call 38; refine (C1.out _).mono ?_; rintro e w2 ⟨rfl, hb3⟩))
        go_roundw
        case rel => exact ⟨k + 1, by omega, by go_num, by rw [ES.out, HZK.out], Li.below_next HB.out hb3⟩
        case measure => simp [intOf]; omega
      · have ek : k = 0 := by omega
        subst ek
        have r2 : ∀ W : World, (Op.stringOp .add (sj 43 zs 0) (numS z.toNat)).run Tryd.prog W = .ok (.string (sj 43 zs 0 ++ numS z.toNat)) W := fun W => run_string_add_sum W _ _ (by omega)
        go_wp2_with (first | (go_at_call 38; refine (C1.out _).mono ?_; rintro e w2 ⟨rfl, hb3⟩))
        go_roundw
        case rel => exact ⟨1, by omega, by go_num, by rw [sj_first, HZK.out]; rfl, Li.below_next HB.out hb3⟩
        case measure => simp [intOf]; omega
    · have ek : k = len := by omega
      have EK := Lib.hid ek
      clear ek
      go_wp2
      go_ret
      exact ⟨ret_s (by rw [EK.out]), HB.out⟩
def ctx (zs : List Int) : ByteArray := if good zs = true then sj 43 zs zs.length else ByteArray.empty
theorem ctx_no {zs : List Int} (h : good zs = false) : ctx zs = ByteArray.empty := by unfold ctx; rw [h]; rfl
theorem ctx_yes {zs : List Int} (h : good zs = true) : ctx zs = sj 43 zs zs.length := by unfold ctx; rw [if_pos h]
theorem sText {b1 g len cap : Nat} {zs : List Int} {w : World} (h : Ow w b1 g len cap zs) (hl : len ≤ 1048576) :
    Calls Tryd.prog 21 #[.slice (some ⟨g, 0, none⟩) len cap] w (Ret (.tuple #[.string (ctx zs), .bool (good zs)]) w) := by
  have HO := Lib.hid h
  have hz := ow_len h
  cases hg : good zs with
  | false =>
    have HG := Lib.hid hg
    have E := Lib.hid (ctx_no hg)
    rw [E.out]
    clear h hg hz
    go_enter Tryd.func21, Tryd.ntmps21
    go_wp2_with fail
    refine (sGood_any HO.out hl false HG.out).mono ?_
    rintro e w' ⟨rfl, rfl⟩
    go_wp2
    go_ret2
    exact ⟨rfl, Below.refl _ _⟩
  | true =>
    have HG := Lib.hid hg
    have HN := Lib.hid (nb_of ((good_iff zs).1 hg))
    have E := Lib.hid (show ctx zs = sj 43 zs len by rw [ctx_yes hg, hz])
    rw [E.out]
    clear h hg hz
    go_enter Tryd.func21, Tryd.ntmps21
    go_wp2_with fail
    refine (sGood_any HO.out hl true HG.out).mono ?_
    rintro e w' ⟨rfl, rfl⟩
    go_wp2_with fail
    refine (caText_any HO.out HN.out).mono ?_
    rintro e w1 ⟨rfl, hb⟩
    have HB := Lib.hid hb
    clear hb
    go_wp2
    go_ret2
    exact ⟨rfl, HB.out⟩
theorem iText {b1 g len cap : Nat} {zs : List Int} {w : World} (ht : TabOn w) (h : Ow w b1 g len cap zs) (hl : len ≤ 1048576) :
    Calls Tryd.prog 22 #[.slice (some ⟨g, 0, none⟩) len cap] w (Ret (.tuple #[.string (ctx zs), .bool (good zs)]) w) := by
  have HO := Lib.hid h
  have HT := Lib.hid ht
  have hz := ow_len h
  cases hg : good zs with
  | false =>
    have HG := Lib.hid hg
    have E := Lib.hid (ctx_no hg)
    rw [E.out]
    clear h hg hz ht
    go_enter Tryd.func22, Tryd.ntmps22
    go_wp2_with fail
    refine (iGood_any HO.out hl false HG.out).mono ?_
    rintro e w' ⟨rfl, rfl⟩
    go_wp2
    go_ret2
    exact ⟨rfl, Below.refl _ _⟩
  | true =>
    have HG := Lib.hid hg
    have hk := (good_iff zs).1 hg
    have hl1 : 1 ≤ len := by have := hk.1; omega
    have HN := Lib.hid (nb_of hk)
    have E := Lib.hid (show ctx zs = sj 43 zs len by rw [ctx_yes hg, hz])
    rw [E.out]
    clear h hg hz ht hk
    go_enter Tryd.func22, Tryd.ntmps22
    go_wp2_with fail
    refine (iGood_any HO.out hl true HG.out).mono ?_
    rintro e w' ⟨rfl, rfl⟩
    go_wp2_with fail
    refine (numbers_any 43 HT.out HO.out HN.out hl1).mono ?_
    rintro e w1 ⟨rfl, hb⟩
    have HB := Lib.hid hb
    clear hb
    go_wp2
    go_ret2
    exact ⟨rfl, HB.out⟩
end Ch
end Go.Proofs.YtkfoapidmockfabDoor
