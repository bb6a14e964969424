/- Numbers with a sign between them: joined by the program, and what there is of them in the model. -/
import Derived.Test.YtkfoapidmockfabDoorIt
import Derived.Test.YtkfoapidmockfabDoorSh2
import Derived.Maps.AppendAt
namespace Go.Proofs.YtkfoapidmockfabDoor
open Go.RowKit Go.Joins Go.Deep Go.ChangeShapes Go.WideShapes
set_option linter.unusedVariables false
set_option linter.unusedSimpArgs false
namespace Jn
open Sh
/-- the first k numbers, with a sign between them -/
def sj (s : UInt8) (zs : List Int) : Nat → ByteArray
  | 0 => ByteArray.empty
  | k + 1 => (if k = 0 then sj s zs k else sj s zs k ++ ⟨#[s]⟩) ++ numS (zs.getD k 0).toNat
theorem sj_first (s : UInt8) (zs : List Int) : sj s zs 1 = ByteArray.empty ++ numS (zs.getD 0 0).toNat := rfl
theorem sj_next (s : UInt8) (zs : List Int) (k : Nat) (h : k ≠ 0) : sj s zs (k + 1) = (sj s zs k ++ ⟨#[s]⟩) ++ numS (zs.getD k 0).toNat := by
  show (if k = 0 then sj s zs k else sj s zs k ++ ⟨#[s]⟩) ++ _ = _
  rw [if_neg h]
theorem one_size (a : UInt8) : (⟨#[a]⟩ : ByteArray).size = 1 := rfl
theorem num_bd (z : Int) (h1 : 0 ≤ z) (h2 : z ≤ 1000) : 1 ≤ (numS z.toNat).size ∧ (numS z.toNat).size ≤ 1001 := by
  have := size_bd z.toNat
  omega
/-- numbers from 0 to 1000 -/
def Nb (zs : List Int) : Prop := zs.length ≤ 20 ∧ ∀ k, k < zs.length → 0 ≤ zs.getD k 0 ∧ zs.getD k 0 ≤ 1000
theorem sj_size (s : UInt8) {zs : List Int} (h : Nb zs) (k : Nat) (hk : k ≤ zs.length) : (sj s zs k).size ≤ 1002 * k := by
  induction k with
  | zero => show ByteArray.empty.size ≤ 0; exact Nat.le_refl 0
  | succ k ih =>
    have h1 := ih (by omega)
    have h2 := h.2 k (by omega)
    have h3 := num_bd (zs.getD k 0) (by omega) h2.2
    by_cases e : k = 0
    · subst e
      rw [sj_first, ByteArray.size_append]
      have e0 : ByteArray.empty.size = 0 := rfl
      omega
    · rw [sj_next s zs k e, ByteArray.size_append, ByteArray.size_append, one_size]
      omega
theorem l1Num_at (z : Int) (h1 : 0 ≤ z) (h2 : z ≤ 2000) (W : World) :
    Calls Tryd.prog 38 #[.int .i64 z] W fun e w' => e = .returned (.string (numS z.toNat)) ∧ Below W.heap.size W w' := by
  obtain ⟨n, rfl⟩ := Int.eq_ofNat_of_zero_le h1
  exact l1Num_any n (by omega) W
theorem itoa_at (z : Int) (h1 : 0 ≤ z) (h2 : z ≤ 2000) (W : World) (h : Tab W) :
    Calls Tryd.prog 41 #[.int .i64 z] W fun e w' => e = .returned (.string (numS z.toNat)) ∧ Below W.heap.size W w' := by
  obtain ⟨n, rfl⟩ := Int.eq_ofNat_of_zero_le h1
  exact itoa_any n (by omega) W h
theorem ret_s {a b : ByteArray} (h : a = b) : Ending.returned (.string a) = .returned (.string b) := by rw [h]
theorem ret_sb {a b : ByteArray} {v v' : Bool} (h : a = b) (h2 : v = v') : Ending.returned (.tuple #[.string a, .bool v]) = .returned (.tuple #[.string b, .bool v']) := by rw [h, h2]
/-- the first k numbers' texts -/
def ps (zs : List Int) (k : Nat) : List ByteArray := (List.range k).map fun i => numS (zs.getD i 0).toNat
theorem ps_len (zs : List Int) (k : Nat) : (ps zs k).length = k := by simp [ps]
theorem ps_next (zs : List Int) (k : Nat) : ps zs (k + 1) = ps zs k ++ [numS (zs.getD k 0).toNat] := by simp [ps, List.range_succ]
theorem join_snoc (xs : List (List UInt8)) (x sep : List UInt8) (h : xs ≠ []) : Lib.join (xs ++ [x]) sep = Lib.join xs sep ++ sep ++ x := by
  cases xs with
  | nil => exact absurd rfl h
  | cons y r =>
    rw [List.cons_append, Lib.join_cons, Lib.join_cons]
    simp [Lib.joinTail, List.append_assoc]
theorem join_ps (s : UInt8) (zs : List Int) (k : Nat) (hk : 1 ≤ k) : Lib.join ((ps zs k).map (·.data.toList)) [s] = (sj s zs k).data.toList := by
  induction k with
  | zero => omega
  | succ k ih =>
    by_cases e : k = 0
    · subst e
      rw [sj_first]
      show Lib.join [(numS (zs.getD 0 0).toNat).data.toList] [s] = _
      rw [Lib.join_one]
      simp [ByteArray.data_append]
    · have hne : (ps zs k).map (·.data.toList) ≠ [] := by
        intro h0
        have := congrArg List.length h0
        simp [ps] at this
        omega
      rw [ps_next, List.map_append, List.map_cons, List.map_nil, join_snoc _ _ _ hne, ih (by omega), sj_next s zs k e]
      simp [ByteArray.data_append, List.append_assoc]
theorem info9 : (Tryd.prog.info? 9).map (fun i => (i.zero, i.size, i.bytes)) = some (some (.string ByteArray.empty), 1, 16) := by kernel_rfl
theorem join_any (s : UInt8) {zs : List Int} {v : Value} {B k : Nat} {W : World} (ho : Nb zs) (h1 : 1 ≤ k) (hz : zs.length = k) (h : W.ownsRow B 9 1 v k ((ps zs k).map Value.string)) :
    Calls Tryd.prog 69 #[v, .string ⟨#[s]⟩] W fun e w' => e = .returned (.string (sj s zs k)) ∧ Below W.heap.size W w' := by
  subst hz
  have hl8 := ho.1
  have hsz := sj_size s ho zs.length (Nat.le_refl _)
  have hj := join_ps s zs zs.length h1
  obtain ⟨_, ⟨_, h0⟩ | ⟨g', cap, cur, hv, hbase, hheap, hncap, hcapmax, hsize, htake⟩⟩ := id h
  · omega
  · subst hv
    have hlen : (sj s zs zs.length).data.toList.length = (sj s zs zs.length).size := by simp
    have e1 : (⟨#[s]⟩ : ByteArray).data.toList = [s] := rfl
    have HJ := Tryd.strings_Join g' 0 cap (ps zs zs.length) ⟨#[s]⟩ W (fun t x hx => by
          have := h.cellAt t (by have := (List.getElem?_eq_some_iff.mp hx).1; rw [ps_len] at this; omega)
          rw [Nat.zero_add, this, List.getElem?_map, hx]; rfl) (by have := (Array.getElem?_eq_some_iff.mp hheap).1; exact this) (by rw [ps_len]; omega) (by rw [ps_len]; exact hncap) (by rw [e1, hj, hlen]; omega)
    rw [e1, hj, ps_len] at HJ
    exact HJ
set_option maxRecDepth 100000 in
set_option maxHeartbeats 4000000 in
theorem numbers_any (s : UInt8) {b1 g len cap : Nat} {zs : List Int} {w : World} (ht : TabOn w) (h : Ow w b1 g len cap zs) (ho : Nb zs) (hl1 : 1 ≤ len) :
    Calls Tryd.prog 49 #[.slice (some ⟨g, 0, none⟩) len cap, .string ⟨#[s]⟩] w (Ret (.string (sj s zs len)) w) := by
  have hz := ow_len h
  have HO := Lib.hid h
  have HT := Lib.hid ht
  have HK := Lib.hid ho
  have HZ := Lib.hid hz
  have hl20 : len ≤ 20 := by have := ho.1; omega
  obtain ⟨i0, hi, hz0, hz1, hz2⟩ := info_parts info9
  clear h ht hz ho
  go_enter Tryd.func49, Tryd.ntmps49
  go_wp2
  go_loopw [5, 10] (fun p i wr => ∃ k : Nat, k ≤ len ∧ i = .int .i64 (k : Int) ∧ wr.ownsRow w.heap.size 9 1 p k ((ps zs k).map Value.string) ∧ Below w.heap.size w wr) (fun _ i _ => ((len : Int) - intOf i).toNat)
  case atStart => exact ⟨0, by omega, rfl, World.ownsRow_nil _ _ _ _, Below.refl _ _⟩
  case round =>
    obtain ⟨k, hk, rfl, hown, hb⟩ := hrel
    have HB := Lib.hid hb
    clear hb
    by_cases hlt : (k : Int) < len
    · have hk2 : k < len := by omega
      obtain ⟨z, HZK, hc⟩ := ow_at (Li.own_on HO.out HB.out) hk2
      have hzb := HK.out.2 k (by rw [HZ.out]; omega)
      rw [HZK.out] at hzb
      have C1 := Lib.hid (fun W hW => itoa_at z hzb.1 (by omega) W hW)
      have HP := Lib.hid (ps_next zs k)
      have hsz := HB.out.size
      go_wp2_with fail
      refine (C1.out _ (HT.out _ HB.out)).mono ?_
      rintro e w2 ⟨rfl, hb3⟩
      have hown2 := Li.own_on hown hb3
      have hb4 := Li.below_next HB.out hb3
      have hsz2 := hb4.size
      go_wp2_with (first | (at_builtin; refine wpList_append_own _ rfl _ _ 25 rfl w.heap.size 9 i0 (.string ByteArray.empty) 1 16 Tryd.underlying25 hi hz0 hz1 hz2 rfl (by decide) _ _ _ rfl (hown2.alloc _) ⟨w2.heap.size, 0, none⟩ 1 1 [.string (numS z.toNat)] rfl rfl (cell_one_new _ _ _) (fun x hx => by simp at hx; subst hx; rfl) (by unfold maxLen; omega) (by omega) (by simp; omega) ?_; intro v3 w3 hown3 hgrow3 _))
      go_roundw
      case rel =>
        refine ⟨k + 1, by omega, by go_num, ?_, Below.grown (hb4.alloc hb4.size _) hgrow3 (by simp; omega) (fun k hk => (hown2.lt k hk).1)⟩
        rw [HP.out, HZK.out, List.map_append]
        exact hown3
      case measure => simp [intOf]; omega
    · have ek : k = len := by omega
      subst ek
      have CJ := Lib.hid (join_any s HK.out hl1 HZ.out hown)
      clear hown
      go_wp2_with fail
      refine CJ.out.mono ?_
      rintro e w5 ⟨rfl, hb7⟩
      have HB2 := Lib.hid (HB.out.trans (Sh.below_le hb7 HB.out.size))
      clear hb7
      go_wp2
      go_ret
      exact ⟨rfl, HB2.out⟩
end Jn
end Go.Proofs.YtkfoapidmockfabDoor
