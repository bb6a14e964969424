/- The program's ShelfText: the text of a shelf; the library's table of powers of ten is taken to read as its own text lays it. -/
import Derived.Test.YtogkebbgkeffcabDoorStx
namespace Go.Proofs.YtogkebbgkeffcabDoor
open Go.RowKit Go.Joins Go.Deep Go.ChangeShapes Go.WideShapes
set_option linter.unusedVariables false
set_option linter.unusedSimpArgs false
namespace Sh
/-- the first k numbers' texts -/
def ps (zs : List Int) (k : Nat) : List ByteArray := (List.range k).map fun i => numS (zs.getD i 0).toNat
theorem ps_len (zs : List Int) (k : Nat) : (ps zs k).length = k := by simp [ps]
theorem ps_next (zs : List Int) (k : Nat) : ps zs (k + 1) = ps zs k ++ [numS (zs.getD k 0).toNat] := by simp [ps, List.range_succ]
theorem join_snoc (xs : List (List UInt8)) (x sep : List UInt8) (h : xs ≠ []) : Lib.join (xs ++ [x]) sep = Lib.join xs sep ++ sep ++ x := by
  cases xs with
  | nil => exact absurd rfl h
  | cons y r =>
    rw [List.cons_append, Lib.join_cons, Lib.join_cons]
    simp [Lib.joinTail, List.append_assoc]
theorem join_ps (zs : List Int) (k : Nat) (hk : 1 ≤ k) : Lib.join ((ps zs k).map (·.data.toList)) [44] = (sj zs k).data.toList := by
  induction k with
  | zero => omega
  | succ k ih =>
    by_cases e : k = 0
    · subst e
      rw [sj_first]
      show Lib.join [(numS (zs.getD 0 0).toNat).data.toList] [44] = _
      rw [Lib.join_one]
      simp [ByteArray.data_append]
    · have hne : (ps zs k).map (·.data.toList) ≠ [] := by
        intro h0
        have := congrArg List.length h0
        simp [ps] at this
        omega
      rw [ps_next, List.map_append, List.map_cons, List.map_nil, join_snoc _ _ _ hne, ih (by omega), sj_next zs k e]
      simp [ByteArray.data_append, List.append_assoc]
theorem info9 : (Tryd.prog.info? 9).map (fun i => (i.zero, i.size, i.bytes)) = some (some (.string ByteArray.empty), 1, 16) := by kernel_rfl
theorem join_at {zs : List Int} {c : Int} {v : Value} {B : Nat} {W : World} (ho : Ok zs c) (h : W.ownsRow B 9 1 v zs.length ((ps zs zs.length).map Value.string)) :
    Calls Tryd.prog 20 #[v, .string ⟨#[44]⟩] W fun e w' => e = .returned (.string (sj zs zs.length)) ∧ Below W.heap.size W w' := by
  have hl1 := ho.1
  have hl8 := ho.2.1
  have hsz := sj_size ho zs.length (Nat.le_refl _)
  have hj := join_ps zs zs.length hl1
  obtain ⟨_, ⟨_, h0⟩ | ⟨g', cap, cur, hv, hbase, hheap, hncap, hcapmax, hsize, htake⟩⟩ := id h
  · omega
  · subst hv
    have hlen : (sj zs zs.length).data.toList.length = (sj zs zs.length).size := by simp
    have e1 : (⟨#[44]⟩ : ByteArray).data.toList = [44] := rfl
    have HJ := Tryd.strings_Join g' 0 cap (ps zs zs.length) ⟨#[44]⟩ W (fun t x hx => by
          have := h.cellAt t (by have := (List.getElem?_eq_some_iff.mp hx).1; rw [ps_len] at this; omega)
          rw [Nat.zero_add, this, List.getElem?_map, hx]; rfl) (by have := (Array.getElem?_eq_some_iff.mp hheap).1; exact this) (by rw [ps_len]; omega) (by rw [ps_len]; exact hncap) (by rw [e1, hj, hlen]; omega)
    rw [e1, hj, ps_len] at HJ
    exact HJ
theorem join_any {zs : List Int} {c : Int} {v : Value} {B k : Nat} {wr : World} (ho : Ok zs c) (hz : zs.length = k) (h : wr.ownsRow B 9 1 v k ((ps zs k).map Value.string)) (W : World) (hW : W.heap = wr.heap) :
    Calls Tryd.prog 20 #[v, .string ⟨#[44]⟩] W fun e w' => e = .returned (.string (sj zs k)) ∧ Below W.heap.size W w' := by
  subst hz
  refine join_at (B := B) ho ?_
  unfold World.ownsRow at *
  rw [hW]
  exact h
def res (zs : List Int) (c : Int) (ok : Bool) : Value := match ok with
  | true => .tuple #[.string (txt zs c), .bool true]
  | false => .tuple #[.string ByteArray.empty, .bool false]
theorem ret_sb {a b : ByteArray} (h : a = b) : Ending.returned (.tuple #[.string a, .bool true]) = .returned (.tuple #[.string b, .bool true]) := by rw [h]
set_option maxRecDepth 100000 in
set_option maxHeartbeats 4000000 in
theorem iText_any {b1 g len cap : Nat} {zs : List Int} {c : Int} {w : World} (ht : TabOn w) (h : Ow w b1 g len cap zs) (hl : len ≤ 1048576) (ok : Bool) (hok : good zs c = ok) :
    Calls Tryd.prog 8 #[V g len cap c] w (Ret (res zs c ok) w) := by
  have HO0 := Lib.hid (Li.own_on h (below_alloc1 w (.cells #[.slice (some ⟨g, 0, none⟩) len cap, .int .i64 c] 28)))
  have hz := ow_len h
  have HT := Lib.hid ht
  have CG := Lib.hid (iGood_any (c := c) HO0.out hl ok hok)
  cases ok
  · clear h ht hz HO0 HT
    go_enter Tryd.func8, Tryd.ntmps8
    go_wp2_with fail
    refine CG.out.mono ?_
    rintro e w' ⟨rfl, hb0⟩
    go_wp2_with fail
    go_ret2
    exact ⟨rfl, bs_out hb0⟩
  · have ho := (good_iff zs c).1 hok
    have hl8 : len ≤ 8 := by have := ho.2.1; omega
    have hl1 : 1 ≤ len := by have := ho.1; omega
    have c1 := ho.2.2.2.1
    have c2 := ho.2.2.2.2
    have HK := Lib.hid ho
    have HZ := Lib.hid hz
    obtain ⟨i0, hi, hz0, hz1, hz2⟩ := info_parts info9
    clear h ht hz ho hok
    go_enter Tryd.func8, Tryd.ntmps8
    go_wp2_with fail
    refine CG.out.mono ?_
    rintro e w0 ⟨rfl, hb0⟩
    have hct := ((B2.new w (.slice (some ⟨g, 0, none⟩) len cap) (.int .i64 c) 28).on hb0).2.1
    go_wp2_with fail
    go_loopw [4, 13] (fun p i wr => ∃ k : Nat, k ≤ len ∧ i = .int .i64 (k : Int) ∧ wr.ownsRow (bs w g len cap c).heap.size 9 1 p k ((ps zs k).map Value.string) ∧ Below (bs w g len cap c).heap.size (bs w g len cap c) wr) (fun _ i _ => ((len : Int) - intOf i).toNat)
    case atStart => exact ⟨0, by omega, rfl, World.ownsRow_nil _ _ _ _, hb0⟩
    case round =>
      obtain ⟨k, hk, rfl, hown, hb⟩ := hrel
      have HB := Lib.hid hb
      clear hb
      by_cases hlt : (k : Int) < len
      · have hk2 : k < len := by omega
        obtain ⟨z, HZK, hc⟩ := ow_at (Li.own_on HO0.out HB.out) hk2
        have hzb := HK.out.2.2.1 k (by rw [HZ.out]; omega)
        rw [HZK.out] at hzb
        have C1 := Lib.hid (fun W hW => itoa_at z (by omega) hzb.2 W hW)
        have HP := Lib.hid (ps_next zs k)
        have hsz := HB.out.size
        go_wp2_with fail
        refine (C1.out _ (HT.out _ (bs_out HB.out))).mono ?_
        rintro e w2 ⟨rfl, hb3⟩
        have hown2 := Li.own_on hown hb3
        have hb4 := Li.below_next HB.out hb3
        have hsz2 := hb4.size
        have hsz3 : w.heap.size + 1 ≤ w2.heap.size := by have := hb4.size; simpa using this
        go_wp2_with (first | (at_builtin; refine wpList_append_own _ rfl _ _ 40 rfl (bs w g len cap c).heap.size 9 i0 (.string ByteArray.empty) 1 16 Tryd.underlying40 hi hz0 hz1 hz2 rfl (by decide) _ _ _ rfl (hown2.alloc _) ⟨w2.heap.size, 0, none⟩ 1 1 [.string (numS z.toNat)] rfl rfl (cell_one_new _ _ _) (fun x hx => by simp at hx; subst hx; rfl) (by unfold maxLen; omega) (by omega) (by simp; omega) ?_; intro v' w3 hown3 hgrow3 hnil3))
        go_roundw
        case rel =>
          refine ⟨k + 1, by omega, by go_num, ?_, Below.grown (hb4.alloc hb4.size _) hgrow3 (by simp; omega) (fun k hk => (hown2.lt k hk).1)⟩
          rw [HP.out, HZK.out, List.map_append]
          exact hown3
        case measure => simp [intOf]; omega
      · have ek : k = len := by omega
        subst ek
        have hcc := bs_cover w wr g k cap c HB.out
        have hsz := sj_size HK.out k (by rw [HZ.out]; exact Nat.le_refl _)
        have hnb := num_bd c c1 (by omega)
        have hk4 := HB.out.size
        have CJ := Lib.hid (join_any HK.out HZ.out hown)
        have C2 := Lib.hid (fun W hW => itoa_at c c1 (by omega) W hW)
        have ET := Lib.hid (show (sj zs k ++ ⟨#[99]⟩) ++ numS c.toNat = txt zs c by unfold txt; rw [HZ.out])
        have r1 : ∀ W : World, (Op.stringOp .add (sj zs k) ⟨#[99]⟩).run Tryd.prog W = .ok (.string (sj zs k ++ ⟨#[99]⟩)) W := fun W => run_string_add_sum W _ _ (by rw [one_size]; omega)
        have r2 : ∀ W : World, (Op.stringOp .add (sj zs k ++ ⟨#[99]⟩) (numS c.toNat)).run Tryd.prog W = .ok (.string ((sj zs k ++ ⟨#[99]⟩) ++ numS c.toNat)) W := fun W => run_string_add_sum W _ _ (by rw [ByteArray.size_append, one_size]; omega)
        have HB1 := Lib.hid (show Below (bs w g k cap c).heap.size (bs w g k cap c) wr.drew from Li.below_draws HB.out 1)
        clear hown
        go_wp2_with fail
        go_region_with (first | (go_at_call 20; refine (CJ.out wr.drew rfl).mono ?_; rintro e w5 ⟨rfl, hb7⟩; have hcc2 := bs_cover w w5 g k cap c (Li.below_next HB1.out hb7)) | (go_at_call 19; refine (C2.out _ (HT.out _ (bs_out (Li.below_next HB1.out hb7)))).mono ?_; rintro e w6 ⟨rfl, hb8⟩))
        all_goals
          go_wp2_with fail
          go_ret2
          exact ⟨ret_sb ET.out, bs_out (Li.below_next (Li.below_next HB1.out hb7) hb8)⟩
end Sh
end Go.Proofs.YtogkebbgkeffcabDoor
