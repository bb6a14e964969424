/- The program's ShelfText: the text of a shelf; the library's table of powers of ten is taken to read as its own text lays it. -/
import Derived.Test.YtkfoapidmockfabDoorStx
import Derived.Test.YtkfoapidmockfabDoorJn
namespace Go.Proofs.YtkfoapidmockfabDoor
open Go.RowKit Go.Joins Go.Deep Go.ChangeShapes Go.WideShapes
set_option linter.unusedVariables false
set_option linter.unusedSimpArgs false
namespace Sh
theorem sj_jn (zs : List Int) (k : Nat) : Jn.sj 44 zs k = sj zs k := by
  induction k with
  | zero => rfl
  | succ k ih =>
    show (if k = 0 then Jn.sj 44 zs k else Jn.sj 44 zs k ++ ⟨#[44]⟩) ++ _ = (if k = 0 then sj zs k else sj zs k ++ ⟨#[44]⟩) ++ _
    rw [ih]
theorem nb_of {zs : List Int} {c : Int} (h : Ok zs c) : Jn.Nb zs := ⟨by have := h.2.1; omega, fun k hk => by have := h.2.2.1 k hk; omega⟩
def res (zs : List Int) (c : Int) (ok : Bool) : Value := match ok with
  | true => .tuple #[.string (txt zs c), .bool true]
  | false => .tuple #[.string ByteArray.empty, .bool false]
theorem ret_sb {a b : ByteArray} (h : a = b) : Ending.returned (.tuple #[.string a, .bool true]) = .returned (.tuple #[.string b, .bool true]) := by rw [h]
set_option maxRecDepth 100000 in
set_option maxHeartbeats 4000000 in
theorem iText_any {b1 g len cap : Nat} {zs : List Int} {c : Int} {w : World} (ht : TabOn w) (h : Ow w b1 g len cap zs) (hl : len ≤ 1048576) (ok : Bool) (hok : good zs c = ok) :
    Calls Tryd.prog 29 #[V g len cap c] w (Ret (res zs c ok) w) := by
  have HO0 := Lib.hid (Li.own_on h (below_alloc1 w (.cells #[.slice (some ⟨g, 0, none⟩) len cap, .int .i64 c] 45)))
  have hz := ow_len h
  have HT := Lib.hid ht
  have CG := Lib.hid (iGood_any (c := c) HO0.out hl ok hok)
  cases ok
  · clear h ht hz HO0 HT
    go_enter Tryd.func29, Tryd.ntmps29
    go_wp2_with fail
    refine CG.out.mono ?_
    rintro e w' ⟨rfl, hb0⟩
    go_wp2_with fail
    go_ret2
    exact ⟨rfl, bs_out hb0⟩
  · have ho := (good_iff zs c).1 hok
    have hl8 : len ≤ 8 := by have := ho.2.1; omega
    have hl1 : 1 ≤ len := by have := ho.1; omega
    have c1 := ho.2.2.2.1
    have c2 := ho.2.2.2.2
    have HN := Lib.hid (nb_of ho)
    have hsz := sj_size ho len (by omega)
    have hnb := num_bd c c1 (by omega)
    have CN := Lib.hid (fun (W : World) (hw : Below w.heap.size w W) (hO : Ow W b1 g len cap zs) => (sj_jn zs len) ▸ Jn.numbers_any 44 (tabOn_next ht hw) hO HN.out hl1)
    have C2 := Lib.hid (fun W hW => itoa_at c c1 (by omega) W hW)
    have ET := Lib.hid (show (sj zs len ++ ⟨#[99]⟩) ++ numS c.toNat = txt zs c by unfold txt; rw [hz])
    have r1 : ∀ W : World, (Op.stringOp .add (sj zs len) ⟨#[99]⟩).run Tryd.prog W = .ok (.string (sj zs len ++ ⟨#[99]⟩)) W := fun W => run_string_add_sum W _ _ (by rw [one_size]; omega)
    have r2 : ∀ W : World, (Op.stringOp .add (sj zs len ++ ⟨#[99]⟩) (numS c.toNat)).run Tryd.prog W = .ok (.string ((sj zs len ++ ⟨#[99]⟩) ++ numS c.toNat)) W := fun W => run_string_add_sum W _ _ (by rw [ByteArray.size_append, one_size]; omega)
    clear h ht hz ho hok
    go_enter Tryd.func29, Tryd.ntmps29
    go_wp2_with fail
    refine CG.out.mono ?_
    rintro e w0 ⟨rfl, hb0⟩
    have hct := ((B2.new w (.slice (some ⟨g, 0, none⟩) len cap) (.int .i64 c) 45).on hb0).2.1
    have hcc := bs_cover w w0 g len cap c hb0
    have HB0 := Lib.hid hb0
    have HB1 := Lib.hid (show Below (bs w g len cap c).heap.size (bs w g len cap c) w0.drew from Li.below_draws hb0 1)
    clear hb0
    go_wp2_with fail
    go_region_with (first
      | (go_at_call 49; refine (CN.out w0.drew (bs_out HB1.out) (Li.own_on HO0.out HB1.out)).mono ?_; rintro e w5 ⟨rfl, hb7⟩; have hcc2 := bs_cover w w5 g len cap c (Li.below_next HB1.out hb7))
      | (go_at_call 41; refine (C2.out _ (HT.out _ (bs_out (Li.below_next HB1.out hb7)))).mono ?_; rintro e w6 ⟨rfl, hb8⟩))
    all_goals
      go_wp2_with fail
      go_ret2
      exact ⟨ret_sb ET.out, bs_out (Li.below_next (Li.below_next HB1.out hb7) hb8)⟩
end Sh
end Go.Proofs.YtkfoapidmockfabDoor
