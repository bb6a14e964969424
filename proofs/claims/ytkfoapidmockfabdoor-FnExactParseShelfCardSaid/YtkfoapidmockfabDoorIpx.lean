/- What the program's ParseShelf answers of a text. -/
import Derived.Test.YtkfoapidmockfabDoorIpa
import Derived.Test.YtkfoapidmockfabDoorLtx
import Derived.Test.YtkfoapidmockfabDoorSpx
namespace Go.Proofs.YtkfoapidmockfabDoor
open Go.RowKit Go.Joins Go.Deep
set_option linter.unusedVariables false
set_option linter.unusedSimpArgs false
namespace Spw
open Sh P
/-- the shelf of a text, or the zero of shelves -/
def Ans (l : List UInt8) (W : World) (e : Ending) (w' : World) : Prop := ∃ ok os co, Gv ok os co W e w' ∧ (ok = true → Is l os co) ∧ (ok = false → os = [] ∧ co = 0 ∧ ∀ zs c, ¬ Is l zs c)
theorem is_one {l : List UInt8} {zs zs' : List Int} {c c' : Int} (h : Is l zs c) (h' : Is l zs' c') : zs = zs' ∧ c = c' := by
  have e := h.2.symm.trans h'.2
  have e1 := congrArg (sp 99) e
  rw [sp_tx, sp_tx] at e1
  injection e1 with e2 e3
  injection e3 with e4
  have e5 := congrArg (sp 44) e2
  rw [sp_sjl _ h.1.1, sp_sjl _ h'.1.1] at e5
  have e6 := congrArg (List.map rdS) e5
  rw [wr_backS _ _ h.1, wr_backS _ _ h'.1] at e6
  have e7 := congrArg rdS e4
  rw [c_back _ _ h.1, c_back _ _ h'.1] at e7
  exact ⟨e6, e7⟩
/-- what is read of a shelf's text is the shelf -/
theorem read_is {l : List UInt8} {zs zs' : List Int} {c c' : Int} (h : Is l zs c) (hn : zs'.length = (sp 44 (Lib.cut l [99]).1).length) (hz : ∀ k, k < zs'.length → Reads ((sp 44 (Lib.cut l [99]).1).getD k []) (zs'.getD k 0)) (hc : Reads (Lib.cut l [99]).2.1 c') : zs' = zs ∧ c' = c := by
  have hcut : Lib.cut l [99] = (sjl zs, decN c.toNat, true) := by rw [h.2]; exact cut_tx zs c
  rw [hcut] at hn hz hc
  simp only at hn hz hc
  rw [sp_sjl _ h.1.1] at hn hz
  have hl : zs'.length = zs.length := by rw [hn]; simp [wr]
  have h1 := h.1.2.2.2
  refine ⟨?_, ?_⟩
  · apply List.ext_getElem hl
    intro k k1 k2
    have hk := (hz k k1).1
    have ht := h.1.2.2.1 k k2
    have e1 : zs.getD k 0 = zs[k] := by simp [List.getD, k2]
    have e2 : zs'.getD k 0 = zs'[k] := by simp [List.getD, k1]
    have e3 : (wr zs).getD k [] = decN (zs[k]).toNat := by simp [wr, List.getD, k2]
    rw [e1] at ht
    rw [e2, e3] at hk
    have := hk _ (atoi_dec (zs[k]).toNat (by omega))
    omega
  · have := hc.1 _ (atoi_dec c.toNat (by omega))
    omega
theorem reads_next {L : List (List UInt8)} {zs : List Int} {k : Nat} {q : List UInt8} {v : Int} (hk : zs.length = k) (hz : ∀ j, j < zs.length → Reads (L.getD j []) (zs.getD j 0)) (hq : L.getD k [] = q) (hv : Reads q v) : ∀ j, j < (zs ++ [v]).length → Reads (L.getD j []) ((zs ++ [v]).getD j 0) := by
  intro j hj
  by_cases e : j < zs.length
  · have := hz j e
    simpa [List.getD, List.getElem?_append_left e] using this
  · have e2 : j = k := by simp at hj; omega
    subst e2
    have e3 : (zs ++ [v]).getD zs.length 0 = v := by simp [List.getD]
    subst hk
    rw [e3, hq]
    exact hv
set_option maxRecDepth 100000 in
set_option maxHeartbeats 2000000 in
theorem i_long (l : List UInt8) (hl : l.length ≤ 1048576) (h : ¬ l.length ≤ 34) (w : World) :
    Calls Tryd.prog 32 #[.string ⟨l.toArray⟩] w (Ans l w) := by
  have d1 : decide ((34 : Int) < (l.length : Int)) = true := by simp; omega
  have hsz : ((⟨l.toArray⟩ : ByteArray).size : Int) = (l.length : Int) := by show (l.toArray.size : Int) = _; simp
  have HP := Lib.hid (none_long h)
  have hR0 := Arr.new w #[.slice none 0 0, .int .i64 0] 45
  have hB0 := below_alloc1 w (.cells #[.slice none 0 0, .int .i64 0] 45)
  have HR := Lib.hid hR0
  have HB := Lib.hid hB0
  clear hR0 hB0 h
  go_enter Tryd.func32, Tryd.ntmps32
  go_wp2_with fail
  have z0 : (w.alloc (.cells #[.slice none 0 0, .int .i64 0] 45)).cell? ⟨w.heap.size, 0, none⟩ = some (.slice none 0 0) := HR.out.cell (j := 0) rfl
  have z1 : (w.alloc (.cells #[.slice none 0 0, .int .i64 0] 45)).cell? ⟨w.heap.size, 1, none⟩ = some (.int .i64 0) := HR.out.cell (j := 1) rfl
  have hB := HB.out
  revert z0 z1 hB
  generalize (w.alloc (.cells #[.slice none 0 0, .int .i64 0] 45)) = W8
  intro z0 z1 hB
  exact bodyPost_ret (v := .tuple #[.agg #[.slice none 0 0, .int .i64 0], .bool false]) (by simp [results, Tryd.results32, go_sem, z0, z1]) rfl ⟨false, [], 0, Gv.none hB, (fun h => by cases h), fun _ => ⟨rfl, rfl, HP.out⟩⟩
end Spw
end Go.Proofs.YtkfoapidmockfabDoor
