/- The law of PagesText returns true for any slice of integers, whatever its length. The library's table of powers of ten is taken to read as its own text lays it. -/
import Derived.Test.YtocmgggggdcebaaDoorTold
namespace Go.Proofs.YtocmgggggdcebaaDoor
open Go.RowKit
theorem rowAt_own {W : World} {base g cap : Nat} {zs : List Int} (h : W.ownsRow base 3 1 (.slice (some ⟨g, 0, none⟩) zs.length cap) zs.length (nums zs)) (hl : zs.length ≤ 1048576) : RowAt W g 0 zs.length zs :=
  ⟨rfl, hl, (h.lt g rfl).2, fun j hj => by
    rw [Nat.zero_add, h.cellAt j (by omega)]
    unfold nums
    simp [List.getD, List.getElem?_eq_getElem hj]⟩
set_option maxRecDepth 100000 in
theorem law_long (a : Option Addr) (n cap : Nat) (hn : (1048576 : Int) < (n : Int)) (w : World) :
    Calls Tryd.prog 3 #[.slice a n cap] w fun e w' => e = .returned (.bool true) ∧ Below w.heap.size w w' := by
  go_enter Tryd.func3, Tryd.ntmps3
  go_wp2_with fail
  go_ret
  exact ⟨rfl, Below.refl _ _⟩
set_option maxRecDepth 100000 in
set_option maxHeartbeats 4000000 in
theorem law_short (v : Value) (zs : List Int) (w : World) (h : SliceIs w v zs) (s : ByteArray) (b : Bool)
    (S : Hid (∀ (g : Nat) W, RowAt W g 0 zs.length zs → Calls Tryd.prog 5 #[.slice (some ⟨g, 0, none⟩) zs.length zs.length] W fun e w' => e = .returned (.tuple #[.string s, .bool b]) ∧ Below W.heap.size W w'))
    (I : Hid (∀ (g : Nat) W, Below w.heap.size w W → RowAt W g 0 zs.length zs → Calls Tryd.prog 7 #[.slice (some ⟨g, 0, none⟩) zs.length zs.length] W fun e w' => e = .returned (.tuple #[.string s, .bool b]) ∧ Below W.heap.size W w')) :
    Calls Tryd.prog 3 #[v] w fun e w' => e = .returned (.bool true) ∧ Below w.heap.size w w' := by
  have HC := Lib.hid h
  have T1 := Lib.hid (fun W (hW : SliceIs W v zs) => toIntS_any v zs W hW)
  have E1 := Lib.hid (fun v1 v2 W (h1 : SliceIs W v1 zs) (h2 : SliceIs W v2 zs) => eqIntS_any v1 v2 zs W h1 h2)
  obtain ⟨a, cap, rfl, hl, hx⟩ := h
  clear hx
  obtain ⟨n, hn⟩ : ∃ n, n = zs.length := ⟨_, rfl⟩
  have hl' : ¬ (1048576 : Int) < (zs.length : Int) := by omega
  go_enter Tryd.func3, Tryd.ntmps3
  go_wp2_with fail
  refine (T1.out _ HC.out).mono ?_
  rintro e w0 ⟨rfl, ho0, hb0⟩
  go_wp2_with fail
  refine (S.out _ _ (rowAt_own ho0 hl)).mono ?_
  rintro e w1 ⟨rfl, hb1⟩
  have hb1 := hb0.trans (hb1.mono hb0.size)
  go_wp2_with fail
  refine (T1.out _ (HC.out.on hb1)).mono ?_
  rintro e w2 ⟨rfl, ho2, hb2⟩
  have hb3 := hb1.trans (hb2.mono hb1.size)
  go_wp2_with fail
  refine (I.out _ _ hb3 (rowAt_own ho2 hl)).mono ?_
  rintro e w3 ⟨rfl, hb4⟩
  have hb5 := hb3.trans (hb4.mono hb3.size)
  have ho4 := (sliceIs_own ho2 hl).on hb4
  go_wp2_with fail
  refine (T1.out _ (HC.out.on hb5)).mono ?_
  rintro e w4 ⟨rfl, ho5, hb6⟩
  have hb7 := hb5.trans (hb6.mono hb5.size)
  go_wp2_with fail
  refine (E1.out _ _ _ (ho4.on hb6) (sliceIs_own ho5 hl)).mono ?_
  rintro e w5 ⟨rfl, hb8⟩
  go_wp2_with fail
  go_ret
  exact ⟨rfl, hb7.trans (hb8.mono hb7.size)⟩
theorem law_text (v : Value) (zs : List Int) (w : World) (ht : TabOn w) (h : SliceIs w v zs) :
    Calls Tryd.prog 3 #[v] w fun e w' => e = .returned (.bool true) ∧ Below w.heap.size w w' := by
  by_cases hp : Pages zs
  · exact law_short v zs w h _ _ (Lib.hid fun g W hW => spec_yes g _ zs W hW hp) (Lib.hid fun g W hb hW => parts_any g _ zs W (fun W' hb' => ht W' (hb.trans (hb'.mono hb.size))) hW hp)
  · exact law_short v zs w h _ _ (Lib.hid fun g W hW => spec_no g _ zs W hW hp) (Lib.hid fun g W hb hW => impl_no g _ zs W hW hp)
/-- what is told of a slice of integers that came in: nil, or a row of cells -/
def IsRow (k : IntKind) (w : World) (a : Option Addr) (len cap : Nat) (zs : List Int) : Prop :=
  (a = none ∧ len = 0 ∧ cap = 0 ∧ zs = []) ∨
  ∃ x, a = some x ∧ len ≤ cap ∧ cap ≤ maxLen ∧ zs.length = cap ∧ (∀ i, i < zs.length → w.cell? (x.add i) = some (.int k (zs.getD i 0))) ∧ ∀ n ∈ zs, (Lit.int k n).wf = true
theorem cell_lt {w : World} {b o : Nat} {v : Value} (h : w.cell? ⟨b, o, none⟩ = some v) : b < w.heap.size := by
  by_cases c : b < w.heap.size
  · exact c
  · exfalso
    simp [World.cell?, Array.getElem?_eq_none (Nat.le_of_not_lt c)] at h
theorem sliceIs_row {w : World} {a : Option Addr} {len cap : Nat} {zs : List Int} (h : IsRow .i64 w a len cap zs) (hl : len ≤ 1048576) : SliceIs w (.slice a len cap) (zs.take len) := by
  rcases h with ⟨rfl, rfl, rfl, rfl⟩ | ⟨x, rfl, h1, h2, h3, hcell, _⟩
  · exact ⟨none, 0, rfl, by simp, fun h0 => absurd h0 (by simp)⟩
  · have hlen : (zs.take len).length = len := by rw [List.length_take]; omega
    refine ⟨some x, cap, by rw [hlen], by omega, fun h0 => ?_⟩
    obtain ⟨b, off, spot⟩ := x
    have hc := hcell 0 (by omega)
    have hspot : spot = none := by simpa [Addr.add] using World.cell?_spot hc
    subst hspot
    have hb : w.cell? ⟨b, off, none⟩ = some (.int .i64 (zs.getD 0 0)) := by simpa [Addr.add] using hc
    refine ⟨b, off, rfl, hlen.trans hlen.symm, by omega, cell_lt hb, fun j hj => ?_⟩
    have := hcell j (by omega)
    rw [List.getD, List.getElem?_take, if_pos (by omega)]
    have e : (⟨b, off, none⟩ : Addr).add j = ⟨b, off + j, none⟩ := by
      by_cases c : j = 0
      · simp [Addr.add, c]
      · simp [Addr.add, c]
    rw [e] at this
    exact this
theorem law_pages (a : Option Addr) (len cap : Nat) (zs : List Int) (w : World) (ht : TabOn w) (h : IsRow .i64 w a len cap zs) :
    Calls Tryd.prog 3 #[.slice a len cap] w fun e w' => e = .returned (.bool true) ∧ Below w.heap.size w w' := by
  by_cases hl : len ≤ 1048576
  · exact law_text _ _ w ht (sliceIs_row h hl)
  · exact law_long a len cap (by omega) w
end Go.Proofs.YtocmgggggdcebaaDoor
