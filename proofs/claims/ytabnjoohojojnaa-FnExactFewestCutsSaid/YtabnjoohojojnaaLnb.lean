/- Lists of chapters: a list of the call's own, when there are words, asked from both sides. -/
import Derived.Test.YtabnjoohojojnaaIl
import Derived.Laws.Rows
namespace Go.Proofs.Ytabnjoohojojnaa
open Go.RowKit Go.Joins Go.Deep Go.ChangeShapes Go.WideShapes
set_option linter.unusedVariables false
set_option linter.unusedSimpArgs false
namespace Ln
/-- a value is returned, and what there was is as it was -/
def Ret (v : Value) (w : World) (e : Ending) (w' : World) : Prop := e = .returned v ∧ Below w.heap.size w w'
theorem below_le {B a : Nat} {w w' : World} (h : Below a w w') (hb : B ≤ a) : Below B w w' := h.mono hb
theorem bcell {W w1 : World} (hb : Below W.heap.size W w1) : (∀ b o, b < W.heap.size → w1.cell? ⟨b, o, none⟩ = W.cell? ⟨b, o, none⟩) ∧ (∀ b o, b < W.heap.size → w1.frozen? ⟨b, o, none⟩ = W.frozen? ⟨b, o, none⟩) :=
  ⟨fun b o h => hb.cell (p := ⟨b, o, none⟩) h, fun b o h => hb.frozen (p := ⟨b, o, none⟩) h⟩
theorem l1In_any (n lo hi : Int) (v : Bool) (hv : (decide (lo ≤ n) && decide (n ≤ hi)) = v) (w : World) :
    Calls Try.prog 50 #[.int .i64 n, .int .i64 lo, .int .i64 hi] w fun e w' => e = .returned (.bool v) ∧ w = w' := by
  by_cases c1 : lo ≤ n
  · by_cases c2 : n ≤ hi
    · have e : v = true := by rw [← hv]; simp [c1, c2]
      subst e
      clear hv
      go_enter Try.func50, Try.ntmps50
      go_wp2
      go_ret
      exact ⟨rfl, rfl⟩
    · have e : v = false := by rw [← hv]; simp [c2]
      subst e
      have t2 : decide (n ≤ hi) = false := by simpa using c2
      clear hv c2
      go_enter Try.func50, Try.ntmps50
      go_wp2
      go_ret
      exact ⟨rfl, rfl⟩
  · have e : v = false := by rw [← hv]; simp [c1]
    subst e
    have t2 : decide (lo ≤ n) = false := by simpa using c1
    clear hv c1
    go_enter Try.func50, Try.ntmps50
    go_wp2
    go_ret
    exact ⟨rfl, rfl⟩
/-- a list of the call's own -/
abbrev Ow (W : World) (b1 g len cap : Nat) (zs : List Int) : Prop := W.ownsRow b1 3 1 (.slice (some ⟨g, 0, none⟩) len cap) len (Li.nums zs)
theorem ow_len {W : World} {b1 g len cap : Nat} {zs : List Int} (h : Ow W b1 g len cap zs) : zs.length = len := by have := h.1; simpa [Li.nums] using this
theorem ow_cell {W : World} {b1 g len cap : Nat} {zs : List Int} (h : Ow W b1 g len cap zs) {k : Nat} (hk : k < len) : W.cell? ⟨g, k, none⟩ = some (.int .i64 (zs.getD k 0)) := by
  have e := ow_len h
  rw [World.ownsRow.cellAt h k (by omega)]
  simp [Li.nums, List.getD, List.getElem?_eq_getElem (show k < zs.length by omega)]
theorem ow_at {W : World} {b1 g len cap : Nat} {zs : List Int} (h : Ow W b1 g len cap zs) {k : Nat} (hk : k < len) : ∃ z, Hid (zs.getD k 0 = z) ∧ W.cell? ⟨g, k, none⟩ = some (.int .i64 z) := ⟨_, Lib.hid rfl, ow_cell h hk⟩
theorem ow_lt {W : World} {b1 g len cap : Nat} {zs : List Int} (h : Ow W b1 g len cap zs) : b1 ≤ g ∧ g < W.heap.size := World.ownsRow.lt h g rfl
theorem ow_cap {W : World} {b1 g len cap : Nat} {zs : List Int} (h : Ow W b1 g len cap zs) : len ≤ cap ∧ cap ≤ maxLen := by
  rcases h.2 with ⟨h1, _⟩ | ⟨g', cap', cur, h1, _, _, h4, h5, _⟩
  · cases h1
  · injection h1 with _ _ h3
    subst h3
    exact ⟨h4, h5⟩
theorem rb {v v' : Bool} {x : Value} (e : v = v') (h : x = .bool v') : Ending.returned x = .returned (.bool v) := by rw [h, e]
def allB (zs : List Int) (lo hi : Int) : Bool := zs.all fun z => decide (lo ≤ z) && decide (z ≤ hi)
theorem allB_iff (zs : List Int) (lo hi : Int) : allB zs lo hi = true ↔ ∀ k, k < zs.length → lo ≤ zs.getD k 0 ∧ zs.getD k 0 ≤ hi := by
  unfold allB
  simp only [List.all_eq_true, Bool.and_eq_true, decide_eq_true_eq]
  constructor
  · intro h k hk
    have := h zs[k] (List.getElem_mem hk)
    simpa [List.getD, List.getElem?_eq_getElem hk] using this
  · intro h x hx
    obtain ⟨k, hk, rfl⟩ := List.getElem_of_mem hx
    have := h k hk
    simpa [List.getD, List.getElem?_eq_getElem hk] using this
set_option maxRecDepth 100000 in
set_option maxHeartbeats 1000000 in
theorem l1All_any {b1 g len cap : Nat} {zs : List Int} {w : World} (lo hi : Int) (h : Ow w b1 g len cap zs) (hl : len ≤ 1048576) (v : Bool) (hv : allB zs lo hi = v) :
    Calls Try.prog 72 #[.slice (some ⟨g, 0, none⟩) len cap, .int .i64 lo, .int .i64 hi] w fun e w' => e = .returned (.bool v) ∧ w = w' := by
  have hz := ow_len h
  have HO := Lib.hid h
  have HV := Lib.hid hv
  have HZ := Lib.hid hz
  clear h hv hz
  go_enter Try.func72, Try.ntmps72
  go_wp2
  go_loop [11] (fun i => ∃ k : Nat, k ≤ len ∧ i = .int .i64 (k : Int) ∧ ∀ j, j < k → lo ≤ zs.getD j 0 ∧ zs.getD j 0 ≤ hi) (fun i => ((len : Int) - intOf i).toNat)
  case atStart => exact ⟨0, by omega, rfl, fun j hj => by omega⟩
  case round =>
    obtain ⟨k, hk, rfl, hall⟩ := hrel
    have HA := Lib.hid hall
    clear hall
    by_cases hlt : (k : Int) < len
    · obtain ⟨z, HZK, hc⟩ := ow_at HO.out (k := k) (by omega)
      obtain ⟨x, hx⟩ : ∃ x, (decide (lo ≤ z) && decide (z ≤ hi)) = x := ⟨_, rfl⟩
      have HX := Lib.hid hx
      clear hx
      cases x
      · have E := Lib.hid (show v = false by
          rw [← HV.out]
          cases h2 : allB zs lo hi with
          | false => rfl
          | true =>
            have h3 := (allB_iff zs lo hi).1 h2 k (by rw [HZ.out]; omega)
            rw [HZK.out] at h3
            have := HX.out
            simp [h3.1] at this
            omega)
        go_wp2_with (first | (go_at_call 50; refine (l1In_any _ _ _ false HX.out _).mono ?_; rintro e w' ⟨rfl, rfl⟩))
        go_ret
        exact ⟨rb E.out rfl, rfl⟩
      · have HS := Lib.hid (show lo ≤ zs.getD k 0 ∧ zs.getD k 0 ≤ hi by rw [HZK.out]; have := HX.out; simpa using this)
        go_wp2_with (first | (go_at_call 50; refine (l1In_any _ _ _ true HX.out _).mono ?_; rintro e w' ⟨rfl, rfl⟩))
        go_round
        case rel => exact ⟨k + 1, by omega, by go_num, fun j hj => by
          by_cases e : j = k
          · subst e; exact HS.out
          · exact HA.out j (by omega)⟩
        case measure => simp [intOf]; omega
    · have E := Lib.hid (show v = true by
        rw [← HV.out]
        exact (allB_iff zs lo hi).2 fun j hj => HA.out j (by rw [HZ.out] at hj; omega))
      go_wp2
      go_ret
      exact ⟨rb E.out rfl, rfl⟩
/-- there are words -/
def Ok (zs : List Int) : Prop := 1 ≤ zs.length ∧ zs.length ≤ 30 ∧ ∀ k, k < zs.length → 1 ≤ zs.getD k 0 ∧ zs.getD k 0 ≤ 80
def good (zs : List Int) : Bool := (decide (1 ≤ (zs.length : Int)) && decide ((zs.length : Int) ≤ 30)) && allB zs 1 80
theorem good_iff (zs : List Int) : good zs = true ↔ Ok zs := by
  unfold good Ok
  simp only [Bool.and_eq_true, decide_eq_true_eq, allB_iff]
  constructor
  · rintro ⟨⟨a, b⟩, c⟩; exact ⟨by omega, by omega, c⟩
  · rintro ⟨a, b, c⟩; exact ⟨⟨by omega, by omega⟩, c⟩
/-- the sum of the first k -/
def psum (zs : List Int) : Nat → Int
  | 0 => 0
  | k + 1 => psum zs k + zs.getD k 0
theorem psum_step (zs : List Int) (k : Nat) : psum zs (k + 1) = psum zs k + zs.getD k 0 := rfl
/-- what the words from a up to b need -/
def need (zs : List Int) (a b : Nat) : Int := ((b : Int) - (a : Int) - 1) + (psum zs b - psum zs a)
theorem need_step (zs : List Int) (a b : Nat) : need zs a (b + 1) = need zs a b + 1 + zs.getD b 0 := by unfold need; rw [psum_step]; omega
theorem psum_bd {zs : List Int} {lo hi : Int} (h : ∀ k, k < zs.length → lo ≤ zs.getD k 0 ∧ zs.getD k 0 ≤ hi) (a : Nat) : ∀ d, a + d ≤ zs.length → lo * d ≤ psum zs (a + d) - psum zs a ∧ psum zs (a + d) - psum zs a ≤ hi * d := by
  intro d
  induction d with
  | zero => intro _; simp
  | succ d ih =>
    intro hd
    have h1 := ih (by omega)
    have h2 := h (a + d) (by omega)
    rw [show a + (d + 1) = (a + d) + 1 by omega, psum_step, Int.natCast_succ, Int.mul_add, Int.mul_add]
    omega
theorem psum_ok {zs : List Int} (h : Ok zs) (a b : Nat) (hab : a ≤ b) (hb : b ≤ zs.length) : 0 ≤ psum zs b - psum zs a ∧ psum zs b - psum zs a ≤ 2400 := by
  have h1 := psum_bd h.2.2 a (b - a) (by omega)
  have h2 := h.2.1
  rw [show a + (b - a) = b by omega] at h1
  omega
/-- the words lie from off on -/
def Seg (W : World) (g off n : Nat) (zs : List Int) : Prop := g < W.heap.size ∧ ∀ j, j < n → W.cell? ⟨g, off + j, none⟩ = some (.int .i64 (zs.getD (off + j) 0))
theorem Seg.on {W W' : World} {g off n : Nat} {zs : List Int} (h : Seg W g off n zs) (hb : Below W.heap.size W W') : Seg W' g off n zs :=
  ⟨Nat.lt_of_lt_of_le h.1 hb.size, fun j hj => (hb.cell (p := ⟨g, off + j, none⟩) h.1).trans (h.2 j hj)⟩
theorem seg_of {W : World} {b1 g len cap : Nat} {zs : List Int} (h : Ow W b1 g len cap zs) (off n : Nat) (hn : off + n ≤ len) : Seg W g off n zs :=
  ⟨(ow_lt h).2, fun j hj => ow_cell h (by omega)⟩
theorem seg_at {W : World} {g off n : Nat} {zs : List Int} (h : Seg W g off n zs) {k : Nat} (hk : k < n) : ∃ z, Hid (zs.getD (off + k) 0 = z) ∧ W.cell? ⟨g, off + k, none⟩ = some (.int .i64 z) := ⟨_, Lib.hid rfl, h.2 k hk⟩
end Ln
end Go.Proofs.Ytabnjoohojojnaa
