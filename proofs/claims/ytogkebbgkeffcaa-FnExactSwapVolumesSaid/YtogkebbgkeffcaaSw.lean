/- Where volumes stand, from both sides: sums by a loop, and by a generic sum over closures. -/
import Derived.Test.YtogkebbgkeffcaaB2
import Derived.Shelf.Abstract
namespace Go.Proofs.Ytogkebbgkeffcaa
open Go.RowKit Go.Joins Go.Deep Go.ChangeShapes Go.WideShapes
set_option linter.unusedVariables false
set_option linter.unusedSimpArgs false
namespace Sh
set_option maxRecDepth 100000 in
set_option maxHeartbeats 1000000 in
theorem shLeft_any {b1 g len cap : Nat} {zs : List Int} {c : Int} {w : World} (h : Ow w b1 g len cap zs) (ho : Ok zs c) (k : Nat) (hk : k ≤ len) :
    Calls Try.prog 50 #[V g len cap c, .int .i64 (k : Int)] w (Ret (.int .i64 (lf c zs k)) w) := by
  have hz := ow_len h
  have hcap := (ow_cap h).1
  have hcap2 := (ow_cap h).2
  unfold maxLen at hcap2
  have HZ := Lib.hid hz
  have HK := Lib.hid ho
  have hl8 : len ≤ 8 := by have := ho.2.1; omega
  have c1 := ho.2.2.2.1
  have c2 := ho.2.2.2.2
  have HO := Lib.hid (Li.own_on h (below_alloc1 w (.cells #[.slice (some ⟨g, 0, none⟩) len cap, .int .i64 c] 27)))
  have hkc : k ≤ cap := by omega
  clear h ho hz hcap
  go_enter Try.func50, Try.ntmps50
  go_wp2
  go_loop [5, 13] (fun s i => ∃ j : Nat, j ≤ k ∧ i = .int .i64 (j : Int) ∧ s = .int .i64 (lf c zs j)) (fun _ i => ((k : Int) - intOf i).toNat)
  case atStart => exact ⟨0, by omega, rfl, rfl⟩
  case round =>
    obtain ⟨j, hj, rfl, rfl⟩ := hrel
    have hb := lf_big HK.out j (by rw [HZ.out]; omega)
    have hb1 := hb.1
    have hb2 := hb.2
    clear hb
    by_cases hlt : (j : Int) < k
    · obtain ⟨z, HZK, hc⟩ := ow_at HO.out (k := j) (by omega)
      have ht := HK.out.2.2.1 j (by rw [HZ.out]; omega)
      rw [HZK.out] at ht
      have ht1 := ht.1
      have ht2 := ht.2
      have ES := Lib.hid (show lf c zs (j + 1) = lf c zs j + (z + 2 * c) by rw [← HZK.out]; rfl)
      generalize lf c zs j = L at *
      clear ht
      go_wp2
      go_round
      case rel => exact ⟨j + 1, by omega, by go_num, by rw [ES.out] <;> first | rfl | go_num⟩
      case measure => simp [intOf]; omega
    · have E := Lib.hid (show j = k by omega)
      go_wp2
      go_ret
      exact ⟨by rw [← E.out]; rfl, below_alloc1 _ _⟩
/-- the closure: how wide a volume is -/
theorem cl_any (z c : Int) (b : Nat) (h1 : 1 ≤ z) (h2 : z ≤ 100) (h3 : 0 ≤ c) (h4 : c ≤ 10) (w : World) (hc : w.cell? ⟨b, 1, none⟩ = some (.int .i64 c)) :
    Calls Try.prog 68 #[.int .i64 z, .pointer (some ⟨b, 0, none⟩)] w fun e w' => e = .returned (.int .i64 (z + 2 * c)) ∧ w = w' := by
  go_enter Try.func68, Try.ntmps68
  go_wp2
  go_ret
  exact ⟨rfl, rfl⟩
/-- n numbers from a place on -/
def Cells (W : World) (g n : Nat) (ys : List Int) : Prop := ∀ j, j < n → W.cell? ⟨g, j, none⟩ = some (.int .i64 (ys.getD j 0))
def Small (c : Int) (ys : List Int) (n : Nat) : Prop := 0 ≤ c ∧ c ≤ 10 ∧ n ≤ 8 ∧ ∀ j, j < n → 1 ≤ ys.getD j 0 ∧ ys.getD j 0 ≤ 100
theorem small_in {c : Int} {ys : List Int} {n : Nat} (h : Small c ys n) (k : Nat) (hk : k ≤ n) : 0 ≤ lf c ys k ∧ lf c ys k ≤ 120 * k := by
  induction k with
  | zero => unfold lf; omega
  | succ k ih =>
    have := ih (by omega)
    have := h.2.2.2 k (by omega)
    have := h.1
    have := h.2.1
    unfold lf; omega
theorem small_ok {zs : List Int} {c : Int} (h : Ok zs c) {k : Nat} (hk : k ≤ zs.length) : Small c zs k := ⟨h.2.2.2.1, h.2.2.2.2, by have := h.2.1; omega, fun j hj => h.2.2.1 j (by omega)⟩
set_option maxRecDepth 100000 in
set_option maxHeartbeats 1000000 in
theorem sumOf_any {g n cap b : Nat} {ys : List Int} {c : Int} {w : World} (hs : Small c ys n) (hy : Cells w g n ys) (hc : w.cell? ⟨b, 1, none⟩ = some (.int .i64 c)) :
    Calls Try.prog 67 #[.slice (some ⟨g, 0, none⟩) n cap, .func (.func 68) #[] #[.pointer (some ⟨b, 0, none⟩)]] w fun e w' => e = .returned (.int .i64 (lf c ys n)) ∧ w = w' := by
  have HS := Lib.hid hs
  have HY := Lib.hid hy
  have HD := Lib.hid hc
  have hn8 := hs.2.2.1
  have c1 := hs.1
  have c2 := hs.2.1
  have eg : ∀ args w, (callFunc 68 args).run Try.prog w = .ok (.enter 68 args) w := enters_of Try.func68 (by kernel_rfl) rfl
  clear hs hy hc
  go_enter Try.func67, Try.ntmps67
  go_wp2
  go_loop [5, 10] (fun s i => ∃ (k : Nat), k ≤ n ∧ i = .int .i64 (k : Int) ∧ s = .int .i64 (lf c ys k)) (fun _ i => ((n : Int) - intOf i).toNat)
  case atStart => exact ⟨0, by omega, rfl, rfl⟩
  case round =>
    obtain ⟨k, hk, rfl, rfl⟩ := hrel
    have hb := small_in HS.out k hk
    have hb1 := hb.1
    have hb2 : lf c ys k ≤ 960 := by omega
    clear hb
    by_cases hlt : (k : Int) < n
    · have hq := HY.out k (by omega)
      have ht := HS.out.2.2.2 k (by omega)
      have ES := Lib.hid (show lf c ys (k + 1) = lf c ys k + (ys.getD k 0 + 2 * c) from rfl)
      generalize ys.getD k 0 = z at *
      have ht1 := ht.1
      have ht2 := ht.2
      have C := Lib.hid (cl_any z c b ht1 ht2 c1 c2 w HD.out)
      generalize lf c ys k = L at *
      clear ht
      go_wp2_with fail
      refine C.out.mono ?_
      rintro e w' ⟨rfl, rfl⟩
      go_wp2
      go_round
      case rel => exact ⟨k + 1, by omega, by go_num, by rw [ES.out] <;> first | rfl | go_num⟩
      case measure => simp [intOf]; omega
    · have E := Lib.hid (show k = n by omega)
      go_wp2
      go_ret
      exact ⟨by rw [← E.out]; rfl, rfl⟩
/-- the outer closure: how wide volumes are together -/
theorem width1_any {g n cap b : Nat} {ys : List Int} {c : Int} {w : World} (hs : Small c ys n) (hy : Cells w g n ys) (hc : w.cell? ⟨b, 1, none⟩ = some (.int .i64 c)) :
    Calls Try.prog 66 #[.slice (some ⟨g, 0, none⟩) n cap, .pointer (some ⟨b, 0, none⟩)] w fun e w' => e = .returned (.int .i64 (lf c ys n)) ∧ w = w' := by
  have C := Lib.hid (sumOf_any (cap := cap) hs hy hc)
  clear hs hy hc
  go_enter Try.func66, Try.ntmps66
  go_wp2_with fail
  refine C.out.mono ?_
  rintro e w' ⟨rfl, rfl⟩
  go_wp2
  go_ret
  exact ⟨rfl, rfl⟩
/-- the closure's value -/
abbrev F (b : Nat) : Value := .func (.func 66) #[] #[.pointer (some ⟨b, 0, none⟩)]
theorem width_any (g len cap : Nat) (c : Int) (w : World) :
    Calls Try.prog 51 #[V g len cap c] w fun e w' => e = .returned (F w.heap.size) ∧ w' = w.alloc (.cells #[.slice (some ⟨g, 0, none⟩) len cap, .int .i64 c] 27) := by
  go_enter Try.func51, Try.ntmps51
  go_wp2
  go_ret
  exact ⟨rfl, rfl⟩
end Sh
end Go.Proofs.Ytogkebbgkeffcaa
