/- How many pages all readers read on a day together, from both sides: by a loop, and by a generic sum over a closure. -/
import Derived.Test.YthjhnpomnjkclaaRx3
import Derived.Test.YthjhnpomnjkclaaRwb
import Derived.Shelf.Abstract
namespace Go.Proofs.Ythjhnpomnjkclaa
open Go.RowKit Go.Joins
set_option linter.unusedVariables false
set_option linter.unusedSimpArgs false
namespace Rx
/-- what the reader k reads on day j + 1 -/
def rk (zs : List Int) (j k : Nat) : Int := Rd.fr (zs.getD (k * 3) 0) (zs.getD (k * 3 + 1) 0) (zs.getD (k * 3 + 2) 0) (j + 1) - Rd.fr (zs.getD (k * 3) 0) (zs.getD (k * 3 + 1) 0) (zs.getD (k * 3 + 2) 0) j
/-- what the first k readers read -/
def sk (zs : List Int) (j : Nat) : Nat → Int
  | 0 => 0
  | k + 1 => sk zs j k + rk zs j k
theorem good_ib {p : Int} {zs : List Int} {k : Nat} (h : ib p zs k = true) : Rd.good (zs.getD (k * 3) 0) (zs.getD (k * 3 + 1) 0) (zs.getD (k * 3 + 2) 0) = true :=
  Rw.good_of h
theorem rk_in {p : Int} {zs : List Int} {j k : Nat} (h : ib p zs k = true) : 0 ≤ rk zs j k ∧ rk zs j k ≤ 200 := by
  have hg := Rw.gfacts (good_ib h)
  unfold rk
  rcases Rd.fr_step (m := zs.getD (k * 3) 0) (d := zs.getD (k * 3 + 1) 0) (Rw.two hg.2.2.2.2) j with h | h <;> omega
theorem sk_in {p : Int} {zs : List Int} {len : Nat} (ha : allOf p zs len) (j k : Nat) (hk : k ≤ len) : 0 ≤ sk zs j k ∧ sk zs j k ≤ 200 * k := by
  induction k with
  | zero => unfold sk; omega
  | succ k ih => have := ih (by omega); have := rk_in (j := j) (ha.2.2 k (by omega)); unfold sk; omega
theorem l1In_day (K : Int) (t1 : decide ((1 : Int) ≤ K) = true) (t2 : decide (K ≤ 3000) = true) (w : World) :
    Calls Try.prog 42 #[.int .i64 K, .int .i64 1, .int .i64 3000] w fun e w' => e = .returned (.bool true) ∧ w = w' := by
  go_enter Try.func42, Try.ntmps42
  go_wp2
  go_ret
  exact ⟨rfl, rfl⟩
set_option maxRecDepth 100000 in
set_option maxHeartbeats 1000000 in
theorem sTP_yes {b1 g len cap : Nat} {zs : List Int} {w : World} (j : Nat) (hj : j + 1 ≤ 3000) (h : w.ownsRow b1 52 3 (.slice (some ⟨g, 0, none⟩) len cap) len (nums zs)) (ha : allOf 2000 zs len) :
    Calls Try.prog 17 #[.slice (some ⟨g, 0, none⟩) len cap, .int .i64 ((j + 1 : Nat) : Int)] w (Rw.Ret (.tuple #[.int .i64 (sk zs j len), .bool true]) w) := by
  have HC := Lib.hid h
  have HA := Lib.hid ha
  have hlen6 := ha.2.1
  obtain ⟨K, hK⟩ : ∃ K, K = j + 1 := ⟨_, rfl⟩
  rw [← hK]
  have HK := Lib.hid hK
  have t1 : decide ((1 : Int) ≤ (K : Int)) = true := by simp; omega
  have t2 : decide ((K : Int) ≤ 3000) = true := by simp; omega
  have h1 : IntKind.i64.wrap ((K : Int) - 1) = (j : Int) := by rw [IntKind.wrap_i64]; omega
  clear h ha hK
  go_enter Try.func17, Try.ntmps17
  go_wp2_with fail
  refine (rdAll_yes HC.out HA.out).mono ?_
  rintro e w1 ⟨rfl, hb0⟩
  have HB0 := Lib.hid hb0
  clear hb0
  go_wp2_with (first | (go_at_call 42; refine (l1In_day (K : Int) t1 t2 _).mono ?_; rintro e w' ⟨rfl, rfl⟩))
  go_loopw [6, 19] (fun s i wr => ∃ (k : Nat), k ≤ len ∧ i = .int .i64 (k : Int) ∧ s = .int .i64 (sk zs j k) ∧ Below w.heap.size w wr) (fun _ i _ => ((len : Int) - intOf i).toNat)
  case atStart => exact ⟨0, by omega, rfl, rfl, HB0.out⟩
  case round =>
    clear HB0
    obtain ⟨k, hk, rfl, rfl, hb⟩ := hrel
    by_cases hlt : (k : Int) < len
    · obtain ⟨q0, q1, q2⟩ := cells3 (own_on HC.out hb) (k := k) (by omega)
      have hib := HA.out.2.2 k (by omega)
      have hg := good_ib hib
      have hin := rk_in (j := j) hib
      have hsk := sk_in HA.out j k hk
      have ES := Lib.hid (show sk zs j (k + 1) = sk zs j k + rk zs j k from rfl)
      unfold rk at hin ES
      rw [← HK.out] at hin ES
      generalize zs.getD (k * 3) 0 = m at *
      generalize zs.getD (k * 3 + 1) 0 = d at *
      generalize zs.getD (k * 3 + 2) 0 = r at *
      have HG := Lib.hid (Rw.gfacts hg)
      have h2 := Rw.diff_in (k := K) (j := j) hg (by have := HK.out; omega) (by omega)
      have h3 : IntKind.i64.wrap (sk zs j k + (Rd.fr m d r K - Rd.fr m d r j)) = sk zs j k + (Rd.fr m d r K - Rd.fr m d r j) := by rw [IntKind.wrap_i64]; omega
      have C1 := Lib.hid (fun W => Rw.rdFree_any m d r K HG.out.1 HG.out.2.1 HG.out.2.2.1 HG.out.2.2.2.1 HG.out.2.2.2.2 (by have := HK.out; omega) W)
      have C2 := Lib.hid (fun W => Rw.rdFree_any m d r j HG.out.1 HG.out.2.1 HG.out.2.2.1 HG.out.2.2.2.1 HG.out.2.2.2.2 (by omega) W)
      have HB := Lib.hid (hb.alloc hb.size (.cells #[.int .i64 m, .int .i64 d, .int .i64 r] 52))
      have B := Rw.Bx.new wr m d r 52
      generalize sk zs j k = S at *
      clear hg hib hin hsk hb
      go_wp2
      clear q0 q1 q2
      obtain ⟨_, q0, q1, q2⟩ := id B
      go_region_held3 (fun w' => w'.cell? ⟨wr.heap.size, 0, none⟩ = some (.int .i64 m) ∧ w'.cell? ⟨wr.heap.size, 1, none⟩ = some (.int .i64 d) ∧ w'.cell? ⟨wr.heap.size, 2, none⟩ = some (.int .i64 r))
        (first | exact ⟨q0, q1, q2⟩ | exact ⟨p0, p1, p2⟩ | exact ⟨s0, s1, s2⟩ | go_keep)
        (first
          | (go_at_call_of 32 (K : Int); refine (C1.out _).mono ?_; rintro e w4 ⟨rfl, hb4⟩; have B4 := (Rw.Bx.drew B).on hb4; obtain ⟨-, p0, p1, p2⟩ := id B4)
          | (go_at_call_of 32 (j : Int); refine (C2.out _).mono ?_; rintro e w5 ⟨rfl, hb5⟩; have B5 := B4.on hb5; obtain ⟨-, s0, s1, s2⟩ := id B5))
      have HE := Lib.hid (Rw.below_end HB.out hb4 hb5)
      clear hb4 hb5 B B4 B5 p0 p1 p2 s0 s1 s2 q0 q1 q2
      go_wp2
      go_roundw
      case rel => exact ⟨k + 1, by omega, by go_num, by rw [ES.out], HE.out⟩
      case measure => simp [intOf]; omega
    · have E := Lib.hid (show k = len by omega)
      go_wp2
      go_ret2
      exact ⟨by rw [← E.out]; rfl, hb⟩
theorem isDay_yes (p : Int) (h1 : 1 ≤ p) (h2 : p ≤ 3000) (w : World) : Calls Try.prog 43 #[.int .i64 p] w fun e w' => e = .returned (.bool true) ∧ w = w' := by
  go_enter Try.func43, Try.ntmps43
  go_wp2
  go_ret
  exact ⟨rfl, rfl⟩
/-- the closure: what a reader reads on the day that lies in a box -/
theorem cl_any (m d r : Int) (K j : Nat) (b : Nat) (hg : Rd.good m d r = true) (hK : K ≤ 3000) (hj : K = j + 1) (w : World) (hc : w.cell? ⟨b, 0, none⟩ = some (.int .i64 (K : Int))) :
    Calls Try.prog 45 #[.agg #[.int .i64 m, .int .i64 d, .int .i64 r], .pointer (some ⟨b, 0, none⟩)] w (Rw.Ret (.int .i64 (Rd.fr m d r K - Rd.fr m d r j)) w) := by
  have C := Lib.hid (fun W => Rw.readOn_any m d r K j hg hK hj W)
  have hc2 : (w.alloc (.cells #[.int .i64 m, .int .i64 d, .int .i64 r] 52)).cell? ⟨b, 0, none⟩ = some (.int .i64 (K : Int)) := ((below_alloc1 w _).cell (p := ⟨b, 0, none⟩) (World.block_lt_of_cell? _ _ hc)).trans hc
  clear hg hK hj
  go_enter Try.func45, Try.ntmps45
  go_wp2_with fail
  refine (C.out _).mono ?_
  rintro e w1 ⟨rfl, hb⟩
  have HB := Lib.hid (Rw.bx_below hb)
  clear hb
  go_wp2
  go_ret
  exact ⟨rfl, HB.out⟩
set_option maxRecDepth 100000 in
set_option maxHeartbeats 1000000 in
theorem sumOf_any {b1 g len cap b : Nat} {zs : List Int} {w : World} (j : Nat) (hj : j + 1 ≤ 3000) (h : w.ownsRow b1 52 3 (.slice (some ⟨g, 0, none⟩) len cap) len (nums zs)) (ha : allOf 2000 zs len)
    (hc : w.cell? ⟨b, 0, none⟩ = some (.int .i64 ((j + 1 : Nat) : Int))) :
    Calls Try.prog 44 #[.slice (some ⟨g, 0, none⟩) len cap, .func (.func 45) #[] #[.pointer (some ⟨b, 0, none⟩)]] w (Rw.Ret (.int .i64 (sk zs j len)) w) := by
  have HC := Lib.hid h
  have HA := Lib.hid ha
  have HD := Lib.hid hc
  have hlen6 := ha.2.1
  have eg : ∀ args w, (callFunc 45 args).run Try.prog w = .ok (.enter 45 args) w := enters_of Try.func45 (by kernel_rfl) rfl
  clear h ha hc
  go_enter Try.func44, Try.ntmps44
  go_wp2
  go_loopw [5, 10] (fun s i wr => ∃ (k : Nat), k ≤ len ∧ i = .int .i64 (k : Int) ∧ s = .int .i64 (sk zs j k) ∧ Below w.heap.size w wr) (fun _ i _ => ((len : Int) - intOf i).toNat)
  case atStart => exact ⟨0, by omega, rfl, rfl, Below.refl _ _⟩
  case round =>
    obtain ⟨k, hk, rfl, rfl, hb⟩ := hrel
    by_cases hlt : (k : Int) < len
    · obtain ⟨q0, q1, q2⟩ := cells3 (own_on HC.out hb) (k := k) (by omega)
      have hib := HA.out.2.2 k (by omega)
      have hg := good_ib hib
      have hin := rk_in (j := j) hib
      have hsk := sk_in HA.out j k hk
      have ES := Lib.hid (show sk zs j (k + 1) = sk zs j k + rk zs j k from rfl)
      unfold rk at hin ES
      generalize zs.getD (k * 3) 0 = m at *
      generalize zs.getD (k * 3 + 1) 0 = d at *
      generalize zs.getD (k * 3 + 2) 0 = r at *
      have hlb := World.block_lt_of_cell? _ _ HD.out
      have C := Lib.hid (cl_any m d r (j + 1) j b hg (by omega) rfl (wr.alloc (.cells #[.int .i64 m, .int .i64 d, .int .i64 r] 52)) (((hb.alloc hb.size _).cell (p := ⟨b, 0, none⟩) hlb).trans HD.out))
      generalize Rd.fr m d r (j + 1) - Rd.fr m d r j = X at *
      generalize sk zs j k = S at *
      have HB := Lib.hid (hb.alloc hb.size (.cells #[.int .i64 m, .int .i64 d, .int .i64 r] 52))
      have x1 := hin.1
      have x2 := hin.2
      have x3 := hsk.1
      have x4 : S ≤ 1200 := by omega
      clear hg hib hin hsk hb hlb
      go_wp2_with fail
      first | (go_at_call 45) | (go_at_fn 45) | trace_state
      refine C.out.mono ?_
      rintro e w4 ⟨rfl, hb4⟩
      have HE := Lib.hid (HB.out.trans (below_le hb4 HB.out.size))
      clear hb4 q0 q1 q2
      go_wp2
      go_roundw
      case rel => exact ⟨k + 1, by omega, by go_num, by rw [ES.out], HE.out⟩
      case measure => simp [intOf]; omega
    · have E := Lib.hid (show k = len by omega)
      go_wp2
      go_ret
      exact ⟨by rw [← E.out]; rfl, hb⟩
set_option maxRecDepth 100000 in
set_option maxHeartbeats 1000000 in
theorem iTP_yes {b1 g len cap : Nat} {zs : List Int} {w : World} (j : Nat) (hj : j + 1 ≤ 3000) (h : w.ownsRow b1 52 3 (.slice (some ⟨g, 0, none⟩) len cap) len (nums zs)) (ha : allOf 2000 zs len) :
    Calls Try.prog 18 #[.slice (some ⟨g, 0, none⟩) len cap, .int .i64 ((j + 1 : Nat) : Int)] w (Rw.Ret (.tuple #[.int .i64 (sk zs j len), .bool true]) w) := by
  have ba : Below w.heap.size w (w.alloc (.cells #[.int .i64 ((j + 1 : Nat) : Int)] 3)) := below_alloc1 _ _
  have C1 := Lib.hid (areReaders_yes (own_on h ba) ha)
  have hcell : (w.alloc (.cells #[.int .i64 ((j + 1 : Nat) : Int)] 3)).cell? ⟨w.heap.size, 0, none⟩ = some (.int .i64 ((j + 1 : Nat) : Int)) := by simp [go_sem]
  have HS := Lib.hid (fun (w' : World) (hb : Below (w.alloc (.cells #[.int .i64 ((j + 1 : Nat) : Int)] 3)).heap.size (w.alloc (.cells #[.int .i64 ((j + 1 : Nat) : Int)] 3)) w') (hq : w'.cell? ⟨w.heap.size, 0, none⟩ = some (.int .i64 ((j + 1 : Nat) : Int))) => sumOf_any (b := w.heap.size) j hj (own_on (own_on h ba) hb) ha hq)
  have hlt : w.heap.size < (w.alloc (.cells #[.int .i64 ((j + 1 : Nat) : Int)] 3)).heap.size := by simp
  have D := Lib.hid (fun W => isDay_yes ((j + 1 : Nat) : Int) (by omega) (by omega) W)
  have HA := Lib.hid ba
  generalize ((j + 1 : Nat) : Int) = K at *
  clear h ha hj ba
  go_enter Try.func18, Try.ntmps18
  go_wp2_with fail
  refine C1.out.mono ?_
  rintro e w1 ⟨rfl, hb⟩
  have q := (hb.cell (p := ⟨w.heap.size, 0, none⟩) hlt).trans hcell
  have HB := Lib.hid hb
  clear hb hcell hlt
  go_wp2_with (first | (go_at_call 43; refine (D.out _).mono ?_; rintro e w' ⟨rfl, rfl⟩))
  refine (HS.out _ HB.out q).mono ?_
  rintro e w2 ⟨rfl, hb2⟩
  have HE := Lib.hid ((HA.out.trans (below_le HB.out (by simp))).trans (below_le hb2 (Nat.le_trans (show w.heap.size ≤ _ by simp) HB.out.size)))
  clear hb2 q
  go_wp2
  go_ret2
  exact ⟨rfl, HE.out⟩
set_option maxRecDepth 100000 in
theorem sTP_no {b1 g len cap : Nat} {zs : List Int} {w : World} (D : Int) (h : w.ownsRow b1 52 3 (.slice (some ⟨g, 0, none⟩) len cap) len (nums zs)) (ha : ¬ allOf 2000 zs len) :
    Calls Try.prog 17 #[.slice (some ⟨g, 0, none⟩) len cap, .int .i64 D] w (Rw.Ret (.tuple #[.int .i64 0, .bool false]) w) := by
  have C := Lib.hid (rdAll_no h ha)
  clear h ha
  go_enter Try.func17, Try.ntmps17
  go_wp2_with fail
  refine C.out.mono ?_
  rintro e w1 ⟨rfl, hb0⟩
  go_wp2
  go_ret2
  exact ⟨rfl, hb0⟩
set_option maxRecDepth 100000 in
theorem sTP_day {b1 g len cap : Nat} {zs : List Int} {w : World} (D : Int) (hD : ¬ 1 ≤ D ∨ ¬ D ≤ 3000) (h : w.ownsRow b1 52 3 (.slice (some ⟨g, 0, none⟩) len cap) len (nums zs)) (ha : allOf 2000 zs len) :
    Calls Try.prog 17 #[.slice (some ⟨g, 0, none⟩) len cap, .int .i64 D] w (Rw.Ret (.tuple #[.int .i64 0, .bool false]) w) := by
  have C := Lib.hid (rdAll_yes h ha)
  clear h ha
  by_cases c : 1 ≤ D
  · have t1 : decide (1 ≤ D) = true := by simpa using c
    have t2 : decide (D ≤ 3000) = false := by simp; omega
    clear hD c
    go_enter Try.func17, Try.ntmps17
    go_wp2_with fail
    refine C.out.mono ?_
    rintro e w1 ⟨rfl, hb0⟩
    go_wp2
    go_ret2
    exact ⟨rfl, hb0⟩
  · have t1 : decide (1 ≤ D) = false := by simpa using c
    clear hD c
    go_enter Try.func17, Try.ntmps17
    go_wp2_with fail
    refine C.out.mono ?_
    rintro e w1 ⟨rfl, hb0⟩
    go_wp2
    go_ret2
    exact ⟨rfl, hb0⟩
set_option maxRecDepth 100000 in
theorem iTP_no {b1 g len cap : Nat} {zs : List Int} {w : World} (D : Int) (h : w.ownsRow b1 52 3 (.slice (some ⟨g, 0, none⟩) len cap) len (nums zs)) (ha : ¬ allOf 2000 zs len) :
    Calls Try.prog 18 #[.slice (some ⟨g, 0, none⟩) len cap, .int .i64 D] w (Rw.Ret (.tuple #[.int .i64 0, .bool false]) w) := by
  have ba : Below w.heap.size w (w.alloc (.cells #[.int .i64 D] 3)) := below_alloc1 _ _
  have C := Lib.hid (areReaders_no (own_on h ba) ha)
  clear h ha
  go_enter Try.func18, Try.ntmps18
  go_wp2_with fail
  refine C.out.mono ?_
  rintro e w1 ⟨rfl, hb0⟩
  have HB := Lib.hid (Rw.bx_below hb0)
  clear hb0 ba
  go_wp2
  go_ret2
  exact ⟨rfl, HB.out⟩
set_option maxRecDepth 100000 in
theorem iTP_day {b1 g len cap : Nat} {zs : List Int} {w : World} (D : Int) (hD : ¬ 1 ≤ D ∨ ¬ D ≤ 3000) (h : w.ownsRow b1 52 3 (.slice (some ⟨g, 0, none⟩) len cap) len (nums zs)) (ha : allOf 2000 zs len) :
    Calls Try.prog 18 #[.slice (some ⟨g, 0, none⟩) len cap, .int .i64 D] w (Rw.Ret (.tuple #[.int .i64 0, .bool false]) w) := by
  have ba : Below w.heap.size w (w.alloc (.cells #[.int .i64 D] 3)) := below_alloc1 _ _
  have C := Lib.hid (areReaders_yes (own_on h ba) ha)
  have hcell : (w.alloc (.cells #[.int .i64 D] 3)).cell? ⟨w.heap.size, 0, none⟩ = some (.int .i64 D) := by simp [go_sem]
  have hlt : w.heap.size < (w.alloc (.cells #[.int .i64 D] 3)).heap.size := by simp
  clear h ha
  by_cases c : 1 ≤ D
  · have t1 : decide (1 ≤ D) = true := by simpa using c
    have t2 : decide (D ≤ 3000) = false := by simp; omega
    clear hD c
    go_enter Try.func18, Try.ntmps18
    go_wp2_with fail
    refine C.out.mono ?_
    rintro e w1 ⟨rfl, hb0⟩
    have q := (hb0.cell (p := ⟨w.heap.size, 0, none⟩) hlt).trans hcell
    have HB := Lib.hid (Rw.bx_below hb0)
    clear hb0 ba hcell hlt
    go_wp2
    go_ret2
    exact ⟨rfl, HB.out⟩
  · have t1 : decide (1 ≤ D) = false := by simpa using c
    clear hD c
    go_enter Try.func18, Try.ntmps18
    go_wp2_with fail
    refine C.out.mono ?_
    rintro e w1 ⟨rfl, hb0⟩
    have q := (hb0.cell (p := ⟨w.heap.size, 0, none⟩) hlt).trans hcell
    have HB := Lib.hid (Rw.bx_below hb0)
    clear hb0 ba hcell hlt
    go_wp2
    go_ret2
    exact ⟨rfl, HB.out⟩
end Rx
end Go.Proofs.Ythjhnpomnjkclaa
