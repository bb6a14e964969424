/- The rank of a binding, by the program. -/
import Derived.Test.YtabnjoohojojnaaCa
import Derived.Deep.RegionHeld3
namespace Go.Proofs.Ytabnjoohojojnaa
open Go.RowKit Go.Joins Go.Deep Go.ChangeShapes Go.WideShapes
set_option linter.unusedVariables false
set_option linter.unusedSimpArgs false
namespace Ln
/-- how many of both ways come before a number -/
def wb (x a : Int) : Int := (if -a < x then 1 else 0) + (if a < x then 1 else 0)
def wsum (zs : List Int) (x : Int) (i : Nat) : Nat → Int
  | 0 => 0
  | m + 1 => wsum zs x i m + wb x (ab (zs.getD (i + m) 0))
theorem wsum_step (zs : List Int) (x : Int) (i m : Nat) : wsum zs x i (m + 1) = wsum zs x i m + wb x (ab (zs.getD (i + m) 0)) := rfl
theorem wb_bd (x a : Int) : 0 ≤ wb x a ∧ wb x a ≤ 2 := by unfold wb; split <;> split <;> omega
theorem wsum_bd (zs : List Int) (x : Int) (i : Nat) : ∀ m, 0 ≤ wsum zs x i m ∧ wsum zs x i m ≤ 2 * m
  | 0 => by simp [wsum]
  | m + 1 => by
    have h1 := wsum_bd zs x i m
    have h2 := wb_bd x (ab (zs.getD (i + m) 0))
    rw [wsum_step]
    omega
theorem wsum_front (zs : List Int) (x : Int) (i : Nat) : ∀ m, wsum zs x i (m + 1) = wb x (ab (zs.getD i 0)) + wsum zs x (i + 1) m
  | 0 => by simp [wsum]
  | m + 1 => by
    rw [wsum_step, wsum_front zs x i m, wsum_step, show i + (m + 1) = i + 1 + m by omega]
    omega
theorem cn_rm {p q : Nat → Bool} {a : Nat} (hp : p a = true) (hq : ∀ d, q d = (p d && !decide (d = a))) (X : Nat) : (cn p X : Int) = cn q X + (if (a : Int) < X then 1 else 0) := by
  by_cases c : a < X
  · have := cn_but c hp hq
    rw [if_pos (by omega)]
    omega
  · rw [if_neg (by omega), cn_congr (p := q) (q := p) (N := X) (fun d hd => by
      rw [hq, show decide (d = a) = false by simp; omega]
      simp)]
    omega
theorem bef_sum {zs : List Int} {n : Nat} (h : Pre zs n n) {x : Int} (h1 : -(n : Int) ≤ x) (h2 : x ≤ (n : Int)) : ∀ m, m ≤ n → (cn (fr zs n (n - m)) (x + n).toNat : Int) = wsum zs x (n - m) m := by
  intro m
  induction m with
  | zero =>
    intro _
    have a := fr_count n (Nat.le_refl _) h
    have b := cn_mono (fr zs n n) (show (x + (n : Int)).toNat ≤ 2 * n + 1 by omega)
    rw [Nat.sub_zero]
    show _ = (0 : Int)
    omega
  | succ m ih =>
    intro hm
    have e := ih (by omega)
    obtain ⟨i, hi⟩ : ∃ i, n - (m + 1) = i := ⟨_, rfl⟩
    rw [show n - m = i + 1 by omega] at e
    rw [hi, wsum_front, ← e]
    have hp := pre_le h (show i + 1 ≤ n by omega)
    obtain ⟨f1, f2⟩ := fr_at hp
    obtain ⟨z1, z2, z3, _⟩ := hp i (by omega)
    obtain ⟨q, hq⟩ : ∃ q : Nat → Bool, ∀ d, q d = (fr zs n i d && !decide (d = (zs.getD i 0 + n).toNat)) := ⟨fun d => fr zs n i d && !decide (d = (zs.getD i 0 + n).toNat), fun d => rfl⟩
    rw [cn_rm f1 hq, cn_rm (p := q) (q := fr zs n (i + 1)) (a := ((n : Int) - zs.getD i 0).toNat) (by
      rw [hq, f2, Bool.true_and, Bool.not_eq_true', decide_eq_false_iff_not]
      omega) (fun d => by rw [hq]; exact fr_step hp d)]
    have ew : wb x (ab (zs.getD i 0)) = (if (((zs.getD i 0 + n).toNat : Nat) : Int) < ((x + n).toNat : Nat) then (1 : Int) else 0) + (if ((((n : Int) - zs.getD i 0).toNat : Nat) : Int) < ((x + n).toNat : Nat) then (1 : Int) else 0) := by
      unfold wb ab
      split <;> split <;> split <;> split <;> split <;> omega
    rw [ew]
    omega
theorem rk_sum {zs : List Int} {n i : Nat} (h : Pre zs n n) (hi : i < n) : (rk zs n (i + 1) : Int) = (rk zs n i : Int) * (2 * ((n - i : Nat) : Int)) + wsum zs (zs.getD i 0) i (n - i) := by
  rw [rk_step]
  have e := bef_sum h (h i hi).1 (h i hi).2.1 (n - i) (by omega)
  rw [show n - (n - i) = i by omega] at e
  unfold bef
  push_cast
  rw [e, Int.mul_assoc]
def S3 (W : World) (a0 a1 a2 : Addr) (v0 v1 v2 : Value) : Prop := W.cell? a0 = some v0 ∧ W.cell? a1 = some v1 ∧ W.cell? a2 = some v2
theorem S3.on {W W' w' : World} {a0 a1 a2 : Addr} {v0 v1 v2 : Value} (h : S3 W a0 a1 a2 v0 v1 v2) (hb : Below W'.heap.size W' w') (e : W'.heap = W.heap) : S3 w' a0 a1 a2 v0 v1 v2 := by
  have key : ∀ {a : Addr} {v : Value}, W.cell? a = some v → w'.cell? a = some v := fun {a v} hc => by
    have hlt := World.block_lt_of_cell? _ _ hc
    have h1 : w'.heap[a.block]? = W.heap[a.block]? := by rw [hb.block a.block (by rw [e]; exact hlt), e]
    rw [World.cell?_of_block (w := W) h1]
    exact hc
  exact ⟨key h.1, key h.2.1, key h.2.2⟩
set_option maxRecDepth 100000 in
set_option maxHeartbeats 2000000 in
theorem ways_any (z a : Int) (h1 : -8 ≤ z) (h2 : z ≤ 8) (a1 : 0 ≤ a) (a2 : a ≤ 8) (w : World) :
    Calls Try.prog 83 #[.agg #[.int .i64 (ab z), .bool (decide (z < 0))], .int .i64 a] w (Ret (.int .i64 (wb z a)) w) := by
  have CS := Lib.hid (fun W => signed_any z h1 h2 W)
  obtain ⟨R, hR⟩ : ∃ R, wb z a = R := ⟨_, rfl⟩
  have HR := Lib.hid (show (if -a < z then (1 : Int) else 0) + (if a < z then 1 else 0) = R from hR)
  rw [hR]
  obtain ⟨y, hy⟩ : ∃ y, ab z = y := ⟨_, rfl⟩
  obtain ⟨t, ht⟩ : ∃ t, decide (z < 0) = t := ⟨_, rfl⟩
  rw [hy, ht] at CS ⊢
  clear hR hy ht
  have HC := Lib.hid (show ((w.alloc (.cells #[.int .i64 y, .bool t] 50)).alloc (.cells #[.int .i64 (-a), .int .i64 a] 3)).heap[w.heap.size + 1]? = some (.cells #[.int .i64 (-a), .int .i64 a] 3) from heap_alloc2_new w _ _)
  go_enter Try.func83, Try.ntmps83
  go_wp2
  go_loopw [5, 13] (fun s i wr => ∃ (k : Nat) (S : Int), k ≤ 2 ∧ i = .int .i64 (k : Int) ∧ s = .int .i64 S ∧ (0 ≤ S ∧ S ≤ 2) ∧ Hid (S = (if 1 ≤ k ∧ -a < z then 1 else 0) + (if 2 ≤ k ∧ a < z then 1 else 0)) ∧ Hid (Arr wr w.heap.size 50 #[.int .i64 y, .bool t]) ∧ Hid (Arr wr (w.heap.size + 1) 3 #[.int .i64 (-a), .int .i64 a]) ∧ Hid (Below w.heap.size w wr)) (fun _ i _ => (2 - intOf i).toNat)
  case atStart => exact ⟨0, 0, by omega, rfl, rfl, ⟨by omega, by omega⟩, Lib.hid (by simp), Lib.hid ((Arr.new w _ _).on (below_alloc1 _ _)), Lib.hid HC.out, Lib.hid ((below_alloc1 _ _).alloc (by simp) _)⟩
  case round =>
    obtain ⟨k, S, hk, rfl, rfl, ⟨s1, s2⟩, HS, HA, HA2, HB⟩ := hrel
    have hk3 : k = 0 ∨ k = 1 ∨ k = 2 := by omega
    have q0 := HA.out.cell (j := 0) rfl
    have q1 := HA.out.cell (j := 1) rfl
    have q2 := HA2.out.cell (j := 0) rfl
    have q3 := HA2.out.cell (j := 1) rfl
    have HB2 := Lib.hid (fun x => HB.out.alloc HB.out.size x)
    have HX := Lib.hid (fun x => HA.out.on (below_alloc1 wr x))
    have HY := Lib.hid (fun x => HA2.out.on (below_alloc1 wr x))
    rcases hk3 with rfl | rfl | rfl
    · by_cases c : -a < z
      · have HN := Lib.hid (show S + 1 = (if 1 ≤ (1 : Nat) ∧ -a < z then 1 else 0) + (if 2 ≤ (1 : Nat) ∧ a < z then 1 else 0) by have := HS.out; simp [c] at this ⊢; omega)
        have t1 : decide (-a < z) = true := by simpa using c
        go_wp2_with fail
        refine (CS.out _).mono ?_
        rintro e w' ⟨rfl, rfl⟩
        go_wp2
        go_roundw
        case rel => exact ⟨1, S + 1, by omega, by first | rfl | go_num, rfl, ⟨by omega, by have := HS.out; simp at this; omega⟩, HN, Lib.hid (HX.out _), Lib.hid (HY.out _), Lib.hid (HB2.out _)⟩
        case measure => simp [intOf]
      · have HN := Lib.hid (show S = (if 1 ≤ (1 : Nat) ∧ -a < z then 1 else 0) + (if 2 ≤ (1 : Nat) ∧ a < z then 1 else 0) by have := HS.out; simp [c] at this ⊢; omega)
        have t1 : decide (-a < z) = false := by simpa using c
        go_wp2_with fail
        refine (CS.out _).mono ?_
        rintro e w' ⟨rfl, rfl⟩
        go_wp2
        go_roundw
        case rel => exact ⟨1, S, by omega, by first | rfl | go_num, rfl, ⟨by omega, by omega⟩, HN, Lib.hid (HX.out _), Lib.hid (HY.out _), Lib.hid (HB2.out _)⟩
        case measure => simp [intOf]
    · by_cases c : a < z
      · have HN := Lib.hid (show S + 1 = (if 1 ≤ (2 : Nat) ∧ -a < z then 1 else 0) + (if 2 ≤ (2 : Nat) ∧ a < z then 1 else 0) by have := HS.out; simp [c] at this ⊢; omega)
        have HS1 := Lib.hid (show S ≤ 1 by have := HS.out; simp at this; split at this <;> omega)
        have t1 : decide (a < z) = true := by simpa using c
        go_wp2_with fail
        refine (CS.out _).mono ?_
        rintro e w' ⟨rfl, rfl⟩
        go_wp2
        go_roundw
        case rel => exact ⟨2, S + 1, by omega, by first | rfl | go_num, rfl, ⟨by omega, by have := HS1.out; omega⟩, HN, Lib.hid (HX.out _), Lib.hid (HY.out _), Lib.hid (HB2.out _)⟩
        case measure => simp [intOf]
      · have HN := Lib.hid (show S = (if 1 ≤ (2 : Nat) ∧ -a < z then 1 else 0) + (if 2 ≤ (2 : Nat) ∧ a < z then 1 else 0) by have := HS.out; simp [c] at this ⊢; omega)
        have t1 : decide (a < z) = false := by simpa using c
        go_wp2_with fail
        refine (CS.out _).mono ?_
        rintro e w' ⟨rfl, rfl⟩
        go_wp2
        go_roundw
        case rel => exact ⟨2, S, by omega, by first | rfl | go_num, rfl, ⟨by omega, by omega⟩, HN, Lib.hid (HX.out _), Lib.hid (HY.out _), Lib.hid (HB2.out _)⟩
        case measure => simp [intOf]
    · have HE := Lib.hid (show S = R by rw [HS.out, ← HR.out]; simp)
      go_wp2
      go_ret
      exact ⟨by rw [HE.out] <;> rfl, HB.out⟩
end Ln
end Go.Proofs.Ytabnjoohojojnaa
