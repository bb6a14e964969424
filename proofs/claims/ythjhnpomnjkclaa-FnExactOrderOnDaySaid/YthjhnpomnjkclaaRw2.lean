/- Is there a book with a reader in it; the pages behind a day, from both sides. -/
import Derived.Test.YthjhnpomnjkclaaRw
namespace Go.Proofs.Ythjhnpomnjkclaa
open Go.RowKit Go.Joins
set_option linter.unusedVariables false
set_option linter.unusedSimpArgs false
namespace Rw
/-- a copy of a reader in a box -/
theorem bx_cells {w w' : World} {m d r : Int} {t : TypeId} (hb : Below (w.alloc (.cells #[.int .i64 m, .int .i64 d, .int .i64 r] t)).heap.size (w.alloc (.cells #[.int .i64 m, .int .i64 d, .int .i64 r] t)) w') :
    w'.cell? ⟨w.heap.size, 0, none⟩ = some (.int .i64 m) ∧ w'.cell? ⟨w.heap.size, 1, none⟩ = some (.int .i64 d) ∧ w'.cell? ⟨w.heap.size, 2, none⟩ = some (.int .i64 r) := by
  have h : w.heap.size < (w.alloc (.cells #[.int .i64 m, .int .i64 d, .int .i64 r] t)).heap.size := by simp
  refine ⟨(hb.cell (p := ⟨w.heap.size, 0, none⟩) h).trans ?_, (hb.cell (p := ⟨w.heap.size, 1, none⟩) h).trans ?_, (hb.cell (p := ⟨w.heap.size, 2, none⟩) h).trans ?_⟩
  all_goals simp [go_sem]
theorem bx_below {w w' : World} {o : Obj} (hb : Below (w.alloc o).heap.size (w.alloc o) w') : Below w.heap.size w w' :=
  (below_alloc1 w o).trans (below_le hb (by simp))
theorem fr_none (m d : Int) (k : Nat) (hm : 0 ≤ m) (hm2 : m ≤ 2000) (hd : 1 ≤ d) (hd2 : d ≤ 200) (hk : k ≤ 4001) : wrap64 (m + wrap64 ((k : Int) * d)) = Rd.fr m d 0 k := by
  have e : Rd.wd 0 k = k := by unfold Rd.wd; rw [if_neg (by omega)]
  have h := Rd.fr_le (m := m) (Or.inl rfl) hd hd2 k hk
  have h2 := Int.mul_nonneg (show (0 : Int) ≤ k by omega) (show 0 ≤ d by omega)
  unfold Rd.fr at h ⊢
  rw [e] at h ⊢
  rw [IntWalk.wrap64_in ((k : Int) * d) (by omega), IntWalk.wrap64_in _ (by omega)]
theorem fr_some (m d r : Int) (k : Nat) (hm : 0 ≤ m) (hm2 : m ≤ 2000) (hd : 1 ≤ d) (hd2 : d ≤ 200) (hr : 2 ≤ r) (hk : k ≤ 4001) : wrap64 (m + wrap64 (wrap64 ((k : Int) - wrap64 ((k : Int) / r)) * d)) = Rd.fr m d r k := by
  have e : Rd.wd r k = k - k / r := by unfold Rd.wd; rw [if_pos (by omega)]
  have h := Rd.fr_le (m := m) (Or.inr hr) hd hd2 k hk
  have h1 := Rd.wd_le (Or.inr hr) k
  have h2 := Int.mul_nonneg h1.1 (show 0 ≤ d by omega)
  unfold Rd.fr at h ⊢
  rw [e] at h h1 h2 ⊢
  rw [IntWalk.wrap64_in ((k : Int) / r) (by omega), IntWalk.wrap64_in ((k : Int) - k / r) (by omega), IntWalk.wrap64_in (((k : Int) - k / r) * d) (by omega), IntWalk.wrap64_in _ (by omega)]
theorem rdFree_any (m d r : Int) (k : Nat) (hm : 0 ≤ m) (hm2 : m ≤ 2000) (hd : 1 ≤ d) (hd2 : d ≤ 200) (hr : r = 0 ∨ (2 ≤ r ∧ r ≤ 60)) (hk : k ≤ 4001) (w : World) :
    Calls Try.prog 32 #[.agg #[.int .i64 m, .int .i64 d, .int .i64 r], .int .i64 (k : Int)] w (Ret (.int .i64 (Rd.fr m d r k)) w) := by
  rcases hr with rfl | ⟨h1, h2⟩
  · go_enter Try.func32, Try.ntmps32
    go_wp2
    go_ret
    exact ⟨congrArg Ending.returned (congrArg (Value.int .i64) (fr_none m d k hm hm2 hd hd2 hk)), below_alloc1 _ _⟩
  · go_enter Try.func32, Try.ntmps32
    go_wp2
    go_ret
    exact ⟨congrArg Ending.returned (congrArg (Value.int .i64) (fr_some m d r k hm hm2 hd hd2 h1 hk)), below_alloc1 _ _⟩
theorem markBehind_all (m d r : Int) (k : Nat) (hm : 0 ≤ m) (hm2 : m ≤ 2000) (hd : 1 ≤ d) (hd2 : d ≤ 200) (hr : r = 0 ∨ (2 ≤ r ∧ r ≤ 60)) (hk : k ≤ 4001) (w : World) :
    Calls Try.prog 37 #[.agg #[.int .i64 m, .int .i64 d, .int .i64 r], .int .i64 (k : Int)] w (fun e w' => e = .returned (.int .i64 (Rd.fr m d r k)) ∧ w' = w.alloc (.cells #[.int .i64 m, .int .i64 d, .int .i64 r] 52)) := by
  rcases hr with rfl | ⟨h1, h2⟩
  · go_enter Try.func37, Try.ntmps37
    go_wp2
    go_ret
    exact ⟨congrArg Ending.returned (congrArg (Value.int .i64) (by rw [Int.mul_comm]; exact fr_none m d k hm hm2 hd hd2 hk)), rfl⟩
  · go_enter Try.func37, Try.ntmps37
    go_wp2
    go_ret
    exact ⟨congrArg Ending.returned (congrArg (Value.int .i64) (by rw [Int.mul_comm]; exact fr_some m d r k hm hm2 hd hd2 h1 hk)), rfl⟩
theorem markBehind_any (m d r : Int) (k : Nat) (hm : 0 ≤ m) (hm2 : m ≤ 2000) (hd : 1 ≤ d) (hd2 : d ≤ 200) (hr : r = 0 ∨ (2 ≤ r ∧ r ≤ 60)) (hk : k ≤ 4001) (w : World) :
    Calls Try.prog 37 #[.agg #[.int .i64 m, .int .i64 d, .int .i64 r], .int .i64 (k : Int)] w (Ret (.int .i64 (Rd.fr m d r k)) w) :=
  (markBehind_all m d r k hm hm2 hd hd2 hr hk w).mono (by rintro e w' ⟨rfl, rfl⟩; exact ret1 _ _ _)
theorem rdBook_any (p m d r : Int) (v : Bool) (hv : Rd.inb p m d r = v) (w : World) : Calls Try.prog 57 #[.int .i64 p, .agg #[.int .i64 m, .int .i64 d, .int .i64 r]] w (Ret (.bool v) w) := by
  by_cases c1 : 1 ≤ p
  · by_cases c2 : p ≤ 2000
    · cases hg : Rd.good m d r with
      | false =>
        obtain rfl : v = false := by rw [← hv]; simp [Rd.good, Rd.inb] at hg ⊢; omega
        clear hv
        have HG := Lib.hid hg
        clear hg
        go_enter Try.func57, Try.ntmps57
        go_wp2_with (first | (go_at_call 63; refine (rdGood_any _ _ _ _ HG.out _).mono ?_; rintro e w' ⟨rfl, hb⟩) | go_in)
        go_ret
        exact ⟨rfl, bx_below hb⟩
      | true =>
        have hm : 0 ≤ m := by simp [Rd.good] at hg; omega
        obtain rfl : v = decide (m ≤ p) := by rw [← hv, Bool.eq_iff_iff]; simp [Rd.good, Rd.inb] at hg ⊢; omega
        clear hv
        have HG := Lib.hid hg
        clear hg
        go_enter Try.func57, Try.ntmps57
        go_wp2_with (first | (go_at_call 63; refine (rdGood_any _ _ _ _ HG.out _).mono ?_; rintro e w' ⟨rfl, hb⟩; obtain ⟨q0, q1, q2⟩ := bx_cells hb) | go_in)
        go_ret
        exact ⟨by simp, bx_below hb⟩
    · obtain rfl : v = false := by rw [← hv]; simp [Rd.inb]; omega
      clear hv
      go_enter Try.func57, Try.ntmps57
      go_wp2
      go_ret
      exact ret1 _ _ _
  · obtain rfl : v = false := by rw [← hv]; simp [Rd.inb]; omega
    clear hv
    go_enter Try.func57, Try.ntmps57
    go_wp2
    go_ret
    exact ret1 _ _ _
theorem isReaderOf_any (p m d r : Int) (v : Bool) (hv : Rd.inb p m d r = v) (w : World) : Calls Try.prog 58 #[.int .i64 p, .agg #[.int .i64 m, .int .i64 d, .int .i64 r]] w (Ret (.bool v) w) := by
  by_cases c1 : 1 ≤ p
  · by_cases c2 : p ≤ 2000
    · cases hg : Rd.good m d r with
      | false =>
        obtain rfl : v = false := by rw [← hv]; simp [Rd.good, Rd.inb] at hg ⊢; omega
        clear hv
        have HG := Lib.hid hg
        clear hg
        go_enter Try.func58, Try.ntmps58
        go_wp2_with (first | (go_at_call 64; refine (IsReader_any _ _ _ _ HG.out _).mono ?_; rintro e w' ⟨rfl, hb⟩) | go_in)
        go_ret
        exact ⟨rfl, bx_below hb⟩
      | true =>
        have hm : 0 ≤ m := by simp [Rd.good] at hg; omega
        obtain rfl : v = decide (m ≤ p) := by rw [← hv, Bool.eq_iff_iff]; simp [Rd.good, Rd.inb] at hg ⊢; omega
        clear hv
        have HG := Lib.hid hg
        clear hg
        go_enter Try.func58, Try.ntmps58
        go_wp2_with (first | (go_at_call 64; refine (IsReader_any _ _ _ _ HG.out _).mono ?_; rintro e w' ⟨rfl, hb⟩; obtain ⟨q0, q1, q2⟩ := bx_cells hb) | go_in)
        go_ret
        exact ⟨by simp, bx_below hb⟩
    · obtain rfl : v = false := by rw [← hv]; simp [Rd.inb]; omega
      clear hv
      go_enter Try.func58, Try.ntmps58
      go_wp2
      go_ret
      exact ret1 _ _ _
  · obtain rfl : v = false := by rw [← hv]; simp [Rd.inb]; omega
    clear hv
    go_enter Try.func58, Try.ntmps58
    go_wp2
    go_ret
    exact ret1 _ _ _
end Rw
end Go.Proofs.Ythjhnpomnjkclaa
