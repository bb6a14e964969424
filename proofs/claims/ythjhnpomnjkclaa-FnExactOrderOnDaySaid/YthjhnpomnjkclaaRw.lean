/- What the small functions on a reader answer: copies, tests, and the pages behind a day. -/
import Derived.Test.YthjhnpomnjkclaaChecked
import Derived.Test.YthjhnpomnjkclaaRd
import Derived.WalkKit
import Derived.Lib.Hide
import Derived.Below
import Derived.Lib.SmallJoins
import Derived.BigRegion
namespace Go.Proofs.Ythjhnpomnjkclaa
open Go.RowKit Go.Joins
set_option linter.unusedVariables false
set_option linter.unusedSimpArgs false
namespace Rw
/-- a value is returned; what lay below stays -/
def Ret (x : Value) (w : World) (e : Ending) (w' : World) : Prop := e = .returned x ∧ Below w.heap.size w w'
theorem ret0 (x : Value) (w : World) : Ret x w (.returned x) w := ⟨rfl, Below.refl _ _⟩
theorem ret1 (x : Value) (w : World) (o : Obj) : Ret x w (.returned x) (w.alloc o) := ⟨rfl, below_alloc1 _ _⟩
theorem ret2 (x : Value) (w : World) (o o' : Obj) : Ret x w (.returned x) ((w.alloc o).alloc o') := ⟨rfl, below_alloc2 _ _ _⟩
theorem ret3 (x : Value) (w : World) (o o' o'' : Obj) : Ret x w (.returned x) (((w.alloc o).alloc o').alloc o'') := ⟨rfl, below_alloc3 _ _ _ _⟩
set_option maxRecDepth 100000 in
theorem toReader_any (m d r : Int) (w : World) : Calls Try.prog 34 #[.agg #[.int .i64 m, .int .i64 d, .int .i64 r]] w (Ret (.agg #[.int .i64 m, .int .i64 d, .int .i64 r]) w) := by
  go_enter Try.func34, Try.ntmps34
  go_wp2
  exact bodyPost_ret (v := .agg #[.int .i64 m, .int .i64 d, .int .i64 r]) (by simp [results, Try.results34, go_sem]) rfl ⟨rfl, below_alloc3 _ _ _ _⟩
theorem rdGood_any (m d r : Int) (v : Bool) (hv : Rd.good m d r = v) (w : World) : Calls Try.prog 63 #[.agg #[.int .i64 m, .int .i64 d, .int .i64 r]] w (Ret (.bool v) w) := by
  by_cases c1 : 0 ≤ m
  · by_cases c2 : m ≤ 2000
    · by_cases c3 : 1 ≤ d
      · by_cases c4 : d ≤ 200
        · by_cases c5 : r = 0
          · subst c5
            obtain rfl : v = true := by rw [← hv]; simp [Rd.good, Rd.inb]; omega
            clear hv
            go_enter Try.func63, Try.ntmps63
            go_wp2
            all_goals go_ret
            all_goals (first | exact ret1 _ _ _ | exact ret2 _ _ _ _ | exact ret0 _ _)
          · have q5 : (r == 0) = false := by simpa using c5
            by_cases c6 : 2 ≤ r
            · by_cases c7 : r ≤ 60
              · obtain rfl : v = true := by rw [← hv]; simp [Rd.good, Rd.inb]; omega
                clear hv
                go_enter Try.func63, Try.ntmps63
                go_wp2
                all_goals go_ret
                all_goals (first | exact ret1 _ _ _ | exact ret2 _ _ _ _ | exact ret0 _ _)
              · obtain rfl : v = false := by rw [← hv]; simp [Rd.good, Rd.inb]; omega
                clear hv
                go_enter Try.func63, Try.ntmps63
                go_wp2
                all_goals go_ret
                all_goals (first | exact ret1 _ _ _ | exact ret2 _ _ _ _ | exact ret0 _ _)
            · obtain rfl : v = false := by rw [← hv]; simp [Rd.good, Rd.inb]; omega
              clear hv
              go_enter Try.func63, Try.ntmps63
              go_wp2
              all_goals go_ret
              all_goals (first | exact ret1 _ _ _ | exact ret2 _ _ _ _ | exact ret0 _ _)
        · obtain rfl : v = false := by rw [← hv]; simp [Rd.good, Rd.inb]; omega
          clear hv
          go_enter Try.func63, Try.ntmps63
          go_wp2
          all_goals go_ret
          all_goals (first | exact ret1 _ _ _ | exact ret2 _ _ _ _ | exact ret0 _ _)
      · obtain rfl : v = false := by rw [← hv]; simp [Rd.good, Rd.inb]; omega
        clear hv
        go_enter Try.func63, Try.ntmps63
        go_wp2
        all_goals go_ret
        all_goals (first | exact ret1 _ _ _ | exact ret2 _ _ _ _ | exact ret0 _ _)
    · obtain rfl : v = false := by rw [← hv]; simp [Rd.good, Rd.inb]; omega
      clear hv
      go_enter Try.func63, Try.ntmps63
      go_wp2
      all_goals go_ret
      all_goals (first | exact ret1 _ _ _ | exact ret2 _ _ _ _ | exact ret0 _ _)
  · obtain rfl : v = false := by rw [← hv]; simp [Rd.good, Rd.inb]; omega
    clear hv
    go_enter Try.func63, Try.ntmps63
    go_wp2
    all_goals go_ret
    all_goals (first | exact ret1 _ _ _ | exact ret2 _ _ _ _ | exact ret0 _ _)
theorem IsReader_any (m d r : Int) (v : Bool) (hv : Rd.good m d r = v) (w : World) : Calls Try.prog 64 #[.agg #[.int .i64 m, .int .i64 d, .int .i64 r]] w (Ret (.bool v) w) := by
  by_cases c1 : 0 ≤ m
  · by_cases c2 : m ≤ 2000
    · by_cases c3 : 1 ≤ d
      · by_cases c4 : d ≤ 200
        · by_cases c5 : r = 0
          · subst c5
            obtain rfl : v = true := by rw [← hv]; simp [Rd.good, Rd.inb]; omega
            clear hv
            go_enter Try.func64, Try.ntmps64
            go_wp2
            all_goals go_ret
            all_goals (first | exact ret1 _ _ _ | exact ret2 _ _ _ _ | exact ret0 _ _)
          · have q5 : (r == 0) = false := by simpa using c5
            by_cases c6 : 2 ≤ r
            · by_cases c7 : r ≤ 60
              · obtain rfl : v = true := by rw [← hv]; simp [Rd.good, Rd.inb]; omega
                clear hv
                go_enter Try.func64, Try.ntmps64
                go_wp2
                all_goals go_ret
                all_goals (first | exact ret1 _ _ _ | exact ret2 _ _ _ _ | exact ret0 _ _)
              · obtain rfl : v = false := by rw [← hv]; simp [Rd.good, Rd.inb]; omega
                clear hv
                go_enter Try.func64, Try.ntmps64
                go_wp2
                all_goals go_ret
                all_goals (first | exact ret1 _ _ _ | exact ret2 _ _ _ _ | exact ret0 _ _)
            · obtain rfl : v = false := by rw [← hv]; simp [Rd.good, Rd.inb]; omega
              clear hv
              go_enter Try.func64, Try.ntmps64
              go_wp2
              all_goals go_ret
              all_goals (first | exact ret1 _ _ _ | exact ret2 _ _ _ _ | exact ret0 _ _)
        · obtain rfl : v = false := by rw [← hv]; simp [Rd.good, Rd.inb]; omega
          clear hv
          go_enter Try.func64, Try.ntmps64
          go_wp2
          all_goals go_ret
          all_goals (first | exact ret1 _ _ _ | exact ret2 _ _ _ _ | exact ret0 _ _)
      · obtain rfl : v = false := by rw [← hv]; simp [Rd.good, Rd.inb]; omega
        clear hv
        go_enter Try.func64, Try.ntmps64
        go_wp2
        all_goals go_ret
        all_goals (first | exact ret1 _ _ _ | exact ret2 _ _ _ _ | exact ret0 _ _)
    · obtain rfl : v = false := by rw [← hv]; simp [Rd.good, Rd.inb]; omega
      clear hv
      go_enter Try.func64, Try.ntmps64
      go_wp2
      all_goals go_ret
      all_goals (first | exact ret1 _ _ _ | exact ret2 _ _ _ _ | exact ret0 _ _)
  · obtain rfl : v = false := by rw [← hv]; simp [Rd.good, Rd.inb]; omega
    clear hv
    go_enter Try.func64, Try.ntmps64
    go_wp2
    all_goals go_ret
    all_goals (first | exact ret1 _ _ _ | exact ret2 _ _ _ _ | exact ret0 _ _)
end Rw
end Go.Proofs.Ythjhnpomnjkclaa
