/- Shelves of the call's own: compared, marked, found. -/
import Derived.Test.YtogkebbgkeffcaaSwi
namespace Go.Proofs.Ytogkebbgkeffcaa
open Go.RowKit Go.Joins Go.Deep Go.ChangeShapes Go.WideShapes
set_option linter.unusedVariables false
set_option linter.unusedSimpArgs false
namespace Swp
open Sh So
theorem eqS_own {b1 b2 : Nat} {v v' : Value} {os : List Int} {c : Int} {w : World} (h : w.ownsRow b1 3 1 v os.length (Li.nums os)) (h' : w.ownsRow b2 3 1 v' os.length (Li.nums os)) (hl : os.length ≤ 1048576) :
    Calls Try.prog 19 #[.agg #[v, .int .i64 c], .agg #[v', .int .i64 c]] w (Ret (.bool true) w) := by
  have HO := Lib.hid h
  have HO' := Lib.hid h'
  rcases Li.own_forms h with ⟨rfl, h0⟩ | ⟨g, cap, rfl⟩ <;> rcases Li.own_forms h' with ⟨rfl, h0'⟩ | ⟨g', cap', rfl⟩
  all_goals
    clear h h'
    try clear h0
    try clear h0'
    go_enter Try.func19, Try.ntmps19
    go_wp2_with fail
    refine (Li.eqIntS_own (Li.own_on HO.out ((below_alloc1 _ _).alloc (by simp) _)) (Li.own_on HO'.out ((below_alloc1 _ _).alloc (by simp) _)) hl).mono ?_
    rintro e w1 ⟨rfl, hb⟩
    obtain ⟨hc, hf⟩ := bcell hb
    have hz : w.heap.size + 1 < w1.heap.size := by have := hb.size; simp at this; omega
    have HB := Lib.hid hb
    clear hb
    go_wp2
    go_ret
    exact ⟨rfl, ((below_alloc1 _ _).alloc (by simp) _).trans (HB.out.mono (by simp; omega))⟩
theorem markS_own {b1 n : Nat} {v : Value} {xs : List Value} {c : Int} {w : World} (h : w.ownsRow b1 3 1 v n xs) (hl : n ≤ 1048576) :
    Calls Try.prog 35 #[.agg #[v, .int .i64 c], .int .i64 1] w fun e w' => e = .returned (.int .i64 ((n : Int) + 1)) ∧ w'.ownsRow b1 3 1 v n (Li.nums (Li.marks n)) ∧ w.grownBy w' v.ownBlock := by
  have HO := Lib.hid h
  rcases Li.own_forms h with ⟨rfl, h0⟩ | ⟨g, cap, rfl⟩
  all_goals
    clear h
    try clear h0
    go_enter Try.func35, Try.ntmps35
    go_wp2_with fail
    refine (Li.markIntS_own (Li.own_on HO.out (below_alloc1 _ _)) hl).mono ?_
    rintro e w1 ⟨rfl, ho, hg⟩
    have HO1 := Lib.hid ho
    have HG1 := Lib.hid (show w.grownBy w1 _ from ⟨hg.os, hg.tape, hg.output, by have := hg.size; simp at this; omega, fun k hk hr => (hg.block k (by simp; omega) hr).trans ((below_alloc1 w _).block k hk)⟩)
    clear ho hg
    go_wp2
    go_ret
    exact ⟨rfl, HO1.out, HG1.out⟩
theorem heldS_own {b1 n : Nat} {v : Value} {c : Int} {w : World} (h : w.ownsRow b1 3 1 v n (Li.nums (Li.marks n))) (hl : n ≤ 1048576) :
    Calls Try.prog 40 #[.agg #[v, .int .i64 c], .int .i64 1] w (Ret (.int .i64 ((n : Int) + 1)) w) := by
  have t1 : decide ((n : Int) + 1 < 0) = false := by simp; omega
  have HO := Lib.hid h
  rcases Li.own_forms h with ⟨rfl, h0⟩ | ⟨g, cap, rfl⟩
  all_goals
    clear h
    try clear h0
    go_enter Try.func40, Try.ntmps40
    go_wp2_with fail
    refine (Li.heldIntS_own (Li.own_on HO.out (below_alloc1 _ _)) hl).mono ?_
    rintro e w' ⟨rfl, rfl⟩
    go_wp2
    go_ret
    exact ⟨rfl, below_alloc1 _ _⟩
theorem own_slice {base n : Nat} {v : Value} {xs : List Value} {w : World} (h : w.ownsRow base 3 1 v n xs) : ∃ p cap, v = .slice p n cap := by
  rcases Li.own_forms h with ⟨rfl, rfl⟩ | ⟨g, cap, rfl⟩
  · exact ⟨none, 0, rfl⟩
  · exact ⟨some ⟨g, 0, none⟩, cap, rfl⟩
theorem s_fn {b1 g len cap : Nat} {zs : List Int} {c : Int} {w : World} (h : Ow w b1 g len cap zs) (hl : len ≤ 1048576) (a b : Int) :
    Calls Try.prog 38 #[V g len cap c, .int .i64 a, .int .i64 b] w (Gv (both zs c a && both zs c b) (osOf zs c a b) (cOf zs c a b) w) := s_any h hl
theorem i_fn {b1 g len cap : Nat} {zs : List Int} {c : Int} {w : World} (h : Ow w b1 g len cap zs) (hl : len ≤ 1048576) (a b : Int) :
    Calls Try.prog 39 #[V g len cap c, .int .i64 a, .int .i64 b] w (Gv (both zs c a && both zs c b) (osOf zs c a b) (cOf zs c a b) w) := i_any h hl
end Swp
end Go.Proofs.Ytogkebbgkeffcaa
