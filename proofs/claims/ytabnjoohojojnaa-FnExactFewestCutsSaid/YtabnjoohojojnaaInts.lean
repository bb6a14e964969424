/- What eqIntS, markIntS and heldIntS answer over slices of integers that a call has made, at most 1048576 of them: equal lists are found equal, marks are written and found again. -/
import Derived.Test.YtabnjoohojojnaaChecked
import Derived.WalkKit
import Derived.Lib.Hide
import Derived.Deep.QuietTactic
import Derived.BigQuiet
import Derived.Laws.OwnMore
import Derived.Below
namespace Go.Proofs.Ytabnjoohojojnaa
open Go.RowKit
set_option linter.unusedVariables false
namespace Li
theorem info3 : (Try.prog.info? 3).map (fun i => (i.zero, i.size, i.bytes)) = some (some (.int .i64 0), 1, 8) := by kernel_rfl
theorem below_next {a b c : World} (h : Below a.heap.size a b) (k : Below b.heap.size b c) : Below a.heap.size a c := h.trans (k.mono h.size)
theorem below_of_grown {a b : World} (h : a.grownBy b none) : Below a.heap.size a b := ⟨h.os, h.tape, h.output, h.size, fun k hk => h.block k hk (by simp)⟩
theorem grown_of_below {a b : World} (h : Below a.heap.size a b) : a.grownBy b none := ⟨h.os, h.tape, h.output, h.size, fun k hk _ => h.block k hk⟩
theorem below_draws {B : Nat} {a b : World} (h : Below B a b) (n : Nat) : Below B a (b.drewN n) := ⟨h.os, h.tape, h.output, h.size, h.block⟩
def nums (zs : List Int) : List Value := zs.map (Value.int .i64)
theorem nums_length (zs : List Int) : (nums zs).length = zs.length := by simp [nums]
theorem own_on {w w' : World} {base : Nat} {e : TypeId} {size : Nat} {v : Value} {n : Nat} {xs : List Value} (h : w.ownsRow base e size v n xs) (hb : Below w.heap.size w w') : w'.ownsRow base e size v n xs :=
  h.kept (grown_of_below hb) (by cases hv : v.ownBlock <;> simp)
theorem own_le {w : World} {base base' size n : Nat} {e : TypeId} {v : Value} {xs : List Value} (h : w.ownsRow base e size v n xs) (hb : base' ≤ base) : w.ownsRow base' e size v n xs :=
  ⟨h.1, h.2.imp id fun ⟨g, cap, cur, h1, h2, h3⟩ => ⟨g, cap, cur, h1, Nat.le_trans hb h2, h3⟩⟩
/-- a slice of integers at an address: its numbers -/
def RowAt (W : World) (b len : Nat) (zs : List Int) : Prop := zs.length = len ∧ len ≤ 1048576 ∧ b < W.heap.size ∧ ∀ j, j < len → W.cell? ⟨b, j, none⟩ = some (.int .i64 (zs.getD j 0))
theorem RowAt.on {W W' : World} {b len : Nat} {zs : List Int} (h : RowAt W b len zs) (hb : Below W.heap.size W W') : RowAt W' b len zs :=
  ⟨h.1, h.2.1, Nat.lt_of_lt_of_le h.2.2.1 hb.size, fun j hj => (hb.cell (p := ⟨b, j, none⟩) h.2.2.1).trans (h.2.2.2 j hj)⟩
theorem row_own {W : World} {base g cap len : Nat} {zs : List Int} (h : W.ownsRow base 3 1 (.slice (some ⟨g, 0, none⟩) len cap) len (nums zs)) (hz : zs.length = len) (hl : len ≤ 1048576) : RowAt W g len zs := by
  refine ⟨hz, hl, (h.lt g rfl).2, fun j hj => ?_⟩
  rw [h.cellAt j (by omega)]
  unfold nums
  simp [List.getD, List.getElem?_eq_getElem (show j < zs.length by omega)]
theorem own_forms {w : World} {base size n : Nat} {e : TypeId} {v : Value} {xs : List Value} (h : w.ownsRow base e size v n xs) : (v = .slice none 0 0 ∧ n = 0) ∨ ∃ g cap, v = .slice (some ⟨g, 0, none⟩) n cap := by
  rcases h.2 with h1 | ⟨g, cap, cur, h1, _⟩
  · exact Or.inl h1
  · exact Or.inr ⟨g, cap, h1⟩
set_option maxRecDepth 100000 in
set_option maxHeartbeats 1000000 in
theorem eqIntS_some (b cap b' cap' len : Nat) (zs : List Int) (w : World) (h : RowAt w b len zs) (h' : RowAt w b' len zs) :
    Calls Try.prog 18 #[.slice (some ⟨b, 0, none⟩) len cap, .slice (some ⟨b', 0, none⟩) len cap'] w fun e w' => e = .returned (.bool true) ∧ Below w.heap.size w w' := by
  have HC := Lib.hid h
  have HC' := Lib.hid h'
  have hm := h.2.1
  clear h h'
  go_enter Try.func18, Try.ntmps18
  go_wp2
  go_loopw [5] (fun i wr => ∃ k : Nat, k ≤ len ∧ i = .int .i64 (k : Int) ∧ Below w.heap.size w wr) (fun i _ => ((len : Int) - intOf i).toNat)
  case atStart => exact ⟨0, by omega, rfl, Below.refl _ _⟩
  case round =>
    obtain ⟨k, hk, rfl, hb⟩ := hrel
    by_cases hlt : (k : Int) < len
    · have hc := (HC.out.on hb).2.2.2 k (by omega)
      have hc' := (HC'.out.on hb).2.2.2 k (by omega)
      go_wp2
      go_quiet (fail)
      go_wp2
      go_roundw
      case rel => exact ⟨k + 1, by omega, by go_num, below_draws hb _⟩
      case measure => simp [intOf]; omega
    · go_wp2
      go_ret
      exact ⟨rfl, hb⟩
set_option maxRecDepth 100000 in
theorem eqIntS_none (a a' : Option Addr) (cap cap' : Nat) (w : World) :
    Calls Try.prog 18 #[.slice a 0 cap, .slice a' 0 cap'] w fun e w' => e = .returned (.bool true) ∧ Below w.heap.size w w' := by
  go_enter Try.func18, Try.ntmps18
  go_wp2
  refine wp_loop_rounds 1 ?_
  rw [rounds_succ]
  go_wp2
  go_ret
  exact ⟨rfl, Below.refl _ _⟩
theorem eqIntS_own {b1 b2 : Nat} {v v' : Value} {zs : List Int} {w : World} (h : w.ownsRow b1 3 1 v zs.length (nums zs)) (h' : w.ownsRow b2 3 1 v' zs.length (nums zs)) (hl : zs.length ≤ 1048576) :
    Calls Try.prog 18 #[v, v'] w fun e w' => e = .returned (.bool true) ∧ Below w.heap.size w w' := by
  by_cases h0 : zs.length = 0
  · have k1 : ∃ a cap, v = .slice a 0 cap := by
      rcases own_forms h with ⟨rfl, _⟩ | ⟨g, cap, rfl⟩
      · exact ⟨_, _, rfl⟩
      · rw [h0]; exact ⟨_, _, rfl⟩
    have k2 : ∃ a cap, v' = .slice a 0 cap := by
      rcases own_forms h' with ⟨rfl, _⟩ | ⟨g, cap, rfl⟩
      · exact ⟨_, _, rfl⟩
      · rw [h0]; exact ⟨_, _, rfl⟩
    obtain ⟨a, cap, rfl⟩ := k1
    obtain ⟨a', cap', rfl⟩ := k2
    exact eqIntS_none a a' cap cap' w
  · rcases own_forms h with ⟨_, hz⟩ | ⟨g, cap, rfl⟩
    · exact absurd hz h0
    · rcases own_forms h' with ⟨_, hz⟩ | ⟨g', cap', rfl⟩
      · exact absurd hz h0
      · exact eqIntS_some g cap g' cap' _ zs w (row_own h rfl hl) (row_own h' rfl hl)
/-- the marks 1, 2, .. up to k ahead of what stood there -/
def mk (xs : List Value) (k : Nat) : List Value := (List.range k).map (fun i : Nat => Value.int .i64 ((i : Int) + 1)) ++ xs.drop k
theorem mk_zero (xs : List Value) : mk xs 0 = xs := by simp [mk]
theorem mk_length (xs : List Value) (k : Nat) (h : k ≤ xs.length) : (mk xs k).length = xs.length := by simp [mk]; omega
theorem mk_step (xs : List Value) (k : Nat) (h : k < xs.length) : (mk xs k).set k (.int .i64 ((k : Int) + 1)) = mk xs (k + 1) := by
  unfold mk
  have e : ((List.range k).map (fun i : Nat => Value.int .i64 ((i : Int) + 1))).length = k := by simp
  rw [List.set_append_right _ _ (by rw [e]; exact Nat.le_refl _), e, Nat.sub_self, List.range_succ, List.map_append, List.drop_eq_getElem_cons h]
  simp only [List.set_cons_zero, List.map_cons, List.map_nil, List.append_assoc, List.cons_append, List.nil_append]
def marks (n : Nat) : List Int := (List.range n).map (fun i : Nat => (i : Int) + 1)
theorem mk_end (xs : List Value) (n : Nat) (h : xs.length = n) : mk xs n = nums (marks n) := by
  unfold mk nums marks
  rw [List.drop_of_length_le (by omega), List.map_map, List.append_nil]
  rfl
theorem marks_length (n : Nat) : (marks n).length = n := by simp [marks]
theorem marks_at (n k : Nat) (h : k < n) : (marks n).getD k 0 = (k : Int) + 1 := by
  unfold marks
  simp [List.getD, h]
theorem ret_int {a b : Int} (h : a = b) : Ending.returned (.int .i64 a) = .returned (.int .i64 b) := by rw [h]
set_option maxRecDepth 100000 in
set_option maxHeartbeats 1000000 in
theorem markIntS_some (base g cap len : Nat) (xs : List Value) (w : World) (h : w.ownsRow base 3 1 (.slice (some ⟨g, 0, none⟩) len cap) len xs) (hl : len ≤ 1048576) :
    Calls Try.prog 21 #[.slice (some ⟨g, 0, none⟩) len cap, .int .i64 1] w fun e w' => e = .returned (.int .i64 ((len : Int) + 1)) ∧ w'.ownsRow base 3 1 (.slice (some ⟨g, 0, none⟩) len cap) len (nums (marks len)) ∧ w.grownBy w' (some g) := by
  have hx : xs.length = len := by have := h.1; omega
  have h0 : w.ownsRow base 3 1 (.slice (some ⟨g, 0, none⟩) len cap) len (mk xs 0) := by rw [mk_zero]; exact h
  have H0 := Lib.hid h0
  have HX := Lib.hid hx
  clear h h0 hx
  go_enter Try.func21, Try.ntmps21
  go_wp2
  go_loopw [1, 5] (fun q i wr => ∃ k : Nat, k ≤ len ∧ i = .int .i64 (k : Int) ∧ q = .int .i64 ((k : Int) + 1) ∧ wr.ownsRow base 3 1 (.slice (some ⟨g, 0, none⟩) len cap) len (mk xs k) ∧ w.grownBy wr (some g)) (fun _ i _ => ((len : Int) - intOf i).toNat)
  case atStart => exact ⟨0, by omega, rfl, rfl, H0.out, ⟨rfl, rfl, rfl, Nat.le_refl _, fun _ _ _ => rfl⟩⟩
  case round =>
    obtain ⟨k, hk, rfl, rfl, hown, hg⟩ := hrel
    by_cases hlt : (k : Int) < len
    · have hd : ∃ v, wr.cell? ⟨g, k, none⟩ = some v := by
        rw [hown.cellAt k (by omega)]
        exact ⟨_, List.getElem?_eq_getElem (by rw [hown.1]; omega)⟩
      obtain ⟨v, hd⟩ := hd
      have hf := hown.frozenAt k
      have hst := hown.stored k (.int .i64 ((k : Int) + 1))
      rw [mk_step xs k (by rw [HX.out]; omega)] at hst
      have HST := Lib.hid hst.1
      have HG := Lib.hid (show w.grownBy (wr.setCell ⟨g, k, none⟩ (.int .i64 ((k : Int) + 1))) (some g) from
        ⟨hst.2.os.trans hg.os, hst.2.tape.trans hg.tape, hst.2.output.trans hg.output, Nat.le_trans hg.size hst.2.size, fun j hj hr => (hst.2.block j (Nat.lt_of_lt_of_le hj hg.size) hr).trans (hg.block j hj hr)⟩)
      clear hst hown hg
      go_wp2
      go_roundw
      case rel => exact ⟨k + 1, by omega, by go_num, by go_num, HST.out, HG.out⟩
      case measure => simp [intOf]; omega
    · have e : k = len := by omega
      have HO := Lib.hid (show wr.ownsRow base 3 1 (.slice (some ⟨g, 0, none⟩) len cap) len (nums (marks len)) by rw [← mk_end xs len HX.out]; rw [e] at hown; exact hown)
      have E := Lib.hid e
      clear e hown
      go_wp2
      go_ret
      exact ⟨ret_int (by have := E.out; omega), HO.out, hg⟩
set_option maxRecDepth 100000 in
theorem markIntS_none (a : Option Addr) (cap : Nat) (w : World) :
    Calls Try.prog 21 #[.slice a 0 cap, .int .i64 1] w fun e w' => e = .returned (.int .i64 1) ∧ w = w' := by
  go_enter Try.func21, Try.ntmps21
  go_wp2
  refine wp_loop_rounds 1 ?_
  rw [rounds_succ]
  go_wp2
  go_ret
  exact ⟨rfl, rfl⟩
theorem markIntS_own {base : Nat} {v : Value} {n : Nat} {xs : List Value} {w : World} (h : w.ownsRow base 3 1 v n xs) (hl : n ≤ 1048576) :
    Calls Try.prog 21 #[v, .int .i64 1] w fun e w' => e = .returned (.int .i64 ((n : Int) + 1)) ∧ w'.ownsRow base 3 1 v n (nums (marks n)) ∧ w.grownBy w' v.ownBlock := by
  rcases own_forms h with ⟨rfl, rfl⟩ | ⟨g, cap, rfl⟩
  · refine (markIntS_none none 0 w).mono ?_
    rintro e w' ⟨rfl, rfl⟩
    exact ⟨rfl, World.ownsRow_nil _ _ _ _, ⟨rfl, rfl, rfl, Nat.le_refl _, fun _ _ _ => rfl⟩⟩
  · exact markIntS_some base g cap n xs w h hl
set_option maxRecDepth 100000 in
set_option maxHeartbeats 1000000 in
theorem heldIntS_some (b cap len : Nat) (w : World) (h : RowAt w b len (marks len)) :
    Calls Try.prog 22 #[.slice (some ⟨b, 0, none⟩) len cap, .int .i64 1] w fun e w' => e = .returned (.int .i64 ((len : Int) + 1)) ∧ w = w' := by
  have HC := Lib.hid h
  have hm := h.2.1
  clear h
  go_enter Try.func22, Try.ntmps22
  go_wp2
  go_loop [1, 5] (fun q i => ∃ k : Nat, k ≤ len ∧ i = .int .i64 (k : Int) ∧ q = .int .i64 ((k : Int) + 1)) (fun _ i => ((len : Int) - intOf i).toNat)
  case atStart => exact ⟨0, by omega, rfl, rfl⟩
  case round =>
    obtain ⟨k, hk, rfl, rfl⟩ := hrel
    by_cases hlt : (k : Int) < len
    · have hc := HC.out.2.2.2 k (by omega)
      rw [marks_at len k (by omega)] at hc
      go_wp2
      go_round
      case rel => exact ⟨k + 1, by omega, by go_num, by go_num⟩
      case measure => simp [intOf]; omega
    · have E := Lib.hid (show k = len by omega)
      go_wp2
      go_ret
      exact ⟨ret_int (by have := E.out; omega), rfl⟩
set_option maxRecDepth 100000 in
theorem heldIntS_none (a : Option Addr) (cap : Nat) (w : World) :
    Calls Try.prog 22 #[.slice a 0 cap, .int .i64 1] w fun e w' => e = .returned (.int .i64 1) ∧ w = w' := by
  go_enter Try.func22, Try.ntmps22
  go_wp2
  refine wp_loop_rounds 1 ?_
  rw [rounds_succ]
  go_wp2
  go_ret
  exact ⟨rfl, rfl⟩
theorem heldIntS_own {base : Nat} {v : Value} {n : Nat} {w : World} (h : w.ownsRow base 3 1 v n (nums (marks n))) (hl : n ≤ 1048576) :
    Calls Try.prog 22 #[v, .int .i64 1] w fun e w' => e = .returned (.int .i64 ((n : Int) + 1)) ∧ w = w' := by
  rcases own_forms h with ⟨rfl, rfl⟩ | ⟨g, cap, rfl⟩
  · refine (heldIntS_none none 0 w).mono ?_
    rintro e w' ⟨rfl, rfl⟩
    exact ⟨rfl, rfl⟩
  · exact heldIntS_some g cap n w (row_own h (marks_length n) hl)
/-- a list and a bool are returned: the list in new memory -/
def Gives (ok : Bool) (zs : List Int) (W : World) (e : Ending) (w' : World) : Prop :=
  ∃ v, e = .returned (.tuple #[v, .bool ok]) ∧ w'.ownsRow W.heap.size 3 1 v zs.length (nums zs) ∧ Below W.heap.size W w'
theorem Gives.none {W w' : World} (hb : Below W.heap.size W w') : Gives false [] W (.returned (.tuple #[.slice none 0 0, .bool false])) w' :=
  ⟨_, rfl, World.ownsRow_nil _ _ _ _, hb⟩
theorem apart {W w1 w2 : World} {v v' : Value} {n n' : Nat} {xs xs' : List Value} (h : w1.ownsRow W.heap.size 3 1 v n xs) (h' : w2.ownsRow w1.heap.size 3 1 v' n' xs') : v.ownBlock = none ∨ v.ownBlock ≠ v'.ownBlock := by
  cases hv : v.ownBlock with
  | none => exact Or.inl rfl
  | some g =>
    refine Or.inr fun he => ?_
    have a := (h.lt g hv).2
    have b := (h'.lt g he.symm).1
    omega
end Li
end Go.Proofs.Ytabnjoohojojnaa
