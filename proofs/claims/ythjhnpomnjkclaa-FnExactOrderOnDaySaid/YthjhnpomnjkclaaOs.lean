/- The library's stable sort of at most 20 indices by a comparison of what they point to: an order by exchanges of neighbours. -/
import Derived.Test.YthjhnpomnjkclaaOsShelf
import Derived.Test.YthjhnpomnjkclaaChecked
import Derived.Test.YthjhnpomnjkclaaOr
import Derived.Shelf.SlSortCmp.Insertion
import Derived.Shelf.SlicesG.Cmp
import Derived.Shelf.Lay
import Derived.Ground.SlsfProg
import Derived.WalkKit
import Derived.Lib.Hide
import Derived.Deep.QuietTactic
import Derived.BigQuiet
namespace Go.Proofs.Ythjhnpomnjkclaa
open Go.RowKit Go.Sort Go.Shelf
set_option linter.unusedVariables false
set_option linter.unusedSimpArgs false
namespace Or
theorem cmp_any (x y : Int) (w : World) : Calls Try.prog 40 #[.int .i64 x, .int .i64 y] w fun e w' => e = .returned (.int .i64 (Lib.compareInt x y)) ∧ w = w' := by
  unfold Lib.compareInt
  by_cases h1 : x < y
  · have t1 : decide (x < y) = true := by simpa using h1
    go_enter Try.func40, Try.ntmps40
    go_wp2
    go_ret
    exact ⟨by simp [h1], rfl⟩
  · by_cases h2 : y < x
    · go_enter Try.func40, Try.ntmps40
      go_wp2
      go_ret
      exact ⟨by simp [h1, h2], rfl⟩
    · go_enter Try.func40, Try.ntmps40
      go_wp2
      go_ret
      exact ⟨by simp [h1, h2], rfl⟩
set_option maxRecDepth 100000 in
set_option maxHeartbeats 1000000 in
theorem clo_any (B g n cap x y : Nat) (hx : (x : Int) < n) (hy : (y : Int) < n) (hn : n ≤ 6) (X Y : Int) (W : World) (hB : W.cell? ⟨B, 0, none⟩ = some (.slice (some ⟨g, 0, none⟩) n cap))
    (hX : W.cell? ⟨g, x, none⟩ = some (.int .i64 X)) (hY : W.cell? ⟨g, y, none⟩ = some (.int .i64 Y)) :
    Calls Try.prog 39 #[.int .i64 (x : Int), .int .i64 (y : Int), .pointer (some ⟨B, 0, none⟩)] W fun e w' => e = .returned (.int .i64 (Lib.compareInt Y X)) ∧ ∃ q, w' = W.drewN q := by
  have C := Lib.hid (fun w => cmp_any Y X w)
  go_enter Try.func39, Try.ntmps39
  go_wp2
  go_quiet ((go_at_call 40; exact Calls.quiet_of_same ((C.out _).mono fun _ _ ⟨h1, h2⟩ => ⟨h1, h2.symm⟩)))
  go_wp2
  go_ret
  exact ⟨rfl, _, rfl⟩
/-- an index as a value -/
def enc {n : Nat} (k : Fin n) : Value := .int .i64 ((k.val : Nat) : Int)
def cf {n : Nat} (M : Fin n → Int) (x y : Fin n) : Int := Lib.compareInt (M y) (M x)
theorem lt_cf {n : Nat} (M : Fin n → Int) (x y : Fin n) : ltOf (cf M) x y = decide (M y < M x) := by
  unfold ltOf cf Lib.compareInt
  by_cases h : M y < M x
  · simp [h]
  · by_cases h2 : M x < M y <;> simp [h, h2]
theorem reads {n : Nat} [Inhabited (Fin n)] (hl : n ≤ 6) (M : Fin n → Int) (B gm capm g : Nat) (w : World) (size : Nat) (hB : w.cell? ⟨B, 0, none⟩ = some (.slice (some ⟨gm, 0, none⟩) n capm))
    (hM : ∀ k : Fin n, w.cell? ⟨gm, k.val, none⟩ = some (.int .i64 (M k))) (h1 : B ≠ g) (h2 : gm ≠ g) (hBs : B < w.heap.size) (hgs : gm < w.heap.size) :
    CmpReads Try.prog 39 #[.pointer (some ⟨B, 0, none⟩)] enc (cf M) g 0 size w := by
  intro m os dk hdk x y
  have key : ∀ (b o : Nat), b ≠ g → b < w.heap.size → (sortWorld enc w g 0 m dk os).cell? ⟨b, o, none⟩ = w.cell? ⟨b, o, none⟩ := by
    intro b o hb hs
    unfold sortWorld
    rw [cell?_grow _ _ _ (by rw [size_putRow]; exact hs), cell?_putRow_other _ _ _ _ _ _ (_root_.Or.inl hb)]
    rfl
  exact clo_any B gm n capm x.val y.val (by have := x.isLt; omega) (by have := y.isLt; omega) hl (M x) (M y) _ ((key B 0 h1 hBs).trans hB) ((key gm _ h2 hgs).trans (hM x)) ((key gm _ h2 hgs).trans (hM y))
set_option maxRecDepth 100000 in
set_option maxHeartbeats 1000000 in
theorem stable_any {n : Nat} [Inhabited (Fin n)] (hl : n ≤ 6) (M : Fin n → Int) (B gm capm g cap : Nat) (d : Array (Fin n)) (hd : d.size = n) (w : World) (hB : w.cell? ⟨B, 0, none⟩ = some (.slice (some ⟨gm, 0, none⟩) n capm))
    (hM : ∀ k : Fin n, w.cell? ⟨gm, k.val, none⟩ = some (.int .i64 (M k))) (hH : Holds enc w g 0 d) (h1 : B ≠ g) (h2 : gm ≠ g) (hBs : B < w.heap.size) (hgs : gm < w.heap.size) :
    Calls Try.prog 59 #[.slice (some ⟨g, 0, none⟩) n cap, .int .i64 (n : Int), .func (.func 39) #[] #[.pointer (some ⟨B, 0, none⟩)]] w fun e w' =>
      e = .returned (.tuple #[]) ∧ ∃ q, w' = (putRow enc w g 0 (insertionSort (ltOf (cf M)) d 0 d.size)).drewN q := by
  have eg : ∀ args w, (callFunc 39 args).run Try.prog w = .ok (.enter 39 args) w := enters_of Try.func39 (by kernel_rfl) rfl
  have hcon := Any.insertionSortCmpFunc_one Try.insSort enc (fun _ => rfl) (cf M) 39 #[.pointer (some ⟨B, 0, none⟩)] g 0 cap 0 d.size d w eg (reads hl M B gm capm g w d.size hB hM h1 h2 hBs hgs) hH (Nat.zero_le _) (Nat.le_refl _) (by omega)
  change Calls Try.prog 66 _ _ _ at hcon
  generalize insertionSort (ltOf (cf M)) d 0 d.size = R at hcon ⊢
  rw [hd] at hcon
  have HC := Lib.hid hcon
  have t1 : decide ((20 : Int) ≤ (n : Int)) = false := by simp; omega
  have t2 : decide ((20 : Int) < (n : Int)) = false := by simp; omega
  clear hcon hB hM hH hd eg
  go_enter Try.func59, Try.ntmps59
  go_wp2
  refine wp_loop_rounds 1 ?_
  rw [rounds_succ]
  go_wp2_with fail
  refine HC.out.mono ?_
  rintro e w' ⟨rfl, q, rfl⟩
  go_wp2_with fail
  refine wp_loop_rounds 1 ?_
  rw [rounds_succ]
  go_wp2
  go_end0
  exact ⟨rfl, q, rfl⟩
end Or
end Go.Proofs.Ythjhnpomnjkclaa
