/- Filled lines, by the model. -/
import Derived.Test.YtbebojahjfnkiaaDoorLnn
import Derived.Maps.AppendAt
import Derived.IntWalk
namespace Go.Proofs.YtbebojahjfnkiaaDoor
open Go.RowKit Go.Joins Go.Deep Go.ChangeShapes Go.WideShapes
set_option linter.unusedVariables false
set_option linter.unusedSimpArgs false
namespace Ln
/-- how many words a line from a on takes: at least n, with d more behind it -/
def cntF (zs : List Int) (wide : Int) (a : Nat) : Nat → Nat → Nat
  | 0, n => n
  | d + 1, n => if need zs a (a + n + 1) ≤ wide then cntF zs wide a d (n + 1) else n
theorem cntF_bd (zs : List Int) (wide : Int) (a : Nat) : ∀ d n, n ≤ cntF zs wide a d n ∧ cntF zs wide a d n ≤ n + d := by
  intro d
  induction d with
  | zero => intro n; simp [cntF]
  | succ d ih =>
    intro n
    unfold cntF
    split
    · have := ih (n + 1); omega
    · omega
def cnt (zs : List Int) (wide : Int) (a : Nat) : Nat := cntF zs wide a (zs.length - a - 1) 1
theorem cnt_bd (zs : List Int) (wide : Int) (a : Nat) (h : a < zs.length) : 1 ≤ cnt zs wide a ∧ a + cnt zs wide a ≤ zs.length := by
  have := cntF_bd zs wide a (zs.length - a - 1) 1
  unfold cnt
  omega
/-- the filled lines from word a on -/
def fillL (zs : List Int) (wide : Int) : Nat → Nat → List Int
  | 0, _ => []
  | f + 1, a => if a < zs.length then (cnt zs wide a : Int) :: fillL zs wide f (a + cnt zs wide a) else []
theorem fillL_fuel (zs : List Int) (wide : Int) : ∀ f a, zs.length - a ≤ f → fillL zs wide f a = fillL zs wide (zs.length - a) a := by
  intro f
  induction f using Nat.strongRecOn with
  | ind f ih =>
    intro a hf
    by_cases h : a < zs.length
    · obtain ⟨f', rfl⟩ : ∃ f', f = f' + 1 := ⟨f - 1, by omega⟩
      obtain ⟨d, hd⟩ : ∃ d, zs.length - a = d + 1 := ⟨zs.length - a - 1, by omega⟩
      have hb := cnt_bd zs wide a h
      rw [hd]
      unfold fillL
      rw [if_pos h, if_pos h, ih f' (by omega) (a + cnt zs wide a) (by omega)]
      by_cases e : d < f' + 1
      · rw [ih d (by omega) (a + cnt zs wide a) (by omega)]
      · omega
    · have e0 : zs.length - a = 0 := by omega
      rw [e0]
      cases f with
      | zero => rfl
      | succ f => unfold fillL; rw [if_neg h]
/-- the filled lines from word a on -/
def fillA (zs : List Int) (wide : Int) (a : Nat) : List Int := fillL zs wide (zs.length - a) a
theorem fillA_end (zs : List Int) (wide : Int) (a : Nat) (h : ¬ a < zs.length) : fillA zs wide a = [] := by unfold fillA; rw [show zs.length - a = 0 by omega]; rfl
theorem fillA_step (zs : List Int) (wide : Int) (a : Nat) (h : a < zs.length) : fillA zs wide a = (cnt zs wide a : Int) :: fillA zs wide (a + cnt zs wide a) := by
  have hb := cnt_bd zs wide a h
  unfold fillA
  obtain ⟨d, hd⟩ : ∃ d, zs.length - a = d + 1 := ⟨zs.length - a - 1, by omega⟩
  rw [hd]
  show (if a < zs.length then _ else _) = _
  rw [if_pos h, fillL_fuel zs wide d _ (by omega)]
theorem fillA_sum (zs : List Int) (wide : Int) : ∀ d a, zs.length - a ≤ d → (fillA zs wide a).length ≤ zs.length - a := by
  intro d
  induction d with
  | zero => intro a h; rw [fillA_end zs wide a (by omega)]; simp
  | succ d ih =>
    intro a hd
    by_cases h : a < zs.length
    · have hb := cnt_bd zs wide a h
      have := ih (a + cnt zs wide a) (by omega)
      rw [fillA_step zs wide a h, List.length_cons]
      omega
    · rw [fillA_end zs wide a h]; simp
theorem cut_run (go o k cp a : Nat) (ai : Int) (hai : ai = (a : Int)) (ha : a ≤ k) (hc : k ≤ cp) : ∃ o' : Nat, (∀ W, (Instr.slice 30 (.slice (some ⟨go, o, none⟩) k cp) (some (.int .i64 ai)) none none).run Tryd.prog W = .ok (.slice (some ⟨go, o', none⟩) (k - a) (cp - a)) W) ∧ (o' = o + a ∨ k - a = 0) := by
  subst hai
  refine ⟨if cp = a then o else o + a, fun W => ?_, ?_⟩
  · rw [run_slice_l W 30 (some ⟨go, o, none⟩) k cp (by kernel_rfl) .i64 (a : Int) (by omega) (by omega)]
    have e : (sizeOf (Tryd.prog.elem 30)).run Tryd.prog W = .ok 1 W := by kernel_rfl
    rw [e]
    simp only [Result.andThen, sliced, Int.toNat_natCast, Nat.mul_one]
    by_cases h : cp = a
    · simp [h]
    · simp [h, Addr.add]
  · by_cases h : cp = a
    · exact _root_.Or.inr (by omega)
    · exact _root_.Or.inl (by rw [if_neg h])
theorem to_run (go o k cp a : Nat) (ha : a ≤ cp) (W : World) : (Instr.slice 30 (.slice (some ⟨go, o, none⟩) k cp) none (some (.int .i64 (a : Int))) none).run Tryd.prog W = .ok (.slice (some ⟨go, o, none⟩) a cp) W := by
  rw [run_slice_h W 30 (some ⟨go, o, none⟩) k cp (by kernel_rfl) .i64 (a : Int) (by omega) (by omega)]
  have e : (sizeOf (Tryd.prog.elem 30)).run Tryd.prog W = .ok 1 W := by kernel_rfl
  rw [e]
  simp [Result.andThen, sliced]
  intro _
  simp [Addr.add]
end Ln
end Go.Proofs.YtbebojahjfnkiaaDoor
