/- FnExactTogetherPages is proved: spec.TogetherPages and impl.TogetherPages answer alike for every argument, and the readers are as they were. No condition: for every input that the parameter types allow. -/
import Derived.Test.YtcaklokcajidiabRows
import Derived.WalkKit
import Derived.ProofKit
import Derived.OpenShut
import Derived.Below
import Derived.Lib.SmallJoins
import Derived.Carry
import Derived.Test.YtcaklokcajidiabTp
import Derived.Test.YtcaklokcajidiabRx4
namespace Go.Proofs.Ytcaklokcajidiab.fnExactTogetherPages
open Go.ChangeShapes Go.WideShapes Go.ChangeAt Go.RowKit Go.Joins
set_option linter.unusedVariables false
set_option linter.unusedSimpArgs false

theorem own : ownKnob Try.prog.godebug = none := by kernel_rfl
theorem laidOut : laidOutB Try.prog = true := by kernel_rfl
set_option maxRecDepth 100000 in
set_option maxHeartbeats 1000000 in
theorem core (a1 : Int) (v : Value) (a0 : Option Addr) (len cap : Nat) (hv : v = .slice a0 len cap) (zs : List Int) (x : Int) (ok : Bool) (w : World) (hc : Rx.Came w v len zs)
    (hs : ∀ (W : World) (b1 g : Nat), W.ownsRow b1 52 3 (.slice (some ⟨g, 0, none⟩) len len) len (Rx.nums zs) → Calls Try.prog 17 #[.slice (some ⟨g, 0, none⟩) len len, .int .i64 a1] W (Rw.Ret (.tuple #[.int .i64 x, .bool ok]) W))
    (hi : ∀ (W : World) (b1 g : Nat), W.ownsRow b1 52 3 (.slice (some ⟨g, 0, none⟩) len len) len (Rx.nums zs) → Calls Try.prog 18 #[.slice (some ⟨g, 0, none⟩) len len, .int .i64 a1] W (Rw.Ret (.tuple #[.int .i64 x, .bool ok]) W)) :
    Calls Try.prog 4 #[.slice a0 len cap, .int .i64 a1] w fun e w' => e = .returned (.bool true) ∧ Below w.heap.size w w' := by
  have hl := hc.2.1
  have HS := Lib.hid hs
  have HI := Lib.hid hi
  have HC := Lib.hid (hv ▸ hc : Rx.Came w (.slice a0 len cap) len zs)
  have t1 : decide ((1048576 : Int) - (len : Int) < 0) = false := by simp; omega
  have HL := Lib.hid hl
  clear hs hi hc hv hl
  go_enter Try.func4, Try.ntmps4
  go_wp2_with fail
  refine (Rx.sz_yes a0 len cap HL.out _).mono ?_
  rintro e w' ⟨rfl, rfl⟩
  go_wp2_with fail
  refine (Rx.toReaderS_any HC.out).mono ?_
  rintro e w1 ⟨g1, rfl, o1, b1⟩
  have HC1 := Lib.hid (HC.out.on b1)
  go_wp2_with fail
  refine (HS.out _ _ _ o1).mono ?_
  rintro e w2 ⟨rfl, b2⟩
  have B2 := Lib.hid (b1.trans (below_le b2 b1.size))
  have HC2 := Lib.hid (HC1.out.on b2)
  clear b1 b2 o1 HC1
  go_wp2_with fail
  refine (Rx.toReaderS_any HC2.out).mono ?_
  rintro e w3 ⟨g2, rfl, o2, b3⟩
  have HC3 := Lib.hid (HC2.out.on b3)
  have B3 := Lib.hid (B2.out.trans (below_le b3 B2.out.size))
  clear b3 HC2 B2
  go_wp2_with fail
  refine (HI.out _ _ _ o2).mono ?_
  rintro e w4 ⟨rfl, b4⟩
  have HC4 := Lib.hid (HC3.out.on b4)
  have B4 := Lib.hid (B3.out.trans (below_le b4 B3.out.size))
  have o2 := Rx.own_on o2 b4
  clear b4 HC3 B3
  go_wp2_with fail
  refine (Rx.toReaderS_any HC4.out).mono ?_
  rintro e w5 ⟨g3, rfl, o3, b5⟩
  have B5 := Lib.hid (B4.out.trans (below_le b5 B4.out.size))
  have o2 := Rx.own_on o2 b5
  clear b5 HC4 B4
  go_wp2_with fail
  refine (Rx.eqReaderS_own o2 o3 HL.out).mono ?_
  rintro e w6 ⟨rfl, b6⟩
  have B6 := Lib.hid (B5.out.trans (below_le b6 B5.out.size))
  clear b6 o2 o3 B5
  go_wp2
  go_ret
  exact ⟨rfl, B6.out⟩
theorem long (a1 : Int) (a0 : Option Addr) (len cap : Nat) (hl : ¬ len ≤ 1048576) (hm : len ≤ maxLen) (w : World) :
    Calls Try.prog 4 #[.slice a0 len cap, .int .i64 a1] w fun e w' => e = .returned (.bool true) ∧ Below w.heap.size w w' := by
  have HL := Lib.hid hl
  have HM := Lib.hid hm
  clear hl hm
  go_enter Try.func4, Try.ntmps4
  go_wp2_with fail
  refine (Rx.sz_no a0 len cap HL.out HM.out _).mono ?_
  rintro e w' ⟨rfl, rfl⟩
  go_wp2
  go_ret
  exact ⟨rfl, Below.refl _ _⟩

/-! the walk -/
theorem walk (a0 : Option Addr) (len0 cap0 : Nat) (z0 : List Int) (a1 : Int) (w1 : (Lit.int .i64 a1).wf = true) (w : World) (r0 : Rx.Raw w a0 len0 z0) :
    Calls Try.prog 4 #[.slice a0 len0 cap0, .int .i64 a1] w fun e w' => e = .returned (.bool true) ∧ Below w.heap.size w w' := by
  by_cases hl : len0 ≤ 1048576
  · have hc := r0.came (cap := cap0) hl
    by_cases ha : Rx.allOf 2000 z0 len0
    · by_cases h1 : 1 ≤ a1
      · by_cases h2 : a1 ≤ 3000
        · obtain ⟨k, rfl⟩ := Int.eq_ofNat_of_zero_le (show 0 ≤ a1 by omega)
          obtain ⟨j, rfl⟩ : ∃ j, k = j + 1 := ⟨k - 1, by omega⟩
          exact core _ _ a0 len0 cap0 rfl z0 _ _ w hc (fun W b g h => Rx.sTP_yes j (by omega) h ha) (fun W b g h => Rx.iTP_yes j (by omega) h ha)
        · exact core _ _ a0 len0 cap0 rfl z0 _ _ w hc (fun W b g h => Rx.sTP_day a1 (Or.inr h2) h ha) (fun W b g h => Rx.iTP_day a1 (Or.inr h2) h ha)
      · exact core _ _ a0 len0 cap0 rfl z0 _ _ w hc (fun W b g h => Rx.sTP_day a1 (Or.inl h1) h ha) (fun W b g h => Rx.iTP_day a1 (Or.inl h1) h ha)
    · exact core _ _ a0 len0 cap0 rfl z0 _ _ w hc (fun W b g h => Rx.sTP_no a1 h ha) (fun W b g h => Rx.iTP_no a1 h ha)
  · exact long a1 a0 len0 cap0 hl r0.2.1 w

/-! the row's step -/
set_option maxRecDepth 100000 in
theorem lifted (os : Os) (started : os.Started) (H : Type) (enc : TypeId × Value → H) :
    ReturnsInHanded {} Try.checked os 4 .any (Rows.fnExactTogetherPagesSpec.pre6 enc Try.prog Try.f4 Rows.fnExactTogetherPagesRow.domain false) (Rows.fnExactTogetherPagesSpec.post enc Try.prog Try.f4 false true false false) := by
  refine returnsInHanded_of_change (C := Try.checked) own started (by kernel_rfl) Try.func4
    (ChangeSpec.witness6 (enc := enc) (C := Try.checked) false ⟨#[], #[.slice none 0 0, .int .i64 0], []⟩ 8 (by kernel_rfl) (by kernel_rfl) (by kernel_rfl) (by kernel_rfl)) ?_
  intro W base args ds gs before hval0 hW hcnd _
  have hval : ∀ (j : Nat) t v, Try.f4.params[j]? = some t → args[j]? = some v → Value.okWide Try.prog W .any base t v := hval0
  have hW' := hW
  obtain ⟨p, q, hA0, hV, rfl, hfz, hnd⟩ := hW
  have hA : DataW.TrodAll enc Try.prog W 0 (fun _ => true) true Try.f4.params.toList args.toList ds p := hA0
  rw [Try.params4] at hA hval
  obtain ⟨v0, vs0, d0, ds0, p0, q0, hargs, rfl, rfl, h0, r0⟩ := trodAll_cons hA
  obtain ⟨v1, vs1, d1, ds1, p1, q1, rfl, rfl, rfl, h1, r1⟩ := trodAll_cons r0
  obtain ⟨rfl, rfl, rfl⟩ := trodAll_nil r1
  obtain rfl : args = #[v0, v1] := by cases args; simp_all
  obtain ⟨rfl, rfl⟩ := trodVars_none hV
  obtain ⟨a0, len0, cap0, rfl⟩ := okWide_slice Try.underlying22 (hval 0 22 v0 rfl rfl)
  have k0 := h0
  have lt0 : ∀ x ∈ p0, x.block < W.heap.size := by obtain ⟨m, hm⟩ := k0; exact DataW.trod_lt m _ _ _ hm
  obtain ⟨z0, r_0⟩ : ∃ zs, Rx.Raw W a0 len0 zs := by
    obtain ⟨fuel, hf⟩ := h0
    exact Rx.rd_open hf
  obtain ⟨a1, rfl, rfl, rfl, w1⟩ := open_int Try.underlying3 (hval 1 3 v1 rfl rfl) h1
  clear hA0 hval0
  simp only [List.append_nil] at hW'

  refine (walk a0 len0 cap0 z0 a1 w1 W r_0).mono fun e W' ⟨he, hg⟩ => ?_
  subst he
  exact ⟨_, rfl, _, _, _, [], _, [], hW', trodAll_mk1 (shut_bool Try.underlying4 _), (trodAll_cons_mk (Below.trod laidOut (by kernel_rfl) (of_decide_eq_true (by kernel_rfl)) k0 hg lt0) (trodAll_cons_mk (shut_int Try.underlying3 w1) trodAll_mk0)), rfl, hg.frame _, fun h => by cases h⟩

theorem over : Rows.fnExactTogetherPagesRow.holds Try.pinned (OpenSpec.ofChange Rows.fnExactTogetherPagesSpec) :=
  OpenClaim.holds_of_wide 4 Try.f4 rfl rfl rfl rfl rfl rfl rfl ⟨rfl, rfl, rfl, rfl, rfl⟩ rfl rfl rfl rfl rfl (by kernel_rfl) Try.func4 (by kernel_rfl)
    (of_decide_eq_true (by kernel_rfl)) (by unfold Func.isWrapper; first | (rw [if_pos (by decide +kernel)]; kernel_rfl) | (rw [if_neg (by decide +kernel)]; exact ⟨rfl, rfl⟩))
    (fun os started H enc _ => lifted os started H enc)

/-- the statement -/
theorem proved : Rows.FnExactTogetherPagesSaid :=
  over
#print axioms proved
end Go.Proofs.Ytcaklokcajidiab.fnExactTogetherPages
