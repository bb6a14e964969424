/- FnExactWordsOfText is proved: spec.WordsOfText and impl.WordsOfText answer alike for every argument, and the answer is memory of the call's own. No condition: for every input that the parameter types allow. -/
import Derived.Test.YtbebojahjfnkiaaRows
import Derived.WalkKit
import Derived.ProofKit
import Derived.OpenShut
import Derived.Below
import Derived.Lib.SmallJoins
import Derived.Carry
import Derived.ChangeMaps5
import Derived.Test.YtbebojahjfnkiaaTg0
namespace Go.Proofs.Ytbebojahjfnkiaa.fnExactWordsOfText
open Go.ChangeShapes Go.WideShapes Go.ChangeAt Go.RowKit Go.Joins
set_option linter.unusedVariables false
set_option linter.unusedSimpArgs false

theorem own : ownKnob Try.prog.godebug = none := by kernel_rfl
theorem laidOut : laidOutB Try.prog = true := by kernel_rfl
set_option maxRecDepth 100000 in
set_option maxHeartbeats 4000000 in
theorem core (a0 : ByteArray)  (w : World) (ok : Bool) (os : List Int) (ho : os.length ≤ 1048576) (hsz : a0.size ≤ 1048576)
    (hs : ∀ W : World, Calls Try.prog 6 #[.string a0] W (Ln.Gives ok os W))
    (hi : ∀ W : World, Calls Try.prog 7 #[.string a0] W (Ln.Gives ok os W)) :
    Calls Try.prog 3 #[.string a0] w fun e w' => e = .returned (.bool true) ∧ Below w.heap.size w w' := by
  have HS := Lib.hid hs
  have HI := Lib.hid hi
  obtain ⟨n, hn⟩ : ∃ n, a0.size = n := ⟨_, rfl⟩
  rw [hn] at hsz
  have hn2 : (n : Int) ≤ 1048576 := by omega
  have t0 : decide ((1048576 : Int) < (n : Int)) = false := by simp; omega
  clear hs hi
  have HO := Lib.hid ho
  have hm2 : (0 : Int) ≤ (os.length : Int) := by omega
  have hm3 : (os.length : Int) ≤ 1048576 := by omega
  clear ho
  go_enter Try.func3, Try.ntmps3
  go_wp2_with fail
  refine (HS.out _).mono ?_
  rintro e w1 ⟨vs, rfl, ss1, hb⟩
  have HB1 := Lib.hid hb
  have HSV := Lib.hid ss1
  clear hb
  go_wp2_with fail
  refine (HI.out _).mono ?_
  rintro e w2 ⟨vi, rfl, ii2, hb⟩
  have HB2 := Lib.hid (HB1.out.trans (Ln.below_le hb HB1.out.size))
  have HIV := Lib.hid ii2
  have ss2 := Li.own_on ss1 hb
  have HD : Hid (Value.ownBlock vs = none ∨ vs.ownBlock ≠ vi.ownBlock) := Lib.hid (Ln.keep_both HSV.out HIV.out (Nat.le_refl _))
  have HVB : Hid (∀ k, vi.ownBlock = some k → w.heap.size ≤ k) := Lib.hid (fun k hk => Nat.le_trans HB1.out.size (HIV.out.lt k hk).1)
  clear hb ss1
  go_wp2_with fail
  refine (Ln.eqIntS_n ii2 ss2 HO.out).mono ?_
  rintro e w3 ⟨rfl, hb⟩
  have HB3 := Lib.hid (HB2.out.trans (Ln.below_le hb HB2.out.size))
  have ss3 := Li.own_on ss2 hb
  have ii3 := Li.own_on ii2 hb
  clear hb ss2 ii2
  go_wp2_with fail
  refine (Li.markIntS_own ii3 HO.out).mono ?_
  rintro e w4 ⟨rfl, mm4, gw⟩
  have HB4 := Lib.hid (HB3.out.grown gw HB3.out.size (fun k hk => HVB.out k hk))
  have ss4 := ss3.kept gw HD.out
  clear gw ss3 ii3
  go_wp2_with fail
  refine (Li.heldIntS_own mm4 HO.out).mono ?_
  rintro e w' ⟨rfl, rfl⟩
  go_wp2_with fail
  refine (HI.out _).mono ?_
  rintro e w5 ⟨vh, rfl, hh5, hb⟩
  have HB5 := Lib.hid (HB4.out.trans (Ln.below_le hb HB4.out.size))
  have ss5 := Li.own_on ss4 hb
  have mm5 := Li.own_on mm4 hb
  clear hb ss4 mm4
  go_wp2_with fail
  refine (Ln.eqIntS_n hh5 ss5 HO.out).mono ?_
  rintro e w6 ⟨rfl, hb⟩
  have HB6 := Lib.hid (HB5.out.trans (Ln.below_le hb HB5.out.size))
  have mm6 := Li.own_on mm5 hb
  clear hb ss5 mm5 hh5
  go_wp2_with fail
  refine (Li.heldIntS_own mm6 HO.out).mono ?_
  rintro e w' ⟨rfl, rfl⟩
  go_wp2
  go_ret
  exact ⟨rfl, HB6.out⟩
theorem long (a0 : ByteArray)  (hl : ¬ a0.size ≤ 1048576) (hm : a0.size ≤ maxLen) (w : World) :
    Calls Try.prog 3 #[.string a0] w fun e w' => e = .returned (.bool true) ∧ Below w.heap.size w w' := by
  obtain ⟨n, hn⟩ : ∃ n, a0.size = n := ⟨_, rfl⟩
  rw [hn] at hl hm
  have t0 : (n : Int) ≤ 9223372036854775807 := by unfold maxLen at hm; omega
  have t1 : decide ((1048576 : Int) < (n : Int)) = true := by simp; omega
  clear hl hm
  go_enter Try.func3, Try.ntmps3
  go_wp2
  go_ret
  exact ⟨rfl, Below.refl _ _⟩

/-! the walk -/
theorem walk (a0 : ByteArray)  (w : World) (ws0 : a0.size ≤ maxLen) :
    Calls Try.prog 3 #[.string a0] w fun e w' => e = .returned (.bool true) ∧ Below w.heap.size w w' := by
  by_cases h0 : a0.size ≤ 1048576
  · exact core a0  w (Ln.wtB a0.data.toList) (Ln.wtZ a0.data.toList) (Ln.wtZ_len _) h0 (fun W => Ln.sWordsB a0 h0  W) (fun W => Ln.iWordsB a0 h0  W)
  · exact long a0  h0 ws0 w

/-! the row's step -/
set_option maxRecDepth 100000 in
theorem lifted (os : Os) (started : os.Started) (H : Type) (enc : TypeId × Value → H) :
    ReturnsInHanded {} Try.checked os 3 .any (Rows.fnExactWordsOfTextSpec.pre6 enc Try.prog Try.f3 Rows.fnExactWordsOfTextRow.domain false) (Rows.fnExactWordsOfTextSpec.post enc Try.prog Try.f3 false true false false) := by
  refine returnsInHanded_of_change (C := Try.checked) own started (by kernel_rfl) Try.func3
    (ChangeSpec.witness6 (enc := enc) (C := Try.checked) false ⟨#[], #[.string ⟨#[]⟩], []⟩ 8 (by kernel_rfl) (by kernel_rfl) (by kernel_rfl) (by kernel_rfl)) ?_
  intro W base args ds gs before hval0 hW hcnd _
  have hval : ∀ (j : Nat) t v, Try.f3.params[j]? = some t → args[j]? = some v → Value.okWide Try.prog W .any base t v := hval0
  have hW' := hW
  obtain ⟨p, q, hA0, hV, rfl, hfz, hnd⟩ := hW
  have hA : DataW.TrodAll enc Try.prog W 0 (fun _ => true) true Try.f3.params.toList args.toList ds p := hA0
  rw [Try.params3] at hA hval
  obtain ⟨v0, vs0, d0, ds0, p0, q0, hargs, rfl, rfl, h0, r0⟩ := trodAll_cons hA
  obtain ⟨rfl, rfl, rfl⟩ := trodAll_nil r0
  obtain rfl : args = #[v0] := by cases args; simp_all
  obtain ⟨rfl, rfl⟩ := trodVars_none hV
  obtain ⟨a0, rfl, rfl, rfl, ws0⟩ := Go.ChangeMaps.open_string Try.underlying9 (hval 0 9 v0 rfl rfl) h0
  clear hA0 hval0
  simp only [List.append_nil] at hW'
  refine (walk a0  W ws0).mono fun e W' ⟨he, hg⟩ => ?_
  subst he
  exact ⟨_, rfl, _, _, _, [], _, [], hW', trodAll_mk1 (shut_bool Try.underlying4 _), (trodAll_cons_mk (Go.ChangeMaps.shut_string Try.underlying9 ws0) trodAll_mk0), rfl, hg.frame _, fun h => by cases h⟩

theorem over : Rows.fnExactWordsOfTextRow.holds Try.pinned (OpenSpec.ofChange Rows.fnExactWordsOfTextSpec) :=
  OpenClaim.holds_of_wide 3 Try.f3 rfl rfl rfl rfl rfl rfl rfl ⟨rfl, rfl, rfl, rfl, rfl⟩ rfl rfl rfl rfl rfl (by kernel_rfl) Try.func3 (by kernel_rfl)
    (of_decide_eq_true (by kernel_rfl)) (by unfold Func.isWrapper; first | (rw [if_pos (by decide +kernel)]; kernel_rfl) | (rw [if_neg (by decide +kernel)]; exact ⟨rfl, rfl⟩))
    (fun os started H enc _ => lifted os started H enc)

/-- the statement -/
theorem proved : Rows.FnExactWordsOfTextSaid :=
  over
#print axioms proved
end Go.Proofs.Ytbebojahjfnkiaa.fnExactWordsOfText
