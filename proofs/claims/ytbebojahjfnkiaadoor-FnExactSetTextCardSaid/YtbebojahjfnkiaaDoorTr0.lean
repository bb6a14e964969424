/- The law of SetText. -/
import Derived.Test.YtbebojahjfnkiaaDoorTq0
namespace Go.Proofs.YtbebojahjfnkiaaDoor
open Go.RowKit Go.Joins Go.Deep Go.ChangeShapes Go.WideShapes Go.Lib
set_option linter.unusedVariables false
set_option linter.unusedSimpArgs false
namespace Ln
theorem skeep_both {w1 w2 : World} {v v' : Value} {n n' base base' size size' : Nat} {e e' : TypeId} {xs xs' : List Value} (h : w1.ownsRow base e size v n xs) (h' : w2.ownsRow base' e' size' v' n' xs') (hg : w1.heap.size ≤ base') : v.ownBlock = none ∨ v.ownBlock ≠ v'.ownBlock := keep_both h h' hg
set_option maxRecDepth 100000 in
set_option maxHeartbeats 4000000 in
theorem law_core (a0 : ByteArray) (a1 : Int) (w : World) (ok : Bool) (os : List (List UInt8)) (ho : os.length ≤ 90) (hsz : a0.size ≤ 1048576) (hE : Env w)
    (hs : ∀ W : World, Calls Tryd.prog 4 #[.string a0, .int .i64 a1] W (GivesS ok os W))
    (hi : ∀ W : World, Env W → Calls Tryd.prog 5 #[.string a0, .int .i64 a1] W (GivesS ok os W)) :
    Calls Tryd.prog 3 #[.string a0, .int .i64 a1] w fun e w' => e = .returned (.bool true) ∧ Below w.heap.size w w' := by
  have HS := Lib.hid hs
  have HI := Lib.hid hi
  have HE := Lib.hid hE
  have HO := Lib.hid ho
  have hm2 : (0 : Int) ≤ (os.length : Int) := by omega
  have hm3 : (os.length : Int) ≤ 90 := by omega
  obtain ⟨n, hn⟩ : ∃ n, a0.size = n := ⟨_, rfl⟩
  rw [hn] at hsz
  have hn2 : (n : Int) ≤ 1048576 := by omega
  have t0 : decide ((1048576 : Int) < (n : Int)) = false := by simp; omega
  clear hs hi hE ho
  go_enter Tryd.func3, Tryd.ntmps3
  go_wp2_with fail
  refine (HS.out _).mono ?_
  rintro e w1 ⟨vs, rfl, ss1, hb⟩
  have HB1 := Lib.hid hb
  have HSV := Lib.hid ss1
  have CI := Lib.hid (HI.out w1 (HE.out.below hb))
  clear hb
  go_wp2_with fail
  refine CI.out.mono ?_
  rintro e w2 ⟨vi, rfl, ii2, hb⟩
  have HB2 := Lib.hid (HB1.out.trans (below_le hb HB1.out.size))
  have HIV := Lib.hid ii2
  have ss2 := Li.own_on ss1 hb
  have HD : Hid (Value.ownBlock vs = none ∨ vs.ownBlock ≠ vi.ownBlock) := Lib.hid (keep_both HSV.out HIV.out (Nat.le_refl _))
  have HVB : Hid (∀ k, vi.ownBlock = some k → w.heap.size ≤ k) := Lib.hid (fun k hk => Nat.le_trans HB1.out.size (HIV.out.lt k hk).1)
  clear hb ss1
  go_wp2_with fail
  refine (eqStringS_any ii2 ss2 (by have := HO.out; omega)).mono ?_
  rintro e w3 ⟨rfl, hb⟩
  have HB3 := Lib.hid (HB2.out.trans (below_le hb HB2.out.size))
  have ss3 := Li.own_on ss2 hb
  have ii3 := Li.own_on ii2 hb
  clear hb ss2 ii2
  go_wp2_with fail
  refine (markStringS_any ii3 HO.out).mono ?_
  rintro e w4 ⟨rfl, mm4, gw⟩
  have HB4 := Lib.hid (HB3.out.grown gw HB3.out.size (fun k hk => HVB.out k hk))
  have ss4 := ss3.kept gw HD.out
  clear gw ss3 ii3
  go_wp2_with fail
  refine (heldStringS_any mm4 HO.out).mono ?_
  rintro e w5 ⟨rfl, hb⟩
  have HB5 := Lib.hid (HB4.out.trans (below_le hb HB4.out.size))
  have ss5 := Li.own_on ss4 hb
  have mm5 := Li.own_on mm4 hb
  have CI2 := Lib.hid (HI.out w5 (HE.out.below HB5.out))
  clear hb ss4 mm4
  go_wp2_with fail
  refine CI2.out.mono ?_
  rintro e w6 ⟨vh, rfl, hh6, hb⟩
  have HB6 := Lib.hid (HB5.out.trans (below_le hb HB5.out.size))
  have ss6 := Li.own_on ss5 hb
  have mm6 := Li.own_on mm5 hb
  clear hb ss5 mm5
  go_wp2_with fail
  refine (eqStringS_any hh6 ss6 (by have := HO.out; omega)).mono ?_
  rintro e w7 ⟨rfl, hb⟩
  have HB7 := Lib.hid (HB6.out.trans (below_le hb HB6.out.size))
  have mm7 := Li.own_on mm6 hb
  clear hb ss6 mm6 hh6
  go_wp2_with fail
  refine (heldStringS_any mm7 HO.out).mono ?_
  rintro e w8 ⟨rfl, hb⟩
  have HB8 := Lib.hid (HB7.out.trans (below_le hb HB7.out.size))
  clear hb mm7
  go_wp2
  go_ret
  exact ⟨rfl, HB8.out⟩
theorem law_long (a0 : ByteArray) (a1 : Int) (hl : ¬ a0.size ≤ 1048576) (hm : a0.size ≤ maxLen) (w : World) :
    Calls Tryd.prog 3 #[.string a0, .int .i64 a1] w fun e w' => e = .returned (.bool true) ∧ Below w.heap.size w w' := by
  obtain ⟨n, hn⟩ : ∃ n, a0.size = n := ⟨_, rfl⟩
  rw [hn] at hl hm
  have t0 : (n : Int) ≤ 9223372036854775807 := by unfold maxLen at hm; omega
  have t1 : decide ((1048576 : Int) < (n : Int)) = true := by simp; omega
  clear hl hm
  go_enter Tryd.func3, Tryd.ntmps3
  go_wp2
  go_ret
  exact ⟨rfl, Below.refl _ _⟩
theorem law_set (a0 : ByteArray) (a1 : Int) (w : World) (hE : Env w) (hm : a0.size ≤ maxLen) :
    Calls Tryd.prog 3 #[.string a0, .int .i64 a1] w fun e w' => e = .returned (.bool true) ∧ Below w.heap.size w w' := by
  by_cases h0 : a0.size ≤ 1048576
  · have hl : a0.data.toList.length ≤ 1048576 := by rw [mk_len]; exact h0
    refine law_core a0 a1 w (seB a0.data.toList a1) (seZ a0.data.toList a1) (seZ_len _ _) h0 hE (fun W => ?_) (fun W hW => ?_)
    · have := sSetText a0.data.toList a1 hl W
      rwa [mk_self] at this
    · have := iSetText a0.data.toList a1 hl W hW
      rwa [mk_self] at this
  · exact law_long a0 a1 h0 hm w
end Ln
end Go.Proofs.YtbebojahjfnkiaaDoor
