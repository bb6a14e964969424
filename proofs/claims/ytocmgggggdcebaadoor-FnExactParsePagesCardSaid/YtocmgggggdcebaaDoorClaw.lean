/- The law of ParsePages returns true for every string. The library's listed tables and errors are taken to read as its own text lays them, its variable MaxLen as any integer. -/
import Derived.Test.YtocmgggggdcebaaDoorCimpl
import Derived.Test.YtocmgggggdcebaaDoorMarks
namespace Go.Proofs.YtocmgggggdcebaaDoor
open Go.RowKit
set_option linter.unusedVariables false
namespace P
set_option maxRecDepth 100000 in
theorem law_long (s : ByteArray) (hs : (1048576 : Int) < (s.size : Int)) (w : World) :
    Calls Tryd.prog 4 #[.string s] w fun e w' => e = .returned (.bool true) ∧ Below w.heap.size w w' := by
  go_enter Tryd.func4, Tryd.ntmps4
  go_wp2_with fail
  go_ret
  exact ⟨rfl, Below.refl _ _⟩
set_option maxRecDepth 100000 in
theorem s_long (l : List UInt8) (hs : (100 : Int) < (l.length : Int)) (w : World) : Calls Tryd.prog 9 #[.string ⟨l.toArray⟩] w (Li.Gives false [] w) := by
  go_enter Tryd.func9, Tryd.ntmps9
  go_wp2_with fail
  go_ret2
  exact Li.Gives.none (Below.refl _ _)
set_option maxRecDepth 100000 in
theorem i_long (l : List UInt8) (hs : (100 : Int) < (l.length : Int)) (w : World) : Calls Tryd.prog 10 #[.string ⟨l.toArray⟩] w (Li.Gives false [] w) := by
  go_enter Tryd.func10, Tryd.ntmps10
  go_wp2_with fail
  go_ret2
  exact Li.Gives.none (Below.refl _ _)
set_option maxRecDepth 100000 in
set_option maxHeartbeats 1000000 in
theorem law_core (l : List UInt8) (hs : l.length ≤ 1048576) (ok : Bool) (zs : List Int) (hl : zs.length ≤ 1048576) (w : World) (S : ∀ W : World, Calls Tryd.prog 9 #[.string ⟨l.toArray⟩] W (Li.Gives ok zs W))
    (I : ∀ W : World, Below w.heap.size w W → Calls Tryd.prog 10 #[.string ⟨l.toArray⟩] W (Li.Gives ok zs W)) :
    Calls Tryd.prog 4 #[.string ⟨l.toArray⟩] w fun e w' => e = .returned (.bool true) ∧ Below w.heap.size w w' := by
  have HS := Lib.hid S
  have HI := Lib.hid I
  have hl2 : (0 : Int) ≤ zs.length := by omega
  have hl3 : (zs.length : Int) ≤ 1048576 := by omega
  have hdec : decide ((1048576 : Int) < (l.length : Int)) = false := by simp; omega
  clear S I
  go_enter Tryd.func4, Tryd.ntmps4
  go_wp2_with fail
  refine (HS.out _).mono ?_
  rintro e w1 ⟨v, rfl, o1, b1⟩
  have c1 := Lib.hid b1
  go_wp2_with fail
  refine (HI.out _ c1.out).mono ?_
  rintro e w2 ⟨g, rfl, o2, b2⟩
  have b12 := Lib.hid (Li.below_next b1 b2)
  have A := Lib.hid (Li.apart o1 o2)
  have L := Lib.hid (show ∀ k, g.ownBlock = some k → w.heap.size ≤ k from fun k hk => Nat.le_trans b1.size (o2.lt k hk).1)
  have o1 := Li.own_on o1 b2
  clear b1 b2
  go_wp2_with fail
  refine (Li.eqIntS_own o2 o1 hl).mono ?_
  rintro e w3 ⟨rfl, b3⟩
  have o1 := Li.own_on o1 b3
  have o2 := Li.own_on o2 b3
  have b13 := Lib.hid (b12.out.trans (b3.mono b12.out.size))
  clear b3 b12
  go_wp2_with fail
  refine (Li.markIntS_own o2 hl).mono ?_
  rintro e w4 ⟨rfl, o2, g4⟩
  have o1 := o1.kept g4 A.out
  have b14 := Lib.hid (b13.out.grown g4 b13.out.size L.out)
  clear g4 b13
  go_wp2_with fail
  refine (Li.heldIntS_own o2 hl).mono ?_
  rintro e w5 ⟨rfl, rfl⟩
  go_wp2_with fail
  refine (HI.out _ b14.out).mono ?_
  rintro e w6 ⟨h, rfl, o3, b6⟩
  have o1 := Li.own_on o1 b6
  have o2 := Li.own_on o2 b6
  have b16 := Lib.hid (b14.out.trans (b6.mono b14.out.size))
  clear b6 b14
  go_wp2_with fail
  refine (Li.eqIntS_own o3 o1 hl).mono ?_
  rintro e w7 ⟨rfl, b7⟩
  have o2 := Li.own_on o2 b7
  have b17 := Lib.hid (b16.out.trans (b7.mono b16.out.size))
  clear b7 b16 o1 o3
  go_wp2_with fail
  refine (Li.heldIntS_own o2 hl).mono ?_
  rintro e w8 ⟨rfl, rfl⟩
  go_wp2
  go_ret
  exact ⟨rfl, b17.out⟩
theorem pages_good {zs : List Int} (h : Pages zs) : ∀ i, i < zs.length → 1 ≤ T.at_ zs i ∧ T.at_ zs i ≤ 2000 := fun i hi => ⟨(h.2.2 i hi).1, (h.2.2 i hi).2.1⟩
theorem ans_of (ru : List UInt8 → Int × Int) (hr : Reads ru) (l : List UInt8) (zs : List Int) (h : Pages zs) (ht : T.text zs = l) : ans l (fo ru (sp 44 l) []) = (true, zs) := by
  subst ht
  rw [read_back ru hr zs (by have := h.1; omega) h.2.1 (pages_good h)]
  exact ans_yes h rfl
theorem ans_not (l : List UInt8) (h : ¬ ∃ zs, Pages zs ∧ T.text zs = l) (o : Option (List Int)) : ans l o = (false, []) := by
  cases o with
  | none => rfl
  | some ys =>
    by_cases hp : Pages ys
    · exact ans_other (fun e => h ⟨ys, hp, e⟩)
    · exact ans_bad hp
theorem law_string (s : ByteArray) (w : World) (hE : Env w) (hT : TabOn w) :
    Calls Tryd.prog 4 #[.string s] w fun e w' => e = .returned (.bool true) ∧ Below w.heap.size w w' := by
  obtain ⟨l, hl⟩ : ∃ l : List UInt8, s = ⟨l.toArray⟩ := ⟨s.data.toList, by simp⟩
  have hs : s.size = l.length := by rw [hl]; show l.toArray.size = _; simp
  by_cases c1 : 1048576 < s.size
  · exact law_long s (by omega) w
  · subst hl
    by_cases c2 : 100 < l.length
    · exact law_core l (by omega) false [] (by decide) w (fun W => s_long l (by omega) W) (fun W _ => i_long l (by omega) W)
    · have EnvOn : ∀ W, Below w.heap.size w W → Env W ∧ TabOn W := fun W hb => ⟨hE.on hb, fun W' hb' => hT W' (hb.trans (hb'.mono hb.size))⟩
      by_cases hx : ∃ zs, Pages zs ∧ T.text zs = l
      · obtain ⟨zs, hp, ht⟩ := hx
        have e1 := ans_of ruS reads_S l zs hp ht
        have e2 := ans_of ruI reads_I l zs hp ht
        refine law_core l (by omega) true zs (by have := hp.2.1; omega) w (fun W => ?_) (fun W hb => ?_)
        · have := specParse l (by omega) W
          rw [e1] at this
          exact this
        · have := implParse l (by omega) W (EnvOn W hb).1 (EnvOn W hb).2
          rw [e2] at this
          exact this
      · have e1 := ans_not l hx (fo ruS (sp 44 l) [])
        have e2 := ans_not l hx (fo ruI (sp 44 l) [])
        refine law_core l (by omega) false [] (by decide) w (fun W => ?_) (fun W hb => ?_)
        · have := specParse l (by omega) W
          rw [e1] at this
          exact this
        · have := implParse l (by omega) W (EnvOn W hb).1 (EnvOn W hb).2
          rw [e2] at this
          exact this
end P
end Go.Proofs.YtocmgggggdcebaaDoor
