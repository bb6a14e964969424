/- FnExactReaderText's walk: both texts are one. -/
import Derived.Test.YtcaklokcajidiabDoorRt
namespace Go.Proofs.YtcaklokcajidiabDoor
open Go.RowKit Go.Joins
set_option linter.unusedSimpArgs false
set_option linter.unusedVariables false
namespace Rw
set_option maxRecDepth 100000 in
set_option maxHeartbeats 1000000 in
theorem core_rt (x0a x0b x0c : Int) (s : ByteArray) (ok : Bool) (hs : ∀ W : World, Calls Tryd.prog 5 #[.agg #[.int .i64 x0a, .int .i64 x0b, .int .i64 x0c]] W (Ret (.tuple #[.string s, .bool ok]) W))
    (hi : ∀ W : World, TabOn W → Calls Tryd.prog 7 #[.agg #[.int .i64 x0a, .int .i64 x0b, .int .i64 x0c]] W (Ret (.tuple #[.string s, .bool ok]) W)) (w : World) (hT : TabOn w) :
    Calls Tryd.prog 3 #[.agg #[.int .i64 x0a, .int .i64 x0b, .int .i64 x0c]] w fun e w' => e = .returned (.bool true) ∧ Below w.heap.size w w' := by
  have HS := Lib.hid hs
  have HI := Lib.hid hi
  have HT := Lib.hid hT
  have HB : Below w.heap.size w (w.alloc (.cells #[.int .i64 x0a, .int .i64 x0b, .int .i64 x0c] 23)) := below_alloc1 _ _
  have B := Bx.new w x0a x0b x0c 23
  clear hs hi hT
  go_enter Tryd.func3, Tryd.ntmps3
  go_wp2_with fail
  refine (toReader_any _ _ _ _).mono ?_
  rintro e w1 ⟨rfl, hb⟩
  replace HB := HB.trans (below_le hb HB.size)
  replace B := B.on hb
  clear hb
  (try clear q0 q1 q2)
  obtain ⟨_, q0, q1, q2⟩ := id B
  go_wp2_with fail
  refine (HS.out _).mono ?_
  rintro e w2 ⟨rfl, hb⟩
  replace HB := HB.trans (below_le hb HB.size)
  replace B := B.on hb
  clear hb
  (try clear q0 q1 q2)
  obtain ⟨_, q0, q1, q2⟩ := id B
  go_wp2_with fail
  refine (toReader_any _ _ _ _).mono ?_
  rintro e w3 ⟨rfl, hb⟩
  replace HB := HB.trans (below_le hb HB.size)
  replace B := B.on hb
  clear hb
  (try clear q0 q1 q2)
  obtain ⟨_, q0, q1, q2⟩ := id B
  go_wp2_with fail
  refine (HI.out _ (fun W' h => HT.out W' (HB.trans (below_le h HB.size)))).mono ?_
  rintro e w4 ⟨rfl, hb⟩
  replace HB := HB.trans (below_le hb HB.size)
  replace B := B.on hb
  clear hb
  (try clear q0 q1 q2)
  obtain ⟨_, q0, q1, q2⟩ := id B
  go_wp2
  go_ret
  exact ⟨by simp, HB⟩
theorem law_rt (x0a x0b x0c : Int) (w : World) (hT : TabOn w) :
    Calls Tryd.prog 3 #[.agg #[.int .i64 x0a, .int .i64 x0b, .int .i64 x0c]] w fun e w' => e = .returned (.bool true) ∧ Below w.heap.size w w' := by
  cases hv : Rd.good x0a x0b x0c with
  | false => exact core_rt _ _ _ _ _ (fun W => sRT_no _ _ _ hv W) (fun W _ => iRT_no _ _ _ hv W) w hT
  | true =>
    have h := gfacts hv
    obtain ⟨m, rfl⟩ := Int.eq_ofNat_of_zero_le h.1
    obtain ⟨d, rfl⟩ := Int.eq_ofNat_of_zero_le (show 0 ≤ x0b by omega)
    obtain ⟨r, rfl⟩ := Int.eq_ofNat_of_zero_le (show 0 ≤ x0c by omega)
    exact core_rt _ _ _ _ _ (fun W => sRT_yes m d r hv W) (fun W h => iRT_yes m d r hv W h) w hT
end Rw
end Go.Proofs.YtcaklokcajidiabDoor
