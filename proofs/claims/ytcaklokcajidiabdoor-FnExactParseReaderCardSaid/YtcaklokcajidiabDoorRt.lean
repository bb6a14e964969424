/- The text of a reader, from both sides. -/
import Derived.Test.YtcaklokcajidiabDoorIt
import Derived.Test.YtcaklokcajidiabDoorRw
import Derived.Deep.RegionWith
import Derived.Deep.RegionHeld3
import Derived.Lib.SmallJoins
import Derived.Laws.IdiomStrings
namespace Go.Proofs.YtcaklokcajidiabDoor
open Go.RowKit Go.Joins
set_option linter.unusedSimpArgs false
set_option linter.unusedVariables false
namespace Rw
theorem bx_cells {w w' : World} {m d r : Int} {t : TypeId} (hb : Below (w.alloc (.cells #[.int .i64 m, .int .i64 d, .int .i64 r] t)).heap.size (w.alloc (.cells #[.int .i64 m, .int .i64 d, .int .i64 r] t)) w') :
    w'.cell? ⟨w.heap.size, 0, none⟩ = some (.int .i64 m) ∧ w'.cell? ⟨w.heap.size, 1, none⟩ = some (.int .i64 d) ∧ w'.cell? ⟨w.heap.size, 2, none⟩ = some (.int .i64 r) := by
  have h : w.heap.size < (w.alloc (.cells #[.int .i64 m, .int .i64 d, .int .i64 r] t)).heap.size := by simp
  refine ⟨(hb.cell (p := ⟨w.heap.size, 0, none⟩) h).trans ?_, (hb.cell (p := ⟨w.heap.size, 1, none⟩) h).trans ?_, (hb.cell (p := ⟨w.heap.size, 2, none⟩) h).trans ?_⟩
  all_goals simp [go_sem]
theorem bx_below {w w' : World} {o : Obj} (hb : Below (w.alloc o).heap.size (w.alloc o) w') : Below w.heap.size w w' :=
  (below_alloc1 w o).trans (below_le hb (by simp))
def Bx (W : World) (n : Nat) (m d r : Int) : Prop := n < W.heap.size ∧ W.cell? ⟨n, 0, none⟩ = some (.int .i64 m) ∧ W.cell? ⟨n, 1, none⟩ = some (.int .i64 d) ∧ W.cell? ⟨n, 2, none⟩ = some (.int .i64 r)
theorem Bx.on {W w' : World} {n : Nat} {m d r : Int} (h : Bx W n m d r) (hb : Below W.heap.size W w') : Bx w' n m d r :=
  ⟨Nat.lt_of_lt_of_le h.1 hb.size, (hb.cell (p := ⟨n, 0, none⟩) h.1).trans h.2.1, (hb.cell (p := ⟨n, 1, none⟩) h.1).trans h.2.2.1, (hb.cell (p := ⟨n, 2, none⟩) h.1).trans h.2.2.2⟩
theorem Bx.new (w : World) (m d r : Int) (t : TypeId) : Bx (w.alloc (.cells #[.int .i64 m, .int .i64 d, .int .i64 r] t)) w.heap.size m d r :=
  ⟨by simp, bx_cells (Below.refl _ _)⟩
theorem Bx.drew {W : World} {n : Nat} {m d r : Int} (h : Bx W n m d r) : Bx W.drew n m d r := h
theorem below_end {w W w1 w2 : World} (h : Below w.heap.size w W) (h1 : Below W.drew.heap.size W.drew w1) (h2 : Below w1.heap.size w1 w2) : Below w.heap.size w w2 :=
  (h.drew.trans (below_le h1 h.size)).trans (below_le h2 (Nat.le_trans h.size h1.size))
theorem gfacts {m d r : Int} (h : Rd.good m d r = true) : 0 ≤ m ∧ m ≤ 2000 ∧ 1 ≤ d ∧ d ≤ 200 ∧ (r = 0 ∨ (2 ≤ r ∧ r ≤ 60)) := by
  simp [Rd.good] at h; omega
/-- Mark, + and Daily -/
def tx (m d : Nat) : ByteArray := (numS m ++ ⟨#[43]⟩) ++ numS d
/-- .. and / and Rest -/
def rdS (m d r : Nat) : ByteArray := if 0 < r then tx m d ++ ((⟨#[47]⟩ : ByteArray) ++ numS r) else tx m d
theorem ret_str2 {a b : ByteArray} (h : a = b) : Ending.returned (.tuple #[.string a, .bool true]) = .returned (.tuple #[.string b, .bool true]) := by rw [h]
set_option maxRecDepth 100000 in
set_option maxHeartbeats 1000000 in
theorem rdText_any (m d r : Nat) (hm : m ≤ 2000) (hd : d ≤ 200) (hr : r ≤ 60) (w : World) : Calls Tryd.prog 12 #[.agg #[.int .i64 (m : Int), .int .i64 (d : Int), .int .i64 (r : Int)]] w (Ret (.string (rdS m d r)) w) := by
  have e43 : (⟨#[43]⟩ : ByteArray).size = 1 := rfl
  have e47 : (⟨#[47]⟩ : ByteArray).size = 1 := rfl
  have z1 := size_bd m
  have z2 := size_bd d
  have z3 := size_bd r
  have hs1 : (numS m).size + (⟨#[43]⟩ : ByteArray).size ≤ 9223372036854775807 := by omega
  have hs2 : (numS m ++ ⟨#[43]⟩ : ByteArray).size + (numS d).size ≤ 9223372036854775807 := by rw [ByteArray.size_append]; omega
  have hs3 : (⟨#[47]⟩ : ByteArray).size + (numS r).size ≤ 9223372036854775807 := by omega
  have hs4 : (tx m d).size + ((⟨#[47]⟩ : ByteArray) ++ numS r).size ≤ 9223372036854775807 := by unfold tx; simp only [ByteArray.size_append]; omega
  have r1 : ∀ W : World, (Op.stringOp .add (numS m) ⟨#[43]⟩).run Tryd.prog W = .ok (.string (numS m ++ ⟨#[43]⟩)) W := fun W => run_string_add_sum W _ _ hs1
  have r2 : ∀ W : World, (Op.stringOp .add (numS m ++ ⟨#[43]⟩) (numS d)).run Tryd.prog W = .ok (.string (tx m d)) W := fun W => run_string_add_sum W _ _ hs2
  have r3 : ∀ W : World, (Op.stringOp .add ⟨#[47]⟩ (numS r)).run Tryd.prog W = .ok (.string ((⟨#[47]⟩ : ByteArray) ++ numS r)) W := fun W => run_string_add_sum W _ _ hs3
  have r4 : ∀ W : World, (Op.stringOp .add (tx m d) ((⟨#[47]⟩ : ByteArray) ++ numS r)).run Tryd.prog W = .ok (.string (tx m d ++ ((⟨#[47]⟩ : ByteArray) ++ numS r))) W := fun W => run_string_add_sum W _ _ hs4
  clear hs1 hs2 hs3 hs4 z1 z2 z3 e43 e47
  have HB : Below w.heap.size w (w.alloc (.cells #[.int .i64 (m : Int), .int .i64 (d : Int), .int .i64 (r : Int)] 26)) := below_alloc1 _ _
  have B := Bx.new w m d r 26
  have C1 := Lib.hid (fun W => l1Num_any m (by omega) W)
  have C2 := Lib.hid (fun W => l1Num_any d (by omega) W)
  have C3 := Lib.hid (fun W => l1Num_any r (by omega) W)
  obtain ⟨_, q0, q1, q2⟩ := id B
  clear hm hd hr
  by_cases c : 0 < r
  · have E := Lib.hid (show rdS m d r = tx m d ++ ((⟨#[47]⟩ : ByteArray) ++ numS r) from if_pos c)
    have t1 : decide ((0 : Int) < (r : Int)) = true := by simp; omega
    have t2 : (0 < r) = True := eq_true c
    clear c
    go_enter Tryd.func12, Tryd.ntmps12
    go_wp2
    go_region_held3 (fun w' => w'.cell? ⟨w.heap.size, 0, none⟩ = some (.int .i64 (m : Int)) ∧ w'.cell? ⟨w.heap.size, 1, none⟩ = some (.int .i64 (d : Int)) ∧ w'.cell? ⟨w.heap.size, 2, none⟩ = some (.int .i64 (r : Int)))
      (first | exact ⟨q0, q1, q2⟩ | exact ⟨p0, p1, p2⟩ | exact ⟨s0, s1, s2⟩ | go_keep)
      (first
        | (go_at_call_of 19 (m : Int); refine (C1.out _).mono ?_; rintro e w4 ⟨rfl, hb4⟩; have B4 := (Bx.drew B).on hb4; obtain ⟨-, p0, p1, p2⟩ := id B4)
        | (go_at_call_of 19 (d : Int); refine (C2.out _).mono ?_; rintro e w5 ⟨rfl, hb5⟩; have B5 := B4.on hb5; obtain ⟨-, s0, s1, s2⟩ := id B5))
    have HE := Lib.hid (below_end HB hb4 hb5)
    clear q0 q1 q2 p0 p1 p2 HB hb4 hb5 B B4
    go_wp2_with fail
    refine (C3.out _).mono ?_
    rintro e w6 ⟨rfl, hb6⟩
    have HF := Lib.hid (HE.out.trans (below_le hb6 HE.out.size))
    clear hb6
    go_wp2
    go_ret
    exact ⟨ret_str E.out.symm, HF.out⟩
  · have E := Lib.hid (show rdS m d r = tx m d from if_neg c)
    have t1 : decide ((0 : Int) < (r : Int)) = false := by simp; omega
    have t2 : (0 < r) = False := eq_false c
    clear c
    go_enter Tryd.func12, Tryd.ntmps12
    go_wp2
    go_region_held3 (fun w' => w'.cell? ⟨w.heap.size, 0, none⟩ = some (.int .i64 (m : Int)) ∧ w'.cell? ⟨w.heap.size, 1, none⟩ = some (.int .i64 (d : Int)) ∧ w'.cell? ⟨w.heap.size, 2, none⟩ = some (.int .i64 (r : Int)))
      (first | exact ⟨q0, q1, q2⟩ | exact ⟨p0, p1, p2⟩ | exact ⟨s0, s1, s2⟩ | go_keep)
      (first
        | (go_at_call_of 19 (m : Int); refine (C1.out _).mono ?_; rintro e w4 ⟨rfl, hb4⟩; have B4 := (Bx.drew B).on hb4; obtain ⟨-, p0, p1, p2⟩ := id B4)
        | (go_at_call_of 19 (d : Int); refine (C2.out _).mono ?_; rintro e w5 ⟨rfl, hb5⟩; have B5 := B4.on hb5; obtain ⟨-, s0, s1, s2⟩ := id B5))
    have HE := Lib.hid (below_end HB hb4 hb5)
    clear q0 q1 q2 p0 p1 p2 HB hb4 hb5 B B4
    go_wp2
    go_ret
    exact ⟨ret_str E.out.symm, HE.out⟩
set_option maxRecDepth 100000 in
theorem sRT_yes (m d r : Nat) (hv : Rd.good m d r = true) (w : World) : Calls Tryd.prog 5 #[.agg #[.int .i64 (m : Int), .int .i64 (d : Int), .int .i64 (r : Int)]] w (Ret (.tuple #[.string (rdS m d r), .bool true]) w) := by
  have h := gfacts hv
  have C := Lib.hid (fun W => rdText_any m d r (by omega) (by omega) (by omega) W)
  have HV := Lib.hid hv
  have HB : Below w.heap.size w (w.alloc (.cells #[.int .i64 (m : Int), .int .i64 (d : Int), .int .i64 (r : Int)] 26)) := below_alloc1 _ _
  have B := Bx.new w m d r 26
  clear hv h
  go_enter Tryd.func5, Tryd.ntmps5
  go_wp2_with fail
  refine (rdGood_any _ _ _ _ HV.out _).mono ?_
  rintro e w1 ⟨rfl, hb⟩
  replace HB := HB.trans (below_le hb HB.size)
  replace B := B.on hb
  clear hb
  obtain ⟨_, q0, q1, q2⟩ := id B
  go_wp2_with fail
  refine (C.out _).mono ?_
  rintro e w2 ⟨rfl, hb⟩
  replace HB := HB.trans (below_le hb HB.size)
  clear hb q0 q1 q2
  go_wp2
  go_ret2
  exact ⟨rfl, HB⟩
set_option maxRecDepth 100000 in
set_option maxHeartbeats 1000000 in
theorem iRT_yes (m d r : Nat) (hv : Rd.good m d r = true) (w : World) (hT : TabOn w) : Calls Tryd.prog 7 #[.agg #[.int .i64 (m : Int), .int .i64 (d : Int), .int .i64 (r : Int)]] w (Ret (.tuple #[.string (rdS m d r), .bool true]) w) := by
  have h := gfacts hv
  have hm : m ≤ 2000 := by omega
  have hd : d ≤ 200 := by omega
  have hr : r ≤ 60 := by omega
  have e43 : (⟨#[43]⟩ : ByteArray).size = 1 := rfl
  have e47 : (⟨#[47]⟩ : ByteArray).size = 1 := rfl
  have z1 := size_bd m
  have z2 := size_bd d
  have z3 := size_bd r
  have hs1 : (numS m).size + (⟨#[43]⟩ : ByteArray).size ≤ 9223372036854775807 := by omega
  have hs2 : (numS m ++ ⟨#[43]⟩ : ByteArray).size + (numS d).size ≤ 9223372036854775807 := by rw [ByteArray.size_append]; omega
  have hs3 : (⟨#[47]⟩ : ByteArray).size + (numS r).size ≤ 9223372036854775807 := by omega
  have hs4 : (tx m d).size + ((⟨#[47]⟩ : ByteArray) ++ numS r).size ≤ 9223372036854775807 := by unfold tx; simp only [ByteArray.size_append]; omega
  have r1 : ∀ W : World, (Op.stringOp .add (numS m) ⟨#[43]⟩).run Tryd.prog W = .ok (.string (numS m ++ ⟨#[43]⟩)) W := fun W => run_string_add_sum W _ _ hs1
  have r2 : ∀ W : World, (Op.stringOp .add (numS m ++ ⟨#[43]⟩) (numS d)).run Tryd.prog W = .ok (.string (tx m d)) W := fun W => run_string_add_sum W _ _ hs2
  have r3 : ∀ W : World, (Op.stringOp .add ⟨#[47]⟩ (numS r)).run Tryd.prog W = .ok (.string ((⟨#[47]⟩ : ByteArray) ++ numS r)) W := fun W => run_string_add_sum W _ _ hs3
  have r4 : ∀ W : World, (Op.stringOp .add (tx m d) ((⟨#[47]⟩ : ByteArray) ++ numS r)).run Tryd.prog W = .ok (.string (tx m d ++ ((⟨#[47]⟩ : ByteArray) ++ numS r))) W := fun W => run_string_add_sum W _ _ hs4
  clear hs1 hs2 hs3 hs4 z1 z2 z3 e43 e47
  have HV := Lib.hid hv
  have HT := Lib.hid hT
  have HB : Below w.heap.size w (w.alloc (.cells #[.int .i64 (m : Int), .int .i64 (d : Int), .int .i64 (r : Int)] 26)) := below_alloc1 _ _
  have B := Bx.new w m d r 26
  have C1 := Lib.hid (fun W h => itoa_any m (by omega) W h)
  have C2 := Lib.hid (fun W h => itoa_any d (by omega) W h)
  have C3 := Lib.hid (fun W h => itoa_any r (by omega) W h)
  clear hm hd hr hv h hT
  by_cases c : 0 < r
  · have E := Lib.hid (show rdS m d r = tx m d ++ ((⟨#[47]⟩ : ByteArray) ++ numS r) from if_pos c)
    have t1 : decide ((0 : Int) < (r : Int)) = true := by simp; omega
    have t2 : (0 < r) = True := eq_true c
    clear c
    go_enter Tryd.func7, Tryd.ntmps7
    go_wp2_with fail
    refine (IsReader_any _ _ _ _ HV.out _).mono ?_
    rintro e w1 ⟨rfl, hb⟩
    replace HB := HB.trans (below_le hb HB.size)
    replace B := B.on hb
    clear hb
    obtain ⟨_, q0, q1, q2⟩ := id B
    go_wp2
    go_region_held3 (fun w' => w'.cell? ⟨w.heap.size, 0, none⟩ = some (.int .i64 (m : Int)) ∧ w'.cell? ⟨w.heap.size, 1, none⟩ = some (.int .i64 (d : Int)) ∧ w'.cell? ⟨w.heap.size, 2, none⟩ = some (.int .i64 (r : Int)))
      (first | exact ⟨q0, q1, q2⟩ | exact ⟨p0, p1, p2⟩ | exact ⟨s0, s1, s2⟩ | go_keep)
      (first
        | (go_at_call_of 14 (m : Int); refine (C1.out _ (HT.out _ HB.drew)).mono ?_; rintro e w4 ⟨rfl, hb4⟩; have B4 := (Bx.drew B).on hb4; obtain ⟨-, p0, p1, p2⟩ := id B4)
        | (go_at_call_of 14 (d : Int); refine (C2.out _ (HT.out _ (HB.drew.trans (below_le hb4 HB.size)))).mono ?_; rintro e w5 ⟨rfl, hb5⟩; have B5 := B4.on hb5; obtain ⟨-, s0, s1, s2⟩ := id B5))
    have HE := Lib.hid (below_end HB hb4 hb5)
    clear q0 q1 q2 p0 p1 p2 HB hb4 hb5 B B4
    go_wp2_with fail
    refine (C3.out _ (HT.out _ HE.out)).mono ?_
    rintro e w6 ⟨rfl, hb6⟩
    have HF := Lib.hid (HE.out.trans (below_le hb6 HE.out.size))
    clear hb6
    go_wp2
    go_ret2
    exact ⟨ret_str2 E.out.symm, HF.out⟩
  · have E := Lib.hid (show rdS m d r = tx m d from if_neg c)
    have t1 : decide ((0 : Int) < (r : Int)) = false := by simp; omega
    have t2 : (0 < r) = False := eq_false c
    clear c
    go_enter Tryd.func7, Tryd.ntmps7
    go_wp2_with fail
    refine (IsReader_any _ _ _ _ HV.out _).mono ?_
    rintro e w1 ⟨rfl, hb⟩
    replace HB := HB.trans (below_le hb HB.size)
    replace B := B.on hb
    clear hb
    obtain ⟨_, q0, q1, q2⟩ := id B
    go_wp2
    go_region_held3 (fun w' => w'.cell? ⟨w.heap.size, 0, none⟩ = some (.int .i64 (m : Int)) ∧ w'.cell? ⟨w.heap.size, 1, none⟩ = some (.int .i64 (d : Int)) ∧ w'.cell? ⟨w.heap.size, 2, none⟩ = some (.int .i64 (r : Int)))
      (first | exact ⟨q0, q1, q2⟩ | exact ⟨p0, p1, p2⟩ | exact ⟨s0, s1, s2⟩ | go_keep)
      (first
        | (go_at_call_of 14 (m : Int); refine (C1.out _ (HT.out _ HB.drew)).mono ?_; rintro e w4 ⟨rfl, hb4⟩; have B4 := (Bx.drew B).on hb4; obtain ⟨-, p0, p1, p2⟩ := id B4)
        | (go_at_call_of 14 (d : Int); refine (C2.out _ (HT.out _ (HB.drew.trans (below_le hb4 HB.size)))).mono ?_; rintro e w5 ⟨rfl, hb5⟩; have B5 := B4.on hb5; obtain ⟨-, s0, s1, s2⟩ := id B5))
    have HE := Lib.hid (below_end HB hb4 hb5)
    clear q0 q1 q2 p0 p1 p2 HB hb4 hb5 B B4
    go_wp2
    go_ret2
    exact ⟨ret_str2 E.out.symm, HE.out⟩
set_option maxRecDepth 100000 in
theorem sRT_no (m d r : Int) (hv : Rd.good m d r = false) (w : World) : Calls Tryd.prog 5 #[.agg #[.int .i64 m, .int .i64 d, .int .i64 r]] w (Ret (.tuple #[.string ByteArray.empty, .bool false]) w) := by
  have HV := Lib.hid hv
  clear hv
  go_enter Tryd.func5, Tryd.ntmps5
  go_wp2_with fail
  refine (rdGood_any _ _ _ _ HV.out _).mono ?_
  rintro e w1 ⟨rfl, hb⟩
  have HB := Lib.hid (bx_below hb)
  clear hb
  go_wp2
  go_ret2
  exact ⟨rfl, HB.out⟩
set_option maxRecDepth 100000 in
theorem iRT_no (m d r : Int) (hv : Rd.good m d r = false) (w : World) : Calls Tryd.prog 7 #[.agg #[.int .i64 m, .int .i64 d, .int .i64 r]] w (Ret (.tuple #[.string ByteArray.empty, .bool false]) w) := by
  have HV := Lib.hid hv
  clear hv
  go_enter Tryd.func7, Tryd.ntmps7
  go_wp2_with fail
  refine (IsReader_any _ _ _ _ HV.out _).mono ?_
  rintro e w1 ⟨rfl, hb⟩
  have HB := Lib.hid (bx_below hb)
  clear hb
  go_wp2
  go_ret2
  exact ⟨rfl, HB.out⟩
end Rw
end Go.Proofs.YtcaklokcajidiabDoor
