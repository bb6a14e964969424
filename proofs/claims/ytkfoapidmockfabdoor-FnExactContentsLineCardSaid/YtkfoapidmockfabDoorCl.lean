/- A line of contents from both sides. -/
import Derived.Test.YtkfoapidmockfabDoorJn
import Derived.Lib.Strings
namespace Go.Proofs.YtkfoapidmockfabDoor
open Go.RowKit Go.Joins Go.Deep Go.ChangeShapes Go.WideShapes
set_option linter.unusedVariables false
set_option linter.unusedSimpArgs false
namespace Cl
open Sh Jn
/-- b, and k times one behind it -/
def rp (b one : ByteArray) (k : Nat) : ByteArray := b ++ ⟨(Lib.repeatL one.data.toList k).toArray⟩
theorem repeat_snoc (l : List UInt8) : ∀ c, Lib.repeatL l (c + 1) = Lib.repeatL l c ++ l
  | 0 => by simp [Lib.repeatL]
  | c + 1 => by
    have := repeat_snoc l c
    show l ++ Lib.repeatL l (c + 1) = (l ++ Lib.repeatL l c) ++ l
    rw [List.append_assoc, this]
theorem mk_append (a b : List UInt8) : (⟨a.toArray⟩ : ByteArray) ++ ⟨b.toArray⟩ = ⟨(a ++ b).toArray⟩ := by
  apply ByteArray.ext
  simp [ByteArray.data_append]
theorem rp_zero (b one : ByteArray) : rp b one 0 = b := by
  unfold rp
  apply ByteArray.ext
  simp [ByteArray.data_append, Lib.repeatL]
theorem rp_succ (b one : ByteArray) (k : Nat) : rp b one k ++ one = rp b one (k + 1) := by
  unfold rp
  rw [repeat_snoc, ByteArray.append_assoc]
  congr 1
theorem rp_size (b one : ByteArray) (k : Nat) : (rp b one k).size = b.size + k * one.size := by
  induction k with
  | zero => rw [rp_zero]; omega
  | succ k ih => rw [← rp_succ, ByteArray.size_append, ih, Nat.add_mul]; omega
/-! titles -/
def bt (t : ByteArray) (k : Nat) : Nat := (t.data.toList.getD k 0).toNat
theorem bt_at (t : ByteArray) (k : Nat) (h : k < t.size) : (t[k]'h).toNat = bt t k := by
  unfold bt
  have h2 : k < t.data.toList.length := by simpa using h
  rw [List.getD_eq_getElem?_getD, List.getElem?_eq_getElem h2]
  rfl
def Tg (t : ByteArray) : Prop := 1 ≤ t.size ∧ t.size ≤ 40 ∧ ∀ k, k < t.size → 32 ≤ bt t k ∧ bt t k ≤ 126
def tg (t : ByteArray) : Bool := decide (1 ≤ t.size) && decide (t.size ≤ 40) && (List.range t.size).all (fun k => decide (32 ≤ bt t k) && decide (bt t k ≤ 126))
theorem tg_iff (t : ByteArray) : tg t = true ↔ Tg t := by
  unfold tg Tg
  simp only [Bool.and_eq_true, decide_eq_true_eq, List.all_eq_true, List.mem_range]
  constructor
  · rintro ⟨⟨a, b⟩, c⟩; exact ⟨a, b, c⟩
  · rintro ⟨a, b, c⟩; exact ⟨⟨a, b⟩, c⟩
theorem tg_no {t : ByteArray} {v : Bool} (hv : tg t = v) (h : ¬ Tg t) : v = false := by
  cases h2 : v with
  | false => rfl
  | true => exact absurd ((tg_iff t).1 (hv.trans h2)) h
set_option maxRecDepth 100000 in
set_option maxHeartbeats 1000000 in
theorem sTitle (t : ByteArray) (ht : t.size ≤ 1048576) (v : Bool) (hv : tg t = v) (w : World) :
    Calls Tryd.prog 35 #[.string t] w fun e w' => e = .returned (.bool v) ∧ w = w' := by
  have NO := Lib.hid (tg_no hv)
  have HV := Lib.hid hv
  clear hv
  by_cases c1 : (t.size : Int) < 1
  · have E := Lib.hid (NO.out fun h => by have := h.1; omega)
    have HX := Lib.hid (show (decide ((1 : Int) ≤ (t.size : Int)) && decide ((t.size : Int) ≤ 40)) = false by rw [show decide ((1 : Int) ≤ (t.size : Int)) = false by simp; omega]; rfl)
    have c1' : t.size < 1 := by omega
    go_enter Tryd.func35, Tryd.ntmps35
    go_wp2_with (first | (go_at_call 37; refine (l1In_any _ _ _ false HX.out _).mono ?_; rintro e w' ⟨rfl, rfl⟩))
    go_ret
    exact ⟨rb E.out rfl, rfl⟩
  by_cases c2 : (40 : Int) < t.size
  · have E := Lib.hid (NO.out fun h => by have := h.2.1; omega)
    have HX := Lib.hid (show (decide ((1 : Int) ≤ (t.size : Int)) && decide ((t.size : Int) ≤ 40)) = false by rw [show decide ((t.size : Int) ≤ 40) = false by simp; omega, Bool.and_false])
    have c2' : 40 < t.size := by omega
    go_enter Tryd.func35, Tryd.ntmps35
    go_wp2_with (first | (go_at_call 37; refine (l1In_any _ _ _ false HX.out _).mono ?_; rintro e w' ⟨rfl, rfl⟩))
    go_ret
    exact ⟨rb E.out rfl, rfl⟩
  have HX := Lib.hid (show (decide ((1 : Int) ≤ (t.size : Int)) && decide ((t.size : Int) ≤ 40)) = true by simp; omega)
  go_enter Tryd.func35, Tryd.ntmps35
  go_wp2_with (first | (go_at_call 37; refine (l1In_any _ _ _ true HX.out _).mono ?_; rintro e w' ⟨rfl, rfl⟩))
  go_loop [3] (fun i => ∃ k : Nat, k ≤ t.size ∧ i = .int .i64 (k : Int) ∧ ∀ j, j < k → 32 ≤ bt t j ∧ bt t j ≤ 126) (fun i => ((t.size : Int) - intOf i).toNat)
  case atStart => exact ⟨0, by omega, rfl, fun j hj => by omega⟩
  case round =>
    obtain ⟨k, hk, rfl, hall⟩ := hrel
    have HA := Lib.hid hall
    clear hall
    by_cases hlt : k < t.size
    · have hb := bt_at t k hlt
      by_cases d1 : ((t[k]'hlt).toNat : Int) < 32
      · have E := Lib.hid (NO.out fun h => by have := (h.2.2 k hlt).1; omega)
        clear hb
        go_wp2
        go_ret
        exact ⟨rb E.out rfl, rfl⟩
      · by_cases d2 : (126 : Int) < ((t[k]'hlt).toNat : Int)
        · have E := Lib.hid (NO.out fun h => by have := (h.2.2 k hlt).2; omega)
          clear hb
          go_wp2
          go_ret
          exact ⟨rb E.out rfl, rfl⟩
        · have HS := Lib.hid (show 32 ≤ bt t k ∧ bt t k ≤ 126 by omega)
          clear hb
          go_wp2
          go_round
          case rel => exact ⟨k + 1, by omega, by go_num, fun j hj => by
            by_cases e : j = k
            · subst e; exact HS.out
            · exact HA.out j (by omega)⟩
          case measure => simp [intOf]; omega
    · have E := Lib.hid (show v = true by
        rw [← HV.out]
        exact (tg_iff t).2 ⟨by omega, by omega, fun j hj => HA.out j (by omega)⟩)
      go_wp2
      go_ret
      exact ⟨rb E.out rfl, rfl⟩
set_option maxRecDepth 100000 in
set_option maxHeartbeats 1000000 in
theorem iTitle (t : ByteArray) (ht : t.size ≤ 1048576) (v : Bool) (hv : tg t = v) (w : World) :
    Calls Tryd.prog 39 #[.string t] w fun e w' => e = .returned (.bool v) ∧ w = w' := by
  have NO := Lib.hid (tg_no hv)
  have HV := Lib.hid hv
  clear hv
  by_cases c1 : (t.size : Int) < 1
  · have E := Lib.hid (NO.out fun h => by have := h.1; omega)
    have HX := Lib.hid (show (decide ((1 : Int) ≤ (t.size : Int)) && decide ((t.size : Int) ≤ 40)) = false by rw [show decide ((1 : Int) ≤ (t.size : Int)) = false by simp; omega]; rfl)
    have c1' : t.size < 1 := by omega
    go_enter Tryd.func39, Tryd.ntmps39
    go_wp2_with (first | (go_at_call 37; refine (l1In_any _ _ _ false HX.out _).mono ?_; rintro e w' ⟨rfl, rfl⟩))
    go_ret
    exact ⟨rb E.out rfl, rfl⟩
  by_cases c2 : (40 : Int) < t.size
  · have E := Lib.hid (NO.out fun h => by have := h.2.1; omega)
    have HX := Lib.hid (show (decide ((1 : Int) ≤ (t.size : Int)) && decide ((t.size : Int) ≤ 40)) = false by rw [show decide ((t.size : Int) ≤ 40) = false by simp; omega, Bool.and_false])
    have c2' : 40 < t.size := by omega
    go_enter Tryd.func39, Tryd.ntmps39
    go_wp2_with (first | (go_at_call 37; refine (l1In_any _ _ _ false HX.out _).mono ?_; rintro e w' ⟨rfl, rfl⟩))
    go_ret
    exact ⟨rb E.out rfl, rfl⟩
  have HX := Lib.hid (show (decide ((1 : Int) ≤ (t.size : Int)) && decide ((t.size : Int) ≤ 40)) = true by simp; omega)
  go_enter Tryd.func39, Tryd.ntmps39
  go_wp2_with (fail)
  go_loop [14] (fun i => ∃ k : Nat, k ≤ t.size ∧ i = .int .i64 (k : Int) ∧ ∀ j, j < k → 32 ≤ bt t j ∧ bt t j ≤ 126) (fun i => ((t.size : Int) - intOf i).toNat)
  case atStart => exact ⟨0, by omega, rfl, fun j hj => by omega⟩
  case round =>
    obtain ⟨k, hk, rfl, hall⟩ := hrel
    have HA := Lib.hid hall
    clear hall
    by_cases hlt : k < t.size
    · have hb := bt_at t k hlt
      by_cases d1 : ((t[k]'hlt).toNat : Int) < 32
      · have E := Lib.hid (NO.out fun h => by have := (h.2.2 k hlt).1; omega)
        clear hb
        go_wp2
        go_ret
        exact ⟨rb E.out rfl, rfl⟩
      · by_cases d2 : (126 : Int) < ((t[k]'hlt).toNat : Int)
        · have E := Lib.hid (NO.out fun h => by have := (h.2.2 k hlt).2; omega)
          clear hb
          go_wp2
          go_ret
          exact ⟨rb E.out rfl, rfl⟩
        · have HS := Lib.hid (show 32 ≤ bt t k ∧ bt t k ≤ 126 by omega)
          clear hb
          go_wp2
          go_round
          case rel => exact ⟨k + 1, by omega, by go_num, fun j hj => by
            by_cases e : j = k
            · subst e; exact HS.out
            · exact HA.out j (by omega)⟩
          case measure => simp [intOf]; omega
    · have E := Lib.hid (show v = true by
        rw [← HV.out]
        exact (tg_iff t).2 ⟨by omega, by omega, fun j hj => HA.out j (by omega)⟩)
      go_wp2
      go_ret
      exact ⟨rb E.out rfl, rfl⟩
/-! lines -/
def pin (p : Int) : Bool := decide (1 ≤ p) && decide (p ≤ 2000)
def win (x : Int) : Bool := decide (1 ≤ x) && decide (x ≤ 60)
/-- how many dots there is room for -/
def dts (t : ByteArray) (p x : Int) : Int := x - (t.size : Int) - ((numS p.toNat).size : Int) - 2
def lok (t : ByteArray) (p x : Int) : Bool := tg t && pin p && win x && decide (1 ≤ dts t p x)
def line (t : ByteArray) (p x : Int) : ByteArray := (rp (t ++ ⟨#[32]⟩) ⟨#[46]⟩ (dts t p x).toNat ++ ⟨#[32]⟩) ++ numS p.toNat
def lnv (t : ByteArray) (p x : Int) : ByteArray := if lok t p x = true then line t p x else ByteArray.empty
theorem lnv_no {t : ByteArray} {p x : Int} (h : lok t p x = false) : lnv t p x = ByteArray.empty := by unfold lnv; rw [h]; rfl
theorem lnv_yes {t : ByteArray} {p x : Int} (h : lok t p x = true) : lnv t p x = line t p x := by unfold lnv; rw [if_pos h]
theorem bpBook_any (p : Int) (v : Bool) (hv : pin p = v) (w : World) : Calls Tryd.prog 36 #[.int .i64 p] w fun e w' => e = .returned (.bool v) ∧ w = w' := by
  have HV := Lib.hid hv
  clear hv
  go_enter Tryd.func36, Tryd.ntmps36
  go_wp2_with fail
  refine (l1In_any p 1 2000 v HV.out _).mono ?_
  rintro e w' ⟨rfl, rfl⟩
  go_wp2
  go_ret
  exact ⟨rfl, rfl⟩
theorem hasPage_any (p : Int) (v : Bool) (hv : pin p = v) (w : World) : Calls Tryd.prog 40 #[.int .i64 2000, .int .i64 p] w fun e w' => e = .returned (.bool v) ∧ w = w' := by
  unfold pin at hv
  by_cases c1 : 1 ≤ p
  · by_cases c2 : p ≤ 2000
    · have e : v = true := by rw [← hv]; simp [c1, c2]
      subst e
      clear hv
      go_enter Tryd.func40, Tryd.ntmps40
      go_wp2
      go_ret
      exact ⟨rfl, rfl⟩
    · have e : v = false := by rw [← hv]; simp [c2]
      subst e
      have t2 : decide (p ≤ 2000) = false := by simpa using c2
      clear hv c2
      go_enter Tryd.func40, Tryd.ntmps40
      go_wp2
      go_ret
      exact ⟨rfl, rfl⟩
  · have e : v = false := by rw [← hv]; simp [c1]
    subst e
    have t2 : decide (1 ≤ p) = false := by simpa using c1
    clear hv c1
    go_enter Tryd.func40, Tryd.ntmps40
    go_wp2
    go_ret
    exact ⟨rfl, rfl⟩
theorem numS_bd (n : Nat) (h : n ≤ 2000) : 1 ≤ (numS n).size ∧ (numS n).size ≤ 2001 := by
  have := size_bd n
  omega
theorem empty_lit : (ByteArray.empty : ByteArray) = ⟨#[]⟩ := rfl
set_option maxRecDepth 100000 in
set_option maxHeartbeats 2000000 in
theorem sLine (t : ByteArray) (ht : t.size ≤ 1048576) (p x : Int) (w : World) :
    Calls Tryd.prog 9 #[.string t, .int .i64 p, .int .i64 x] w (Ret (.tuple #[.string (lnv t p x), .bool (lok t p x)]) w) := by
  obtain ⟨x1, h1⟩ : ∃ b, tg t = b := ⟨_, rfl⟩
  obtain ⟨x2, h2⟩ : ∃ b, pin p = b := ⟨_, rfl⟩
  obtain ⟨x3, h3⟩ : ∃ b, win x = b := ⟨_, rfl⟩
  have C1 := Lib.hid (sTitle t ht x1 h1 w)
  have C2 := Lib.hid (bpBook_any p x2 h2 w)
  have C3 := Lib.hid (l1In_any x 1 60 x3 h3 w)
  have el : lok t p x = (x1 && x2 && x3 && decide (1 ≤ dts t p x)) := by unfold lok; rw [h1, h2, h3]
  by_cases hall : (x1 && x2 && x3) = true
  · simp only [Bool.and_eq_true] at hall
    obtain ⟨⟨e1, e2⟩, e3⟩ := hall
    subst e1 e2 e3
    have hp : 1 ≤ p ∧ p ≤ 2000 := by simpa [pin] using h2
    have hx : 1 ≤ x ∧ x ≤ 60 := by simpa [win] using h3
    have hT := ((tg_iff t).1 h1).2.1
    obtain ⟨P, rfl⟩ := Int.eq_ofNat_of_zero_le (show 0 ≤ p by omega)
    have hP : P ≤ 2000 := by omega
    have CN := Lib.hid (fun W => l1Num_any P (by omega) W)
    have hnb := numS_bd P hP
    have hx1 := hx.1
    have hx2 := hx.2
    have ED := Lib.hid (show dts t (P : Int) x = x - (t.size : Int) - ((numS P).size : Int) - 2 from rfl)
    obtain ⟨S, hS⟩ : ∃ S, numS P = S := ⟨_, rfl⟩
    have HLN := Lib.hid (show ∀ D : Nat, dts t (P : Int) x = (D : Int) → line t (P : Int) x = (rp (t ++ ⟨#[32]⟩) ⟨#[46]⟩ D ++ ⟨#[32]⟩) ++ S from fun D hD => by unfold line; rw [hD, Int.toNat_natCast, Int.toNat_natCast, hS])
    rw [hS] at CN hnb ED
    have hs1 := hnb.1
    have hs2 := hnb.2
    clear h1 h2 h3 hp hx hnb hS
    by_cases hd : x - (t.size : Int) - (S.size : Int) - 2 < 1
    · have E := Lib.hid (show lok t (P : Int) x = false by rw [el, ED.out, show decide (1 ≤ x - (t.size : Int) - (S.size : Int) - 2) = false by simp; omega]; rfl)
      have E2 := Lib.hid (lnv_no E.out)
      rw [E.out, E2.out]
      clear el
      go_enter Tryd.func9, Tryd.ntmps9
      go_wp2_with fail
      refine C1.out.mono ?_
      rintro e w' ⟨rfl, rfl⟩
      go_wp2_with fail
      refine C2.out.mono ?_
      rintro e w' ⟨rfl, rfl⟩
      go_wp2_with fail
      refine C3.out.mono ?_
      rintro e w' ⟨rfl, rfl⟩
      go_wp2_with fail
      refine (CN.out _).mono ?_
      rintro e w1 ⟨rfl, hb⟩
      have HB := Lib.hid hb
      clear hb
      go_wp2
      go_ret2
      exact ⟨rfl, HB.out⟩
    · have E := Lib.hid (show lok t (P : Int) x = true by rw [el, ED.out, show decide (1 ≤ x - (t.size : Int) - (S.size : Int) - 2) = true by simp; omega]; rfl)
      obtain ⟨D, hD⟩ := Int.eq_ofNat_of_zero_le (show 0 ≤ x - (t.size : Int) - (S.size : Int) - 2 by omega)
      have E2 := Lib.hid (show lnv t (P : Int) x = (rp (t ++ ⟨#[32]⟩) ⟨#[46]⟩ D ++ ⟨#[32]⟩) ++ S by rw [lnv_yes E.out]; exact HLN.out D (ED.out.trans hD))
      have HD := Lib.hid hD
      have hD60 : D ≤ 60 := by omega
      have hD1 : 1 ≤ D := by omega
      rw [E.out, E2.out]
      clear el hd hD
      have r0 : ∀ W : World, (Op.stringOp .add t ⟨#[32]⟩).run Tryd.prog W = .ok (.string (t ++ ⟨#[32]⟩)) W := fun W => run_string_add_sum W _ _ (by rw [one_size]; omega)
      have HTS := Lib.hid (show (t ++ ⟨#[32]⟩ : ByteArray).size = t.size + 1 by rw [ByteArray.size_append]; rfl)
      go_enter Tryd.func9, Tryd.ntmps9
      go_wp2_with fail
      refine C1.out.mono ?_
      rintro e w' ⟨rfl, rfl⟩
      go_wp2_with fail
      refine C2.out.mono ?_
      rintro e w' ⟨rfl, rfl⟩
      go_wp2_with fail
      refine C3.out.mono ?_
      rintro e w' ⟨rfl, rfl⟩
      go_wp2_with fail
      refine (CN.out _).mono ?_
      rintro e w1 ⟨rfl, hb⟩
      have HB := Lib.hid hb
      clear hb
      have hd2 : ¬ x - (t.size : Int) - (S.size : Int) - 2 < 1 := by have := HD.out; omega
      go_wp2
      go_loop [8, 9] (fun i o => ∃ j k : Nat, j + k = D ∧ i = .int .i64 (j : Int) ∧ o = .string (rp (t ++ ⟨#[32]⟩) ⟨#[46]⟩ k)) (fun i _ => (intOf i).toNat)
      case atStart => exact ⟨D, 0, rfl, by rw [HD.out], by rw [rp_zero]⟩
      case round =>
        obtain ⟨j, k, hjk, rfl, rfl⟩ := hrel
        have HJK := Lib.hid hjk
        have hsz := rp_size (t ++ ⟨#[32]⟩) ⟨#[46]⟩ k
        rw [HTS.out, one_size, Nat.mul_one] at hsz
        have hs5 : (rp (t ++ ⟨#[32]⟩) ⟨#[46]⟩ k).size ≤ 200 := by omega
        have hj9 : j ≤ 60 := by omega
        have S1 := Lib.hid (rp_succ (t ++ ⟨#[32]⟩) ⟨#[46]⟩ k)
        clear hjk hsz
        by_cases hlt : (0 : Int) < (j : Int)
        · obtain ⟨R, hR⟩ : ∃ R, rp (t ++ ⟨#[32]⟩) ⟨#[46]⟩ k = R := ⟨_, rfl⟩
          rw [hR] at S1 hs5 ⊢
          have r1 : ∀ W : World, (Op.stringOp .add R ⟨#[46]⟩).run Tryd.prog W = .ok (.string (R ++ ⟨#[46]⟩)) W := fun W => run_string_add_sum W _ _ (by rw [one_size]; omega)
          clear hR
          go_wp2
          go_round
          case rel => exact ⟨j - 1, k + 1, by have := HJK.out; omega, by congr 1; omega, by rw [← S1.out]⟩
          case measure => simp [intOf]; omega
        · have EK := Lib.hid (show k = D by have := HJK.out; omega)
          obtain ⟨R, hR⟩ : ∃ R, rp (t ++ ⟨#[32]⟩) ⟨#[46]⟩ k = R := ⟨_, rfl⟩
          rw [hR] at hs5 ⊢
          have HR := Lib.hid hR
          have r1 : ∀ W : World, (Op.stringOp .add R ⟨#[32]⟩).run Tryd.prog W = .ok (.string (R ++ ⟨#[32]⟩)) W := fun W => run_string_add_sum W _ _ (by rw [one_size]; omega)
          have r2 : ∀ W : World, (Op.stringOp .add (R ++ ⟨#[32]⟩) S).run Tryd.prog W = .ok (.string ((R ++ ⟨#[32]⟩) ++ S)) W := fun W => run_string_add_sum W _ _ (by rw [ByteArray.size_append, one_size]; omega)
          clear hR S1
          go_wp2_with fail
          refine (CN.out _).mono ?_
          rintro e w2 ⟨rfl, hb⟩
          have HB2 := Lib.hid (HB.out.trans (Sh.below_le hb HB.out.size))
          clear hb
          go_wp2
          go_ret2
          exact ⟨ret_sb (by rw [← HR.out, EK.out]) rfl, HB2.out⟩
  · have E := Lib.hid (show lok t p x = false by rw [el]; cases x1 <;> cases x2 <;> cases x3 <;> first | rfl | exact absurd rfl hall)
    have E2 := Lib.hid (lnv_no E.out)
    rw [E.out, E2.out]
    clear h1 h2 h3 el
    cases x1
    · go_enter Tryd.func9, Tryd.ntmps9
      go_wp2_with (first | (go_at_call 35; refine C1.out.mono ?_; rintro e w' ⟨rfl, rfl⟩))
      go_ret2
      exact ⟨rfl, Below.refl _ _⟩
    · cases x2
      · go_enter Tryd.func9, Tryd.ntmps9
        go_wp2_with (first | (go_at_call 35; refine C1.out.mono ?_; rintro e w' ⟨rfl, rfl⟩) | (go_at_call 36; refine C2.out.mono ?_; rintro e w' ⟨rfl, rfl⟩))
        go_ret2
        exact ⟨rfl, Below.refl _ _⟩
      · cases x3
        · go_enter Tryd.func9, Tryd.ntmps9
          go_wp2_with (first | (go_at_call 35; refine C1.out.mono ?_; rintro e w' ⟨rfl, rfl⟩) | (go_at_call 36; refine C2.out.mono ?_; rintro e w' ⟨rfl, rfl⟩) | (go_at_call 37; refine C3.out.mono ?_; rintro e w' ⟨rfl, rfl⟩))
          go_ret2
          exact ⟨rfl, Below.refl _ _⟩
        · exact absurd rfl hall
theorem repeat_at (s : ByteArray) (hs : s.size ≤ 1) (k : Nat) (hk : k ≤ 100) (w : World) :
    Calls Tryd.prog 42 #[.string s, .int .i64 (k : Int)] w (Ret (.string ⟨(Lib.repeatL s.data.toList k).toArray⟩) w) := by
  have : s.size * k ≤ 1 * k := Nat.mul_le_mul_right _ hs
  exact Tryd.strings_Repeat s k w (by omega) (by omega)
set_option maxRecDepth 100000 in
set_option maxHeartbeats 2000000 in
theorem iLine (t : ByteArray) (ht : t.size ≤ 1048576) (p x : Int) (w : World) (hT0 : TabOn w) :
    Calls Tryd.prog 10 #[.string t, .int .i64 p, .int .i64 x] w (Ret (.tuple #[.string (lnv t p x), .bool (lok t p x)]) w) := by
  obtain ⟨x1, h1⟩ : ∃ b, tg t = b := ⟨_, rfl⟩
  obtain ⟨x2, h2⟩ : ∃ b, pin p = b := ⟨_, rfl⟩
  have C1 := Lib.hid (iTitle t ht x1 h1 w)
  have C2 := Lib.hid (hasPage_any p x2 h2 w)
  have el : lok t p x = (x1 && x2 && win x && decide (1 ≤ dts t p x)) := by unfold lok; rw [h1, h2]
  cases x1
  · have E := Lib.hid (show lok t p x = false from el)
    have E2 := Lib.hid (lnv_no E.out)
    rw [E.out, E2.out]
    clear h1 h2 el
    go_enter Tryd.func10, Tryd.ntmps10
    go_wp2_with (first | (go_at_call 39; refine C1.out.mono ?_; rintro e w' ⟨rfl, rfl⟩))
    go_ret2
    exact ⟨rfl, Below.refl _ _⟩
  cases x2
  · have E := Lib.hid (show lok t p x = false from el)
    have E2 := Lib.hid (lnv_no E.out)
    rw [E.out, E2.out]
    clear h1 h2 el
    go_enter Tryd.func10, Tryd.ntmps10
    go_wp2_with (first | (go_at_call 39; refine C1.out.mono ?_; rintro e w' ⟨rfl, rfl⟩) | (go_at_call 40; refine C2.out.mono ?_; rintro e w' ⟨rfl, rfl⟩))
    go_ret2
    exact ⟨rfl, Below.refl _ _⟩
  by_cases d1 : x < 1
  · have E := Lib.hid (show lok t p x = false by rw [el]; unfold win; rw [show decide (1 ≤ x) = false by simp; omega]; rfl)
    have E2 := Lib.hid (lnv_no E.out)
    rw [E.out, E2.out]
    clear h1 h2 el
    go_enter Tryd.func10, Tryd.ntmps10
    go_wp2_with (first | (go_at_call 39; refine C1.out.mono ?_; rintro e w' ⟨rfl, rfl⟩) | (go_at_call 40; refine C2.out.mono ?_; rintro e w' ⟨rfl, rfl⟩))
    go_ret2
    exact ⟨rfl, Below.refl _ _⟩
  by_cases d2 : 60 < x
  · have E := Lib.hid (show lok t p x = false by rw [el]; unfold win; rw [show decide (x ≤ 60) = false by simp; omega]; simp)
    have E2 := Lib.hid (lnv_no E.out)
    rw [E.out, E2.out]
    clear h1 h2 el
    go_enter Tryd.func10, Tryd.ntmps10
    go_wp2_with (first | (go_at_call 39; refine C1.out.mono ?_; rintro e w' ⟨rfl, rfl⟩) | (go_at_call 40; refine C2.out.mono ?_; rintro e w' ⟨rfl, rfl⟩))
    go_ret2
    exact ⟨rfl, Below.refl _ _⟩
  have hp : 1 ≤ p ∧ p ≤ 2000 := by simpa [pin] using h2
  have hTs := ((tg_iff t).1 h1).2.1
  obtain ⟨P, rfl⟩ := Int.eq_ofNat_of_zero_le (show 0 ≤ p by omega)
  have hP : P ≤ 2000 := by omega
  have CN := Lib.hid (fun W h => itoa_any P (by omega) W h)
  have HT := Lib.hid hT0
  have hnb := numS_bd P hP
  have ew : win x = true := by unfold win; simp; omega
  rw [ew] at el
  have ED := Lib.hid (show dts t (P : Int) x = x - (t.size : Int) - ((numS P).size : Int) - 2 from rfl)
  obtain ⟨S, hS⟩ : ∃ S, numS P = S := ⟨_, rfl⟩
  have HLN := Lib.hid (show ∀ D : Nat, dts t (P : Int) x = (D : Int) → line t (P : Int) x = (rp (t ++ ⟨#[32]⟩) ⟨#[46]⟩ D ++ ⟨#[32]⟩) ++ S from fun D hD => by unfold line; rw [hD, Int.toNat_natCast, Int.toNat_natCast, hS])
  rw [hS] at CN hnb ED
  have hs1 := hnb.1
  have hs2 := hnb.2
  clear h1 h2 hp hnb hS hT0 ew
  have r0 : ∀ W : World, (Op.stringOp .add t ⟨#[32]⟩).run Tryd.prog W = .ok (.string (t ++ ⟨#[32]⟩)) W := fun W => run_string_add_sum W _ _ (by rw [one_size]; omega)
  have r1 : ∀ W : World, (Op.stringOp .add ⟨#[32]⟩ S).run Tryd.prog W = .ok (.string (⟨#[32]⟩ ++ S)) W := fun W => run_string_add_sum W _ _ (by rw [one_size]; omega)
  have HTS := Lib.hid (show (t ++ ⟨#[32]⟩ : ByteArray).size = t.size + 1 by rw [ByteArray.size_append]; rfl)
  have HSS := Lib.hid (show (⟨#[32]⟩ ++ S : ByteArray).size = S.size + 1 by rw [ByteArray.size_append, one_size]; omega)
  obtain ⟨A, hA⟩ : ∃ A : ByteArray, t ++ ⟨#[32]⟩ = A := ⟨_, rfl⟩
  obtain ⟨B, hB⟩ : ∃ B : ByteArray, ⟨#[32]⟩ ++ S = B := ⟨_, rfl⟩
  rw [hA] at r0 HTS
  rw [hB] at r1 HSS
  have HA := Lib.hid hA
  have HBq := Lib.hid hB
  have hAs : A.size ≤ 41 := by rw [HTS.out]; omega
  have hBs : B.size ≤ 2002 := by rw [HSS.out]; omega
  clear hA hB
  by_cases hd : x - (A.size : Int) - (B.size : Int) < 1
  · have E := Lib.hid (show lok t (P : Int) x = false by rw [el, ED.out, show decide (1 ≤ x - (t.size : Int) - (S.size : Int) - 2) = false by simp; have := HTS.out; have := HSS.out; omega]; rfl)
    have E2 := Lib.hid (lnv_no E.out)
    rw [E.out, E2.out]
    clear el
    go_enter Tryd.func10, Tryd.ntmps10
    go_wp2_with fail
    refine C1.out.mono ?_
    rintro e w' ⟨rfl, rfl⟩
    go_wp2_with fail
    refine C2.out.mono ?_
    rintro e w' ⟨rfl, rfl⟩
    go_wp2_with fail
    refine (CN.out _ (HT.out _ (Below.refl _ _))).mono ?_
    rintro e w1 ⟨rfl, hb⟩
    have HB := Lib.hid hb
    clear hb
    go_wp2
    go_ret2
    exact ⟨rfl, HB.out⟩
  · have E := Lib.hid (show lok t (P : Int) x = true by rw [el, ED.out, show decide (1 ≤ x - (t.size : Int) - (S.size : Int) - 2) = true by simp; have := HTS.out; have := HSS.out; omega]; rfl)
    obtain ⟨D, hD⟩ := Int.eq_ofNat_of_zero_le (show 0 ≤ x - (A.size : Int) - (B.size : Int) by omega)
    have hD60 : D ≤ 60 := by omega
    have E2 := Lib.hid (show lnv t (P : Int) x = (rp A ⟨#[46]⟩ D ++ ⟨#[32]⟩) ++ S by rw [lnv_yes E.out, ← HA.out]; exact HLN.out D (ED.out.trans (by have := HTS.out; have := HSS.out; omega)))
    obtain ⟨R, hR⟩ : ∃ R : ByteArray, ⟨(Lib.repeatL (⟨#[46]⟩ : ByteArray).data.toList D).toArray⟩ = R := ⟨_, rfl⟩
    have CR := Lib.hid (fun W => hR ▸ repeat_at ⟨#[46]⟩ (Nat.le_refl _) D (by omega) W)
    have hRs : R.size = D := by
      have e := rp_size ⟨#[]⟩ ⟨#[46]⟩ D
      unfold rp at e
      rw [hR, ByteArray.size_append, one_size] at e
      have e0 : (⟨#[]⟩ : ByteArray).size = 0 := rfl
      omega
    have hR60 : R.size ≤ 60 := by omega
    have EL := Lib.hid (show (A ++ R) ++ B = (rp A ⟨#[46]⟩ D ++ ⟨#[32]⟩) ++ S by unfold rp; rw [hR, ← HBq.out, ByteArray.append_assoc (a := A ++ R)])
    have HD := Lib.hid hD
    rw [E.out, E2.out]
    clear el hR hRs hD
    have r3 : ∀ W : World, (Op.stringOp .add A R).run Tryd.prog W = .ok (.string (A ++ R)) W := fun W => run_string_add_sum W _ _ (by omega)
    have r4 : ∀ W : World, (Op.stringOp .add (A ++ R) B).run Tryd.prog W = .ok (.string ((A ++ R) ++ B)) W := fun W => run_string_add_sum W _ _ (by rw [ByteArray.size_append]; omega)
    go_enter Tryd.func10, Tryd.ntmps10
    go_wp2_with fail
    refine C1.out.mono ?_
    rintro e w' ⟨rfl, rfl⟩
    go_wp2_with fail
    refine C2.out.mono ?_
    rintro e w' ⟨rfl, rfl⟩
    go_wp2_with fail
    refine (CN.out _ (HT.out _ (Below.refl _ _))).mono ?_
    rintro e w1 ⟨rfl, hb⟩
    have HB := Lib.hid hb
    clear hb
    go_wp2_with fail
    rw [HD.out]
    refine (CR.out _).mono ?_
    rintro e w2 ⟨rfl, hb⟩
    have HB2 := Lib.hid (HB.out.trans (Sh.below_le hb HB.out.size))
    clear hb
    go_wp2
    go_ret2
    exact ⟨ret_sb EL.out rfl, HB2.out⟩
end Cl
end Go.Proofs.YtkfoapidmockfabDoor
