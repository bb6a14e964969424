/- CentreText from both sides. -/
import Derived.Test.YtbebojahjfnkiaaTg0
import Derived.Test.YtbebojahjfnkiaaShelf
namespace Go.Proofs.Ytbebojahjfnkiaa
open Go.RowKit Go.Joins Go.Deep Go.ChangeShapes Go.WideShapes Go.Lib
set_option linter.unusedVariables false
set_option linter.unusedSimpArgs false
namespace Ln
def bl (k : Nat) : List UInt8 := List.replicate k 32
theorem bl_len (k : Nat) : (bl k).length = k := by simp [bl]
theorem bl_rep (k : Nat) : Lib.repeatL [32] k = bl k := by
  induction k with
  | zero => rfl
  | succ k ih =>
    show [32] ++ Lib.repeatL [32] k = _
    rw [ih]
    unfold bl
    rw [List.replicate_succ]
    rfl
theorem mk_append (a b : List UInt8) : (⟨a.toArray⟩ : ByteArray) ++ ⟨b.toArray⟩ = ⟨(a ++ b).toArray⟩ := by
  apply ByteArray.ext
  simp [ByteArray.data_append]
theorem rep_any (z : Int) (k : Nat) (hz : z = (k : Int)) (hk : k ≤ 1000) (W : World) :
    Calls Try.prog 25 #[.string ⟨#[32]⟩, .int .i64 z] W (Ret (.string ⟨(bl k).toArray⟩) W) := by
  subst hz
  rw [← bl_rep]
  exact Try.strings_Repeat ⟨#[32]⟩ k W (by omega) (by show 1 * k ≤ _; omega)
def ctB (l : List UInt8) (wide : Int) : Bool := (txtB l && wideB wide) && decide ((l.length : Int) ≤ wide)
/-- a text with j blanks in turn behind it and before it -/
def cen (l : List UInt8) (j : Nat) : List UInt8 := bl (j / 2) ++ (l ++ bl ((j + 1) / 2))
theorem cen_len (l : List UInt8) (j : Nat) : (cen l j).length = l.length + j := by unfold cen; simp [bl_len]; omega
theorem bl_snoc (k : Nat) : bl k ++ [32] = bl (k + 1) := by unfold bl; rw [List.replicate_succ']
theorem bl_cons (k : Nat) : 32 :: bl k = bl (k + 1) := by unfold bl; rw [List.replicate_succ]
theorem cen_even {l : List UInt8} {j : Nat} (h : j % 2 = 0) : cen l j ++ [32] = cen l (j + 1) := by
  unfold cen
  rw [show (j + 1) / 2 = j / 2 by omega, show (j + 1 + 1) / 2 = j / 2 + 1 by omega, ← bl_snoc]
  simp
theorem cen_odd {l : List UInt8} {j : Nat} (h : ¬ j % 2 = 0) : [32] ++ cen l j = cen l (j + 1) := by
  unfold cen
  rw [show (j + 1 + 1) / 2 = (j + 1) / 2 by omega, show (j + 1) / 2 = j / 2 + 1 by omega, ← bl_cons (j / 2)]
  simp
def ctT (l : List UInt8) (wide : Int) : ByteArray := if ctB l wide = true then ⟨(cen l (wide - (l.length : Int)).toNat).toArray⟩ else ⟨#[]⟩
theorem rsb {a b : ByteArray} {v v' : Bool} (h : a = b) (h2 : v = v') : Ending.returned (.tuple #[.string a, .bool v]) = .returned (.tuple #[.string b, .bool v']) := by rw [h, h2]
theorem ct_no {l : List UInt8} {wide : Int} (h : ctB l wide = false) : ctT l wide = ⟨#[]⟩ := by unfold ctT; rw [h]; rfl
set_option maxRecDepth 100000 in
set_option maxHeartbeats 2000000 in
theorem iCentre (l : List UInt8) (wide : Int) (hl : l.length ≤ 1048576) (w : World) :
    Calls Try.prog 14 #[.string ⟨l.toArray⟩, .int .i64 wide] w (Ret (.tuple #[.string (ctT l wide), .bool (ctB l wide)]) w) := by
  have C1 := Lib.hid (fun W => isText_any l hl W)
  have hsz := ba_size l
  obtain ⟨x1, hx1⟩ : ∃ x, txtB l = x := ⟨_, rfl⟩
  rw [hx1] at C1
  obtain ⟨T, hT⟩ : ∃ T, ctT l wide = T := ⟨_, rfl⟩
  obtain ⟨v, hv⟩ : ∃ v, ctB l wide = v := ⟨_, rfl⟩
  rw [hT, hv]
  cases x1
  · have hf : v = false := by rw [← hv]; unfold ctB; rw [hx1]; rfl
    subst hf
    have HT := Lib.hid (show (⟨#[]⟩ : ByteArray) = T by rw [← hT, ct_no hv])
    clear hx1 hv hT
    go_enter Try.func14, Try.ntmps14
    go_wp2_with fail
    refine (C1.out _).mono ?_
    rintro e w1 ⟨rfl, hb⟩
    go_wp2
    go_ret2
    exact ⟨rsb HT.out rfl, hb⟩
  · obtain ⟨x2, hx2⟩ : ∃ x, wideB wide = x := ⟨_, rfl⟩
    have C2 := Lib.hid (fun W => isWide_any wide x2 hx2 W)
    cases x2
    · have hf : v = false := by rw [← hv]; unfold ctB; rw [hx2, Bool.and_false]; rfl
      subst hf
      have HT := Lib.hid (show (⟨#[]⟩ : ByteArray) = T by rw [← hT, ct_no hv])
      clear hx1 hv hT hx2
      go_enter Try.func14, Try.ntmps14
      go_wp2_with fail
      refine (C1.out _).mono ?_
      rintro e w1 ⟨rfl, hb⟩
      go_wp2_with fail
      refine (C2.out _).mono ?_
      rintro e w1 ⟨rfl, rfl⟩
      go_wp2
      go_ret2
      exact ⟨rsb HT.out rfl, hb⟩
    · have hw : 1 ≤ wide ∧ wide ≤ 80 := by unfold wideB at hx2; simp only [Bool.and_eq_true, decide_eq_true_eq] at hx2; exact hx2
      have w1' := hw.1
      have w2' := hw.2
      obtain ⟨n, hn⟩ : ∃ n, l.length = n := ⟨_, rfl⟩
      by_cases c : wide < (n : Int)
      · have hf : v = false := by rw [← hv]; unfold ctB; rw [hn, show decide ((n : Int) ≤ wide) = false by simp; omega, Bool.and_false]
        subst hf
        have HT := Lib.hid (show (⟨#[]⟩ : ByteArray) = T by rw [← hT, ct_no hv])
        rw [hn] at hsz
        clear hx1 hv hT hx2 hn hw
        go_enter Try.func14, Try.ntmps14
        go_wp2_with fail
        refine (C1.out _).mono ?_
        rintro e w1 ⟨rfl, hb⟩
        go_wp2_with fail
        refine (C2.out _).mono ?_
        rintro e w1 ⟨rfl, rfl⟩
        go_wp2
        go_ret2
        exact ⟨rsb HT.out rfl, hb⟩
      · have hf : v = true := by rw [← hv]; unfold ctB; rw [hn, hx1, hx2, show decide ((n : Int) ≤ wide) = true by simp; omega]; rfl
        subst hf
        have tc : decide (wide < (n : Int)) = false := decide_eq_false c
        obtain ⟨R, hR⟩ : ∃ R : Nat, wide - (n : Int) = (R : Int) := ⟨(wide - (n : Int)).toNat, by omega⟩
        have HT := Lib.hid (show (⟨(cen l R).toArray⟩ : ByteArray) = T by rw [← hT]; unfold ctT; rw [hv, hn, hR, Int.toNat_natCast]; rfl)
        have R1 : R ≤ 80 := by omega
        obtain ⟨p, hp⟩ : ∃ p : Nat, p = R / 2 := ⟨_, rfl⟩
        have hq : (R : Int).tdiv 2 = (p : Int) := by rw [Int.tdiv_eq_ediv_of_nonneg (by omega)]; omega
        have hq2 : (R : Int) / 2 = (p : Int) := by omega
        obtain ⟨q, hq3⟩ : ∃ q : Nat, (R : Int) - (p : Int) = (q : Int) := ⟨R - p, by omega⟩
        have HR1 := Lib.hid (fun W => rep_any (p : Int) p rfl (by omega) W)
        have HR2 := Lib.hid (fun W => rep_any (q : Int) q rfl (by omega) W)
        have z1 := ba_size (bl p)
        rw [bl_len] at z1
        have z2 := ba_size (bl q)
        rw [bl_len] at z2
        have z3 := ba_size (bl p ++ l)
        rw [List.length_append, bl_len, hn] at z3
        have HM1 := Lib.hid (mk_append (bl p) l)
        have HM2 := Lib.hid (mk_append (bl p ++ l) (bl q))
        have HCE := Lib.hid (show (bl p ++ l) ++ bl q = cen l R by unfold cen; rw [show (R + 1) / 2 = q by omega, ← hp]; simp)
        have z4 : ((⟨(bl p).toArray⟩ : ByteArray) ++ ⟨l.toArray⟩).size = p + n := by rw [HM1.out]; exact z3
        rw [hn] at hsz
        have b1 : p ≤ 80 := by omega
        have b2 : q ≤ 80 := by omega
        have b3 : n ≤ 80 := by omega
        clear hx1 hv hT hx2 hn hw c hp z3
        go_enter Try.func14, Try.ntmps14
        go_wp2_with fail
        refine (C1.out _).mono ?_
        rintro e w1 ⟨rfl, hb⟩
        go_wp2_with fail
        refine (C2.out _).mono ?_
        rintro e w1 ⟨rfl, rfl⟩
        go_wp2_with fail
        refine (HR1.out _).mono ?_
        rintro e w2 ⟨rfl, hb2⟩
        have HB2 := Lib.hid (hb.trans (below_le hb2 hb.size))
        clear hb hb2
        go_wp2_with fail
        refine (HR2.out _).mono ?_
        rintro e w3 ⟨rfl, hb3⟩
        have HB3 := Lib.hid (HB2.out.trans (below_le hb3 HB2.out.size))
        clear hb3
        go_wp2
        go_ret2
        exact ⟨rsb (by rw [← HT.out, ← HCE.out, ← HM2.out, ← HM1.out]) rfl, HB3.out⟩
end Ln
end Go.Proofs.Ytbebojahjfnkiaa
