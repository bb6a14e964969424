/- The pages of paragraphs: the program's three functions. -/
import Derived.Test.YtdpblijmagcgiaaPm0a
namespace Go.Proofs.Ytdpblijmagcgiaa
open Go.RowKit Go.Joins Go.Deep Go.ChangeShapes Go.WideShapes
set_option linter.unusedVariables false
set_option linter.unusedSimpArgs false
namespace Ln
theorem pg_last {B : List Int} {n : Int} : ∀ d i L, B.length - i ≤ d → i < B.length → pg B n i = some L → ∃ L', L = L' ++ [bef B B.length] ∧ (∀ x ∈ L, ∃ j, j < B.length ∧ B.getD j 0 = x) := by
  intro d
  induction d with
  | zero => intro i L h hi; omega
  | succ d ih =>
    intro i L h hi he
    by_cases e : rch B (bef B i + n) i = i
    · rw [pg_none hi e] at he; cases he
    · have hb := rch_bd B (bef B i + n) i (by omega)
      rw [pg_step hi e] at he
      cases h2 : pg B n (rch B (bef B i + n) i) with
      | none => rw [h2] at he; cases he
      | some l =>
        rw [h2] at he
        injection he with he
        subst he
        have h0 : ∃ j, j < B.length ∧ B.getD j 0 = B.getD (rch B (bef B i + n) i - 1) 0 := ⟨_, by omega, rfl⟩
        by_cases h3 : rch B (bef B i + n) i < B.length
        · obtain ⟨L', e1, e2⟩ := ih _ l (by omega) h3 h2
          refine ⟨B.getD (rch B (bef B i + n) i - 1) 0 :: L', by rw [e1]; rfl, fun x hx => ?_⟩
          rcases List.mem_cons.1 hx with rfl | hx
          · exact h0
          · exact e2 x hx
        · rw [pg_end h3] at h2
          injection h2 with h2
          subst h2
          have e4 : rch B (bef B i + n) i = B.length := by omega
          refine ⟨[], ?_, fun x hx => ?_⟩
          · have hbb : bef B B.length = B.getD (B.length - 1) 0 := by unfold bef; rw [if_neg (by omega)]
            rw [e4, hbb]; rfl
          · rcases List.mem_cons.1 hx with rfl | hx
            · exact h0
            · cases hx
/-- the breaks behind pages: what is known of them -/
theorem enZ_ok {zs : List Int} {n : Int} (h : pbB zs n = true) : ∃ L', enZ zs n = L' ++ [psum zs zs.length] ∧ ∀ k, k < (enZ zs n).length → 0 < (enZ zs n).getD k 0 ∧ (enZ zs n).getD k 0 ≤ 720 := by
  unfold pbB at h
  rw [Bool.and_eq_true] at h
  have hib := ib_ok (pags_ok h.1).1
  have he : enZ zs n = (ends zs n).getD [] := by unfold enZ; rw [h.1]; rfl
  cases h2 : ends zs n with
  | none => rw [h2] at h; cases h.2
  | some L =>
    rw [h2] at he
    simp only [Option.getD_some] at he
    obtain ⟨L', e1, e2⟩ := pg_last _ 0 L (Nat.le_refl _) (by omega) h2
    rw [hib.2.2.2.2] at e1
    rw [he]
    refine ⟨L', e1, fun k hk => ?_⟩
    obtain ⟨j, hj, e3⟩ := e2 (L.getD k 0) (by simp [List.getD, List.getElem?_eq_getElem hk])
    rw [← e3]
    have h4 := hib.1.2 j hj
    have h5 := (hib.2.2.2.1 (j + 1) (by omega)).2
    rw [bef_at] at h5
    exact ⟨h4, h5⟩
theorem enZ_no {zs : List Int} {n : Int} (h : pbB zs n = false) : enZ zs n = [] := by
  unfold pbB at h
  unfold enZ
  split
  · next hp =>
    rw [hp, Bool.true_and] at h
    cases h2 : ends zs n with
    | none => rfl
    | some L => rw [h2] at h; cases h
  · rfl
def pbZ (zs : List Int) (n : Int) : List Int := (enZ zs n).dropLast
theorem pbZ_len (zs : List Int) (n : Int) : (pbZ zs n).length ≤ 1048576 := by
  have := enZ_len zs n
  unfold pbZ
  rw [List.length_dropLast]
  omega
def ppN (zs : List Int) (n : Int) : Int := ((enZ zs n).length : Int)
/-- how many lines of each of the first k pages are left empty -/
def lox (os : List Int) (n : Int) (k : Nat) : List Int := (List.range k).map fun j => n - (os.getD j 0 - bef os j)
theorem lox_len (os : List Int) (n : Int) (k : Nat) : (lox os n k).length = k := by simp [lox]
theorem lox_next (os : List Int) (n : Int) (k : Nat) : lox os n (k + 1) = lox os n k ++ [n - (os.getD k 0 - bef os k)] := by simp [lox, List.range_succ]
def loZ (zs : List Int) (n : Int) : List Int := lox (enZ zs n) n (enZ zs n).length
theorem loZ_len (zs : List Int) (n : Int) : (loZ zs n).length ≤ 1048576 := by
  have := enZ_len zs n
  unfold loZ
  rw [lox_len]
  omega
theorem pbB_n {zs : List Int} {n : Int} (h : pbB zs n = true) : 2 ≤ n ∧ n ≤ 60 := by
  unfold pbB at h
  rw [Bool.and_eq_true] at h
  exact (pags_ok h.1).2
set_option maxRecDepth 100000 in
set_option maxHeartbeats 1000000 in
theorem iParB {b1 g len cap : Nat} {zs : List Int} {n : Int} {w : World} (h : Ow w b1 g len cap zs) (hl : len ≤ 1048576) :
    Calls Try.prog 36 #[.slice (some ⟨g, 0, none⟩) len cap, .int .i64 n] w (Gives (pbB zs n) (pbZ zs n) w) := by
  have C := Lib.hid (endsOfPages_any (n := n) h hl)
  obtain ⟨ok, hok⟩ : ∃ ok, pbB zs n = ok := ⟨_, rfl⟩
  rw [hok] at C ⊢
  cases ok
  · have he := enZ_no hok
    rw [he] at C
    rw [show pbZ zs n = [] by unfold pbZ; rw [he]; rfl]
    clear h hok he
    go_enter Try.func36, Try.ntmps36
    go_wp2_with fail
    refine C.out.mono ?_
    rintro e w1 ⟨v, rfl, ho, hb⟩
    obtain ⟨a, cp, rfl⟩ := own_val ho
    clear ho
    go_wp2
    go_ret2
    exact ⟨_, rfl, World.ownsRow_nil _ _ _ _, hb⟩
  · obtain ⟨L', e1, _⟩ := enZ_ok hok
    have e3 := enZ_len zs n
    have e2 : pbZ zs n = L' := by unfold pbZ; rw [e1, List.dropLast_concat]
    rw [e1] at C e3
    rw [e2]
    generalize psum zs zs.length = T at *
    rw [List.length_append, show [T].length = 1 from rfl] at e3
    unfold Gives at C
    rw [List.length_append, show [T].length = 1 from rfl] at C
    clear h hok e1 e2
    go_enter Try.func36, Try.ntmps36
    go_wp2_with fail
    refine C.out.mono ?_
    rintro e w1 ⟨v, rfl, ho, hb⟩
    obtain ⟨gq, cp, rfl⟩ : ∃ gq cp, v = .slice (some ⟨gq, 0, none⟩) (L'.length + 1) cp := by
      rcases Li.own_forms ho with ⟨_, h0⟩ | h1
      · omega
      · exact h1
    have HO := Lib.hid (own_shrink ho (Nat.le_succ _))
    have hcp := (ow_cap ho).1
    have r1 := to_run gq 0 (L'.length + 1) cp L'.length (by omega)
    have r2 : ((L'.length + 1 : Nat) : Int) - 1 = (L'.length : Int) := by omega
    clear ho
    go_wp2
    go_ret2
    exact ⟨_, rfl, by have := HO.out; rwa [List.take_left] at this, hb⟩
set_option maxRecDepth 100000 in
theorem iParN {b1 g len cap : Nat} {zs : List Int} {n : Int} {w : World} (h : Ow w b1 g len cap zs) (hl : len ≤ 1048576) :
    Calls Try.prog 40 #[.slice (some ⟨g, 0, none⟩) len cap, .int .i64 n] w (Ret (.tuple #[.int .i64 (ppN zs n), .bool (pbB zs n)]) w) := by
  have C := Lib.hid (endsOfPages_any (n := n) h hl)
  have e3 := enZ_len zs n
  have HE := Lib.hid (show ((enZ zs n).length : Int) = ppN zs n from rfl)
  obtain ⟨ok, hok⟩ : ∃ ok, pbB zs n = ok := ⟨_, rfl⟩
  obtain ⟨L, hL⟩ : ∃ L, enZ zs n = L := ⟨_, rfl⟩
  rw [hL] at C e3 HE
  rw [hok] at C ⊢
  clear h hok hL
  go_enter Try.func40, Try.ntmps40
  go_wp2_with fail
  refine C.out.mono ?_
  rintro e w1 ⟨v, rfl, ho, hb⟩
  obtain ⟨a, cp, rfl⟩ := own_val ho
  clear ho
  go_wp2
  go_ret2
  exact ⟨rnb HE.out, hb⟩
set_option maxRecDepth 100000 in
set_option maxHeartbeats 4000000 in
theorem iOver {b1 g len cap : Nat} {zs : List Int} {n : Int} {w : World} (h : Ow w b1 g len cap zs) (hl : len ≤ 1048576) :
    Calls Try.prog 42 #[.slice (some ⟨g, 0, none⟩) len cap, .int .i64 n] w (Gives (pbB zs n) (loZ zs n) w) := by
  have C := Lib.hid (endsOfPages_any (n := n) h hl)
  obtain ⟨ok, hok⟩ : ∃ ok, pbB zs n = ok := ⟨_, rfl⟩
  rw [hok] at C ⊢
  cases ok
  · have he := enZ_no hok
    rw [he] at C
    rw [show loZ zs n = [] by unfold loZ; rw [he]; rfl]
    clear h hok he
    go_enter Try.func42, Try.ntmps42
    go_wp2_with fail
    refine C.out.mono ?_
    rintro e w1 ⟨v, rfl, ho, hb⟩
    obtain ⟨a, cp, rfl⟩ := own_val ho
    clear ho
    go_wp2
    go_ret2
    exact ⟨_, rfl, World.ownsRow_nil _ _ _ _, hb⟩
  · obtain ⟨L', e1, e4⟩ := enZ_ok hok
    have e3 := enZ_len zs n
    have hn := pbB_n hok
    have hn1 := hn.1
    have hn2 := hn.2
    have HLO := Lib.hid (show loZ zs n = lox (enZ zs n) n (enZ zs n).length from rfl)
    obtain ⟨OS, hOS⟩ : ∃ OS, enZ zs n = OS := ⟨_, rfl⟩
    have h1 : 1 ≤ OS.length := by rw [← hOS, e1]; simp
    rw [hOS] at C e3 e4 HLO
    have HE := Lib.hid e4
    have HBE := Lib.hid (show ∀ k, k ≤ OS.length → 0 ≤ bef OS k ∧ bef OS k ≤ 720 from fun k hk => by
      by_cases e : k = 0
      · subst e; exact ⟨Int.le_refl _, by unfold bef; simp⟩
      · obtain ⟨j, rfl⟩ : ∃ j, k = j + 1 := ⟨k - 1, by omega⟩
        rw [bef_at]
        have := e4 j (by omega)
        omega)
    obtain ⟨m, hm⟩ : ∃ m, OS.length = m := ⟨_, rfl⟩
    have HM := Lib.hid hm
    unfold Gives at C
    rw [hm] at C e3 h1 HE HBE HLO
    obtain ⟨R, hR⟩ : ∃ R, loZ zs n = R := ⟨_, rfl⟩
    rw [hR] at HLO ⊢
    obtain ⟨i0, hi, hz0, hz1, hz2⟩ := info_parts Li.info3
    clear h hok hn e1 e4 hOS hm hR
    go_enter Try.func42, Try.ntmps42
    go_wp2_with fail
    refine C.out.mono ?_
    rintro e w1 ⟨v, rfl, ho, hb1⟩
    obtain ⟨gq, cp, rfl⟩ : ∃ gq cp, v = .slice (some ⟨gq, 0, none⟩) m cp := by
      rcases Li.own_forms ho with ⟨_, h0⟩ | h1
      · omega
      · exact h1
    have HO := Lib.hid ho
    have HB1 := Lib.hid hb1
    clear ho hb1
    go_wp2
    go_loopw [8, 9, 22] (fun v b i wr => ∃ (k : Nat) (P : Int) (vv : Value), vv = v ∧ k ≤ m ∧ i = .int .i64 (k : Int) ∧ b = .int .i64 P ∧ Hid (P = bef OS k) ∧ wr.ownsRow w1.heap.size 3 1 vv k (Li.nums (lox OS n k)) ∧ Below w1.heap.size w1 wr) (fun _ _ i _ => ((m : Int) - intOf i).toNat)
    case atStart => exact ⟨0, 0, _, rfl, by omega, rfl, rfl, Lib.hid rfl, World.ownsRow_nil _ _ _ _, Below.refl _ _⟩
    case round =>
      obtain ⟨k, P, vv, rfl, hk, rfl, rfl, HP, hown, hb⟩ := hrel
      have HB := Lib.hid hb
      have hsw := hb.size
      clear hb
      by_cases hlt : (k : Int) < (m : Int)
      · obtain ⟨z, HZ, hc⟩ := ow_at (Li.own_on HO.out HB.out) (k := k) (by omega)
        have hz := HE.out k (by omega)
        rw [HZ.out] at hz
        have hp := HBE.out k (by omega)
        rw [← HP.out] at hp
        have z1 := hz.1
        have z2 := hz.2
        have p1 := hp.1
        have p2 := hp.2
        have HN := Lib.hid (lox_next OS n k)
        rw [HZ.out, ← HP.out] at HN
        have HP2 := Lib.hid (show z = bef OS (k + 1) by rw [bef_at, HZ.out])
        have HOw := Lib.hid (hown.alloc (.cells #[.int .i64 (n - (z - P))] 3))
        have HLT := Lib.hid (fun j hj => (hown.lt j hj).1)
        clear hz hp hown
        go_wp2_with (first | (at_builtin; refine wpList_append_own _ rfl _ _ 22 rfl w1.heap.size 3 i0 (.int .i64 0) 1 8 Try.underlying22 hi hz0 hz1 hz2 rfl (by decide) _ _ _ rfl HOw.out ⟨_, 0, none⟩ 1 1 [.int .i64 (n - (z - P))] rfl rfl (cell_one_new _ _ _) (fun x hx => by simp at hx; subst hx; rfl) (by unfold maxLen; omega) (by omega) (by simp; omega) ?_; intro v3 w3 hown3 hgrow3 _))
        have HB4 := Lib.hid (Below.grown (HB.out.alloc HB.out.size (.cells #[.int .i64 (n - (z - P))] 3)) hgrow3 (by simp; omega) HLT.out)
        have HO3 := Lib.hid (show w3.ownsRow w1.heap.size 3 1 v3 (k + 1) (Li.nums (lox OS n (k + 1))) by rw [HN.out, nums_snoc]; exact hown3)
        clear hown3 hgrow3
        go_roundw
        case rel => exact ⟨k + 1, z, _, rfl, by omega, by go_num, rfl, HP2, HO3.out, HB4.out⟩
        case measure => simp [intOf] <;> omega
      · have HK := Lib.hid (show k = m by omega)
        have HOw := Lib.hid hown
        clear hown
        go_wp2
        go_ret2
        exact ⟨_, rfl, by rw [HLO.out, lox_len, ← HK.out]; exact Li.own_le HOw.out HB1.out.size, HB1.out.trans (below_le HB.out HB1.out.size)⟩
end Ln
end Go.Proofs.Ytdpblijmagcgiaa
