/- FirstStay and FewestMoves, from the program's side. -/
import Derived.Test.YtogkebbgkeffcaaFr
import Derived.Maps.AppendAt
namespace Go.Proofs.Ytogkebbgkeffcaa
open Go.RowKit Go.Joins Go.Deep Go.ChangeShapes Go.WideShapes
set_option linter.unusedVariables false
set_option linter.unusedSimpArgs false
namespace So
open Sh
def ints (l : List Nat) : List Int := l.map fun i : Nat => (i : Int)
theorem ints_len (l : List Nat) : (ints l).length = l.length := by simp [ints]
theorem ints_snoc (l : List Nat) (k : Nat) : ints (l ++ [k]) = ints l ++ [(k : Int)] := by simp [ints]
theorem ints_at (l : List Nat) (k : Nat) (h : k < l.length) : (ints l).getD k 0 = ((l.getD k 0 : Nat) : Int) := by
  simp [ints, List.getD, List.getElem?_eq_getElem h]
def stl (zs : List Int) : List Int := if Ns.good zs = true then ints (St.bo zs (2 ^ zs.length)) else []
theorem stl_no {zs : List Int} (h : Ns.good zs = false) : stl zs = [] := by unfold stl; rw [h]; rfl
theorem bo_le (zs : List Int) (m : Nat) : (St.bo zs m).length ≤ zs.length := by
  have pl : ∀ b k, (St.pl b k).length ≤ k := by
    intro b k
    induction k with
    | zero => exact Nat.le_refl _
    | succ k ih =>
      unfold St.pl
      split
      · rw [List.length_append]; simp only [List.length_cons, List.length_nil]; omega
      · omega
  induction m with
  | zero => exact Nat.zero_le _
  | succ m ih =>
    unfold St.bo
    split
    · exact pl m _
    · exact ih
theorem stl_le (zs : List Int) (h : zs.length ≤ 1048576) : (stl zs).length ≤ 1048576 := by
  unfold stl
  split
  · rw [ints_len]; exact Nat.le_trans (bo_le zs _) h
  · simp
theorem own_more {W : World} {base : Nat} {v : Value} {zs ys : List Int} {x : Int} (h : W.ownsRow base 3 1 v (zs.length + 1) (Li.nums zs ++ [.int .i64 x])) (e : ys = zs ++ [x]) : W.ownsRow base 3 1 v ys.length (Li.nums ys) := by
  subst e; simpa [Li.nums] using h
theorem own_eq {W : World} {base : Nat} {v : Value} {zs ys : List Int} (h : W.ownsRow base 3 1 v zs.length (Li.nums zs)) (e : ys = zs) : W.ownsRow base 3 1 v ys.length (Li.nums ys) := by
  subst e; exact h
theorem gives_none {W w' : World} {zs : List Int} (e : zs = []) (hb : Below W.heap.size W w') : Li.Gives false zs W (.returned (.tuple #[.slice none 0 0, .bool false])) w' := by
  subst e
  exact Li.Gives.none hb
def StR (zs L : List Int) (n : Nat) (M : Int) (G : List Nat) (k : Nat) (m bf : Int) (so : List Nat) : Prop := so ++ St.gr zs L (n - k) k bf m = G ∧ m = M - so.length ∧ so.length ≤ k
theorem str_take {zs L : List Int} {n : Nat} {M : Int} {G : List Nat} {k : Nat} {m bf : Int} {so : List Nat} (h : StR zs L n M G k m bf so) (hk : k < n) (h1 : bf < St.at' zs k) (h2 : St.at' L k = m) : StR zs L n M G (k + 1) (m - 1) (St.at' zs k) (so ++ [k]) := by
  obtain ⟨a, b, c⟩ := h
  obtain ⟨d, hd⟩ : ∃ d, n - k = d + 1 := ⟨n - k - 1, by omega⟩
  rw [hd] at a
  unfold St.gr at a
  rw [if_pos ⟨h1, h2⟩] at a
  refine ⟨?_, by rw [List.length_append]; simp only [List.length_cons, List.length_nil]; omega, by rw [List.length_append]; simp only [List.length_cons, List.length_nil]; omega⟩
  rw [show n - (k + 1) = d by omega, List.append_assoc]
  exact a
theorem str_skip {zs L : List Int} {n : Nat} {M : Int} {G : List Nat} {k : Nat} {m bf : Int} {so : List Nat} (h : StR zs L n M G k m bf so) (hk : k < n) (h1 : ¬ (bf < St.at' zs k ∧ St.at' L k = m)) : StR zs L n M G (k + 1) m bf so := by
  obtain ⟨a, b, c⟩ := h
  obtain ⟨d, hd⟩ : ∃ d, n - k = d + 1 := ⟨n - k - 1, by omega⟩
  rw [hd] at a
  unfold St.gr at a
  rw [if_neg h1] at a
  refine ⟨?_, b, by omega⟩
  rw [show n - (k + 1) = d by omega]
  exact a
set_option maxRecDepth 100000 in
set_option maxHeartbeats 2000000 in
theorem iStay {b1 g len cap : Nat} {zs : List Int} {w : World} (h : Ow w b1 g len cap zs) (hl : len ≤ 1048576) :
    Calls Try.prog 47 #[.slice (some ⟨g, 0, none⟩) len cap] w (Li.Gives (Ns.good zs) (stl zs) w) := by
  obtain ⟨i0, hi, hz0, hz1, hz2⟩ := info_parts Li.info3
  have HO0 := Lib.hid h
  have hz := ow_len h
  cases hg : Ns.good zs with
  | false =>
    have HG := Lib.hid hg
    have E := Lib.hid (stl_no hg)
    clear h hz hg
    go_enter Try.func47, Try.ntmps47
    go_wp2_with fail
    refine (iStands_any HO0.out hl false HG.out).mono ?_
    rintro e w1 ⟨rfl, hb⟩
    have HB := Lib.hid hb
    clear hb
    go_wp2
    go_ret2
    exact gives_none E.out HB.out
  | true =>
    have HG := Lib.hid hg
    have hok := (Ns.good_iff zs).1 hg
    have hl8 : len ≤ 8 := by have := hok.2.1; omega
    have hl1 : 1 ≤ len := by have := hok.1; omega
    have HZ := Lib.hid hz
    have HOK := Lib.hid hok
    have E := Lib.hid (show stl zs = ints (St.bo zs (2 ^ len)) by unfold stl; rw [hg, hz]; rfl)
    clear h hz hg hok
    go_enter Try.func47, Try.ntmps47
    go_wp2_with fail
    refine (iStands_any HO0.out hl true HG.out).mono ?_
    rintro e w1 ⟨rfl, hb⟩
    have HB1 := Lib.hid hb
    have HO1 := Lib.hid (Li.own_on HO0.out hb)
    clear hb
    go_wp2_with fail
    refine (rising_any HO1.out hl8 hl1).mono ?_
    rintro e w2 ⟨gl, L, rfl, hL, hkn, hb⟩
    have HB2 := Lib.hid (HB1.out.trans (Sh.below_le hb HB1.out.size))
    have HO2 := Lib.hid (Li.own_on HO1.out hb)
    have HL := Lib.hid hL
    have HKN := Lib.hid hkn
    clear hb hL hkn
    go_wp2_with fail
    refine (max_any HL.out hl8 hl1).mono ?_
    rintro e w' ⟨M, rfl, hM1, hM2, rfl⟩
    have SAME := Lib.hid (St.same (HKN.out.2.1) (fun k hk => (HOK.out.2.2.1 k hk).1) (M := M) (by rw [HZ.out]; exact hM1) (by rw [HZ.out]; exact hM2))
    have MB := Lib.hid (show 0 ≤ M ∧ M ≤ 8 by
      obtain ⟨q, q1, q2⟩ := hM1
      have := HKN.out.2.2 q (by omega) q1
      have := (HKN.out.2.1 q (by omega) (by rw [HZ.out]; exact q1)).1
      omega)
    clear hM1 hM2
    go_wp2
    go_loopw [4, 6, 7, 19] (fun v m bf i wr => ∃ (k : Nat) (mm bb : Int) (so : List Nat), k ≤ len ∧ i = .int .i64 (k : Int) ∧ m = .int .i64 mm ∧ bf = .int .i64 bb ∧ StR zs L len M (St.gr zs L len 0 (-1) M) k mm bb so ∧ wr.ownsRow w2.heap.size 3 1 v (ints so).length (Li.nums (ints so)) ∧ Below w2.heap.size w2 wr) (fun _ _ _ i _ => ((len : Int) - intOf i).toNat)
    case atStart => exact ⟨0, M, -1, [], by omega, rfl, rfl, rfl, ⟨rfl, by simp, by simp⟩, World.ownsRow_nil _ _ _ _, Below.refl _ _⟩
    case round =>
      obtain ⟨k, mm, bb, so, hk, rfl, rfl, rfl, hst, hown, hb⟩ := hrel
      have ST := Lib.hid hst
      have m1 : -8 ≤ mm := by have := hst.2.1; have := hst.2.2; have := MB.out; omega
      have m2 : mm ≤ 8 := by have := hst.2.1; have := MB.out; omega
      have hlen : (ints so).length ≤ 8 := by rw [ints_len]; have := hst.2.2; omega
      have HBB := Lib.hid hb
      clear hst
      by_cases hlt : (k : Int) < len
      · have hk2 : k < len := by omega
        obtain ⟨z, HZK, hc⟩ := ow_at (Li.own_on HO2.out hb) hk2
        have hcl := own_at (Li.own_on HL.out hb) hk2
        obtain ⟨x, hx⟩ : ∃ x, St.at' L k = x := ⟨_, rfl⟩
        rw [hx] at hcl
        have HX := Lib.hid hx
        have hsz2 := HB2.out.size
        have hsz := HBB.out.size
        clear hx hb
        by_cases c1 : bb < z
        · by_cases c2 : x = mm
          · have TK := Lib.hid (str_take ST.out hk2 (show bb < zs.getD k 0 by rw [HZK.out]; exact c1) (HX.out.trans c2))
            have EZ := Lib.hid (show St.at' zs k = z from HZK.out)
            have t1 : (x == mm) = true := by simpa using c2
            clear c2
            go_wp2_with (first | (at_builtin; refine wpList_append_own _ rfl _ _ 22 rfl w2.heap.size 3 i0 (.int .i64 0) 1 8 Try.underlying22 hi hz0 hz1 hz2 rfl (by decide) _ _ _ rfl (hown.alloc _) ⟨wr.heap.size, 0, none⟩ 1 1 [.int .i64 (k : Int)] rfl rfl (cell_one_new _ _ _) (fun x hx => by simp at hx; subst hx; rfl) (by unfold maxLen; omega) (by omega) (by simp; omega) ?_; intro v' w6 hown2 hgrow2 hnil2))
            have O := Lib.hid (own_more hown2 (ints_snoc so k))
            have BB := Lib.hid ((HBB.out.alloc HBB.out.size _).grown hgrow2 (by simp; omega) (fun j hj => (hown.lt j hj).1))
            clear hown2 hgrow2 hnil2 hown
            go_roundw
            case rel => exact ⟨k + 1, mm - 1, z, so ++ [k], by omega, by go_num, rfl, rfl, by rw [← EZ.out]; exact TK.out, O.out, BB.out⟩
            case measure => simp [intOf]; omega
          · have SK := Lib.hid (str_skip ST.out hk2 (fun hh => c2 (HX.out.symm.trans hh.2)))
            have t1 : (x == mm) = false := by simpa using c2
            have O := Lib.hid hown
            clear c2 hown
            go_wp2
            go_roundw
            case rel => exact ⟨k + 1, mm, bb, so, by omega, by go_num, rfl, rfl, SK.out, O.out, HBB.out⟩
            case measure => simp [intOf]; omega
        · have SK := Lib.hid (str_skip ST.out hk2 (fun hh => c1 (by rw [← HZK.out]; exact hh.1)))
          have t1 : decide (bb < z) = false := by simpa using c1
          have O := Lib.hid hown
          clear c1 hown
          go_wp2
          go_roundw
          case rel => exact ⟨k + 1, mm, bb, so, by omega, by go_num, rfl, rfl, SK.out, O.out, HBB.out⟩
          case measure => simp [intOf]; omega
      · have e : k = len := by omega
        have EG := Lib.hid (show stl zs = ints so by
          rw [E.out]
          congr 1
          have h1 := ST.out.1
          rw [e, Nat.sub_self] at h1
          have h2 := SAME.out
          rw [HZ.out] at h2
          rw [← h2, ← h1]
          show so ++ [] = so
          simp)
        have O := Lib.hid (own_eq (Li.own_le hown HB2.out.size) EG.out)
        have BB := Lib.hid (HB2.out.trans (Sh.below_le hb HB2.out.size))
        clear hown hb
        go_wp2
        go_ret2
        exact ⟨_, rfl, O.out, BB.out⟩
def mv (zs : List Int) : Int := if Ns.good zs = true then (zs.length : Int) - (stl zs).length else 0
set_option maxRecDepth 100000 in
set_option maxHeartbeats 1000000 in
theorem iMoves {b1 g len cap : Nat} {zs : List Int} {w : World} (h : Ow w b1 g len cap zs) (hl : len ≤ 1048576) :
    Calls Try.prog 45 #[.slice (some ⟨g, 0, none⟩) len cap] w (Ret (.tuple #[.int .i64 (mv zs), .bool (Ns.good zs)]) w) := by
  have C := iStay h hl
  have hz := ow_len h
  cases hg : Ns.good zs with
  | false =>
    rw [hg] at C
    have HC := Lib.hid C
    have E := Lib.hid (show mv zs = 0 by unfold mv; rw [hg]; rfl)
    rw [E.out]
    clear h C hg hz
    go_enter Try.func45, Try.ntmps45
    go_wp2_with fail
    refine HC.out.mono ?_
    rintro e w1 ⟨v, rfl, o, hb⟩
    have HB := Lib.hid hb
    clear o hb
    go_wp2
    go_ret2
    exact ⟨rfl, HB.out⟩
  | true =>
    rw [hg] at C
    have HC := Lib.hid C
    have E := Lib.hid (show mv zs = (len : Int) - (stl zs).length by unfold mv; rw [hg, hz]; rfl)
    have hs := stl_le zs (by omega)
    rw [E.out]
    clear h C hg hz
    go_enter Try.func45, Try.ntmps45
    go_wp2_with fail
    refine HC.out.mono ?_
    rintro e w1 ⟨v, rfl, o, hb⟩
    have HB := Lib.hid hb
    obtain ⟨n, hn⟩ : ∃ n, (stl zs).length = n := ⟨_, rfl⟩
    rw [hn] at o hs
    have HN := Lib.hid hn
    rcases Li.own_forms o with ⟨rfl, h0⟩ | ⟨go, cp, rfl⟩
    · subst h0
      clear o hb hn
      go_wp2
      go_ret2
      exact ⟨by rw [HN.out]; first | rfl | simp, HB.out⟩
    · clear o hb hn
      go_wp2
      go_ret2
      exact ⟨by rw [HN.out]; first | rfl | simp, HB.out⟩
end So
end Go.Proofs.Ytogkebbgkeffcaa
