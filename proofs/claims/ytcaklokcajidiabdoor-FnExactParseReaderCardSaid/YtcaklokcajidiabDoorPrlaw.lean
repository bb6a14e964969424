/- The law of ParseReader returns true for every string; the library's listed tables and errors are taken to read as its own text lays them, its variable MaxLen as any integer. -/
import Derived.Test.YtcaklokcajidiabDoorPrTb
import Derived.Test.YtcaklokcajidiabDoorPrOb
import Derived.Test.YtcaklokcajidiabDoorPrOe
import Derived.Test.YtcaklokcajidiabDoorPrOn
import Derived.Test.YtcaklokcajidiabDoorPrTe
import Derived.Test.YtcaklokcajidiabDoorPrTn
import Derived.Test.YtcaklokcajidiabDoorPi
namespace Go.Proofs.YtcaklokcajidiabDoor
open Go.RowKit Go.Joins
set_option linter.unusedSimpArgs false
set_option linter.unusedVariables false
namespace P
theorem rdParse_any (l : List UInt8) (hl : l.length ≤ 1048576) (w : World) : Calls Tryd.prog 15 #[.string ⟨l.toArray⟩] w (GivesP l w) := by
  by_cases h11 : l.length ≤ 11
  · by_cases h2 : (sp 43 l).length = 2
    · by_cases h3 : (sp 47 (q1 l)).length < 3
      · have hp := sp_pos 47 (q1 l)
        by_cases h1 : (sp 47 (q1 l)).length = 1
        · by_cases hg : Rd.good (na l) (nb l) (nc l) = true
          · by_cases ht : tl (na l).toNat (nb l).toNat (nc l).toNat = l
            · exact rdP_one_eq l h11 h2 h1 hg ht w
            · exact rdP_one_ne l h11 h2 h1 hg ht w
          · exact rdP_one_bad l h11 h2 h1 (by simpa using hg) w
        · have h22 : (sp 47 (q1 l)).length = 2 := by omega
          by_cases hg : Rd.good (na l) (nb l) (nc l) = true
          · by_cases ht : tl (na l).toNat (nb l).toNat (nc l).toNat = l
            · exact rdP_two_eq l h11 h2 h22 hg ht w
            · exact rdP_two_ne l h11 h2 h22 hg ht w
          · exact rdP_two_bad l h11 h2 h22 (by simpa using hg) w
      · exact rdP_three l h11 h2 h3 w
    · exact rdParse_other l h11 h2 w
  · exact rdParse_long l hl h11 w
set_option maxRecDepth 100000 in
set_option maxHeartbeats 1000000 in
theorem sPR (l : List UInt8) (hl : l.length ≤ 1048576) (w : World) : Calls Tryd.prog 8 #[.string ⟨l.toArray⟩] w (Ans l w) := by
  have C := Lib.hid (fun W => rdParse_any l hl W)
  have hba : Below w.heap.size w (w.alloc (.cells #[.int .i64 0, .int .i64 0, .int .i64 0] 26)) := below_alloc1 _ _
  have T0 := T2.new w
  clear hl
  go_enter Tryd.func8, Tryd.ntmps8
  go_wp2_with fail
  refine (C.out _).mono ?_
  rintro e w1 ⟨a, b, c, ok, rfl, hp, hb⟩
  have T1 := (T0.on hb).alloc (.cells #[.int .i64 a, .int .i64 b, .int .i64 c] 26)
  have HX := Lib.hid ((hba.trans (below_le hb hba.size)).alloc (hba.trans (below_le hb hba.size)).size (.cells #[.int .i64 a, .int .i64 b, .int .i64 c] 26))
  have B := Rw.Bx.new w1 a b c 26
  obtain ⟨_, y0, y1, y2⟩ := id B
  obtain ⟨z0, z1, z2, f0, f1, f2⟩ := T1.facts
  have HP := Lib.hid hp
  clear T0 hba hb hp T1 B
  cases ok with
  | false =>
    have HN := Lib.hid (show ¬ ∃ m d r : Nat, Rd.good m d r = true ∧ tl m d r = l from fun hh => by have := HP.out.2 hh; cases this)
    go_wp2
    exact bodyPost_ret (v := .tuple #[.agg #[.int .i64 0, .int .i64 0, .int .i64 0], .bool false]) (by simp [results, Tryd.results8, go_sem, z0, z1, z2]) rfl (ans_none HN.out (below_set3 HX.out))
  | true =>
    go_wp2
    exact bodyPost_ret (v := .tuple #[.agg #[.int .i64 a, .int .i64 b, .int .i64 c], .bool true]) (by simp [results, Tryd.results8, go_sem, z0, z1, z2]) rfl ⟨a, b, c, true, rfl, HP.out, (fun h => by cases h), below_set3 HX.out⟩
theorem eqReader_same (m d r : Int) (w : World) : Calls Tryd.prog 10 #[.agg #[.int .i64 m, .int .i64 d, .int .i64 r], .agg #[.int .i64 m, .int .i64 d, .int .i64 r]] w (Rw.Ret (.bool true) w) := by
  go_enter Tryd.func10, Tryd.ntmps10
  go_wp2
  go_ret
  exact Rw.ret2 _ _ _ _
theorem nat_of {l : List UInt8} {a b c : Int} (h : Rd.good a b c = true ∧ tl a.toNat b.toNat c.toNat = l) : ∃ m d r : Nat, a = m ∧ b = d ∧ c = r ∧ Rd.good m d r = true ∧ tl m d r = l := by
  have g := Rw.gfacts h.1
  obtain ⟨m, rfl⟩ := Int.eq_ofNat_of_zero_le g.1
  obtain ⟨d, rfl⟩ := Int.eq_ofNat_of_zero_le (show 0 ≤ b by omega)
  obtain ⟨r, rfl⟩ := Int.eq_ofNat_of_zero_le (show 0 ≤ c by omega)
  exact ⟨m, d, r, rfl, rfl, rfl, h.1, by simpa using h.2⟩
theorem agree {l : List UInt8} {a b c a' b' c' : Int} {ok ok' : Bool} (h : Parsed l a b c ok) (h0 : ok = false → a = 0 ∧ b = 0 ∧ c = 0) (h' : Parsed l a' b' c' ok') (h0' : ok' = false → a' = 0 ∧ b' = 0 ∧ c' = 0) : a = a' ∧ b = b' ∧ c = c' ∧ ok = ok' := by
  cases ok with
  | true =>
    obtain ⟨m, d, r, rfl, rfl, rfl, hg, ht⟩ := nat_of (h.1 rfl)
    have e : ok' = true := h'.2 ⟨m, d, r, hg, ht⟩
    subst e
    obtain ⟨m', d', r', rfl, rfl, rfl, hg', ht'⟩ := nat_of (h'.1 rfl)
    obtain ⟨rfl, rfl, rfl⟩ := tl_inj hg hg' (ht.trans ht'.symm)
    exact ⟨rfl, rfl, rfl, rfl⟩
  | false =>
    cases ok' with
    | true =>
      obtain ⟨m', d', r', rfl, rfl, rfl, hg', ht'⟩ := nat_of (h'.1 rfl)
      have := h.2 ⟨m', d', r', hg', ht'⟩
      cases this
    | false =>
      obtain ⟨rfl, rfl, rfl⟩ := h0 rfl
      obtain ⟨rfl, rfl, rfl⟩ := h0' rfl
      exact ⟨rfl, rfl, rfl, rfl⟩
set_option maxRecDepth 100000 in
theorem law_long (s : ByteArray) (hs : (1048576 : Int) < (s.size : Int)) (w : World) :
    Calls Tryd.prog 4 #[.string s] w fun e w' => e = .returned (.bool true) ∧ Below w.heap.size w w' := by
  go_enter Tryd.func4, Tryd.ntmps4
  go_wp2_with fail
  go_ret
  exact ⟨rfl, Below.refl _ _⟩
set_option maxRecDepth 100000 in
set_option maxHeartbeats 1000000 in
theorem law_core (l : List UInt8) (hs : l.length ≤ 1048576) (w : World) (S : ∀ W : World, Calls Tryd.prog 8 #[.string ⟨l.toArray⟩] W (Ans l W))
    (I : ∀ W : World, Below w.heap.size w W → Calls Tryd.prog 9 #[.string ⟨l.toArray⟩] W (Ans l W)) :
    Calls Tryd.prog 4 #[.string ⟨l.toArray⟩] w fun e w' => e = .returned (.bool true) ∧ Below w.heap.size w w' := by
  have HS := Lib.hid S
  have HI := Lib.hid I
  have hdec : decide ((1048576 : Int) < (l.length : Int)) = false := by simp; omega
  clear S I
  go_enter Tryd.func4, Tryd.ntmps4
  go_wp2_with fail
  refine (HS.out _).mono ?_
  rintro e w1 ⟨a, b, c, ok, rfl, p1, z1, b1⟩
  have HB1 := Lib.hid (b1.alloc b1.size (.cells #[.int .i64 a, .int .i64 b, .int .i64 c] 26))
  have B1 := Rw.Bx.new w1 a b c 26
  have P1 := Lib.hid p1
  have Z1 := Lib.hid z1
  clear b1 p1 z1
  go_wp2_with fail
  refine (HI.out _ HB1.out).mono ?_
  rintro e w2 ⟨a', b', c', ok', rfl, p2, z2, b2⟩
  obtain ⟨rfl, rfl, rfl, rfl⟩ := agree P1.out Z1.out p2 z2
  have HB2 := Lib.hid ((HB1.out.trans (below_le b2 HB1.out.size)).alloc (HB1.out.trans (below_le b2 HB1.out.size)).size (.cells #[.int .i64 a, .int .i64 b, .int .i64 c] 26))
  have B2 := (B1.on b2).on (below_alloc1 w2 (.cells #[.int .i64 a, .int .i64 b, .int .i64 c] 26))
  have B3 := Rw.Bx.new w2 a b c 26
  clear p2 z2 P1 Z1 b2 B1 HB1
  obtain ⟨_, x0, x1, x2⟩ := id B2
  obtain ⟨_, y0, y1, y2⟩ := id B3
  cases ok
  all_goals
    go_wp2_with fail
    refine (eqReader_same _ _ _ _).mono ?_
    rintro e w3 ⟨rfl, b3⟩
    have HB3 := Lib.hid (HB2.out.trans (below_le b3 HB2.out.size))
    clear b3
    go_wp2
    go_ret
    exact ⟨rfl, HB3.out⟩
theorem law_string (s : ByteArray) (w : World) (hE : Env w) (hT : TabOn w) :
    Calls Tryd.prog 4 #[.string s] w fun e w' => e = .returned (.bool true) ∧ Below w.heap.size w w' := by
  obtain ⟨l, hl⟩ : ∃ l : List UInt8, s = ⟨l.toArray⟩ := ⟨s.data.toList, by simp⟩
  have hs : s.size = l.length := by rw [hl]; show l.toArray.size = _; simp
  by_cases c1 : 1048576 < s.size
  · exact law_long s (by omega) w
  · subst hl
    refine law_core l (by omega) w (fun W => sPR l (by omega) W) (fun W hb => ?_)
    by_cases c2 : l.length ≤ 11
    · exact iPR_short l c2 W (hE.on hb) (fun W' hb' => hT W' (hb.trans (hb'.mono hb.size)))
    · exact iPR_long l (by omega) c2 W
end P
end Go.Proofs.YtcaklokcajidiabDoor
