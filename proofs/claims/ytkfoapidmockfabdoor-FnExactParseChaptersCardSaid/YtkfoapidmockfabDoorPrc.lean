/- ParseChapters from both sides, and the law's walk: both read the same chapters, or none. -/
import Derived.Test.YtkfoapidmockfabDoorIpa
import Derived.Test.YtkfoapidmockfabDoorCt
namespace Go.Proofs.YtkfoapidmockfabDoor
open Go.RowKit Go.Joins Go.Deep
set_option linter.unusedVariables false
set_option linter.ambiguousOpen false
set_option linter.unusedSimpArgs false
namespace Pc
open P
/-- a text of chapters -/
def Is (l : List UInt8) (zs : List Int) : Prop := Ch.Ok zs ∧ l = jl 43 zs
theorem bd_of {zs : List Int} (h : Ch.Ok zs) : ∀ k, k < zs.length → 0 ≤ zs.getD k 0 ∧ zs.getD k 0 ≤ 200 := fun k hk => by have := h.2.2 k hk; omega
theorem is_read {l : List UInt8} {zs : List Int} (h : Is l zs) : (sp 43 l).map rdS = zs := by
  rw [h.2, sp_jl 43 (by decide) zs h.1.1]
  exact wr_back zs fun k hk => by have := bd_of h.1 k hk; omega
theorem is_one {l : List UInt8} {zs zs' : List Int} (h : Is l zs) (h' : Is l zs') : zs = zs' := (is_read h).symm.trans (is_read h')
theorem is_len {l : List UInt8} {zs : List Int} (h : Is l zs) : l.length ≤ 48 := by
  have a := jl_len 43 zs (bd_of h.1)
  have b := h.1.2.1
  rw [h.2]
  omega
theorem is_atoi {l : List UInt8} {zs zs' : List Int} (h : Is l zs) (hn : zs'.length = (sp 43 l).length) (hz : ∀ k, k < zs'.length → Reads ((sp 43 l).getD k []) (zs'.getD k 0)) : zs' = zs := by
  obtain ⟨h1, rfl⟩ := h
  exact reads_back (by decide) h1.1 (fun k hk => by have := bd_of h1 k hk; omega) hn hz
theorem is_text {l : List UInt8} {zs : List Int} (hg : Ch.good zs = true) : (Ch.ctx zs = ⟨l.toArray⟩) ↔ Is l zs := by
  have ho := (Ch.good_iff zs).1 hg
  rw [Ch.ctx_yes hg, sj_jl 43 zs ho.1]
  constructor
  · intro e
    have e2 := congrArg (fun b : ByteArray => b.data.toList) e
    simp at e2
    exact ⟨ho, e2.symm⟩
  · intro h
    rw [h.2]
/-- the chapters of a text, or none -/
def Ans (l : List UInt8) (W : World) (e : Ending) (w' : World) : Prop := ∃ ok os, Li.Gives ok os W e w' ∧ (ok = true → Is l os) ∧ (ok = false → os = [] ∧ ∀ zs, ¬ Is l zs)
theorem agree {l : List UInt8} {ok ok' : Bool} {os os' : List Int} (h1 : ok = true → Is l os) (h2 : ok = false → os = [] ∧ ∀ zs, ¬ Is l zs) (h1' : ok' = true → Is l os') (h2' : ok' = false → os' = [] ∧ ∀ zs, ¬ Is l zs) : ok' = ok ∧ os' = os := by
  cases ok <;> cases ok'
  · exact ⟨rfl, (h2' rfl).1.trans (h2 rfl).1.symm⟩
  · exact absurd (h1' rfl) ((h2 rfl).2 _)
  · exact absurd (h1 rfl) ((h2' rfl).2 _)
  · exact ⟨rfl, is_one (h1' rfl) (h1 rfl)⟩
theorem os_short {l : List UInt8} {ok : Bool} {os : List Int} (h1 : ok = true → Is l os) (h2 : ok = false → os = [] ∧ ∀ zs, ¬ Is l zs) : os.length ≤ 12 := by
  cases ok
  · rw [(h2 rfl).1]; simp
  · exact (h1 rfl).1.2.1
theorem tl_eq {a : ByteArray} {l : List UInt8} (h : a = ⟨l.toArray⟩) : (a.toList == l) = true := by
  rw [h, Lib.toList_data]
  simp
theorem tl_ne {a : ByteArray} {l : List UInt8} (h : a ≠ ⟨l.toArray⟩) : (a.toList == l) = false := by
  rw [beq_eq_false_iff_ne]
  intro e
  apply h
  rw [Lib.toList_data] at e
  apply ByteArray.ext
  apply Array.toList_inj.1
  rw [e]
theorem size_mk (l : List UInt8) : ((⟨l.toArray⟩ : ByteArray).size : Int) = (l.length : Int) := by show (l.toArray.size : Int) = _; simp
theorem no_ans {l : List UInt8} {W w' : World} (h : ∀ zs, ¬ Is l zs) (hb : Below W.heap.size W w') : Ans l W (.returned (.tuple #[.slice none 0 0, .bool false])) w' :=
  ⟨false, [], Li.Gives.none hb, (fun h => by cases h), fun _ => ⟨rfl, h⟩⟩
theorem nums_next (L : List (List UInt8)) (k : Nat) (q : List UInt8) (hk : k < L.length) (hq : L.getD k [] = q) : Li.nums ((L.map rdS).take (k + 1)) = Li.nums ((L.map rdS).take k) ++ [.int .i64 (rdS q)] := by
  rw [List.take_succ_eq_append_getElem (by simpa using hk)]
  simp [Li.nums]
  rw [← hq]
  simp [List.getD, hk]
set_option maxRecDepth 100000 in
set_option maxHeartbeats 4000000 in
theorem sParse (l : List UInt8) (hl : l.length ≤ 1048576) (w : World) : Calls Tryd.prog 23 #[.string ⟨l.toArray⟩] w (Ans l w) := by
  have hsz := size_mk l
  by_cases h48 : l.length ≤ 48
  · have d1 : decide ((48 : Int) < (l.length : Int)) = false := by simp; omega
    have S1 := Lib.hid (l1Split_any l 43 hl w)
    have HP := Lib.hid (sp_part 43 l)
    have RP := Lib.hid (fun (q : List UInt8) (hq : q ∈ sp 43 l) (W : World) => l1Read_any q (by have := HP.out q hq; omega) W)
    have hn1 := sp_pos 43 l
    have hn2 := sp_le 43 l
    have HI := Lib.hid (fun (zs : List Int) (h : Is l zs) => is_read h)
    obtain ⟨L, hL⟩ : ∃ L, sp 43 l = L := ⟨_, rfl⟩
    rw [hL] at S1 RP hn1 hn2 HI
    obtain ⟨n, hn⟩ : ∃ n, L.length = n := ⟨_, rfl⟩
    rw [hn] at S1 hn1 hn2
    have HN := Lib.hid hn
    have EM := Lib.hid (show (L.map rdS).length = n by rw [List.length_map, hn])
    obtain ⟨i0, hi, hz0, hz1, hz2⟩ := info_parts Li.info3
    have hn49 : n ≤ 49 := by omega
    clear hL hn HP
    go_enter Tryd.func23, Tryd.ntmps23
    go_wp2_with fail
    refine S1.out.mono ?_
    rintro e w1 ⟨v1, rfl, o1, hb⟩
    rcases Li.own_forms o1 with ⟨_, h0⟩ | ⟨g1, cp1, rfl⟩
    · omega
    have HB1 := Lib.hid hb
    have O1 := Lib.hid o1
    have hg1 := Lib.hid (o1.lt g1 rfl)
    clear hb o1
    go_wp2_with fail
    go_loopw [4, 13] (fun p i wr => ∃ k : Nat, k ≤ n ∧ i = .int .i64 (k : Int) ∧ wr.ownsRow w1.heap.size 3 1 p k (Li.nums ((L.map rdS).take k)) ∧ wr.ownsRow w.heap.size 9 1 (.slice (some ⟨g1, 0, none⟩) n cp1) n (strs L) ∧ Below w.heap.size w wr ∧ w1.heap.size ≤ wr.heap.size) (fun _ i _ => ((n : Int) - intOf i).toNat)
    case atStart => exact ⟨0, by omega, rfl, World.ownsRow_nil _ _ _ _, O1.out, HB1.out, Nat.le_refl _⟩
    case round =>
      obtain ⟨k, hk, rfl, hown, hparts, hb, hsz2⟩ := hrel
      have HB := Lib.hid hb
      clear hb
      by_cases hlt : (k : Int) < n
      · have hk2 : k < n := by omega
        obtain ⟨q, HQK, hcq⟩ := part_at hparts HN.out hk2
        have hqL : q ∈ L := by rw [← HQK.out]; exact getD_mem L k (by rw [HN.out]; omega)
        obtain ⟨z, hz⟩ : ∃ z, rdS q = z := ⟨_, rfl⟩
        have C1 := Lib.hid (RP.out q hqL)
        rw [hz] at C1
        have NX := Lib.hid (nums_next L k q (by rw [HN.out]; omega) HQK.out)
        rw [hz] at NX
        have HPw := Lib.hid (World.ownsRow.alloc hparts (.cells #[.int .i64 z] 3))
        have hbB := HB.out.size
        clear hparts hz
        go_wp2_with (first | (go_at_call 51; refine (C1.out _).mono ?_; rintro e w' ⟨rfl, rfl⟩) | (at_builtin; refine wpList_append_own _ rfl _ _ 26 rfl w1.heap.size 3 i0 (.int .i64 0) 1 8 Tryd.underlying26 hi hz0 hz1 hz2 rfl (by decide) _ _ _ rfl (hown.alloc _) ⟨wr.heap.size, 0, none⟩ 1 1 [.int .i64 z] rfl rfl (cell_one_new _ _ _) (fun x hx => by simp at hx; subst hx; rfl) (by unfold maxLen; omega) (by omega) (by simp; omega) ?_; intro v3 w3 hown3 hgrow3 _))
        have HB4 := Lib.hid (Below.grown (HB.out.alloc HB.out.size (.cells #[.int .i64 z] 3)) hgrow3 (by simp; omega) (fun j hj => by have := (hown.lt j hj).1; have := hg1.out.2; have := HB1.out.size; omega))
        have HP3 := Lib.hid (HPw.out.kept hgrow3 (_root_.Or.inr (fun e => by have := (hown.lt g1 e.symm).1; have := hg1.out.2; omega)))
        have HS3 := Lib.hid (show w1.heap.size ≤ w3.heap.size by have := hgrow3.size; simp at this; omega)
        have HO3 := Lib.hid (show w3.ownsRow w1.heap.size 3 1 v3 (k + 1) (Li.nums ((L.map rdS).take (k + 1))) by rw [NX.out]; exact hown3)
        clear hown3 hgrow3 hown
        go_roundw
        case rel => exact ⟨k + 1, by omega, by go_num, HO3.out, HP3.out, HB4.out, HS3.out⟩
        case measure => simp [intOf]; omega
      · have ek : k = n := by omega
        subst ek
        rcases Li.own_forms hown with ⟨_, h0⟩ | ⟨gz, cz, rfl⟩
        · omega
        have et : (L.map rdS).take k = L.map rdS := List.take_of_length_le (by rw [EM.out]; exact Nat.le_refl _)
        rw [et] at hown
        have hs1 := HB1.out.size
        have HOW := Lib.hid (show Sh.Ow wr w.heap.size gz k cz (L.map rdS) from Li.own_le hown hs1)
        clear hown hparts et
        obtain ⟨os, hos⟩ : ∃ os, L.map rdS = os := ⟨_, rfl⟩
        rw [hos] at HOW EM HI
        clear hos
        cases hg : Ch.good os with
        | false =>
          have HG := Lib.hid hg
          have NO := Lib.hid (show ∀ zs, ¬ Is l zs from fun zs h => by
            have e := HI.out zs h
            have := (Ch.good_iff zs).2 h.1
            rw [← e, hg] at this
            cases this)
          clear hg
          go_wp2_with (first | (go_at_call 43; refine (Ch.sGood_any HOW.out (by omega) false HG.out).mono ?_; rintro e w' ⟨rfl, rfl⟩))
          go_ret2
          exact no_ans NO.out HB.out
        | true =>
          have HG := Lib.hid hg
          have HN2 := Lib.hid (Ch.nb_of ((Ch.good_iff os).1 hg))
          have ET := Lib.hid (show Jn.sj 43 os k = Ch.ctx os by rw [Ch.ctx_yes hg, EM.out])
          have IT := Lib.hid (is_text (l := l) hg)
          obtain ⟨T, hT⟩ : ∃ T, Jn.sj 43 os k = T := ⟨_, rfl⟩
          have CT := Lib.hid (Ch.caText_any HOW.out HN2.out)
          rw [hT] at CT ET
          clear hg hT
          by_cases ht : T = ⟨l.toArray⟩
          · have IS := Lib.hid (IT.out.1 (by rw [← ET.out]; exact ht))
            have q9 := tl_eq ht
            clear ht
            go_wp2_with (first | (go_at_call 43; refine (Ch.sGood_any HOW.out (by omega) true HG.out).mono ?_; rintro e w' ⟨rfl, rfl⟩) | (go_at_call 47; refine CT.out.mono ?_; rintro e w5 ⟨rfl, hb5⟩))
            have HO5 := Lib.hid (Li.own_on HOW.out hb5)
            have HB5 := Lib.hid (HB.out.trans (Sh.below_le hb5 HB.out.size))
            clear hb5
            go_ret2
            exact ⟨true, os, ⟨_, rfl, by rw [EM.out]; exact HO5.out, HB5.out⟩, fun _ => IS.out, fun h => by cases h⟩
          · have NO := Lib.hid (show ∀ zs, ¬ Is l zs from fun zs h => ht (by
              have e := HI.out zs h
              subst e
              rw [ET.out]
              exact IT.out.2 h))
            have q9 := tl_ne ht
            clear ht
            go_wp2_with (first | (go_at_call 43; refine (Ch.sGood_any HOW.out (by omega) true HG.out).mono ?_; rintro e w' ⟨rfl, rfl⟩) | (go_at_call 47; refine CT.out.mono ?_; rintro e w5 ⟨rfl, hb5⟩))
            have HB5 := Lib.hid (HB.out.trans (Sh.below_le hb5 HB.out.size))
            clear hb5
            go_ret2
            exact no_ans NO.out HB5.out
  · have d1 : decide ((48 : Int) < (l.length : Int)) = true := by simp; omega
    have NO := Lib.hid (show ∀ zs, ¬ Is l zs from fun zs h => h48 (is_len h))
    clear h48
    go_enter Tryd.func23, Tryd.ntmps23
    go_wp2
    go_ret2
    exact no_ans NO.out (Below.refl _ _)
set_option maxRecDepth 100000 in
set_option maxHeartbeats 4000000 in
theorem iParse (l : List UInt8) (hl : l.length ≤ 1048576) (w : World) (hE : Env w) (hT0 : TabOn w) : Calls Tryd.prog 24 #[.string ⟨l.toArray⟩] w (Ans l w) := by
  have hsz := size_mk l
  by_cases h48 : l.length ≤ 48
  · have d1 : decide ((48 : Int) < (l.length : Int)) = false := by simp; omega
    have S1 := Lib.hid (numbers_any 43 l (by omega) w hE)
    have HI := Lib.hid (fun (zs zs' : List Int) (h : Is l zs) (hn : zs'.length = (sp 43 l).length) (hz : ∀ k, k < zs'.length → Reads ((sp 43 l).getD k []) (zs'.getD k 0)) => is_atoi h hn hz)
    have hn1 := sp_pos 43 l
    have hn2 := sp_le 43 l
    have HT := Lib.hid hT0
    unfold Sn at S1
    obtain ⟨L, hL⟩ : ∃ L, sp 43 l = L := ⟨_, rfl⟩
    rw [hL] at S1 HI hn1 hn2
    obtain ⟨n, hn⟩ : ∃ n, L.length = n := ⟨_, rfl⟩
    rw [hn] at S1 HI hn1 hn2
    clear hL hn hE hT0
    go_enter Tryd.func24, Tryd.ntmps24
    go_wp2_with fail
    refine S1.out.mono ?_
    rintro e w1 ⟨g1, cp1, zs, rfl, o1, ⟨hzn, hzr⟩, hb⟩
    have HB := Lib.hid hb
    have HOW := Lib.hid o1
    have RR := Lib.hid (fun (zs' : List Int) (h : Is l zs') => HI.out zs' zs h hzn hzr)
    have EM := Lib.hid hzn
    have CI := Lib.hid (Ch.iText (tabOn_next HT.out HB.out) HOW.out (by omega))
    clear hzn hzr hb o1
    cases hg : Ch.good zs with
    | false =>
      have NO := Lib.hid (show ∀ zs', ¬ Is l zs' from fun zs' h => by
        have e := RR.out zs' h
        have := (Ch.good_iff zs').2 h.1
        rw [← e, hg] at this
        cases this)
      have ET := Ch.ctx_no hg
      rw [ET, hg] at CI
      clear hg ET
      go_wp2_with fail
      refine CI.out.mono ?_
      rintro e w2 ⟨rfl, hb⟩
      have HB2 := Lib.hid (HB.out.trans (Sh.below_le hb HB.out.size))
      clear hb
      go_wp2
      go_ret2
      exact no_ans NO.out HB2.out
    | true =>
      have IT := Lib.hid (is_text (l := l) hg)
      obtain ⟨T, hT⟩ : ∃ T, Ch.ctx zs = T := ⟨_, rfl⟩
      rw [hT, hg] at CI
      rw [hT] at IT
      have HTq := Lib.hid hT
      clear hg hT
      by_cases ht : T = ⟨l.toArray⟩
      · have IS := Lib.hid (IT.out.1 ht)
        have q9 := tl_eq ht
        clear ht
        go_wp2_with fail
        refine CI.out.mono ?_
        rintro e w2 ⟨rfl, hb⟩
        have HO5 := Lib.hid (Li.own_on HOW.out hb)
        have HB2 := Lib.hid (HB.out.trans (Sh.below_le hb HB.out.size))
        clear hb
        go_wp2
        go_ret2
        exact ⟨true, zs, ⟨_, rfl, by rw [EM.out]; exact HO5.out, HB2.out⟩, fun _ => IS.out, fun h => by cases h⟩
      · have NO := Lib.hid (show ∀ zs', ¬ Is l zs' from fun zs' h => ht (by
          have e := RR.out zs' h
          subst e
          exact IT.out.2 h))
        have q9 := tl_ne ht
        clear ht
        go_wp2_with fail
        refine CI.out.mono ?_
        rintro e w2 ⟨rfl, hb⟩
        have HB2 := Lib.hid (HB.out.trans (Sh.below_le hb HB.out.size))
        clear hb
        go_wp2
        go_ret2
        exact no_ans NO.out HB2.out
  · have d1 : decide ((48 : Int) < (l.length : Int)) = true := by simp; omega
    have NO := Lib.hid (show ∀ zs, ¬ Is l zs from fun zs h => h48 (is_len h))
    clear h48
    go_enter Tryd.func24, Tryd.ntmps24
    go_wp2
    go_ret2
    exact no_ans NO.out (Below.refl _ _)
set_option maxRecDepth 100000 in
theorem law_long (s : ByteArray) (hs : (1048576 : Int) < (s.size : Int)) (w : World) :
    Calls Tryd.prog 6 #[.string s] w fun e w' => e = .returned (.bool true) ∧ Below w.heap.size w w' := by
  have hs2 : 1048576 < s.size := by omega
  go_enter Tryd.func6, Tryd.ntmps6
  go_wp2_with fail
  go_ret
  exact ⟨rfl, Below.refl _ _⟩
set_option maxRecDepth 100000 in
set_option maxHeartbeats 2000000 in
theorem law_core (l : List UInt8) (hs : l.length ≤ 1048576) (w : World) (S : ∀ W : World, Calls Tryd.prog 23 #[.string ⟨l.toArray⟩] W (Ans l W))
    (I : ∀ W : World, Below w.heap.size w W → Calls Tryd.prog 24 #[.string ⟨l.toArray⟩] W (Ans l W)) :
    Calls Tryd.prog 6 #[.string ⟨l.toArray⟩] w fun e w' => e = .returned (.bool true) ∧ Below w.heap.size w w' := by
  have HS := Lib.hid S
  have HI := Lib.hid I
  have hsz := size_mk l
  have hdec : decide ((1048576 : Int) < (l.length : Int)) = false := by simp; omega
  clear S I
  go_enter Tryd.func6, Tryd.ntmps6
  go_wp2_with fail
  refine (HS.out _).mono ?_
  rintro e w1 ⟨ok, os, ⟨v3, rfl, o1, hb⟩, h1, h2⟩
  have H1 := Lib.hid h1
  have H2 := Lib.hid h2
  have HB1 := Lib.hid hb
  have HV3 := Lib.hid (show ∀ k, v3.ownBlock = some k → k < w1.heap.size from fun k hk => (o1.lt k hk).2)
  have s1 := o1
  clear hb h1 h2 o1
  go_wp2_with fail
  refine (HI.out _ HB1.out).mono ?_
  rintro e w2 ⟨ok', os', ⟨v5, rfl, i2, hb⟩, h1', h2'⟩
  obtain ⟨e1, e2⟩ := agree H1.out H2.out h1' h2'
  subst e1 e2
  clear h1' h2'
  have ho12 := os_short H1.out H2.out
  have ho : os'.length ≤ 1048576 := by omega
  have hl2 : (0 : Int) ≤ os'.length := by omega
  have hl3 : (os'.length : Int) ≤ 1048576 := by omega
  have HV5 := Lib.hid (show ∀ k, v5.ownBlock = some k → w1.heap.size ≤ k from fun k hk => (i2.lt k hk).1)
  have HD := Lib.hid (show (Value.ownBlock v3 = none ∨ v3.ownBlock ≠ v5.ownBlock) by
    cases h : v3.ownBlock with
    | none => exact _root_.Or.inl rfl
    | some q => exact _root_.Or.inr (fun e => by have a := HV3.out q h; have b := HV5.out q e.symm; omega))
  have HB2 := Lib.hid (HB1.out.trans (Sh.below_le hb HB1.out.size))
  have hw1 : w.heap.size ≤ w1.heap.size := HB1.out.size
  have s2 := Li.own_on s1 hb
  clear hb s1 HB1
  go_wp2_with fail
  refine (Li.eqIntS_own i2 s2 ho).mono ?_
  rintro e w3 ⟨rfl, hb⟩
  have s3 := Li.own_on s2 hb
  have i3 := Li.own_on i2 hb
  have HB3 := Lib.hid (HB2.out.trans (Sh.below_le hb HB2.out.size))
  clear hb s2 i2 HB2
  go_wp2_with fail
  refine (Li.markIntS_own i3 ho).mono ?_
  rintro e w4 ⟨rfl, m4, gm⟩
  have s4 := s3.kept gm HD.out
  have HB4 := Lib.hid (HB3.out.grown gm HB3.out.size (fun j hj => by have := HV5.out j hj; omega))
  clear gm s3 i3 HB3
  go_wp2_with fail
  refine (Li.heldIntS_own m4 ho).mono ?_
  rintro e w' ⟨rfl, rfl⟩
  go_wp2_with fail
  refine (HI.out _ HB4.out).mono ?_
  rintro e w6 ⟨ok2, os2, ⟨v6, rfl, i6, hb⟩, h1', h2'⟩
  obtain ⟨e1, e2⟩ := agree H1.out H2.out h1' h2'
  subst e1 e2
  clear h1' h2'
  have s6 := Li.own_on s4 hb
  have m6 := Li.own_on m4 hb
  have HB6 := Lib.hid (HB4.out.trans (Sh.below_le hb HB4.out.size))
  clear hb s4 m4 HB4
  go_wp2_with fail
  refine (Li.eqIntS_own i6 s6 ho).mono ?_
  rintro e w7 ⟨rfl, hb⟩
  have m7 := Li.own_on m6 hb
  have HB7 := Lib.hid (HB6.out.trans (Sh.below_le hb HB6.out.size))
  clear hb m6 s6 i6 HB6
  go_wp2_with fail
  refine (Li.heldIntS_own m7 ho).mono ?_
  rintro e w' ⟨rfl, rfl⟩
  go_wp2
  go_ret
  exact ⟨rfl, HB7.out⟩
theorem law_string (s : ByteArray) (w : World) (hE : Env w) (hT : TabOn w) :
    Calls Tryd.prog 6 #[.string s] w fun e w' => e = .returned (.bool true) ∧ Below w.heap.size w w' := by
  obtain ⟨l, hl⟩ : ∃ l : List UInt8, s = ⟨l.toArray⟩ := ⟨s.data.toList, by simp⟩
  have hs : s.size = l.length := by rw [hl]; show l.toArray.size = _; simp
  by_cases c1 : 1048576 < s.size
  · exact law_long s (by omega) w
  · subst hl
    exact law_core l (by omega) w (fun W => sParse l (by omega) W) (fun W hb => iParse l (by omega) W (hE.on hb) (tabOn_next hT hb))
end Pc
end Go.Proofs.YtkfoapidmockfabDoor
