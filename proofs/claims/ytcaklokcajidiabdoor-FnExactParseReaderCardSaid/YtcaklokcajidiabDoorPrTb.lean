/- What spec.ParseReader's parse answers in one of its cases. -/
import Derived.Test.YtcaklokcajidiabDoorPr
namespace Go.Proofs.YtcaklokcajidiabDoor
open Go.RowKit Go.Joins
set_option linter.unusedSimpArgs false
set_option linter.unusedVariables false
namespace P
set_option maxRecDepth 100000 in
set_option maxHeartbeats 4000000 in
theorem rdP_two_bad (l : List UInt8) (hl : l.length ≤ 11) (h : (sp 43 l).length = 2) (hn : (sp 47 (q1 l)).length = 2) (hg : Rd.good (na l) (nb l) (nc l) = false) (w : World) : Calls Tryd.prog 15 #[.string ⟨l.toArray⟩] w (GivesP l w) := by
  have hdec : decide ((11 : Int) < (l.length : Int)) = false := by simp; omega
  have S := Lib.hid (fun W => l1Split_any l 43 (by omega) W)
  obtain ⟨p0, hp0⟩ : ∃ p, (sp 43 l).getD 0 [] = p := ⟨_, rfl⟩
  obtain ⟨p1, hp1⟩ : ∃ p, q1 l = p := ⟨_, rfl⟩
  have k0 : p0.length ≤ 11 := by have := sp_part 43 l p0 (by rw [← hp0]; exact getD_mem _ 0 (by omega)); omega
  have k1 : p1.length ≤ 11 := by have := sp_part 43 l p1 (by rw [← hp1]; exact getD_mem _ 1 (by omega)); omega
  have S2 := Lib.hid (fun W => l1Split_any p1 47 (by omega) W)
  obtain ⟨r0, hr0⟩ : ∃ p, (sp 47 p1).getD 0 [] = p := ⟨_, rfl⟩
  have j0 : r0.length ≤ 11 := by have := sp_part 47 p1 r0 (by rw [← hr0]; exact getD_mem _ 0 (sp_pos 47 p1)); omega
  have hna : na l = rdS p0 := by unfold na; rw [hp0]
  have hnb : nb l = rdS r0 := by unfold nb; rw [hp1, hr0]
  obtain ⟨r1, hr1⟩ : ∃ p, (sp 47 p1).getD 1 [] = p := ⟨_, rfl⟩
  have hnc : nc l = rdS r1 := by unfold nc; rw [if_pos hn, hp1, hr1]
  have j1 : r1.length ≤ 11 := by have := sp_part 47 p1 r1 (by rw [← hr1]; exact getD_mem _ 1 (by rw [← hp1]; omega)); omega
  have HPP := Lib.hid (show Parsed l (na l) (nb l) (nc l) false from parsed_of (iff_of_false (by decide) (fun hh => by rw [hg] at hh; exact absurd hh.2.1 (by decide))))
  rw [hp1] at hn
  generalize na l = a at *
  generalize nb l = b at *
  generalize nc l = c at *
  have L1 := Lib.hid (fun W => hna ▸ l1Read_any p0 (by omega) W)
  have L2 := Lib.hid (fun W => hnb ▸ l1Read_any r0 (by omega) W)
  have L3 := Lib.hid (fun W => hnc ▸ l1Read_any r1 (by omega) W)
  have HG := Lib.hid hg
  have hn0 : 0 < 2 := by omega
  have HN := Lib.hid hn
  have H2 := Lib.hid h
  have HP0 := Lib.hid hp0
  have HP1 := Lib.hid (show (sp 43 l).getD 1 [] = p1 from hp1)
  have HR0 := Lib.hid hr0
  have HR1 := Lib.hid hr1
  have HNC := Lib.hid hnc
  clear h hn hp0 hr0 k0 k1 j0 hna hnb hr1 j1 hg hp1 hnc
  have hba : Below w.heap.size w (w.alloc (.cells #[.int .i64 0, .int .i64 0, .int .i64 0] 26)) := below_alloc1 _ _
  have T0 := T2.new w
  go_enter Tryd.func15, Tryd.ntmps15
  go_wp2_with fail
  refine (S.out _).mono ?_
  rintro e w1 ⟨v, rfl, ho, hb⟩
  rw [H2.out] at ho
  obtain ⟨g1, cap1, rfl, _, hg1⟩ := World.ownsRow.form ho (by omega)
  have c0 : w1.cell? ⟨g1, 0, none⟩ = some (.string ⟨p0.toArray⟩) := by rw [ho.cellAt 0 (by omega), strs_at _ 0 (by rw [H2.out]; omega), HP0.out]
  have c1 : w1.cell? ⟨g1, 1, none⟩ = some (.string ⟨p1.toArray⟩) := by rw [ho.cellAt 1 (by omega), strs_at _ 1 (by rw [H2.out]; omega), HP1.out]
  have T1 := T0.on hb
  have HX1 := Lib.hid (hba.trans (below_le hb hba.size))
  clear ho hb T0 hba
  go_wp2_with fail
  refine (S2.out _).mono ?_
  rintro e w2 ⟨v2, rfl, ho2, hb2⟩
  rw [HN.out] at ho2
  obtain ⟨g2, cap2, rfl, _, hg2⟩ := World.ownsRow.form ho2 hn0
  have d0 : w2.cell? ⟨g2, 0, none⟩ = some (.string ⟨r0.toArray⟩) := by rw [ho2.cellAt 0 (by omega), strs_at _ 0 (by rw [HN.out]; omega), HR0.out]
  have d1 : w2.cell? ⟨g2, 1, none⟩ = some (.string ⟨r1.toArray⟩) := by rw [ho2.cellAt 1 (by omega), strs_at _ 1 (by rw [HN.out]; omega), HR1.out]
  have c0' : w2.cell? ⟨g1, 0, none⟩ = some (.string ⟨p0.toArray⟩) := (hb2.cell (p := ⟨g1, 0, none⟩) hg1).trans c0
  have HX2 := Lib.hid (HX1.out.trans (below_le hb2 HX1.out.size))
  have TT2 := T1.on hb2
  clear ho2 hb2 c0 c1 T1
  go_upto_region 5 with fail
  go_cut [6] (fun s6 wx => s6 = .pointer (some ⟨w2.heap.size, 0, none⟩) ∧ wx = (w2.alloc (.cells #[.int .i64 a, .int .i64 b, .int .i64 0] 26)).drew)
  case first =>
    go_region_held3 (fun w' => w'.cell? ⟨g1, 0, none⟩ = some (.string ⟨p0.toArray⟩) ∧ w'.cell? ⟨g2, 0, none⟩ = some (.string ⟨r0.toArray⟩))
      (first | exact ⟨c0', d0⟩ | go_keep)
      (first
        | (go_at_call_of 24 p0; refine (L1.out _).mono ?_; rintro e w4 ⟨rfl, rfl⟩)
        | (go_at_call_of 24 r0; refine (L2.out _).mono ?_; rintro e w5 ⟨rfl, rfl⟩))
    all_goals (go_wp2_with fail; go_meet; exact ⟨rfl, rfl⟩)
  case rest =>
    obtain ⟨rfl, rfl⟩ := hcut
    have HC := Lib.hid (show c = c from rfl)
    go_wp2_with fail
    refine (L3.out _).mono ?_
    rintro e w3 ⟨rfl, rfl⟩
    have B := Rw.Bx.new w2 a b c 26
    have T := TT2.alloc (.cells #[.int .i64 a, .int .i64 b, .int .i64 c] 26)
    have HX := Lib.hid (HX2.out.alloc HX2.out.size (.cells #[.int .i64 a, .int .i64 b, .int .i64 c] 26))
    obtain ⟨_, q0, q1, q2⟩ := id B
    obtain ⟨z0, z1, z2, f0, f1, f2⟩ := T.facts
    have TTT := Lib.hid TT2
    clear c0' d0 TT2 d1
    go_upto_region 8 with fail
    first
      | (go_region_with (first | (go_at_call 11; refine (Rw.rdGood_any _ _ _ _ HG.out _).mono ?_; rintro e w6 ⟨rfl, hb6⟩; have B6 := bx_onh B hb6 rfl; have T6 := T2.onh T hb6 rfl; have X6 := Lib.hid (below_onh HX.out HX.out.size hb6 rfl rfl rfl rfl); clear hb6; obtain ⟨_, q60, q61, q62⟩ := id B6; obtain ⟨z60, z61, z62, f60, f61, f62⟩ := T6.facts) | fail))
      | fail
    all_goals
      go_wp2_with fail
      exact bodyPost_ret (v := .tuple #[.agg #[.int .i64 a, .int .i64 b, .int .i64 c], .bool false]) (by simp [results, Tryd.results15, go_sem, z60, z61, z62]) rfl ⟨a, b, c, false, rfl, HPP.out, by first | with_reducible exact below_set3 X6.out | with_reducible exact (below_set3 X6.out).drew | with_reducible exact (below_set3 X6.out).drew.drew⟩
end P
end Go.Proofs.YtcaklokcajidiabDoor
