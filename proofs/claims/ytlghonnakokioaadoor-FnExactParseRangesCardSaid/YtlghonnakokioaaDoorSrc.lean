/- A range's short text from both sides: ShortRange of the model and of the program. -/
import Derived.Test.YtlghonnakokioaaDoorSrb
namespace Go.Proofs.YtlghonnakokioaaDoor
open Go.RowKit Go.Joins Go.Deep Go.ChangeShapes Go.WideShapes
set_option linter.unusedVariables false
set_option linter.unusedSimpArgs false
namespace Sr
open P Rg Gm
/-- the text, of a range or of none -/
def stx (f t : Int) : ByteArray := if rng f t = true then ⟨(sh f.toNat t.toNat).toArray⟩ else ByteArray.empty
theorem stx_yes {f t : Int} (h : rng f t = true) : stx f t = ⟨(sh f.toNat t.toNat).toArray⟩ := if_pos h
theorem stx_no {f t : Int} (h : rng f t = false) : stx f t = ByteArray.empty := by unfold stx; rw [h]; rfl
theorem nat_of {f t : Int} (h : rng f t = true) : ∃ F T : Nat, f = (F : Int) ∧ t = (T : Int) ∧ 1 ≤ F ∧ F ≤ T ∧ T ≤ 2000 := by
  have := (rng_iff f t).1 h
  exact ⟨f.toNat, t.toNat, by omega, by omega, by omega, by omega, by omega⟩
set_option maxRecDepth 100000 in
set_option maxHeartbeats 2000000 in
theorem sShort (f t : Int) (w : World) :
    Calls Tryd.prog 9 #[.agg #[.int .i64 f, .int .i64 t]] w fun e w' => e = .returned (.tuple #[.string (stx f t), .bool (rng f t)]) ∧ Below w.heap.size w w' := by
  cases hr : rng f t with
  | false =>
    have CR := Lib.hid (fun W => Gw.ixRange_any f t false hr W)
    rw [stx_no hr]
    have X := B2.new w (.int .i64 f) (.int .i64 t) 26
    have ba := below_alloc1 w (.cells #[.int .i64 f, .int .i64 t] 26)
    obtain ⟨-, x0, x1⟩ := id X
    clear hr
    go_enter Tryd.func9, Tryd.ntmps9
    go_wp2_with fail
    refine (CR.out _).mono ?_
    rintro e w1 ⟨rfl, hb1⟩
    go_wp2
    go_ret2
    exact ⟨rfl, below_next ba hb1⟩
  | true =>
    have CR := Lib.hid (fun W => Gw.ixRange_any f t true hr W)
    rw [stx_yes hr]
    obtain ⟨F, T, rfl, rfl, h1, h2, h3⟩ := nat_of hr
    have CS := Lib.hid (fun W => ixShort_any F T (by omega) h3 W)
    have X := B2.new w (.int .i64 (F : Int)) (.int .i64 (T : Int)) 26
    have ba := below_alloc1 w (.cells #[.int .i64 (F : Int), .int .i64 (T : Int)] 26)
    obtain ⟨-, x0, x1⟩ := id X
    clear hr
    go_enter Tryd.func9, Tryd.ntmps9
    go_wp2_with fail
    refine (CR.out _).mono ?_
    rintro e w1 ⟨rfl, hb1⟩
    have X1 := X.on hb1
    obtain ⟨-, y0, y1⟩ := id X1
    go_wp2_with fail
    refine (CS.out _).mono ?_
    rintro e w2 ⟨rfl, hb2⟩
    go_wp2
    go_ret2
    exact ⟨rfl, below_next (below_next ba hb1) hb2⟩
set_option maxRecDepth 100000 in
set_option maxHeartbeats 2000000 in
theorem iShort (f t : Int) (w : World) (hT : TabOn w) :
    Calls Tryd.prog 11 #[.agg #[.int .i64 f, .int .i64 t]] w fun e w' => e = .returned (.tuple #[.string (stx f t), .bool (rng f t)]) ∧ Below w.heap.size w w' := by
  cases hr : rng f t with
  | false =>
    have CR := Lib.hid (fun W => Gw.isRange_any f t false hr W)
    rw [stx_no hr]
    have X := B2.new w (.int .i64 f) (.int .i64 t) 26
    have ba := below_alloc1 w (.cells #[.int .i64 f, .int .i64 t] 26)
    obtain ⟨-, x0, x1⟩ := id X
    clear hr
    go_enter Tryd.func11, Tryd.ntmps11
    go_wp2_with fail
    refine (CR.out _).mono ?_
    rintro e w1 ⟨rfl, hb1⟩
    go_wp2
    go_ret2
    exact ⟨rfl, below_next ba hb1⟩
  | true =>
    have CR := Lib.hid (fun W => Gw.isRange_any f t true hr W)
    rw [stx_yes hr]
    obtain ⟨f, t, rfl, rfl, h1, h2, h3⟩ := nat_of hr
    rw [Int.toNat_natCast, Int.toNat_natCast]
    have hf : f ≤ 2000 := by omega
    have HT := Lib.hid hT
    have CF := Lib.hid (fun W h => itoa_any f (by omega) W (HT.out W h))
    have CT := Lib.hid (fun W h => itoa_any t (by omega) W (HT.out W h))
    have hlf := (decN_short f hf).1
    have hlt := (decN_short t h3).1
    have X := B2.new w (.int .i64 (f : Int)) (.int .i64 (t : Int)) 26
    have ba := below_alloc1 w (.cells #[.int .i64 (f : Int), .int .i64 (t : Int)] 26)
    obtain ⟨-, x0, x1⟩ := id X
    clear hr hT
    go_enter Tryd.func11, Tryd.ntmps11
    go_wp2_with fail
    refine (CR.out _).mono ?_
    rintro e w1 ⟨rfl, hb1⟩
    have XA := X.on hb1
    have bb := below_next ba hb1
    obtain ⟨-, y0, y1⟩ := id XA
    clear X ba hb1 x0 x1
    go_upto_region 3 with fail
    go_cut [4, 5] from 9 to 14 (fun a b wx => a = .string ⟨(decN f).toArray⟩ ∧ b = .string ⟨(decN t).toArray⟩ ∧ Below w.heap.size w wx)
    case first =>
      go_region_with (first
        | (go_at_call_of 35 (Value.int IntKind.i64 (f : Int)); first | (refine (CF.out _ (below_d bb)).mono ?_; rintro e wf ⟨rfl, hbf⟩; have XF := XA.drew.on hbf; have bf := below_next (below_d bb) hbf; obtain ⟨-, f0, f1⟩ := id XF) | (refine (CF.out _ bt).mono ?_; rintro e wf ⟨rfl, hbf⟩; have XF := XT.on hbf; have bf := below_next bt hbf; obtain ⟨-, f0, f1⟩ := id XF))
        | (go_at_call_of 35 (Value.int IntKind.i64 (t : Int)); first | (refine (CT.out _ (below_d bb)).mono ?_; rintro e wt ⟨rfl, hbt⟩; have XT := XA.drew.on hbt; have bt := below_next (below_d bb) hbt; obtain ⟨-, t0, t1⟩ := id XT) | (refine (CT.out _ bf).mono ?_; rintro e wt ⟨rfl, hbt⟩; have XT := XF.on hbt; have bt := below_next bf hbt; obtain ⟨-, t0, t1⟩ := id XT)))
      all_goals
        go_wp2_with fail
        go_meet
        first
          | exact ⟨rfl, rfl, bt⟩
          | exact ⟨rfl, rfl, bf⟩
    case rest =>
      obtain ⟨rfl, rfl, hb⟩ := hcut
      have HB := Lib.hid hb
      clear hb XA bb CF CT y0 y1 CR
      by_cases e : f = t
      · have q : (decN f == decN t) = true := by rw [e]; simp
        have E := Lib.hid (show sh f t = decN f by rw [← e]; exact sh_one f)
        clear e
        go_wp2
        go_ret2
        exact ⟨ret_sb (by rw [E.out]) rfl, HB.out⟩
      · have E := Lib.hid (sh_two e)
        have NE := Lib.hid (fun h => e (decN_inj hf h3 h))
        clear e
        obtain ⟨a, ha⟩ : ∃ a, decN f = a := ⟨_, rfl⟩
        obtain ⟨b, hb⟩ : ∃ b, decN t = b := ⟨_, rfl⟩
        have TS := Lib.hid (@tail_same f t)
        have TO := Lib.hid (@tail_other f t)
        simp only [ha, hb] at hlf hlt E NE TS TO ⊢
        clear ha hb
        have q : (a == b) = false := by rw [beq_eq_false_iff_ne]; exact NE.out
        have r1 : ∀ W : World, (Op.stringOp .add ⟨a.toArray⟩ ⟨#[45]⟩).run Tryd.prog W = .ok (.string (⟨a.toArray⟩ ++ ⟨#[45]⟩)) W := fun W => run_string_add_sum W _ _ (by rw [sz a, s45]; omega)
        have r2 : ∀ (c : List UInt8) (W : World), c.length ≤ 4 → (Op.stringOp .add (⟨a.toArray⟩ ++ ⟨#[45]⟩) ⟨c.toArray⟩).run Tryd.prog W = .ok (.string ((⟨a.toArray⟩ ++ ⟨#[45]⟩) ++ ⟨c.toArray⟩)) W := fun c W hc => run_string_add_sum W _ _ (by rw [ByteArray.size_append, sz a, sz c, s45]; omega)
        by_cases el : a.length = b.length
        · have q2 : ((a.length : Int) == (b.length : Int)) = true := by rw [el]; simp
          have CA := Lib.hid (fun W => alike_any a b el NE.out (by omega) W)
          have H1 := ali_lt a b el NE.out
          have TL := Lib.hid (TS.out el)
          obtain ⟨K, hK⟩ : ∃ K, ali a b = K := ⟨_, rfl⟩
          rw [hK] at H1 CA TL
          have r3 := r2 (b.drop K)
          have hd : (b.drop K).length ≤ 4 := by rw [List.length_drop]; omega
          have r4 := fun W => r3 W hd
          have r5 := sl_from b K (by omega)
          clear hK TS TO r2 r3
          go_wp2_with (first | (go_at_call 36; refine (CA.out _).mono ?_; rintro e w4 ⟨rfl, hb4⟩))
          go_ret2
          exact ⟨ret_sb (by rw [E.out, TL.out]; exact cat3 _ _) rfl, below_next HB.out hb4⟩
        · have q2 : ((a.length : Int) == (b.length : Int)) = false := by rw [beq_eq_false_iff_ne]; omega
          have TL := Lib.hid (TO.out el)
          have r4 := fun W => r2 b W hlt
          clear TS TO r2 el
          go_wp2
          go_ret2
          exact ⟨ret_sb (by rw [E.out, TL.out]; exact cat3 _ _) rfl, HB.out⟩
end Sr
end Go.Proofs.YtlghonnakokioaaDoor
