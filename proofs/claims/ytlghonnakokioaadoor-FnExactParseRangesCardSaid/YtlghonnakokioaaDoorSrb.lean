/- A range's short text: what the model's ixShort and the program's ShortRange answer. -/
import Derived.Test.YtlghonnakokioaaDoorSr
import Derived.Deep.CutRange
import Derived.Deep.CutBlock
namespace Go.Proofs.YtlghonnakokioaaDoor
open Go.RowKit Go.Joins Go.Deep Go.ChangeShapes Go.WideShapes
set_option linter.unusedVariables false
set_option linter.unusedSimpArgs false
namespace Sr
open P Rg Gm
theorem s45 : (⟨#[45]⟩ : ByteArray).size = 1 := rfl
theorem below_d {B : Nat} {a w : World} (h : Below B a w) : Below B a w.drew := h.trans ⟨rfl, rfl, rfl, Nat.le_refl _, fun _ _ => rfl⟩
set_option maxRecDepth 100000 in
set_option maxHeartbeats 2000000 in
theorem ixShort_any (f t : Nat) (hf : f ≤ 2000) (ht : t ≤ 2000) (w : World) :
    Calls Tryd.prog 33 #[.agg #[.int .i64 (f : Int), .int .i64 (t : Int)]] w fun e w' => e = .returned (.string ⟨(sh f t).toArray⟩) ∧ Below w.heap.size w w' := by
  have CF := Lib.hid (fun W => l1Num_any f (by omega) W)
  have CT := Lib.hid (fun W => l1Num_any t (by omega) W)
  have hlf := (decN_short f hf).1
  have hlt := (decN_short t ht).1
  have X := B2.new w (.int .i64 (f : Int)) (.int .i64 (t : Int)) 26
  have ba := below_alloc1 w (.cells #[.int .i64 (f : Int), .int .i64 (t : Int)] 26)
  obtain ⟨-, x0, x1⟩ := id X
  go_enter Tryd.func33, Tryd.ntmps33
  go_upto_region 1 with fail
  go_cut [3, 4] from 6 to 11 (fun a b wx => a = .string ⟨(decN f).toArray⟩ ∧ b = .string ⟨(decN t).toArray⟩ ∧ B2 wx w.heap.size (.int .i64 (f : Int)) (.int .i64 (t : Int)) ∧ Below w.heap.size w wx)
  case first =>
    go_region_with (first
      | (go_at_call_of 56 (Value.int IntKind.i64 (f : Int)); refine (CF.out _).mono ?_; rintro e wf ⟨rfl, hbf⟩; first | (have XF := X.drew.on hbf; obtain ⟨-, f0, f1⟩ := id XF) | (have XF := XT.on hbf; obtain ⟨-, f0, f1⟩ := id XF))
      | (go_at_call_of 56 (Value.int IntKind.i64 (t : Int)); refine (CT.out _).mono ?_; rintro e wt ⟨rfl, hbt⟩; first | (have XT := X.drew.on hbt; obtain ⟨-, t0, t1⟩ := id XT) | (have XT := XF.on hbt; obtain ⟨-, t0, t1⟩ := id XT)))
    all_goals
      go_wp2_with fail
      go_meet
      first
        | exact ⟨rfl, rfl, XT, below_next (below_next (below_d ba) hbf) hbt⟩
        | exact ⟨rfl, rfl, XF, below_next (below_next (below_d ba) hbt) hbf⟩
  case rest =>
    obtain ⟨rfl, rfl, XC, hb⟩ := hcut
    have HB := Lib.hid hb
    obtain ⟨-, c0, c1⟩ := id XC
    clear hb X ba x0 x1 CF CT XC
    by_cases e : f = t
    · have q : ((f : Int) == (t : Int)) = true := by simp [e]
      have E := Lib.hid (show sh f t = decN f by rw [← e]; exact sh_one f)
      clear e
      go_wp2
      go_ret
      exact ⟨ret_s (by rw [E.out]), HB.out⟩
    · have q : ((f : Int) == (t : Int)) = false := by rw [beq_eq_false_iff_ne]; omega
      have E := Lib.hid (sh_two e)
      have NE := Lib.hid (fun h => e (decN_inj hf ht h))
      clear e
      obtain ⟨a, ha⟩ : ∃ a, decN f = a := ⟨_, rfl⟩
      obtain ⟨b, hb⟩ : ∃ b, decN t = b := ⟨_, rfl⟩
      have TS := Lib.hid (@tail_same f t)
      have TO := Lib.hid (@tail_other f t)
      simp only [ha, hb] at hlf hlt E NE TS TO ⊢
      clear ha hb
      have r1 : ∀ W : World, (Op.stringOp .add ⟨a.toArray⟩ ⟨#[45]⟩).run Tryd.prog W = .ok (.string (⟨a.toArray⟩ ++ ⟨#[45]⟩)) W := fun W => run_string_add_sum W _ _ (by rw [sz a, s45]; omega)
      have r2 : ∀ (c : List UInt8) (W : World), c.length ≤ 4 → (Op.stringOp .add (⟨a.toArray⟩ ++ ⟨#[45]⟩) ⟨c.toArray⟩).run Tryd.prog W = .ok (.string ((⟨a.toArray⟩ ++ ⟨#[45]⟩) ++ ⟨c.toArray⟩)) W := fun c W hc => run_string_add_sum W _ _ (by rw [ByteArray.size_append, sz a, sz c, s45]; omega)
      by_cases el : a.length = b.length
      · have q2 : ((a.length : Int) == (b.length : Int)) = true := by rw [el]; simp
        have H1 := ali_lt a b el NE.out
        have HE := Lib.hid (ali_eq a b)
        have HN := Lib.hid (ali_ne a b el NE.out)
        have TL := Lib.hid (TS.out el)
        obtain ⟨K, hK⟩ : ∃ K, ali a b = K := ⟨_, rfl⟩
        rw [hK] at H1 HE HN TL
        have r3 := r2 (b.drop K)
        have hd : (b.drop K).length ≤ 4 := by rw [List.length_drop]; omega
        have r4 := fun W => r3 W hd
        have r5 := sl_from b K (by omega)
        clear hK TS TO r2 r3
        go_wp2
        go_loopw [5] (fun i wr => ∃ k : Nat, k ≤ K ∧ i = .int .i64 (k : Int) ∧ Below w.heap.size w wr) (fun i _ => ((K : Int) - intOf i).toNat)
        case atStart => exact ⟨0, by omega, rfl, HB.out⟩
        case round =>
          obtain ⟨k, hk, rfl, hb⟩ := hrel
          have HB2 := Lib.hid hb
          clear hb
          obtain ⟨x, hx⟩ : ∃ x, a[k]'(by omega) = x := ⟨_, rfl⟩
          obtain ⟨y, hy⟩ : ∃ y, b[k]'(by omega) = y := ⟨_, rfl⟩
          have p1 := idx_at a k (by omega) x hx
          have p2 := idx_at b k (by omega) y hy
          have HX : a[k]? = some x := by rw [← hx]; exact List.getElem?_eq_getElem _
          have HY : b[k]? = some y := by rw [← hy]; exact List.getElem?_eq_getElem _
          by_cases hlt2 : k < K
          · have e : x = y := by
              have := HE.out k hlt2
              rw [HX, HY] at this
              exact Option.some.inj this
            have q : ((x.toNat : Int) == (y.toNat : Int)) = true := by rw [e]; simp
            clear hx hy HX HY e el q2
            go_wp2_with fail
            go_quiet (fail)
            go_wp2
            go_roundw
            case rel => exact ⟨k + 1, by omega, by go_num, below_dN HB2.out _⟩
            case measure => simp [intOf]; omega
          · have ek : k = K := by omega
            have e : x ≠ y := fun e => HN.out (by rw [← ek, HX, HY, e])
            have q : ((x.toNat : Int) == (y.toNat : Int)) = false := by
              simp only [beq_eq_false_iff_ne, ne_eq]
              intro h
              exact e (UInt8.toNat_inj.mp (by omega))
            clear hx hy HX HY e el q2
            subst ek
            go_wp2_with fail
            go_quiet (fail)
            go_wp2
            go_ret
            exact ⟨ret_s (by rw [E.out, TL.out]; exact cat3 _ _), below_dN HB2.out _⟩
      · have q2 : ((a.length : Int) == (b.length : Int)) = false := by rw [beq_eq_false_iff_ne]; omega
        have TL := Lib.hid (TO.out el)
        have r4 := fun W => r2 b W hlt
        clear TS TO r2 el
        go_wp2
        go_ret
        exact ⟨ret_s (by rw [E.out, TL.out]; exact cat3 _ _), HB.out⟩
end Sr
end Go.Proofs.YtlghonnakokioaaDoor
