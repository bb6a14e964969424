/- Ranges whose small gaps are added, by the model. -/
import Derived.Test.YtdapdiciejlejaaJo
import Derived.Deep.QuietTactic
import Derived.BigQuiet
namespace Go.Proofs.Ytdapdiciejlejaa
open Go.RowKit Go.Joins Go.Deep Go.ChangeShapes Go.WideShapes
set_option linter.unusedVariables false
set_option linter.unusedSimpArgs false
namespace Gw
open Rg Gm
theorem jl_step (zs : List Int) (gap : Int) (k : Nat) : jl zs gap (k + 1) = if (decide (0 < k) && near zs gap k) = true then setLast (jl zs gap k) (zs.getD (k * 2 + 1) 0) else jl zs gap k ++ [(zs.getD (k * 2) 0, zs.getD (k * 2 + 1) 0)] := rfl
set_option maxRecDepth 100000 in
set_option maxHeartbeats 4000000 in
theorem sJoin {b1 g len cap : Nat} {zs : List Int} {w : World} (h : Own w b1 (.slice (some ⟨g, 0, none⟩) len cap) len zs) (hl : len ≤ 1048576) (gap : Int) :
    Calls Try.prog 33 #[.slice (some ⟨g, 0, none⟩) len cap, .int .i64 gap] w (Ans (joC zs len gap) (jl zs gap len) w) := by
  obtain ⟨i0, hi, hz0, hz1, hz2⟩ := info_parts infoG
  obtain ⟨x0, hx0⟩ : ∃ x, good zs len = x := ⟨_, rfl⟩
  obtain ⟨x1, hx1⟩ : ∃ x, isM gap = x := ⟨_, rfl⟩
  have C0 := Lib.hid (ixGood_some h hl x0 hx0)
  have C1 := Lib.hid (fun W => l1In_any gap 0 2000 x1 hx1 W)
  have HO := Lib.hid h
  have EC := Lib.hid (show joC zs len gap = (x0 && x1) by unfold joC; rw [hx0, hx1])
  have HX0 := Lib.hid hx0
  have HX1 := Lib.hid hx1
  clear h hx0 hx1
  cases x0
  · go_enter Try.func33, Try.ntmps33
    go_wp2_with fail
    refine C0.out.mono ?_
    rintro e w1 ⟨rfl, hb⟩
    go_wp2
    go_ret2
    exact Ans.no EC.out hb
  · cases x1
    · go_enter Try.func33, Try.ntmps33
      go_wp2_with fail
      refine C0.out.mono ?_
      rintro e w1 ⟨rfl, hb⟩
      go_wp2_with fail
      refine (C1.out _).mono ?_
      rintro e w' ⟨rfl, rfl⟩
      go_wp2
      go_ret2
      exact Ans.no EC.out hb
    · have HK := Lib.hid ((good_iff zs len).1 HX0.out)
      have h20 := HK.out.1
      have HJL := Lib.hid (jl_len zs gap)
      go_enter Try.func33, Try.ntmps33
      go_wp2_with fail
      refine C0.out.mono ?_
      rintro e w1 ⟨rfl, hb⟩
      have HB := Lib.hid hb
      clear hb
      go_wp2_with fail
      refine (C1.out _).mono ?_
      rintro e w' ⟨rfl, rfl⟩
      go_wp2
      go_loopw [6, 19] (fun v i wr => ∃ (k : Nat) (vv : Value), vv = v ∧ k ≤ len ∧ i = .int .i64 (k : Int) ∧ OwnP wr w.heap.size vv (jl zs gap k) ∧ Below w.heap.size w wr) (fun _ i _ => ((len : Int) - intOf i).toNat)
      case atStart => exact ⟨0, _, rfl, by omega, rfl, World.ownsRow_nil _ _ _ _, HB.out⟩
      case round =>
        obtain ⟨k, vv, rfl, hk, rfl, hown, hb⟩ := hrel
        have hL := (HJL.out k).1
        have hs := hb.size
        by_cases hlt : (k : Int) < len
        · obtain ⟨q0, q1⟩ := cells2 (Li.own_on HO.out hb) (k := k) (by omega)
          have hka := (okk_iff zs k).1 (HK.out.2 k (by omega))
          have ES := Lib.hid (jl_step zs gap k)
          have hqp : 0 < k → wr.cell? ⟨g, (k - 1) * 2 + 1, none⟩ = some (.int .i64 (zs.getD ((k - 1) * 2 + 1) 0)) := fun h => (cells2 (Li.own_on HO.out hb) (k := k - 1) (by omega)).2
          have hpb : 0 < k → 1 ≤ zs.getD ((k - 1) * 2 + 1) 0 ∧ zs.getD ((k - 1) * 2 + 1) 0 ≤ 2000 := fun h => by have := ((okk_iff zs (k - 1)).1 (HK.out.2 (k - 1) (by omega))).1; omega
          have NE := Lib.hid (show near zs gap k = decide (zs.getD (k * 2) 0 - zs.getD ((k - 1) * 2 + 1) 0 - 1 ≤ gap) from rfl)
          obtain ⟨f, hf⟩ : ∃ f, zs.getD (k * 2) 0 = f := ⟨_, rfl⟩
          obtain ⟨t, ht⟩ : ∃ t, zs.getD (k * 2 + 1) 0 = t := ⟨_, rfl⟩
          obtain ⟨p, hp⟩ : ∃ p, zs.getD ((k - 1) * 2 + 1) 0 = p := ⟨_, rfl⟩
          rw [hf] at q0 hka ES NE
          rw [ht] at q1 hka ES
          rw [hp] at hqp hpb NE
          clear hf ht hp
          have k1 := hka.1.1
          have k2 := hka.1.2.1
          have k3 := hka.1.2.2
          clear hka
          have X := B2.new wr (.int .i64 f) (.int .i64 t) 44
          have HOA := Lib.hid (World.ownsRow.alloc hown (.cells #[.int .i64 f, .int .i64 t] 44))
          have HBA := Lib.hid (hb.alloc hb.size (.cells #[.int .i64 f, .int .i64 t] 44))
          obtain ⟨rs, hrs⟩ : ∃ rs, jl zs gap k = rs := ⟨_, rfl⟩
          rw [hrs] at hown hL ES HOA
          have HNE := Lib.hid (show 0 < k → rs ≠ [] from fun h => hrs ▸ (HJL.out k).2 h)
          have HQP := Lib.hid hqp
          have HPB := Lib.hid hpb
          clear hrs hqp hpb hown hb
          by_cases h0 : k = 0
          · subst h0
            have EN := Lib.hid (show jl zs gap (0 + 1) = rs ++ [(f, t)] by rw [ES.out, if_neg (by simp)])
            obtain ⟨-, x0, x1⟩ := id X
            go_wp2
            go_quiet (fail)
            have HOQ := (show (World.drewN (wr.alloc (Obj.cells #[Value.int IntKind.i64 f, Value.int IntKind.i64 t] 44)) nq).ownsRow w.heap.size 44 2 vv rs.length (Li.nums (flat rs)) from HOA.out)
            have HXQ := (show B2 (World.drewN (wr.alloc (Obj.cells #[Value.int IntKind.i64 f, Value.int IntKind.i64 t] 44)) nq) wr.heap.size (.int .i64 f) (.int .i64 t) from X)
            have HBQ := Li.below_draws HBA.out nq
            have hsq : w.heap.size ≤ (World.drewN (wr.alloc (Obj.cells #[Value.int IntKind.i64 f, Value.int IntKind.i64 t] 44)) nq).heap.size := HBQ.size
            clear X x0 x1
            generalize World.drewN (wr.alloc (Obj.cells #[Value.int IntKind.i64 f, Value.int IntKind.i64 t] 44)) nq = wq at HOQ HXQ HBQ hsq ⊢
            obtain ⟨_, y0, y1⟩ := id HXQ
            have HLT := Lib.hid (fun j hj => (HOQ.lt j hj).1)
            have HOX := Lib.hid (World.ownsRow.alloc HOQ (.cells #[.int .i64 f, .int .i64 t] 44))
            have HBX := Lib.hid (HBQ.alloc (by omega) (.cells #[.int .i64 f, .int .i64 t] 44))
            clear HOQ HXQ HBQ
            go_wp2_with (first | (at_builtin; refine wpList_append_own _ rfl _ _ 24 rfl w.heap.size 44 i0 (.agg #[.int .i64 0, .int .i64 0]) 2 16 Try.underlying24 hi hz0 hz1 hz2 rfl (by decide) vv rs.length (Li.nums (flat rs)) rfl HOX.out ⟨wq.heap.size, 0, none⟩ 1 1 [.int .i64 f, .int .i64 t] rfl rfl (news2 _ _ _ _) (fun u hu => by simp at hu; rcases hu with rfl | rfl <;> rfl) (by unfold maxLen; omega) (by omega) (by simp; omega) ?_; intro v' w' ho' hg' hn'))
            have H2 := Lib.hid (ownP_eq (ownP_snoc ho') EN.out.symm)
            have HB2 := Lib.hid (HBX.out.grown hg' (by simp; omega) (fun j hj => HLT.out j hj))
            clear ho' hg' hn'
            go_roundw
            case rel => exact ⟨1, _, rfl, by omega, by go_num, H2.out, HB2.out⟩
            case measure => simp [intOf]; omega
          · obtain ⟨k0, hk0⟩ : ∃ k0, k = k0 + 1 := ⟨k - 1, by omega⟩
            have qp := HQP.out (by omega)
            have pb := HPB.out (by omega)
            have p1 := pb.1
            have p2 := pb.2
            rw [show k - 1 = k0 by omega] at qp
            have qa := ((below_alloc1 wr (.cells #[.int .i64 f, .int .i64 t] 44)).cell (p := ⟨g, k0 * 2 + 1, none⟩) (lt_of_cell qp)).trans qp
            have t6 : decide ((0 : Int) < (k : Int)) = true := by rw [decide_eq_true_eq]; omega
            have t6n : decide (0 < k) = true := by rw [decide_eq_true_eq]; omega
            have e5 : IntKind.i64.wrap ((k : Int) - 1) = (k0 : Int) := by rw [show (k : Int) - 1 = (k0 : Int) by omega]; exact IntWalk.i64_in _ (by omega)
            have e6 : wrap64 ((k : Int) - 1) = (k0 : Int) := by rw [show (k : Int) - 1 = (k0 : Int) by omega]; exact IntWalk.wrap64_in _ (by omega)
            have e7 : (k0 : Int) < (len : Int) := by omega
            have e8 : (0 : Int) ≤ (k0 : Int) := by omega
            have x2 : IntKind.i64.wrap (f - p) = f - p := IntWalk.i64_in _ (by omega)
            have x3 : IntKind.i64.wrap (f - p - 1) = f - p - 1 := IntWalk.i64_in _ (by omega)
            have x4 : wrap64 (f - p) = f - p := IntWalk.wrap64_in _ (by omega)
            have x5 : wrap64 (f - p - 1) = f - p - 1 := IntWalk.wrap64_in _ (by omega)
            have hne := HNE.out (by omega)
            have HK0 := Lib.hid hk0
            clear pb hk0
            by_cases hc : f - p - 1 ≤ gap
            · have EN := Lib.hid (show jl zs gap (k + 1) = setLast rs t by
                rw [ES.out, if_pos (by rw [NE.out, decide_eq_true hc, decide_eq_true (show 0 < k by omega)]; rfl)])
              have tc : decide (f - p - 1 ≤ gap) = true := decide_eq_true hc
              obtain ⟨-, x0, x1⟩ := id X
              go_wp2
              go_quiet (fail)
              have HOQ := (show (World.drewN (wr.alloc (Obj.cells #[Value.int IntKind.i64 f, Value.int IntKind.i64 t] 44)) nq).ownsRow w.heap.size 44 2 vv rs.length (Li.nums (flat rs)) from HOA.out)
              have HXQ := (show B2 (World.drewN (wr.alloc (Obj.cells #[Value.int IntKind.i64 f, Value.int IntKind.i64 t] 44)) nq) wr.heap.size (.int .i64 f) (.int .i64 t) from X)
              have HBQ := Li.below_draws HBA.out nq
              have hsq : w.heap.size ≤ (World.drewN (wr.alloc (Obj.cells #[Value.int IntKind.i64 f, Value.int IntKind.i64 t] 44)) nq).heap.size := HBQ.size
              clear X x0 x1
              generalize World.drewN (wr.alloc (Obj.cells #[Value.int IntKind.i64 f, Value.int IntKind.i64 t] 44)) nq = wq at HOQ HXQ HBQ hsq ⊢
              obtain ⟨_, y0, y1⟩ := id HXQ
              obtain ⟨n0, hn0⟩ : ∃ n0, rs.length = n0 + 1 := ⟨rs.length - 1, by have := List.length_pos_iff.2 hne; omega⟩
              rw [hn0] at HOQ hL
              rcases Li.own_forms HOQ with ⟨_, hz⟩ | ⟨g2, cp, rfl⟩
              · omega
              have hcell : ∃ u, wq.cell? ⟨g2, n0 * 2 + 1, none⟩ = some u := by
                rw [HOQ.cellAt (n0 * 2 + 1) (by omega)]
                exact ⟨_, List.getElem?_eq_getElem (by rw [HOQ.1]; omega)⟩
              obtain ⟨u, hcell⟩ := hcell
              have hfr := HOQ.frozenAt (n0 * 2 + 1)
              have HST := Lib.hid (ownP_eq (ownP_last t hn0 HOQ) EN.out.symm)
              have HB2 := Lib.hid (HBQ.setCell (p := ⟨g2, n0 * 2 + 1, none⟩) (HOQ.lt g2 rfl).1 (.int .i64 t))
              have z1 : wrap64 ((n0 : Int) + 1 - 1) = (n0 : Int) := by rw [show (n0 : Int) + 1 - 1 = (n0 : Int) by omega]; exact IntWalk.wrap64_in _ (by omega)
              have z2 : wrap64 (((n0 + 1 : Nat) : Int) - 1) = (n0 : Int) := by rw [show ((n0 + 1 : Nat) : Int) - 1 = (n0 : Int) by omega]; exact IntWalk.wrap64_in _ (by omega)
              have z4 : (0 : Int) ≤ (n0 : Int) := by omega
              clear HOQ HXQ HBQ hc hn0 hne
              go_wp2
              go_roundw
              case rel => exact ⟨k + 1, _, rfl, by omega, by go_num, HST.out, HB2.out⟩
              case measure => simp [intOf]; omega
            · have EN := Lib.hid (show jl zs gap (k + 1) = rs ++ [(f, t)] by
                rw [ES.out, if_neg (by rw [NE.out, decide_eq_false hc]; simp)])
              have tc : decide (f - p - 1 ≤ gap) = false := decide_eq_false hc
              clear hc
              obtain ⟨-, x0, x1⟩ := id X
              go_wp2
              go_quiet (fail)
              have HOQ := (show (World.drewN (wr.alloc (Obj.cells #[Value.int IntKind.i64 f, Value.int IntKind.i64 t] 44)) nq).ownsRow w.heap.size 44 2 vv rs.length (Li.nums (flat rs)) from HOA.out)
              have HXQ := (show B2 (World.drewN (wr.alloc (Obj.cells #[Value.int IntKind.i64 f, Value.int IntKind.i64 t] 44)) nq) wr.heap.size (.int .i64 f) (.int .i64 t) from X)
              have HBQ := Li.below_draws HBA.out nq
              have hsq : w.heap.size ≤ (World.drewN (wr.alloc (Obj.cells #[Value.int IntKind.i64 f, Value.int IntKind.i64 t] 44)) nq).heap.size := HBQ.size
              clear X x0 x1
              generalize World.drewN (wr.alloc (Obj.cells #[Value.int IntKind.i64 f, Value.int IntKind.i64 t] 44)) nq = wq at HOQ HXQ HBQ hsq ⊢
              obtain ⟨_, y0, y1⟩ := id HXQ
              have HLT := Lib.hid (fun j hj => (HOQ.lt j hj).1)
              have HOX := Lib.hid (World.ownsRow.alloc HOQ (.cells #[.int .i64 f, .int .i64 t] 44))
              have HBX := Lib.hid (HBQ.alloc (by omega) (.cells #[.int .i64 f, .int .i64 t] 44))
              clear HOQ HXQ HBQ
              go_wp2_with (first | (at_builtin; refine wpList_append_own _ rfl _ _ 24 rfl w.heap.size 44 i0 (.agg #[.int .i64 0, .int .i64 0]) 2 16 Try.underlying24 hi hz0 hz1 hz2 rfl (by decide) vv rs.length (Li.nums (flat rs)) rfl HOX.out ⟨wq.heap.size, 0, none⟩ 1 1 [.int .i64 f, .int .i64 t] rfl rfl (news2 _ _ _ _) (fun u hu => by simp at hu; rcases hu with rfl | rfl <;> rfl) (by unfold maxLen; omega) (by omega) (by simp; omega) ?_; intro v' w' ho' hg' hn'))
              have H2 := Lib.hid (ownP_eq (ownP_snoc ho') EN.out.symm)
              have HB2 := Lib.hid (HBX.out.grown hg' (by simp; omega) (fun j hj => HLT.out j hj))
              clear ho' hg' hn'
              go_roundw
              case rel => exact ⟨k + 1, _, rfl, by omega, by go_num, H2.out, HB2.out⟩
              case measure => simp [intOf]; omega
        · obtain rfl : k = len := by omega
          have HSM := Lib.hid (jl_small HX0.out gap)
          have HOW := Lib.hid hown
          clear hown
          go_wp2
          go_ret2
          exact Ans.yes EC.out (GivesP.yes HSM.out HOW.out hb)
end Gw
end Go.Proofs.Ytdapdiciejlejaa
