/- Ranges whose small gaps are added, from both sides. -/
import Derived.Test.YtdapdiciejlejaaGb
import Derived.Test.YtdapdiciejlejaaPs
namespace Go.Proofs.Ytdapdiciejlejaa
open Go.RowKit Go.Joins Go.Deep Go.ChangeShapes Go.WideShapes
set_option linter.unusedVariables false
set_option linter.unusedSimpArgs false
namespace Gw
open Rg Gm
def joC (zs : List Int) (n : Nat) (gap : Int) : Bool := good zs n && isM gap
/-- a copy is returned -/
def CloneR (n : Nat) (zs : List Int) (W : World) (e : Ending) (w' : World) : Prop := ∃ g cp, e = .returned (.slice (some ⟨g, 0, none⟩) n cp) ∧ Own w' W.heap.size (.slice (some ⟨g, 0, none⟩) n cp) n zs ∧ Below W.heap.size W w'
set_option maxRecDepth 100000 in
set_option maxHeartbeats 1000000 in
theorem clone_any {b1 g len cap : Nat} {zs : List Int} {w : World} (h : Own w b1 (.slice (some ⟨g, 0, none⟩) len cap) len zs) (hl : len ≤ 20) :
    Calls Try.prog 54 #[.slice (some ⟨g, 0, none⟩) len cap] w (CloneR len zs w) := by
  obtain ⟨i0, hi, hz0, hz1, hz2⟩ := info_parts infoG
  have HO := Lib.hid h
  have hnil : ∀ W, (Go.binOp BinOp.eql 24 (.slice (some ⟨g, 0, none⟩) len cap) (.slice none 0 0)).run Try.prog W = .ok (.bool false) W := fun W => by kernel_rfl
  clear h
  have HBA := Lib.hid (below_alloc1 w (.cells #[] 44))
  have hsrc := Lib.hid (Li.own_on HO.out (below_alloc1 w (.cells #[] 44)))
  have HE := Lib.hid (show (w.alloc (.cells #[] 44)).ownsRow w.heap.size 44 2 (.slice (some ⟨w.heap.size, 0, none⟩) 0 0) 0 (Li.nums []) from
    ⟨rfl, _root_.Or.inr ⟨w.heap.size, 0, #[], rfl, Nat.le_refl _, heap_alloc_new w _, Nat.le_refl _, Nat.zero_le _, rfl, rfl⟩⟩)
  go_enter Try.func54, Try.ntmps54
  go_wp2_with (first | (at_builtin; refine wpList_append_own _ rfl _ _ 24 rfl w.heap.size 44 i0 (.agg #[.int .i64 0, .int .i64 0]) 2 16 Try.underlying24 hi hz0 hz1 hz2 rfl (by decide) (.slice (some ⟨w.heap.size, 0, none⟩) 0 0) 0 (Li.nums []) rfl HE.out ⟨g, 0, none⟩ len cap (Li.nums zs) rfl (by have := own_size hsrc.out; simp [Li.nums]; omega) (nums_cells hsrc.out) (nums_one zs) (by unfold maxLen; omega) (by omega) (by simp) ?_; intro v' w' ho' hg' hn'))
  have HO2 := Lib.hid (show Own w' w.heap.size v' len zs from by have := own_app ho'; rw [Nat.zero_add, List.nil_append] at this; exact this)
  have HB2 := Lib.hid (HBA.out.grown hg' HBA.out.size (fun j hj => by have e : w.heap.size = j := by simpa [Value.ownBlock] using hj
                                                                      omega))
  have hform : ∃ gc cp, v' = .slice (some ⟨gc, 0, none⟩) len cp := by
    rcases Li.own_forms HO2.out with ⟨h1, _⟩ | ⟨gc, cp, h1⟩
    · have := hn'.1 h1
      cases this.1
    · exact ⟨gc, cp, h1⟩
  obtain ⟨gc, cp, rfl⟩ := hform
  clear ho' hg' hn'
  go_wp2
  go_ret
  exact ⟨gc, cp, rfl, HO2.out, HB2.out⟩
theorem pages_any (f t : Int) (r1 : 1 ≤ f) (r2 : f ≤ t) (r3 : t ≤ 2000) (w : World) : Calls Try.prog 55 #[.agg #[.int .i64 f, .int .i64 t]] w (Ret (.int .i64 (t - f + 1)) w) := by
  have x1 : wrap64 (t - f) = t - f := IntWalk.wrap64_in _ (by omega)
  have x2 : wrap64 (t - f + 1) = t - f + 1 := IntWalk.wrap64_in _ (by omega)
  go_enter Try.func55, Try.ntmps55
  go_wp2
  go_ret
  exact ⟨rfl, below_alloc1 _ _⟩
/-- the joined list behind k gaps -/
abbrev OwnJ (W : World) (base : Nat) (v : Value) (zs : List Int) (n : Nat) (gap : Int) (k : Nat) : Prop := Own W base v (n + (jg zs gap k).length) (zs ++ flat (jg zs gap k))
theorem ownJ_yes {W : World} {base n k : Nat} {v : Value} {zs : List Int} {gap f t : Int} (hn : near zs gap (k + 1) = true) (hf : f = zs.getD (k * 2 + 1) 0 + 1) (ht : t = zs.getD ((k + 1) * 2) 0 - 1)
    (h : W.ownsRow base 44 2 v (n + (jg zs gap k).length + 1) (Li.nums (zs ++ flat (jg zs gap k)) ++ [Value.int .i64 f, Value.int .i64 t])) : OwnJ W base v zs n gap (k + 1) := by
  have e : jg zs gap (k + 1) = jg zs gap k ++ [(f, t)] := by
    show (if near zs gap (k + 1) = true then _ else _) = _
    rw [if_pos hn, hf, ht]
  unfold OwnJ
  rw [e, List.length_append, flat_append, ← List.append_assoc]
  show W.ownsRow base 44 2 v (n + ((jg zs gap k).length + 1)) (Li.nums ((zs ++ flat (jg zs gap k)) ++ [f, t]))
  rw [show Li.nums ((zs ++ flat (jg zs gap k)) ++ [f, t]) = Li.nums (zs ++ flat (jg zs gap k)) ++ [Value.int .i64 f, Value.int .i64 t] by simp [Li.nums]]
  exact h
theorem ownJ_no {W : World} {base n k : Nat} {v : Value} {zs : List Int} {gap : Int} (hn : near zs gap (k + 1) = false) (h : OwnJ W base v zs n gap k) : OwnJ W base v zs n gap (k + 1) := by
  have e : jg zs gap (k + 1) = jg zs gap k := by
    show (if near zs gap (k + 1) = true then _ else _) = _
    rw [if_neg (by rw [hn]; simp)]
  unfold OwnJ
  rw [e]
  exact h
theorem near_at (zs : List Int) (gap : Int) (k : Nat) : near zs gap (k + 1) = decide (zs.getD ((k + 1) * 2) 0 - 1 - (zs.getD (k * 2 + 1) 0 + 1) + 1 ≤ gap) := by
  unfold near
  rw [show k + 1 - 1 = k by omega, show zs.getD ((k + 1) * 2) 0 - zs.getD (k * 2 + 1) 0 - 1 = zs.getD ((k + 1) * 2) 0 - 1 - (zs.getD (k * 2 + 1) 0 + 1) + 1 by omega]
set_option maxRecDepth 100000 in
set_option maxHeartbeats 4000000 in
theorem iJoin {b1 g len cap : Nat} {zs : List Int} {w : World} (h : Own w b1 (.slice (some ⟨g, 0, none⟩) len cap) len zs) (hl : len ≤ 1048576) (gap : Int) :
    Calls Try.prog 34 #[.slice (some ⟨g, 0, none⟩) len cap, .int .i64 gap] w (Ans (joC zs len gap) (jl zs gap len) w) := by
  obtain ⟨i0, hi, hz0, hz1, hz2⟩ := info_parts infoG
  obtain ⟨x0, hx0⟩ : ∃ x, good zs len = x := ⟨_, rfl⟩
  obtain ⟨x1, hx1⟩ : ∃ x, isM gap = x := ⟨_, rfl⟩
  have C0 := Lib.hid (iGaps h hl)
  have C1 := Lib.hid (fun W => isMany_any gap x1 hx1 W)
  have HO := Lib.hid h
  have EC := Lib.hid (show joC zs len gap = (x0 && x1) by unfold joC; rw [hx0, hx1])
  have HX0 := Lib.hid hx0
  have HX1 := Lib.hid hx1
  rw [hx0] at C0
  clear h hx0 hx1
  cases x0
  · go_enter Try.func34, Try.ntmps34
    go_wp2_with fail
    refine C0.out.mono ?_
    rintro e w1 ⟨vg, rfl, hog, hb⟩
    have HB := Lib.hid hb
    clear hog hb
    go_wp2
    go_ret2
    exact Ans.no EC.out HB.out
  · cases x1
    · go_enter Try.func34, Try.ntmps34
      go_wp2_with fail
      refine C0.out.mono ?_
      rintro e w1 ⟨vg, rfl, hog, hb⟩
      have HB := Lib.hid hb
      clear hog hb
      go_wp2_with fail
      refine (C1.out _).mono ?_
      rintro e w' ⟨rfl, rfl⟩
      go_wp2
      go_ret2
      exact Ans.no EC.out HB.out
    · have hgn : gpN zs len = len - 1 := by unfold gpN; rw [if_pos HX0.out]
      have hgv : gpV zs len = gp zs (len - 1) := by unfold gpV; rw [if_pos HX0.out]
      have HK := Lib.hid ((good_iff zs len).1 HX0.out)
      have h20 := HK.out.1
      have HZ := Lib.hid (own_size HO.out)
      have JB := Lib.hid (jo_both HZ.out HX0.out gap)
      have CL := Lib.hid (fun (W : World) (hw : Below w.heap.size w W) => clone_any (Li.own_on HO.out hw) h20)
      have hjl := Lib.hid (jg_len zs gap)
      rw [hgn, hgv] at C0
      clear hgn hgv
      go_enter Try.func34, Try.ntmps34
      go_wp2_with fail
      refine C0.out.mono ?_
      rintro e w1 ⟨vg, rfl, hog, hb⟩
      have HB := Lib.hid hb
      have hform : ∃ a cp, vg = .slice a (len - 1) cp ∧ (0 < len - 1 → ∃ gg, a = some ⟨gg, 0, none⟩) := by
        rcases Li.own_forms hog with ⟨h1, h2⟩ | ⟨gg, cp, h1⟩
        · exact ⟨_, _, by rw [h1, h2], fun h => by omega⟩
        · exact ⟨_, _, h1, fun _ => ⟨gg, rfl⟩⟩
      obtain ⟨a, cpg, rfl, hsome⟩ := hform
      have HOG := Lib.hid hog
      have HSO := Lib.hid hsome
      clear hog hb hsome
      go_wp2_with fail
      refine (C1.out _).mono ?_
      rintro e w' ⟨rfl, rfl⟩
      go_wp2_with fail
      refine (CL.out _ HB.out).mono ?_
      rintro e w2 ⟨gc, cpc, rfl, hoc, hb2⟩
      have HB2 := Lib.hid (below_t HB.out hb2)
      have HOG2 := Lib.hid (Li.own_on HOG.out hb2)
      have HJ0 := Lib.hid (show OwnJ w2 w1.heap.size (.slice (some ⟨gc, 0, none⟩) len cpc) zs len gap 0 from by
        show Own _ _ _ (len + 0) (zs ++ [])
        rw [List.append_nil]
        exact hoc)
      have HGB := Lib.hid (show ∀ q, (Value.slice a (len - 1) cpg).ownBlock = some q → q < w1.heap.size from fun q hq => (HOG.out.lt q hq).2)
      have hw1 := HB.out.size
      clear hoc hb2 HOG
      go_wp2
      go_loopw [8, 27] (fun v i wr => ∃ (k : Nat) (vv : Value), vv = v ∧ k ≤ len - 1 ∧ i = .int .i64 (k : Int) ∧ OwnJ wr w1.heap.size vv zs len gap k ∧ vv ≠ .slice none 0 0 ∧ Own wr w.heap.size (.slice a (len - 1) cpg) (len - 1) (gp zs (len - 1)) ∧ w1.heap.size ≤ wr.heap.size ∧ Below w.heap.size w wr) (fun _ i _ => (((len - 1 : Nat) : Int) - intOf i).toNat)
      case atStart => exact ⟨0, _, rfl, by omega, rfl, HJ0.out, by simp, HOG2.out, by have := (HJ0.out.lt gc rfl); omega, HB2.out⟩
      case round =>
        obtain ⟨k, vv, rfl, hk, rfl, hj, hvn, hog, hs1, hb⟩ := hrel
        clear HJ0 HOG2 HB2
        have hjk := hjl.out k
        by_cases hlt : (k : Int) < ((len - 1 : Nat) : Int)
        · obtain ⟨gg, rfl⟩ := HSO.out (by omega)
          obtain ⟨q0, q1⟩ := cells2 hog (k := k) (by omega)
          have hga := gp_at zs (len - 1) k (by omega)
          rw [hga.1] at q0
          rw [hga.2] at q1
          have NE := Lib.hid (near_at zs gap k)
          have ka := (okk_iff zs k).1 (HK.out.2 k (by omega))
          have kb := (okk_iff zs (k + 1)).1 (HK.out.2 (k + 1) (by omega))
          have kc := kb.2 (by omega)
          rw [show k + 1 - 1 = k by omega] at kc
          obtain ⟨f, hf⟩ : ∃ f, zs.getD (k * 2 + 1) 0 + 1 = f := ⟨_, rfl⟩
          obtain ⟨t, ht⟩ : ∃ t, zs.getD ((k + 1) * 2) 0 - 1 = t := ⟨_, rfl⟩
          have HF := Lib.hid hf.symm
          have HT := Lib.hid ht.symm
          have HP := Lib.hid (fun W => pages_any f t (by omega) (by omega) (by omega) W)
          rw [hf] at q0 NE
          rw [ht] at q1 NE
          clear hga ka kb kc hf ht
          have X := B2.new wr (.int .i64 f) (.int .i64 t) 44
          have HJA := Lib.hid (Li.own_on hj (below_alloc1 wr (.cells #[.int .i64 f, .int .i64 t] 44)))
          have HGA := Lib.hid (Li.own_on hog (below_alloc1 wr (.cells #[.int .i64 f, .int .i64 t] 44)))
          have HBb := Lib.hid hb
          have HVN := Lib.hid hvn
          clear hj hog hb hvn
          go_wp2_with fail
          refine (HP.out _).mono ?_
          rintro e w4 ⟨rfl, hb4⟩
          have HB4 := Lib.hid (below_r HBb.out hb4)
          have HJ4 := Lib.hid (Li.own_on HJA.out hb4)
          have HG4 := Lib.hid (Li.own_on HGA.out hb4)
          have hs4 : wr.heap.size + 1 ≤ w4.heap.size := by have := hb4.size; simpa using this
          obtain ⟨_, p0, p1⟩ := X.on hb4
          clear hb4 X q0 q1 HJA HGA
          by_cases hc : t - f + 1 ≤ gap
          · have HNR := Lib.hid (NE.out.trans (decide_eq_true hc))
            have HLT := Lib.hid (fun j hj => (HJ4.out.lt j hj).1)
            have HOX := Lib.hid (World.ownsRow.alloc HJ4.out (.cells #[.int .i64 f, .int .i64 t] 44))
            have HGX := Lib.hid (World.ownsRow.alloc HG4.out (.cells #[.int .i64 f, .int .i64 t] 44))
            have HBX := Lib.hid (HB4.out.alloc HB4.out.size (.cells #[.int .i64 f, .int .i64 t] 44))
            go_wp2_with (first | (at_builtin; refine wpList_append_own _ rfl _ _ 24 rfl w1.heap.size 44 i0 (.agg #[.int .i64 0, .int .i64 0]) 2 16 Try.underlying24 hi hz0 hz1 hz2 rfl (by decide) vv (len + (jg zs gap k).length) (Li.nums (zs ++ flat (jg zs gap k))) rfl HOX.out ⟨w4.heap.size, 0, none⟩ 1 1 [.int .i64 f, .int .i64 t] rfl rfl (news2 _ _ _ _) (fun u hu => by simp at hu; rcases hu with rfl | rfl <;> rfl) (by unfold maxLen; omega) (by omega) (by simp; omega) ?_; intro v' w' ho' hg' hn'))
            have HJ5 := Lib.hid (ownJ_yes HNR.out HF.out HT.out ho')
            have HG5 := Lib.hid (HGX.out.kept hg' (by
              cases hv : (Value.slice (some ⟨gg, 0, none⟩) (len - 1) cpg).ownBlock with
              | none => exact _root_.Or.inl rfl
              | some q => exact _root_.Or.inr (fun e => by have h1 := HGB.out q hv; have h2 := HLT.out q (e.symm); omega)))
            have HB5 := Lib.hid (HBX.out.grown hg' HBX.out.size (fun j hj => by have := HLT.out j hj; omega))
            have HV5 := Lib.hid (show v' ≠ .slice none 0 0 from fun e => by have := (hn'.1 e).2; omega)
            have hs5 : w1.heap.size ≤ w'.heap.size := by have := hg'.size; simp at this; omega
            clear ho' hg' hn'
            go_roundw
            case rel => exact ⟨k + 1, _, rfl, by omega, by go_num, HJ5.out, HV5.out, HG5.out, hs5, HB5.out⟩
            case measure => simp [intOf]; omega
          · have HNR := Lib.hid (NE.out.trans (decide_eq_false hc))
            have HJ5 := Lib.hid (ownJ_no HNR.out HJ4.out)
            have tc : decide (t - f + 1 ≤ gap) = false := by rw [decide_eq_false_iff_not]; exact hc
            clear hc
            go_wp2
            go_roundw
            case rel => exact ⟨k + 1, _, rfl, by omega, by go_num, HJ5.out, HVN.out, HG4.out, by omega, HB4.out⟩
            case measure => simp [intOf]; omega
        · have e : k = len - 1 := by omega
          subst e
          rcases Li.own_forms hj with ⟨h1, _⟩ | ⟨gq, cq, h1⟩
          · exact absurd h1 hvn
          · subst h1
            have CM := Lib.hid (iMerge (zs := joL zs gap len) (len := joN zs gap len) hj (by unfold joN; omega))
            rw [JB.out.1, JB.out.2] at CM
            have HB5 := Lib.hid hb
            clear hj hog hb hvn
            go_wp2_with fail
            refine CM.out.mono ?_
            rintro e w5 ⟨v, rfl, ho, hb5⟩
            have HH := Lib.hid (ans_on HB5.out (c := true) ⟨v, rfl, ho, hb5⟩)
            clear ho hb5
            go_wp2
            go_ret2
            rw [EC.out]
            exact HH.out
end Gw
end Go.Proofs.Ytdapdiciejlejaa
