/- Ranges are taken out of a set of pages, one after the other. -/
import Derived.Test.YtdapdiciejlejaaTf
import Derived.WalkMore
import Derived.ScopeJumps
namespace Go.Proofs.Ytdapdiciejlejaa
open Go.RowKit Go.Joins Go.Deep Go.ChangeShapes Go.WideShapes
set_option linter.unusedVariables false
set_option linter.unusedSimpArgs false
namespace Gw
open Rg Gm
theorem scope_loop {P : Program} {a : Act} {w : World} {Q : Exit → Act → World → Prop} {c X : Code} (l : Nat) (J : Act → World → Prop) (μ : Act → World → Nat) (hf : findLabel c l = some (Code.skip.seq X))
    (body : ∀ a w, J a w → X.wp P (Exit.jump l (fun a' w' => J a' w' ∧ μ a' w' < μ a w) Q) a w) (first : (∀ a w, J a w → X.wp P (Exit.jump l J Q) a w) → c.wp P (Exit.jump l J Q) a w) : (Code.scope c).wp P Q a w :=
  wp_scope_jumps l J μ hf (first fun a w h => Code.wp_mono (fun e a w h => by cases e <;> first | exact h | exact ⟨h.1, h.2.1⟩) (body a w h)) fun a w h => wp_seq (wp_skip (body a w h))
/-- the answer to a set, taken out of it -/
def TakeR (rs : PR) (b : Nat) (w : World) (e : Ending) (w' : World) : Prop := ∃ v, e = .returned (.tuple #[v, .bool (okR rs)]) ∧ Own w' w.heap.size v (lenR rs) (listR rs) ∧ w.grownBy w' (some b)
theorem drop_none (rs : PR) (k : Nat) (hk : k ≤ rs.length) (h : Ch 1 rs) : (∀ p, has (rs.drop k) p = false) ↔ k = rs.length := by
  constructor
  · intro e
    rcases Nat.lt_or_ge k rs.length with hlt | hge
    · rw [prs_drop k rs hlt] at e
      have hb := ch_at rs 1 h k hlt
      have := e (rs.getD k (0, 0)).1
      rw [show rs.getD k (0, 0) = ((rs.getD k (0, 0)).1, (rs.getD k (0, 0)).2) from rfl, has_in (Int.le_refl _) hb.1] at this
      cases this
    · omega
  · rintro rfl p
    rw [List.drop_length]
    rfl
theorem lenOp {H : Type} {w : World} {ops : Array Oper} {rest : List Oper} {o : Oper} {a : Act} {Q : Exit → Act → World → Prop} (hg : o.guard = none) (mo : Operand) (t : TypeId) (hop : o.op = Op.call { callee := Callee.builtin Builtin.len, args := #[mo], argTypes := #[t] })
    (b s : Nat) (hm : a.eval mo = .map (some b)) (hrun : ∀ ty, (Builtin.len_ #[t] ty #[.map (some b)]).run Try.prog w = .ok (.int .i64 s) w) (hK : wpList Try.prog ops Q rest (a.put o.dst (.int .i64 s)) w) : wpList Try.prog ops Q (o :: rest) a w := by
  refine wpList_plain hg fun K' hK' => ?_
  unfold Oper.wp
  simp [execOp, hop, resolve, invoke, builtin, hm, hrun o.type, Result.andThen]
  exact hK' _ _ hK
set_option maxRecDepth 100000 in
set_option maxHeartbeats 1000000 in
theorem takeRanges_some {b n : Nat} {rs : PR} {w : World} (h : Mp.HasSet w b n (has rs)) (h1 : Ch 1 rs) (h2 : ∀ q ∈ rs, q.2 ≤ 2000) :
    Calls Try.prog 41 #[.map (some b)] w (TakeR rs b w) := by
  obtain ⟨i0, hi, hz0, hz1, hz2⟩ := info_parts infoG
  have HS := Lib.hid h
  have HC := Lib.hid h1
  have HQ := Lib.hid h2
  have hbl := h.lt
  clear h h1 h2
  go_enter Try.func41, Try.ntmps41
  go_wp2
  refine scope_loop 0 (fun a' wr => ∃ (k : Nat) (vv u1 u5 u6 u7 u8 u9 u10 u11 u12 u13 u14 u15 u16 u17 u18 : Value), k ≤ 20 ∧ k ≤ rs.length ∧ OwnP wr w.heap.size vv (rs.take k) ∧ Mp.HasSet wr b n (has (rs.drop k)) ∧ w.grownBy wr (some b) ∧ a' = { tmps := #[.map (some b), u1, .slice none 0 0, .bool false, vv, u5, u6, u7, u8, u9, u10, u11, u12, u13, u14, u15, u16, u17, u18], defers := [] }) (fun a' wr => (rs.length - (match a'.tmps.getD 4 undef with | .slice _ n _ => n | _ => 0))) rfl ?_ ?_
  · rintro a' wr ⟨k, vv, u1, u5, u6, u7, u8, u9, u10, u11, u12, u13, u14, u15, u16, u17, u18, hk, hkl, hown, hset, hg, rfl⟩
    have hform : ∃ a cp, vv = .slice a k cp := by
      have e : (rs.take k).length = k := by rw [List.length_take]; omega
      unfold OwnP at hown
      rw [e] at hown
      rcases Li.own_forms hown with ⟨h1, h2⟩ | ⟨g2, cp, h1⟩
      · exact ⟨_, _, by rw [h1, h2]⟩
      · exact ⟨_, _, h1⟩
    obtain ⟨a, cp, rfl⟩ := hform
    obtain ⟨s, hrun, hsn, hs0⟩ := Mp.length hset Try.underlying52
    have HRUN := Lib.hid hrun
    have hd := hs0.trans (drop_none rs k hkl HC.out)
    have HOW := Lib.hid hown
    have HSET := Lib.hid hset
    have HG := Lib.hid hg
    clear hown hset hg hrun hs0
    by_cases he : s = 0
    · have ek : k = rs.length := hd.1 he
      subst he
      have h20 : rs.length ≤ 20 := by omega
      have HR := Lib.hid (R_yes h20)
      have HOE := Lib.hid (show Own wr w.heap.size (.slice a rs.length cp) rs.length (flat rs) from by
        have := HOW.out
        rw [ek, List.take_length] at this
        exact this)
      clear hd
      go_wp2_with (first
        | (at_len; refine lenOp (H := Unit) rfl _ 52 rfl b 0 rfl HRUN.out ?_)
        | go_in)
      simp only [Exit.jump]
      go_ret2
      exact ⟨_, rr rfl HR.out.1.symm, by rw [HR.out.2.1, HR.out.2.2]; exact HOE.out, HG.out⟩
    · have hne : k < rs.length := by
        rcases Nat.lt_or_ge k rs.length with h | h
        · exact h
        · exact absurd (hd.2 (by omega)) he
      have t1 : ((s : Int) == 0) = false := by rw [beq_eq_false_iff_ne]; omega
      clear hd
      by_cases hk20 : k = 20
      · subst hk20
        have HR := Lib.hid (R_no (show ¬ rs.length ≤ 20 by omega))
        go_wp2_with (first
          | (at_len; refine lenOp (H := Unit) rfl _ 52 rfl b s rfl HRUN.out ?_)
          | go_in)
        simp only [Exit.jump]
        go_ret2
        exact ⟨_, rr rfl HR.out.1.symm, by rw [HR.out.2.1, HR.out.2.2]; exact World.ownsRow_nil _ _ _ _, HG.out⟩
      · have t2 : ((k : Int) == 20) = false := by rw [beq_eq_false_iff_ne]; omega
        have hb := ch_at rs 1 HC.out k hne
        have ED := prs_drop k rs hne
        obtain ⟨f, hf⟩ : ∃ f, (rs.getD k (0, 0)).1 = f := ⟨_, rfl⟩
        obtain ⟨t, ht⟩ : ∃ t, (rs.getD k (0, 0)).2 = t := ⟨_, rfl⟩
        rw [show rs.getD k (0, 0) = ((rs.getD k (0, 0)).1, (rs.getD k (0, 0)).2) from rfl, hf, ht] at ED
        rw [hf, ht] at hb
        have hch : Ch 1 (rs.drop k) := ch_drop rs 1 HC.out k
        rw [ED] at hch
        have hin : ∀ q ∈ rs.drop k, q.2 ≤ 2000 := fun q hq => HQ.out q (List.mem_of_mem_drop hq)
        rw [ED] at hin
        have C := Lib.hid (takeFirst_some (show Mp.HasSet wr b n (has ((f, t) :: rs.drop (k + 1))) from by rw [← ED]; exact HSET.out) (by have := hb.2.1; omega) hb.1 hch.2.2 (hin (f, t) (by simp)) (fun q hq => hin q (by simp [hq])))
        have ET := Lib.hid (show rs.take (k + 1) = rs.take k ++ [(f, t)] from by
          rw [List.take_succ_eq_append_getElem hne]
          have : rs[k] = (f, t) := by
            have e : rs.getD k (0, 0) = rs[k] := by simp [List.getD, hne]
            rw [← e, ← hf, ← ht]
          rw [this])
        have hlen : (rs.take k).length = k := by rw [List.length_take]; omega
        have HLT := Lib.hid (fun j hj => (HOW.out.lt j hj).1)
        have HSZ := HG.out.size
        have HBO := Lib.hid (show some b ≠ (Value.slice a k cp).ownBlock from fun e => by have := HLT.out b e.symm; omega)
        clear hb ED hch hin hf ht
        go_wp2_with (first
          | (at_len; refine lenOp (H := Unit) rfl _ 52 rfl b s rfl HRUN.out ?_)
          | fail)
        refine C.out.mono ?_
        rintro e w2 ⟨rfl, hset2, hg2⟩
        have hown2 := HOW.out.kept hg2 (by
          cases hv : (Value.slice a k cp).ownBlock with
          | none => exact _root_.Or.inl rfl
          | some q => exact _root_.Or.inr (fun e => HBO.out (by rw [hv]; exact e.symm)))
        have HG2 := Lib.hid (grown_then HG.out hg2 (_root_.Or.inr rfl))
        have hs2 := HG2.out.size
        have HOX := Lib.hid (World.ownsRow.alloc hown2 (.cells #[.int .i64 f, .int .i64 t] 44))
        have HSX := Lib.hid (hset2.alloc (.cells #[.int .i64 f, .int .i64 t] 44))
        have HGX := Lib.hid (grown_below HG2.out (below_alloc1 w2 (.cells #[.int .i64 f, .int .i64 t] 44)))
        clear hset2 hg2 hown2
        go_wp2_with (first
          | (at_builtin; refine wpList_append_own _ rfl _ _ 24 rfl w.heap.size 44 i0 (.agg #[.int .i64 0, .int .i64 0]) 2 16 Try.underlying24 hi hz0 hz1 hz2 rfl (by decide) (.slice a k cp) (rs.take k).length (Li.nums (flat (rs.take k))) rfl HOX.out ⟨w2.heap.size, 0, none⟩ 1 1 [.int .i64 f, .int .i64 t] rfl rfl (news2 _ _ _ _) (fun u hu => by simp at hu; rcases hu with rfl | rfl <;> rfl) (by unfold maxLen; omega) (by omega) (by simp; omega) ?_; intro v' w' ho' hg' hn'))
        have HO2 := Lib.hid (ownP_eq (ownP_snoc ho') ET.out.symm)
        have HS2 := Lib.hid (HSX.out.kept hg' HBO.out)
        have HG3 := Lib.hid (show w.grownBy w' (some b) from HGX.out.andThen hg' (fun j hj => _root_.Or.inl (HLT.out j hj)))
        have hform2 : ∃ a cp, v' = .slice a (k + 1) cp := by
          rw [hlen] at ho'
          rcases Li.own_forms ho' with ⟨_, h2⟩ | ⟨g2, cp, h1⟩
          · omega
          · exact ⟨_, _, h1⟩
        obtain ⟨a2, cp2, rfl⟩ := hform2
        clear ho' hg' hn'
        go_step3
        exact ⟨rfl, ⟨k + 1, _, _, _, _, _, _, _, _, _, _, _, _, _, _, _, _, by omega, by omega, HO2.out, HS2.out, HG3.out, rfl⟩, by show rs.length - (k + 1) < rs.length - k; omega⟩
  · intro again
    go_wp2
    go_step3
    rename_i K0 kont
    exact kont _ _ (again _ _ ⟨0, _, _, _, _, _, _, _, _, _, _, _, _, _, _, _, _, by omega, by omega, World.ownsRow_nil _ _ _ _, HS.out, ⟨rfl, rfl, rfl, Nat.le_refl _, fun _ _ _ => rfl⟩, rfl⟩)
end Gw
end Go.Proofs.Ytdapdiciejlejaa
