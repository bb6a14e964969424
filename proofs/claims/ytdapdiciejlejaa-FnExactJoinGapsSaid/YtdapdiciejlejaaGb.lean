/- The gaps between ranges, from both sides. -/
import Derived.Test.YtdapdiciejlejaaJm
import Derived.Deep.AppendLies
import Derived.Deep.RegionLaw
namespace Go.Proofs.Ytdapdiciejlejaa
open Go.RowKit Go.Joins Go.Deep Go.ChangeShapes Go.WideShapes
set_option linter.unusedVariables false
set_option linter.unusedSimpArgs false
namespace Gw
open Rg Gm
theorem step_append_own {P : Program} {ops : Array Oper} {o : Oper} {a : Act} {w : World} {K : Act → World → Prop} {Q : Exit → Act → World → Prop} {E : Prop}
    (hg : o.guard = none) (s x : Operand) (t : TypeId) (hop : o.op = Op.call { callee := Callee.builtin Builtin.append, args := #[s, x], argTypes := #[t, t] })
    (base : Nat) (e : TypeId) (i : TypeInfo) (z : Value) (size bytes : Nat) (h1 : P.underlying t = some (.slice e)) (h2 : P.info? e = some i) (h3 : i.zero = some z) (h4 : i.size = size) (h5 : i.bytes = bytes) (h6 : z.cells.size = size) (h7 : 0 < size)
    (v : Value) (n : Nat) (xs : List Value) (hs : a.eval s = v) (hown : w.ownsRow base e size v n xs)
    (ad : Addr) (m c : Nat) (news : List Value) (hx : a.eval x = .slice (some ad) m c) (hn : news.length = m * size) (hc : ∀ j u, news[j]? = some u → w.cell? (ad.add j) = some u) (h1c : ∀ u ∈ news, u.oneCell' = true)
    (b1 : n + m ≤ maxLen) (b2 : (n + m) * bytes ≤ 140737488355328) (hbase : base ≤ w.heap.size)
    (hK : ∀ v' w', w'.ownsRow base e size v' (n + m) (xs ++ news) → w.grownBy w' v.ownBlock → K (a.put o.dst v') w') :
    if Region.wanted o (yielded ops a.tmps) = true then Oper.wp P o a w K Q else E := by
  have hw : Region.wanted o (yielded ops a.tmps) = true := by simp [Region.wanted, hg]
  rw [if_pos hw]
  obtain ⟨v', w', hrun, r1, r2, r3⟩ := run_append_own (P := P) w base t o.type e i z size bytes h1 h2 h3 h4 h5 h6 h7 v n xs hown ad m c news hn hc h1c b1 b2 hbase
  unfold Oper.wp
  simp [execOp, hop, resolve, invoke, builtin, hs, hx, hrun, Result.andThen]
  exact hK v' w' r1 r2
theorem own2_snoc {W : World} {base k : Nat} {v : Value} {ys zs : List Int} {x y : Int} {T : TypeId} (h : W.ownsRow base T 2 v (k + 1) (Li.nums ys ++ [Value.int .i64 x, Value.int .i64 y])) (e : zs = ys ++ [x, y]) : W.ownsRow base T 2 v (k + 1) (Li.nums zs) := by
  rw [e, show Li.nums (ys ++ [x, y]) = Li.nums ys ++ [Value.int .i64 x, Value.int .i64 y] by simp [Li.nums]]
  exact h
/-- the gaps, or none -/
def gpV (zs : List Int) (n : Nat) : List Int := if good zs n = true then gp zs (n - 1) else []
def gpN (zs : List Int) (n : Nat) : Nat := if good zs n = true then n - 1 else 0
theorem gpN_le {zs : List Int} {n : Nat} : gpN zs n ≤ 1048576 := by
  unfold gpN
  split
  · rename_i h; have := ((good_iff zs n).1 h).1; omega
  · omega
set_option maxRecDepth 100000 in
set_option maxHeartbeats 1000000 in
theorem iGaps {b1 g len cap : Nat} {zs : List Int} {w : World} (h : Own w b1 (.slice (some ⟨g, 0, none⟩) len cap) len zs) (hl : len ≤ 1048576) :
    Calls Try.prog 53 #[.slice (some ⟨g, 0, none⟩) len cap] w (Rg.Gives (good zs len) (gpN zs len) (gpV zs len) w) := by
  obtain ⟨v, hv⟩ : ∃ v, good zs len = v := ⟨_, rfl⟩
  have C := Lib.hid (areRanges_some h hl v hv)
  have HO := Lib.hid h
  unfold gpV gpN
  rw [hv]
  have HV := Lib.hid hv
  clear h hv
  cases v
  · go_enter Try.func53, Try.ntmps53
    go_wp2_with fail
    refine C.out.mono ?_
    rintro e w' ⟨rfl, hb⟩
    go_wp2
    go_ret2
    exact Rg.Gives.none hb
  · have HA := Lib.hid (all_rng HV.out)
    have h20 := HA.out.1
    obtain ⟨i0, hi, hz0, hz1, hz2⟩ := info_parts infoG
    go_enter Try.func53, Try.ntmps53
    go_wp2_with fail
    refine C.out.mono ?_
    rintro e w1 ⟨rfl, hb⟩
    have HB1 := Lib.hid hb
    clear hb
    go_wp2
    go_loopw [4, 5] (fun v i wr => ∃ (j j0 : Nat) (vv : Value), vv = v ∧ Hid (j = j0 + 1) ∧ (j ≤ len ∨ j0 = 0) ∧ i = .int .i64 (j : Int) ∧ wr.ownsRow w.heap.size 44 2 vv j0 (Li.nums (gp zs j0)) ∧ Below w.heap.size w wr) (fun _ i _ => ((len : Int) - intOf i).toNat)
    case atStart => exact ⟨1, 0, _, rfl, Lib.hid rfl, _root_.Or.inr rfl, rfl, World.ownsRow_nil _ _ _ _, HB1.out⟩
    case round =>
      obtain ⟨j, j0, vv, rfl, HJ, hj, rfl, hown, hb⟩ := hrel
      clear HB1
      have hs := hb.size
      by_cases hlt : (j : Int) < len
      · have hjl : j0 + 1 < len := by have := HJ.out; omega
        obtain ⟨-, q1⟩ := cells2 (Li.own_on HO.out hb) (k := j0) (by omega)
        obtain ⟨q2, -⟩ := cells2 (Li.own_on HO.out hb) (k := j) (by have := HJ.out; omega)
        have hr1 := (rng_iff _ _).1 (HA.out.2 j0 (by omega))
        have hr2 := (rng_iff _ _).1 (HA.out.2 j (by have := HJ.out; omega))
        have EG := Lib.hid (show gp zs (j0 + 1) = gp zs j0 ++ [zs.getD (j0 * 2 + 1) 0 + 1, zs.getD (j * 2) 0 - 1] by rw [HJ.out]; rfl)
        generalize zs.getD (j0 * 2 + 1) 0 = t at *
        generalize zs.getD (j * 2) 0 = f at *
        have x1 : IntKind.i64.wrap (t + 1) = t + 1 := IntWalk.i64_in _ (by omega)
        have x2 : IntKind.i64.wrap (f - 1) = f - 1 := IntWalk.i64_in _ (by omega)
        have x3 : IntKind.i64.wrap ((j : Int) - 1) = (j0 : Int) := by rw [show (j : Int) - 1 = (j0 : Int) by have := HJ.out; omega]; exact IntWalk.i64_in _ (by omega)
        have y1 : wrap64 (t + 1) = t + 1 := IntWalk.wrap64_in _ (by omega)
        have y2 : wrap64 (f - 1) = f - 1 := IntWalk.wrap64_in _ (by omega)
        have y3 : wrap64 ((j : Int) - 1) = (j0 : Int) := by rw [show (j : Int) - 1 = (j0 : Int) by have := HJ.out; omega]; exact IntWalk.wrap64_in _ (by omega)
        have ej3 : (j0 : Int) < (len : Int) := by omega
        have ej4 : (0 : Int) ≤ (j0 : Int) := by omega
        clear hr1 hr2
        have hj0 : j0 ≤ 20 := by omega
        have HOX := Lib.hid (World.ownsRow.alloc (show wr.drew.ownsRow w.heap.size 44 2 vv j0 (Li.nums (gp zs j0)) from hown) (.cells #[.int .i64 (t + 1), .int .i64 (f - 1)] 44))
        have HLT := Lib.hid (fun k hk => (hown.lt k hk).1)
        have HBX := Lib.hid (hb.drew.alloc hb.size (.cells #[.int .i64 (t + 1), .int .i64 (f - 1)] 44))
        clear hown hb
        go_wp2_with fail
        go_region_law (refine step_append_own rfl (.tmp 15) (.tmp 30) 24 rfl w.heap.size 44 i0 (.agg #[.int .i64 0, .int .i64 0]) 2 16 Try.underlying24 hi hz0 hz1 hz2 rfl (by decide) vv j0 (Li.nums (gp zs j0)) (by simp [Act.eval, Act.put]) HOX.out ⟨wr.heap.size, 0, none⟩ 1 1 [.int .i64 (t + 1), .int .i64 (f - 1)] (by simp [Act.eval, Act.put]) rfl (news2 _ _ _ _) (fun u hu => by simp at hu; rcases hu with rfl | rfl <;> rfl) (by unfold maxLen; omega) (by omega) (by simp; omega) ?_; intro v' w' ho' hg')
        all_goals
          have H2 := Lib.hid (own2_snoc ho' EG.out)
          have HB2 := Lib.hid (HBX.out.grown hg' HBX.out.size (fun j hj => HLT.out j hj))
          clear ho' hg'
          go_wp2
          go_roundw
          case rel => exact ⟨j + 1, j0 + 1, _, rfl, Lib.hid (by rw [HJ.out]), _root_.Or.inl (by omega), by go_num, H2.out, HB2.out⟩
          case measure => simp [intOf]; omega
      · have e : j0 = len - 1 := by have := HJ.out; omega
        subst e
        go_wp2
        go_ret2
        exact ⟨_, rfl, hown, hb⟩
end Gw
end Go.Proofs.Ytdapdiciejlejaa
