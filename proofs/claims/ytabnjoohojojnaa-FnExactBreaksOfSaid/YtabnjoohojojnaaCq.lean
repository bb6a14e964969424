/- Breaks of a binding, by the program: what follows a leaf. -/
import Derived.Test.YtabnjoohojojnaaCd
import Derived.Test.YtabnjoohojojnaaBf
import Derived.Deep.RegionLaw
import Derived.Deep.Upon
import Derived.IntWalk
namespace Go.Proofs.Ytabnjoohojojnaa
open Go.RowKit Go.Joins Go.Deep Go.ChangeShapes Go.WideShapes
set_option linter.unusedVariables false
set_option linter.unusedSimpArgs false
namespace Ln
theorem step_append_upon {P : Program} {ops : Array Oper} {o : Oper} {a : Act} {w : World} {K : Act → World → Prop} {Q : Exit → Act → World → Prop} {E : Prop}
    (hg : o.guard = none) (s x : Operand) (t tx : TypeId) (ho : o.op = .call { callee := .builtin .append, args := #[s, x], argTypes := #[t, tx] })
    {W : World} {e : TypeId} {size : Nat} {ao : Option Addr} {b off len cap : Nat} {olds : List Value} (hc : Came W size ao b off len cap olds)
    (i : TypeInfo) (z : Value) (bytes : Nat) (ht : P.underlying t = some (.slice e)) (hi : P.info? e = some i) (hz : i.zero = some z) (hsize : i.size = size) (hby : i.bytes = bytes) (hzs : z.cells.size = size)
    {v : Value} {m : Nat} {ks : List Value} {r : Nat} (hv : a.eval s = v) (h : Upon W e size ao b off len cap olds w v m ks r)
    (xv : Value) (n : Nat) (news : List Value) (hx : a.eval x = xv) (hs : Src P size tx xv n news w) (h63 : len + m + n ≤ maxLen) (hbytes : (len + m + n) * bytes ≤ 140737488355328)
    (hK : ∀ v' w', Upon W e size ao b off len cap olds w' v' (m + n) (ks ++ news) (Upon.next len cap size m r n) → K (a.put o.dst v') w') :
    if Region.wanted o (yielded ops a.tmps) = true then Oper.wp P o a w K Q else E := by
  have hw : Region.wanted o (yielded ops a.tmps) = true := by simp [Region.wanted, hg]
  rw [if_pos hw]
  obtain ⟨v', w', hrun, r'⟩ := run_append_upon (P := P) hc t tx o.type i z bytes ht hi hz hsize hby hzs h xv n news hs h63 hbytes
  unfold Oper.wp
  simp [execOp, ho, resolve, invoke, builtin, hv, hx, hrun, Result.andThen]
  exact hK v' w' r'
/-- the cells of the first k leaves -/
def lfs (ys : List Int) : Nat → List Value
  | 0 => []
  | k + 1 => lfs ys k ++ [.int .i64 (ab (ys.getD k 0)), .bool (decide (ys.getD k 0 < 0))]
theorem lfs_len (ys : List Int) : ∀ k, (lfs ys k).length = k * 2
  | 0 => rfl
  | k + 1 => by show (lfs ys k ++ _).length = _; rw [List.length_append, lfs_len ys k]; simp; omega
theorem lfs_at (ys : List Int) : ∀ n k, k < n → (lfs ys n)[k * 2]? = some (.int .i64 (ab (ys.getD k 0))) ∧ (lfs ys n)[k * 2 + 1]? = some (.bool (decide (ys.getD k 0 < 0))) := by
  intro n
  induction n with
  | zero => intro k hk; omega
  | succ n ih =>
    intro k hk
    have hl := lfs_len ys n
    show (lfs ys n ++ _)[k * 2]? = _ ∧ (lfs ys n ++ _)[k * 2 + 1]? = _
    by_cases e : k = n
    · subst e
      rw [List.getElem?_append_right (by omega), List.getElem?_append_right (by omega), hl, Nat.sub_self, show k * 2 + 1 - k * 2 = 1 by omega]
      exact ⟨rfl, rfl⟩
    · rw [List.getElem?_append_left (by omega), List.getElem?_append_left (by omega)]
      exact ih k (by omega)
theorem lfs_same {ys zs : List Int} : ∀ n, (∀ k, k < n → ys.getD k 0 = zs.getD k 0) → lfs ys n = lfs zs n
  | 0, _ => rfl
  | n + 1, h => by show lfs ys n ++ _ = lfs zs n ++ _; rw [lfs_same n fun k hk => h k (by omega), h n (by omega)]
/-- a book's leaves, as a list that came in -/
theorem book_came {W : World} {b n : Nat} {zs : List Int} {T : TypeId} (h : Arr W b T (bkA n zs)) (hn : n ≤ 8) : Came W 2 (some ⟨b, 0, none⟩) b 0 n 8 (lfs zs n) := by
  have hat : ∀ m, m ≤ n → ∀ j u, (lfs zs m)[j]? = some u → W.cell? ⟨b, 0 + j, none⟩ = some u := by
    intro m
    induction m with
    | zero => intro _ j u hu; simp [lfs] at hu
    | succ m ih =>
      intro hm j u hu
      have hl := lfs_len zs m
      rcases Nat.lt_or_ge j (m * 2) with c | c
      · refine ih (by omega) j u ?_
        have hu' : (lfs zs m ++ _)[j]? = some u := hu
        rwa [List.getElem?_append_left (by omega)] at hu'
      · have hu' : (lfs zs m ++ [.int .i64 (ab (zs.getD m 0)), .bool (decide (zs.getD m 0 < 0))])[j]? = some u := hu
        rw [List.getElem?_append_right (by omega), hl] at hu'
        obtain ⟨q0, q1⟩ := lf_cells h (k := m) (by omega)
        have hj : j = m * 2 ∨ j = m * 2 + 1 := by
          rcases Nat.lt_or_ge (j - m * 2) 2 with c2 | c2
          · omega
          · rw [List.getElem?_eq_none (by simp; omega)] at hu'
            cases hu'
        rw [Nat.zero_add]
        rcases hj with rfl | rfl
        · rw [Nat.sub_self] at hu'
          have : u = .int .i64 (ab (zs.getD m 0)) := by simpa using hu'.symm
          rw [this]; exact q0
        · rw [show m * 2 + 1 - m * 2 = 1 by omega] at hu'
          have : u = .bool (decide (zs.getD m 0 < 0)) := by simpa using hu'.symm
          rw [this]; exact q1
  refine ⟨hn, fun _ => rfl, fun _ => h.lt, lfs_len zs n, hat n (Nat.le_refl _), fun j hj => ?_⟩
  refine ⟨?_, h.frozen _⟩
  have hb : 0 + n * 2 + j < 17 := by omega
  have hs : (bkA n zs).size = 17 := rfl
  rw [h.cell (j := 0 + n * 2 + j) (v := (bkA n zs)[0 + n * 2 + j]'(by omega)) (by rw [Array.getElem?_eq_getElem])]
  rfl
/-- what follows a leaf: its number, and whether it is turned -/
def fwN (y : Int) : Int := if y < 0 then ab y - 1 else ab y + 1
set_option maxRecDepth 100000 in
set_option maxHeartbeats 1000000 in
theorem follow_any (y : Int) (h1 : -9 ≤ y) (h2 : y ≤ 9) (w : World) :
    Calls Try.prog 76 #[.agg #[.int .i64 (ab y), .bool (decide (y < 0))]] w (Ret (.agg #[.int .i64 (fwN y), .bool (decide (y < 0))]) w) := by
  by_cases c : y < 0
  · rw [show fwN y = -y - 1 by unfold fwN; rw [if_pos c, ab_neg c], ab_neg c, show decide (y < 0) = true by simpa using c]
    go_enter Try.func76, Try.ntmps76
    go_wp2
    exact bodyPost_ret (v := .agg #[.int .i64 (-y - 1), .bool true]) (by simp [results, Try.results76, go_sem]) rfl ⟨rfl, (below_alloc1 _ _).alloc (by simp) _⟩
  · rw [show fwN y = y + 1 by unfold fwN; rw [if_neg c, ab_pos c], ab_pos c, show decide (y < 0) = false by simpa using c]
    go_enter Try.func76, Try.ntmps76
    go_wp2
    exact bodyPost_ret (v := .agg #[.int .i64 (y + 1), .bool false]) (by simp [results, Try.results76, go_sem]) rfl ⟨rfl, (below_alloc1 _ _).alloc (by simp) _⟩
theorem brk_same {z y : Int} (hz : z ≠ 0) : ((ab z == fwN y) && (decide (z < 0) == decide (y < 0))) = decide (z = y + 1) := by
  unfold ab fwN
  rw [Bool.eq_iff_iff]
  simp only [Bool.and_eq_true, beq_iff_eq, decide_eq_true_eq, decide_eq_decide]
  unfold ab
  split <;> split <;> (try split) <;> omega
end Ln
end Go.Proofs.Ytabnjoohojojnaa
