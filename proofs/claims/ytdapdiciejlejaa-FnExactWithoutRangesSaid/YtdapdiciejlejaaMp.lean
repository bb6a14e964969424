/- Maps from numbers to true, as sets of numbers: made, stored, asked, struck, ranged over. -/
import Derived.Test.YtdapdiciejlejaaGm3
import Derived.Maps.RangeWalk
namespace Go.Proofs.Ytdapdiciejlejaa
open Go.RowKit Go.Maps
set_option linter.unusedVariables false
set_option linter.unusedSimpArgs false
namespace Mp
open Go.WideElems (Fit rd rg pl rd_val)
open Go.MapKept
/-- an element is true -/
def tE (v : Value) : Option (DataW Unit × List MemPlace) := match v with
  | .bool true => some (.lit (.bool true), [])
  | _ => none
theorem tE_mk : tE (.bool true) = some (.lit (.bool true), []) := rfl
theorem tE_inv {v : Value} {z : DataW Unit × List MemPlace} (h : tE v = some z) : v = .bool true := by
  unfold tE at h
  split at h
  · rfl
  · cases h
theorem law3 : Keyed Try.prog 3 := int_keyed Try.underlying3
theorem zeroB (w : World) : (zeroValue 4).run Try.prog w = .ok (.bool false) w := by kernel_rfl
theorem key3 {p : Int} (h : -9223372036854775808 ≤ p ∧ p ≤ 9223372036854775807) : keyOf Try.prog 3 (.int .i64 p) = some (.int .i64 p) := keyOf_int_mk Try.underlying3 (WalkArith.wf_i64 h)
/-- block b is a map whose keys are just the numbers of m, at most n of them -/
def HasSet (W : World) (b n : Nat) (m : Int → Bool) : Prop := ∃ D, W.ownsMap Try.prog 3 tE b n D ∧ (∀ p : Int, Maps.has D (.int .i64 p) = m p)
theorem HasSet.kept {W W' : World} {row : Option Nat} {b n : Nat} {m : Int → Bool} (h : HasSet W b n m) (hg : W.grownBy W' row) (hne : some b ≠ row) : HasSet W' b n m := by
  obtain ⟨D, h1, h2⟩ := h
  exact ⟨D, h1.kept hg hne, h2⟩
theorem HasSet.on {W W' : World} {b n : Nat} {m : Int → Bool} (h : HasSet W b n m) (hb : Below W.heap.size W W') : HasSet W' b n m := h.kept (Li.grown_of_below hb) (by simp)
theorem HasSet.lt {W : World} {b n : Nat} {m : Int → Bool} (h : HasSet W b n m) : b < W.heap.size := by obtain ⟨D, h1, _⟩ := h; exact h1.lt
theorem HasSet.mono {W : World} {b n n' : Nat} {m : Int → Bool} (h : HasSet W b n m) (hn : n ≤ n') : HasSet W b n' m := by obtain ⟨D, h1, h2⟩ := h; exact ⟨D, h1.mono hn, h2⟩
theorem HasSet.same {W : World} {b n : Nat} {m m' : Int → Bool} (h : HasSet W b n m) (e : ∀ p, m p = m' p) : HasSet W b n m' := by obtain ⟨D, h1, h2⟩ := h; exact ⟨D, h1, fun p => (h2 p).trans (e p)⟩
theorem HasSet.alloc {W : World} {b n : Nat} {m : Int → Bool} (h : HasSet W b n m) (o : Obj) : HasSet (W.alloc o) b n m := h.kept (World.grownBy_alloc W o none) (by simp)
theorem made (w : World) : HasSet (w.alloc (.map #[] 0)) w.heap.size 0 (fun _ => false) := ⟨_, World.ownsMap_made w _ _ _, fun _ => rfl⟩
theorem size_zero {W : World} {b n : Nat} {D : DataW Unit} (h : W.ownsMap Try.prog 3 tE b n D) : (Maps.size D = 0 ↔ ∀ p : Int, Maps.has D (.int .i64 p) = false) := by
  obtain ⟨es, clock, hb, F, hs, rfl⟩ := h
  constructor
  · intro e p
    have : (es.toList.map (rg Try.prog 3 tE)).foldr DataW.insert [] = [] := List.eq_nil_of_length_eq_zero e
    rw [this]
    rfl
  · intro e
    cases hl : es.toList with
    | nil => rfl
    | cons x r =>
      exfalso
      have hx : x ∈ es.toList := by rw [hl]; simp
      obtain ⟨y, hy⟩ := F.reads x hx
      have hk := WideElems.rd_key hy
      obtain ⟨q, _, hq, _⟩ := Maps.keyOf_int_inv Try.underlying3 hk
      have h1 := e q
      rw [Maps.has_eq, List.any_eq_false] at h1
      have := h1 (rg Try.prog 3 tE x) (mem_sorted.2 (List.mem_map.2 ⟨x, hx, rfl⟩))
      rw [WideElems.rg_of hy, hq] at this
      exact this (WideAt.sameKey_self trivial)
theorem same_int (p q : Int) : (Lit.int .i64 p).sameKey (.int .i64 q) = decide (p = q) := by
  by_cases e : p = q
  · subst e; rw [decide_eq_true rfl]; exact WideAt.sameKey_self trivial
  · rw [decide_eq_false e]
    exact Maps.sameKey_ne (fun h => e (by injection h))
section
variable {P : Program} (w : World) {ops : Array Oper} {rest : List Oper} {o : Oper} {a : Act} {Q : Exit → Act → World → Prop}
/-- m[k] -/
theorem look (hg : o.guard = none) (mo x : Operand) (t : TypeId) (hop : o.op = Op.lookup t mo x false) (ht : Try.prog.underlying t = some (.map 3 4)) (b n : Nat) (m : Int → Bool) (p : Int)
    (hm : a.eval mo = .map (some b)) (h : HasSet w b n m) (hx : a.eval x = .int .i64 p) (hp : -9223372036854775808 ≤ p ∧ p ≤ 9223372036854775807) (v : Bool) (hv : m p = v)
    (hK : wpList Try.prog ops Q rest (a.put o.dst (.bool v)) w) : wpList Try.prog ops Q (o :: rest) a w := by
  refine wpList_plain hg fun K' hK' => ?_
  obtain ⟨D, h1, h2⟩ := h
  obtain ⟨es, clock, hb, F, hs, rfl⟩ := h1
  have hrun : (Instr.lookup t (.map (some b)) (.int .i64 p) false).run Try.prog w = .ok (.bool v) w := by
    rcases Maps.fit_look false law3 ht (zeroB w) hb F (key3 hp) with ⟨hrun, _, hat⟩ | ⟨e0, y, _, _, hrun, hRv, hat, _⟩
    · rw [← hv, ← h2 p, Maps.has_false_of_atKey hat]; exact hrun
    · rw [← hv, ← h2 p, Maps.has_true_of_atKey hat]; rw [tE_inv hRv] at hrun; exact hrun
  unfold Oper.wp
  simp [execOp, hop, hm, hx, hrun, Result.andThen]
  exact hK' _ _ hK
/-- m[k] = true -/
theorem store (hg : o.guard = none) (mo x v : Operand) (t : TypeId) (hop : o.op = Op.mapUpdate t mo x v) (ht : Try.prog.underlying t = some (.map 3 4)) (b n : Nat) (m : Int → Bool) (p : Int)
    (hm : a.eval mo = .map (some b)) (h : HasSet w b n m) (hn : n < maxLen) (hx : a.eval x = .int .i64 p) (hv : a.eval v = .bool true) (hp : -9223372036854775808 ≤ p ∧ p ≤ 9223372036854775807)
    (hK : ∀ w', HasSet w' b (n + 1) (fun q => m q || decide (q = p)) → w.grownBy w' (some b) → w'.heap.size = w.heap.size → wpList Try.prog ops Q rest (a.put o.dst undef) w') : wpList Try.prog ops Q (o :: rest) a w := by
  refine wpList_plain hg fun K' hK' => ?_
  obtain ⟨D, h1, h2⟩ := h
  obtain ⟨w', hrun, r1, r2⟩ := h1.store law3 ht hn (key3 hp) tE_mk
  unfold Oper.wp
  simp [execOp, hop, hm, hx, hv, hrun, Result.andThen]
  refine hK' _ _ (hK w' ⟨_, r1, fun q => ?_⟩ r2.grown (by obtain ⟨_, _, _, _, _, rfl⟩ := r2; simp [ChangeMaps.setBlock]))
  show Maps.has _ _ = (m q || decide (q = p))
  by_cases e : q = p
  · subst e
    rw [Maps.has_put_same (k := .int .i64 q) h1.isMap trivial, decide_eq_true (rfl : q = q), Bool.or_true]
  · rw [Maps.has_put_other (fun h => e (by injection h)), h2 q, decide_eq_false e, Bool.or_false]
/-- delete(m, k) -/
theorem strike (hg : o.guard = none) (mo x : Operand) (t : TypeId) (hop : o.op = Op.call { callee := Callee.builtin Builtin.delete, args := #[mo, x], argTypes := #[t, 3] }) (ht : Try.prog.underlying t = some (.map 3 4)) (b n : Nat) (m : Int → Bool) (p : Int)
    (hm : a.eval mo = .map (some b)) (h : HasSet w b n m) (hx : a.eval x = .int .i64 p) (hp : -9223372036854775808 ≤ p ∧ p ≤ 9223372036854775807)
    (hK : ∀ w', HasSet w' b n (fun q => m q && !decide (q = p)) → w.grownBy w' (some b) → w'.heap.size = w.heap.size → wpList Try.prog ops Q rest (a.put o.dst (.tuple #[])) w') : wpList Try.prog ops Q (o :: rest) a w := by
  refine wpList_plain hg fun K' hK' => ?_
  obtain ⟨D, h1, h2⟩ := h
  obtain ⟨w', hrun, r1, r2⟩ := h1.drop law3 ht (key3 hp) o.type
  unfold Oper.wp
  simp [execOp, hop, resolve, invoke, builtin, hm, hx, hrun, Result.andThen]
  refine hK' _ _ (hK w' ⟨_, r1, fun q => ?_⟩ r2.grown (by obtain ⟨_, _, _, _, _, rfl⟩ := r2; simp [ChangeMaps.setBlock]))
  show Maps.has _ _ = (m q && !decide (q = p))
  by_cases e : q = p
  · subst e
    rw [Maps.has_del_same, decide_eq_true (rfl : q = q)]; simp
  · rw [Maps.has_del_other (fun h => e (by injection h)), h2 q, decide_eq_false e]; simp
/-- len(m) == 0 -/
theorem length {W : World} {b n : Nat} {m : Int → Bool} (h : HasSet W b n m) {t : TypeId} (ht : Try.prog.underlying t = some (.map 3 4)) : ∃ s : Nat, (∀ ty, (Builtin.len_ #[t] ty #[.map (some b)]).run Try.prog W = .ok (.int .i64 s) W) ∧ s ≤ n ∧ (s = 0 ↔ ∀ p, m p = false) := by
  obtain ⟨D, h1, h2⟩ := h
  refine ⟨Maps.size D, fun ty => h1.len ht ty, h1.size_le, (size_zero h1).trans ⟨fun h p => (h2 p).symm.trans (h p), fun h p => (h2 p).trans (h p)⟩⟩
/-- a map under a range: what it has, and what is still to come -/
def Rg (W : World) (b r n : Nat) (m left : Int → Bool) (cnt : Nat) : Prop := ∃ D lf, W.ranges Try.prog 3 tE b r n D lf cnt ∧ (∀ p : Int, Maps.has D (.int .i64 p) = m p) ∧ ∀ p : Int, lf (.int .i64 p) = left p
theorem Rg.kept {W W' : World} {row : Option Nat} {b r n : Nat} {m left : Int → Bool} {cnt : Nat} (h : Rg W b r n m left cnt) (hg : W.grownBy W' row) (hb : some b ≠ row) (hr : some r ≠ row) : Rg W' b r n m left cnt := by
  obtain ⟨D, lf, h1, h2, h3⟩ := h
  exact ⟨D, lf, h1.kept hg hb hr, h2, h3⟩
theorem Rg.on {W W' : World} {b r n : Nat} {m left : Int → Bool} {cnt : Nat} (h : Rg W b r n m left cnt) (hg : Below W.heap.size W W') : Rg W' b r n m left cnt := h.kept (Li.grown_of_below hg) (by simp) (by simp)
theorem Rg.set {W : World} {b r n : Nat} {m left : Int → Bool} {cnt : Nat} (h : Rg W b r n m left cnt) : HasSet W b n m := by
  obtain ⟨D, lf, h1, h2, h3⟩ := h
  exact ⟨D, h1.owns, h2⟩
theorem Rg.left_eq {W : World} {b r n : Nat} {m left : Int → Bool} {cnt : Nat} (h : Rg W b r n m left cnt) : W.rangeLeft b r = cnt := by
  obtain ⟨D, lf, h1, h2, h3⟩ := h
  exact h1.left_eq
theorem Rg.lt {W : World} {b r n : Nat} {m left : Int → Bool} {cnt : Nat} (h : Rg W b r n m left cnt) : r < W.heap.size := by
  obtain ⟨D, lf, h1, h2, h3⟩ := h
  exact h1.lt
theorem Rg.same {W : World} {b r n : Nat} {m m' left left' : Int → Bool} {cnt : Nat} (h : Rg W b r n m left cnt) (e : ∀ p, m p = m' p) (e' : ∀ p, left p = left' p) : Rg W b r n m' left' cnt := by
  obtain ⟨D, lf, h1, h2, h3⟩ := h
  exact ⟨D, lf, h1, fun p => (h2 p).trans (e p), fun p => (h3 p).trans (e' p)⟩
/-- range m -/
theorem range (hg : o.guard = none) (mo : Operand) (t : TypeId) (hop : o.op = Op.range t mo) (ht : Try.prog.underlying t = some (.map 3 4)) (b n : Nat) (m : Int → Bool)
    (hm : a.eval mo = .map (some b)) (h : HasSet w b n m)
    (hK : ∀ w' cnt, Rg w' b w.heap.size n m m cnt → cnt ≤ n → w.grownBy w' none → w'.heap.size = w.heap.size + 1 → wpList Try.prog ops Q rest (a.put o.dst (.pointer (some ⟨w.heap.size, 0, none⟩))) w') :
    wpList Try.prog ops Q (o :: rest) a w := by
  obtain ⟨D, h1, h2⟩ := h
  exact wpList_range_own w hg mo t hop 3 4 law3 ht tE b n D hm h1 (fun w' hr hg' hs => hK w' _ ⟨D, _, hr, h2, h2⟩ h1.size_le hg' hs)
/-- the next one -/
theorem next (hg : o.guard = none) (it : Operand) (hop : o.op = Op.next it false) (b r n : Nat) (m left : Int → Bool) (cnt : Nat)
    (hit : a.eval it = .pointer (some ⟨r, 0, none⟩)) (h : Rg w b r n m left cnt)
    (hDone : cnt = 0 → (∀ p, left p = false) → wpList Try.prog ops Q rest (a.put o.dst (.tuple #[.bool false])) w)
    (hMore : ∀ (x : Int) (w' : World) (cnt' : Nat), (-9223372036854775808 ≤ x ∧ x ≤ 9223372036854775807) → left x = true → m x = true → Rg w' b r n m (fun p => left p && !decide (p = x)) cnt' → cnt' < cnt →
      w.grownBy w' (some r) → w'.heap.size = w.heap.size → (Instr.entry (.pointer (some ⟨r, 0, none⟩))).run Try.prog w' = .ok (.tuple #[.int .i64 x, .bool true]) w' → wpList Try.prog ops Q rest (a.put o.dst (.tuple #[.bool true, .int .i64 x, .bool true])) w') :
    wpList Try.prog ops Q (o :: rest) a w := by
  obtain ⟨D, lf, h1, h2, h3⟩ := h
  refine wpList_next_ranges w hg it hop 3 law3 tE (Value.int .i64) (fun _ : Unit => Value.bool true) (fun key kl hkey => by obtain ⟨x, rfl, _⟩ := Maps.keyOf_int_inv Try.underlying3 hkey; exact ⟨x, rfl⟩) (fun v y hv => ⟨(), tE_inv hv⟩) b r n D lf cnt hit h1
    (fun h0 hl => hDone h0 (fun p => by rw [← h3 p]; exact hl _)) ?_
  intro x c kl y w' cnt' hkey hlk hv hat hrg hlt hgr hsz hen
  obtain ⟨x', ex, rfl, hwx⟩ := Maps.keyOf_int_inv Try.underlying3 hkey
  cases ex
  refine hMore x w' cnt' ?_ (by rw [← h3 x]; exact hlk) (by rw [← h2 x]; exact Maps.has_true_of_atKey hat) ⟨D, _, hrg, h2, fun p => ?_⟩ hlt hgr hsz hen
  · have e1 : IntKind.i64.min = -9223372036854775808 := by decide
    have e2 : IntKind.i64.max = 9223372036854775807 := by decide
    simp only [Lit.wf, Bool.and_eq_true, decide_eq_true_eq] at hwx
    rw [← e1, ← e2]
    exact hwx
  · show (lf (.int .i64 p) && !(Lit.int .i64 p).sameKey (.int .i64 x)) = _
    rw [h3 p, same_int]
/-- delete(m, k) in the round of k -/
theorem strikeR (hg : o.guard = none) (mo x : Operand) (t : TypeId) (hop : o.op = Op.call { callee := Callee.builtin Builtin.delete, args := #[mo, x], argTypes := #[t, 3] }) (ht : Try.prog.underlying t = some (.map 3 4)) (b r n : Nat) (m left : Int → Bool) (cnt : Nat) (p : Int)
    (hm : a.eval mo = .map (some b)) (h : Rg w b r n m left cnt) (hx : a.eval x = .int .i64 p) (hp : -9223372036854775808 ≤ p ∧ p ≤ 9223372036854775807)
    (hK : ∀ w' cnt', Rg w' b r n (fun q => m q && !decide (q = p)) (fun q => left q && !decide (q = p)) cnt' → cnt' ≤ cnt → w.grownBy w' (some b) → w'.heap.size = w.heap.size → wpList Try.prog ops Q rest (a.put o.dst (.tuple #[])) w') : wpList Try.prog ops Q (o :: rest) a w := by
  obtain ⟨D, lf, h1, h2, h3⟩ := h
  refine wpList_delete_ranges w hg mo x t 3 hop 4 law3 ht tE b r n D lf cnt hm h1 _ _ hx (key3 hp) (fun w' cnt' hr hle ht' => hK w' cnt' ⟨_, _, hr, fun q => ?_, fun q => ?_⟩ hle ht'.grown (by obtain ⟨_, _, _, _, _, rfl⟩ := ht'; simp [ChangeMaps.setBlock]))
  · show Maps.has _ _ = (m q && !decide (q = p))
    by_cases e : q = p
    · subst e
      rw [Maps.has_del_same, decide_eq_true (rfl : q = q)]; simp
    · rw [Maps.has_del_other (fun h => e (by injection h)), h2 q, decide_eq_false e]; simp
  · show (lf (.int .i64 q) && !(Lit.int .i64 q).sameKey (.int .i64 p)) = _
    rw [h3 q, same_int]
end
end Mp
end Go.Proofs.Ytdapdiciejlejaa
